import Derived.Test.YtbngedfpojnbjabNil
/-! One step of both writers. -/
namespace Go.Proofs.Ytbngedfpojnbjab
open Go.RowKit Plain
set_option linter.unusedVariables false

/-- Two writers that have written the same, and share nothing. -/
structure Two (w : World) (b1 b2 : Nat) (d : List Nat) (r1 r2 : Option Nat) : Prop where
  a : WAt w b1 d r1
  b : WAt w b2 d r2
  ne : b1 ≠ b2
  n1 : r1 ≠ some b2
  n2 : r2 ≠ some b1
  n3 : ∀ g, r1 = some g → r2 ≠ some g

structure KeptS (w w' : World) (S : Nat → Prop) : Prop where
  os : w'.os = w.os
  tape : w'.tape = w.tape
  output : w'.output = w.output
  size : w.heap.size ≤ w'.heap.size
  block : ∀ k, k < w.heap.size → ¬ S k → w'.heap[k]? = w.heap[k]?

def foot (b1 b2 : Nat) (r1 r2 : Option Nat) (k : Nat) : Prop := k = b1 ∨ k = b2 ∨ some k = r1 ∨ some k = r2

def isNew (w : World) (r' r : Option Nat) : Prop := r' = r ∨ ∃ g, r' = some g ∧ w.heap.size ≤ g

def TwoPost (w w' : World) (b1 b2 : Nat) (d : List Nat) (r1 r2 : Option Nat) : Prop :=
  ∃ r1' r2', Two w' b1 b2 d r1' r2' ∧ KeptS w w' (foot b1 b2 r1 r2) ∧ isNew w r1' r1 ∧ isNew w r2' r2

theorem WAt.row_lt {w : World} {b : Nat} {d : List Nat} {g : Nat} (h : WAt w b d (some g)) : g < w.heap.size := by
  obtain ⟨dv, _, _, a3, _⟩ := h
  exact a3.lt

theorem Two.other {w w1 : World} {b1 b2 : Nat} {d e : List Nat} {r1 r2 : Option Nat} (h : Two w b1 b2 d r1 r2) (p : WPost w w1 b1 e r1) : WAt w1 b2 d r2 := by
  obtain ⟨r', _, k, _⟩ := p
  refine h.b.kept k.size (k.block b2 h.b.lt (Ne.symm h.ne) (Ne.symm h.n1)) (fun g hg => ?_)
  subst hg
  exact k.block g h.b.row_lt (fun e => h.n2 (by rw [e])) (fun e => h.n3 g e.symm rfl)

theorem two_close {w w1 w2 : World} {b1 b2 : Nat} {d e : List Nat} {r1 r2 : Option Nat} (h : Two w b1 b2 d r1 r2) (p : WPost w w1 b1 e r1) (q : WPost w1 w2 b2 e r2) : TwoPost w w2 b1 b2 e r1 r2 := by
  have hb := h.other p
  obtain ⟨r1', p1, p2, p3⟩ := p
  obtain ⟨r2', q1, q2, q3⟩ := q
  have hn1 : r1' ≠ some b2 := by
    rcases p3 with rfl | ⟨g, rfl, hg⟩
    · exact h.n1
    · have := h.b.lt
      simp; omega
  have hr12 : ∀ g, r1' = some g → r2 ≠ some g := by
    rcases p3 with rfl | ⟨g, rfl, hg⟩
    · exact h.n3
    · intro g' e e2
      simp at e; subst e; subst e2
      have := h.b.row_lt
      omega
  refine ⟨r1', r2', ⟨?_, q1, h.ne, hn1, ?_, ?_⟩, ⟨q2.os.trans p2.os, q2.tape.trans p2.tape, q2.output.trans p2.output, Nat.le_trans p2.size q2.size, fun k hk hS => ?_⟩, p3, ?_⟩
  · refine p1.kept q2.size (q2.block b1 p1.lt h.ne (Ne.symm h.n2)) (fun g hg => ?_)
    subst hg
    exact q2.block g p1.row_lt (fun e => hn1 (by rw [e])) (fun e => hr12 g rfl e.symm)
  · rcases q3 with rfl | ⟨g, rfl, hg⟩
    · exact h.n2
    · have := p1.lt
      simp; omega
  · rcases q3 with rfl | ⟨g, rfl, hg⟩
    · exact hr12
    · intro g' e e2
      simp at e2; subst e2; subst e
      have := p1.row_lt
      omega
  · simp only [foot, not_or] at hS
    rw [q2.block k (Nat.lt_of_lt_of_le hk p2.size) hS.2.1 hS.2.2.2]
    exact p2.block k hk hS.1 hS.2.2.1
  · rcases q3 with rfl | ⟨g, rfl, hg⟩
    · exact .inl rfl
    · exact .inr ⟨g, rfl, Nat.le_trans p2.size hg⟩

theorem Two.later {w w1 : World} {b1 b2 : Nat} {d : List Nat} {r1 r2 : Option Nat} (h : Two w b1 b2 d r1 r2) (k : Below w.heap.size w w1) : Two w1 b1 b2 d r1 r2 := ⟨h.a.later k, h.b.later k, h.ne, h.n1, h.n2, h.n3⟩

theorem isNew.on {w w1 : World} {r' r : Option Nat} (hs : w.heap.size ≤ w1.heap.size) (h : isNew w1 r' r) : isNew w r' r := by
  rcases h with rfl | ⟨g, rfl, hg⟩
  · exact .inl rfl
  · exact .inr ⟨g, rfl, Nat.le_trans hs hg⟩

theorem TwoPost.after_below {w w1 w2 : World} {b1 b2 : Nat} {d : List Nat} {r1 r2 : Option Nat} (hb : Below w.heap.size w w1) (q : TwoPost w1 w2 b1 b2 d r1 r2) : TwoPost w w2 b1 b2 d r1 r2 := by
  obtain ⟨r1', r2', q1, q2, q3, q4⟩ := q
  exact ⟨r1', r2', q1, ⟨q2.os.trans hb.os, q2.tape.trans hb.tape, q2.output.trans hb.output, Nat.le_trans hb.size q2.size, fun k hk hS => by
    rw [q2.block k (Nat.lt_of_lt_of_le hk hb.size) hS]; exact hb.block k hk⟩, q3.on hb.size, q4.on hb.size⟩

theorem TwoPost.of_below {w w1 : World} {b1 b2 : Nat} {d : List Nat} {r1 r2 : Option Nat} (h : Two w b1 b2 d r1 r2) (hb : Below w.heap.size w w1) : TwoPost w w1 b1 b2 d r1 r2 :=
  ⟨r1, r2, h.later hb, ⟨hb.os, hb.tape, hb.output, hb.size, fun k hk _ => hb.block k hk⟩, .inl rfl, .inl rfl⟩

/-- What is done to a row g that is none of theirs. -/
theorem TwoPost.then_grow {w w2 w3 : World} {b1 b2 : Nat} {d : List Nat} {r1 r2 : Option Nat} {r : Option Nat} (h : TwoPost w w2 b1 b2 d r1 r2) (k : w2.grownBy w3 r) (hw : ∀ g, r = some g → w.heap.size ≤ g) (hb1 : b1 < w.heap.size) (hb2 : b2 < w.heap.size)
    (h1 : ∀ r1' r2', Two w2 b1 b2 d r1' r2' → isNew w r1' r1 → isNew w r2' r2 → r ≠ none → r1' ≠ r ∧ r2' ≠ r) : TwoPost w w3 b1 b2 d r1 r2 := by
  obtain ⟨r1', r2', q1, q2, q3, q4⟩ := h
  cases r with
  | none =>
    have hb : Below w2.heap.size w2 w3 := grow_below k (Nat.le_refl _) (by simp)
    exact ⟨r1', r2', q1.later hb, ⟨k.os.trans q2.os, k.tape.trans q2.tape, k.output.trans q2.output, Nat.le_trans q2.size k.size, fun i hi hS => by
      rw [hb.block i (Nat.lt_of_lt_of_le hi q2.size)]; exact q2.block i hi hS⟩, q3, q4⟩
  | some g =>
    have hg := hw g rfl
    obtain ⟨e1, e2⟩ := h1 r1' r2' q1 q3 q4 (by simp)
    refine ⟨r1', r2', ⟨?_, ?_, q1.ne, q1.n1, q1.n2, q1.n3⟩, ⟨k.os.trans q2.os, k.tape.trans q2.tape, k.output.trans q2.output, Nat.le_trans q2.size k.size, fun i hi hS => ?_⟩, q3, q4⟩
    · refine q1.a.kept k.size (k.block b1 q1.a.lt (by simp; omega)) (fun g' hg' => ?_)
      subst hg'
      exact k.block g' q1.a.row_lt e1
    · refine q1.b.kept k.size (k.block b2 q1.b.lt (by simp; omega)) (fun g' hg' => ?_)
      subst hg'
      exact k.block g' q1.b.row_lt e2
    · rw [k.block i (Nat.lt_of_lt_of_le hi q2.size) (by simp; omega)]; exact q2.block i hi hS

/-- What a step writes. -/
def stepBytes (k : Int) (n : Nat) (s : ByteArray) : List Nat :=
  if k = 0 then [n % 256] else if k = 1 then uv n else if k = 2 then uv (zz (wrap64 n)).toNat else if k = 3 then be 4 (n % 4294967296) else if k = 4 then be 8 n
  else if k = 5 then uv s.size ++ bytesOf s else if k = 10 then bytesOf s else []

theorem wrap64_range (x : Int) : -9223372036854775808 ≤ wrap64 x ∧ wrap64 x ≤ 9223372036854775807 := by
  have := bounds_i64 (wrap64_wf x)
  omega

theorem box_kept {w w1 : World} {b : Nat} {d : List Nat} {r : Option Nat} {C : Array Value} {t : TypeId} (hp : WPost (w.alloc (.cells C t)) w1 b d r) (hb : b < w.heap.size) (hr : ∀ g, r = some g → g < w.heap.size) (j : Nat) : w1.cell? ⟨w.heap.size, j, none⟩ = C[j]? := by
  obtain ⟨r', _, kk, _⟩ := hp
  have hbl := kk.block w.heap.size (by simp) (by omega) (fun e => by have := hr _ e.symm; omega)
  rw [World.cell?_of_block (w := w.alloc (.cells C t)) (a := ⟨w.heap.size, j, none⟩) hbl, World.cell?_alloc_at _ _ _ _ rfl]

set_option maxRecDepth 1000000 in
theorem writes0 (b1 b2 : Nat) (d : List Nat) (r1 r2 : Option Nat) (n : Nat) (s : ByteArray) (w : World) (c : Nat) (h : Two w b1 b2 d r1 r2) (hn : n < 18446744073709551616) (hl : d.length + s.size + 10 ≤ 140737488351232) (hc : n % 256 = c) :
    Calls Try.prog 24 #[.pointer (some ⟨b1, 0, none⟩), .pointer (some ⟨b2, 0, none⟩), .agg #[.int .i64 0, .int .u64 n, .string s]] w fun e w' => e = .returned (.bool true) ∧ TwoPost w w' b1 b2 (d ++ [c]) r1 r2 := by
  have HT : Hid (Two w b1 b2 d r1 r2) := h
  have HB : Hid (Below w.heap.size w (w.alloc (.cells #[.int .i64 0, .int .u64 n, .string s] 51))) := (Below.refl _ _).alloc (Nat.le_refl _) _
  have hcast : (n : Int) % 256 = (c : Int) := by omega
  have hcl : c < 256 := by omega
  clear h hc
  go_enter Try.func24, Try.ntmps24
  go_wp2_with fail
  refine (wByte b1 d r1 c _ (HT.out.later HB.out).a (by omega) (by omega)).mono ?_
  rintro e w1 ⟨rfl, hp1⟩
  have HP1 : Hid (WPost (w.alloc (.cells #[.int .i64 0, .int .u64 n, .string s] 51)) w1 b1 (d ++ [c]) r1) := hp1
  have hx1 : w1.cell? ⟨w.heap.size, 1, none⟩ = some (.int .u64 n) := box_kept hp1 HT.out.a.lt (fun g hg => by subst hg; exact HT.out.a.row_lt) 1
  clear hp1
  go_wp2_with fail
  refine (vByte b2 d r2 c _ ((HT.out.later HB.out).other HP1.out) (by omega) (by omega)).mono ?_
  rintro e w2 ⟨rfl, hp2⟩
  have HP : Hid (TwoPost w w2 b1 b2 (d ++ [c]) r1 r2) := TwoPost.after_below HB.out (two_close (HT.out.later HB.out) HP1.out hp2)
  clear hp2 hx1
  go_wp2
  go_ret
  exact ⟨rfl, HP.out⟩

set_option maxRecDepth 1000000 in
theorem writes1 (b1 b2 : Nat) (d : List Nat) (r1 r2 : Option Nat) (n : Nat) (s : ByteArray) (w : World) (h : Two w b1 b2 d r1 r2) (hn : n < 18446744073709551616) (hl : d.length + s.size + 10 ≤ 140737488351232) :
    Calls Try.prog 24 #[.pointer (some ⟨b1, 0, none⟩), .pointer (some ⟨b2, 0, none⟩), .agg #[.int .i64 1, .int .u64 n, .string s]] w fun e w' => e = .returned (.bool true) ∧ TwoPost w w' b1 b2 (d ++ uv n) r1 r2 := by
  have HT : Hid (Two w b1 b2 d r1 r2) := h
  have HB : Hid (Below w.heap.size w (w.alloc (.cells #[.int .i64 1, .int .u64 n, .string s] 51))) := (Below.refl _ _).alloc (Nat.le_refl _) _
  clear h
  go_enter Try.func24, Try.ntmps24
  go_wp2_with fail
  refine (wUvarint b1 d r1 n _ (HT.out.later HB.out).a hn (by omega)).mono ?_
  rintro e w1 ⟨rfl, hp1⟩
  have HP1 : Hid (WPost (w.alloc (.cells #[.int .i64 1, .int .u64 n, .string s] 51)) w1 b1 (d ++ uv n) r1) := hp1
  have hx1 : w1.cell? ⟨w.heap.size, 1, none⟩ = some (.int .u64 n) := box_kept hp1 HT.out.a.lt (fun g hg => by subst hg; exact HT.out.a.row_lt) 1
  clear hp1
  go_wp2_with fail
  refine (vUvarint b2 d r2 n _ ((HT.out.later HB.out).other HP1.out) hn (by omega)).mono ?_
  rintro e w2 ⟨rfl, hp2⟩
  have HP : Hid (TwoPost w w2 b1 b2 (d ++ uv n) r1 r2) := TwoPost.after_below HB.out (two_close (HT.out.later HB.out) HP1.out hp2)
  clear hp2 hx1
  go_wp2
  go_ret
  exact ⟨rfl, HP.out⟩

set_option maxRecDepth 1000000 in
theorem writes2 (b1 b2 : Nat) (d : List Nat) (r1 r2 : Option Nat) (n : Nat) (s : ByteArray) (w : World) (h : Two w b1 b2 d r1 r2) (hn : n < 18446744073709551616) (hl : d.length + s.size + 10 ≤ 140737488351232) :
    Calls Try.prog 24 #[.pointer (some ⟨b1, 0, none⟩), .pointer (some ⟨b2, 0, none⟩), .agg #[.int .i64 2, .int .u64 n, .string s]] w fun e w' => e = .returned (.bool true) ∧ TwoPost w w' b1 b2 (d ++ uv (zz (wrap64 n)).toNat) r1 r2 := by
  have HT : Hid (Two w b1 b2 d r1 r2) := h
  have HB : Hid (Below w.heap.size w (w.alloc (.cells #[.int .i64 2, .int .u64 n, .string s] 51))) := (Below.refl _ _).alloc (Nat.le_refl _) _
  clear h
  go_enter Try.func24, Try.ntmps24
  go_wp2_with fail
  refine (wVarint b1 d r1 (wrap64 n) _ (HT.out.later HB.out).a (wrap64_range n).1 (wrap64_range n).2 (by omega)).mono ?_
  rintro e w1 ⟨rfl, hp1⟩
  have HP1 : Hid (WPost (w.alloc (.cells #[.int .i64 2, .int .u64 n, .string s] 51)) w1 b1 (d ++ uv (zz (wrap64 n)).toNat) r1) := hp1
  have hx1 : w1.cell? ⟨w.heap.size, 1, none⟩ = some (.int .u64 n) := box_kept hp1 HT.out.a.lt (fun g hg => by subst hg; exact HT.out.a.row_lt) 1
  clear hp1
  go_wp2_with fail
  refine (vVarint b2 d r2 (wrap64 n) _ ((HT.out.later HB.out).other HP1.out) (wrap64_range n).1 (wrap64_range n).2 (by omega)).mono ?_
  rintro e w2 ⟨rfl, hp2⟩
  have HP : Hid (TwoPost w w2 b1 b2 (d ++ uv (zz (wrap64 n)).toNat) r1 r2) := TwoPost.after_below HB.out (two_close (HT.out.later HB.out) HP1.out hp2)
  clear hp2 hx1
  go_wp2
  go_ret
  exact ⟨rfl, HP.out⟩

set_option maxRecDepth 1000000 in
theorem writes3 (b1 b2 : Nat) (d : List Nat) (r1 r2 : Option Nat) (n : Nat) (s : ByteArray) (w : World) (c : Nat) (h : Two w b1 b2 d r1 r2) (hn : n < 18446744073709551616) (hl : d.length + s.size + 10 ≤ 140737488351232) (hc : n % 4294967296 = c) :
    Calls Try.prog 24 #[.pointer (some ⟨b1, 0, none⟩), .pointer (some ⟨b2, 0, none⟩), .agg #[.int .i64 3, .int .u64 n, .string s]] w fun e w' => e = .returned (.bool true) ∧ TwoPost w w' b1 b2 (d ++ be 4 c) r1 r2 := by
  have HT : Hid (Two w b1 b2 d r1 r2) := h
  have HB : Hid (Below w.heap.size w (w.alloc (.cells #[.int .i64 3, .int .u64 n, .string s] 51))) := (Below.refl _ _).alloc (Nat.le_refl _) _
  have hcast : (n : Int) % 4294967296 = (c : Int) := by omega
  have hcl : c < 4294967296 := by omega
  clear h hc
  go_enter Try.func24, Try.ntmps24
  go_wp2_with fail
  refine (wU32 b1 d r1 c _ (HT.out.later HB.out).a (by omega) (by omega)).mono ?_
  rintro e w1 ⟨rfl, hp1⟩
  have HP1 : Hid (WPost (w.alloc (.cells #[.int .i64 3, .int .u64 n, .string s] 51)) w1 b1 (d ++ be 4 c) r1) := hp1
  have hx1 : w1.cell? ⟨w.heap.size, 1, none⟩ = some (.int .u64 n) := box_kept hp1 HT.out.a.lt (fun g hg => by subst hg; exact HT.out.a.row_lt) 1
  clear hp1
  go_wp2_with fail
  refine (vU32 b2 d r2 c _ ((HT.out.later HB.out).other HP1.out) (by omega) (by omega)).mono ?_
  rintro e w2 ⟨rfl, hp2⟩
  have HP : Hid (TwoPost w w2 b1 b2 (d ++ be 4 c) r1 r2) := TwoPost.after_below HB.out (two_close (HT.out.later HB.out) HP1.out hp2)
  clear hp2 hx1
  go_wp2
  go_ret
  exact ⟨rfl, HP.out⟩

set_option maxRecDepth 1000000 in
theorem writes4 (b1 b2 : Nat) (d : List Nat) (r1 r2 : Option Nat) (n : Nat) (s : ByteArray) (w : World) (h : Two w b1 b2 d r1 r2) (hn : n < 18446744073709551616) (hl : d.length + s.size + 10 ≤ 140737488351232) :
    Calls Try.prog 24 #[.pointer (some ⟨b1, 0, none⟩), .pointer (some ⟨b2, 0, none⟩), .agg #[.int .i64 4, .int .u64 n, .string s]] w fun e w' => e = .returned (.bool true) ∧ TwoPost w w' b1 b2 (d ++ be 8 n) r1 r2 := by
  have HT : Hid (Two w b1 b2 d r1 r2) := h
  have HB : Hid (Below w.heap.size w (w.alloc (.cells #[.int .i64 4, .int .u64 n, .string s] 51))) := (Below.refl _ _).alloc (Nat.le_refl _) _
  clear h
  go_enter Try.func24, Try.ntmps24
  go_wp2_with fail
  refine (wU64 b1 d r1 n _ (HT.out.later HB.out).a hn (by omega)).mono ?_
  rintro e w1 ⟨rfl, hp1⟩
  have HP1 : Hid (WPost (w.alloc (.cells #[.int .i64 4, .int .u64 n, .string s] 51)) w1 b1 (d ++ be 8 n) r1) := hp1
  have hx1 : w1.cell? ⟨w.heap.size, 1, none⟩ = some (.int .u64 n) := box_kept hp1 HT.out.a.lt (fun g hg => by subst hg; exact HT.out.a.row_lt) 1
  clear hp1
  go_wp2_with fail
  refine (vU64 b2 d r2 n _ ((HT.out.later HB.out).other HP1.out) hn (by omega)).mono ?_
  rintro e w2 ⟨rfl, hp2⟩
  have HP : Hid (TwoPost w w2 b1 b2 (d ++ be 8 n) r1 r2) := TwoPost.after_below HB.out (two_close (HT.out.later HB.out) HP1.out hp2)
  clear hp2 hx1
  go_wp2
  go_ret
  exact ⟨rfl, HP.out⟩

set_option maxRecDepth 1000000 in
theorem writes5 (b1 b2 : Nat) (d : List Nat) (r1 r2 : Option Nat) (n : Nat) (s : ByteArray) (w : World) (h : Two w b1 b2 d r1 r2) (hn : n < 18446744073709551616) (hl : d.length + s.size + 10 ≤ 140737488351232) :
    Calls Try.prog 24 #[.pointer (some ⟨b1, 0, none⟩), .pointer (some ⟨b2, 0, none⟩), .agg #[.int .i64 5, .int .u64 n, .string s]] w fun e w' => e = .returned (.bool true) ∧ TwoPost w w' b1 b2 (d ++ (uv s.size ++ bytesOf s)) r1 r2 := by
  have HT : Hid (Two w b1 b2 d r1 r2) := h
  have HB : Hid (Below w.heap.size w (w.alloc (.cells #[.int .i64 5, .int .u64 n, .string s] 51))) := (Below.refl _ _).alloc (Nat.le_refl _) _
  clear h
  go_enter Try.func24, Try.ntmps24
  go_wp2_with fail
  refine (wText b1 d r1 s _ (HT.out.later HB.out).a (by omega)).mono ?_
  rintro e w1 ⟨rfl, hp1⟩
  have HP1 : Hid (WPost (w.alloc (.cells #[.int .i64 5, .int .u64 n, .string s] 51)) w1 b1 (d ++ (uv s.size ++ bytesOf s)) r1) := hp1
  have hx1 : w1.cell? ⟨w.heap.size, 2, none⟩ = some (.string s) := box_kept hp1 HT.out.a.lt (fun g hg => by subst hg; exact HT.out.a.row_lt) 2
  clear hp1
  go_wp2_with fail
  refine (vText b2 d r2 s _ ((HT.out.later HB.out).other HP1.out) (by omega)).mono ?_
  rintro e w2 ⟨rfl, hp2⟩
  have HP : Hid (TwoPost w w2 b1 b2 (d ++ (uv s.size ++ bytesOf s)) r1 r2) := TwoPost.after_below HB.out (two_close (HT.out.later HB.out) HP1.out hp2)
  clear hp2 hx1
  go_wp2
  go_ret
  exact ⟨rfl, HP.out⟩
end Go.Proofs.Ytbngedfpojnbjab
