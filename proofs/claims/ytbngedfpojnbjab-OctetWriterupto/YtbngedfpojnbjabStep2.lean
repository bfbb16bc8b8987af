import Derived.Test.YtbngedfpojnbjabStep
namespace Go.Proofs.Ytbngedfpojnbjab
open Go.RowKit Plain
set_option linter.unusedVariables false

theorem KeptS.after_below {w w1 w2 : World} {S : Nat → Prop} (hb : Below w.heap.size w w1) (q : KeptS w1 w2 S) : KeptS w w2 S :=
  ⟨q.os.trans hb.os, q.tape.trans hb.tape, q.output.trans hb.output, Nat.le_trans hb.size q.size, fun k hk hS => by
    rw [q.block k (Nat.lt_of_lt_of_le hk hb.size) hS]; exact hb.block k hk⟩

/-- What is done to a row g that is none of theirs. -/
theorem TwoPost.grow_at {w w2 w3 : World} {b1 b2 : Nat} {d : List Nat} {r1 r2 r1' r2' : Option Nat} {g : Nat} (q1 : Two w2 b1 b2 d r1' r2') (q2 : KeptS w w2 (foot b1 b2 r1 r2)) (q3 : isNew w r1' r1) (q4 : isNew w r2' r2)
    (k : w2.grownBy w3 (some g)) (hg : w.heap.size ≤ g) (hb1 : b1 < w.heap.size) (hb2 : b2 < w.heap.size) (e1 : r1' ≠ some g) (e2 : r2' ≠ some g) : TwoPost w w3 b1 b2 d r1 r2 := by
  refine ⟨r1', r2', ⟨?_, ?_, q1.ne, q1.n1, q1.n2, q1.n3⟩, ⟨k.os.trans q2.os, k.tape.trans q2.tape, k.output.trans q2.output, Nat.le_trans q2.size k.size, fun i hi hS => ?_⟩, q3, q4⟩
  · refine q1.a.kept k.size (k.block b1 q1.a.lt (by simp; omega)) (fun g' hg' => ?_)
    subst hg'
    exact k.block g' q1.a.row_lt e1
  · refine q1.b.kept k.size (k.block b2 q1.b.lt (by simp; omega)) (fun g' hg' => ?_)
    subst hg'
    exact k.block g' q1.b.row_lt e2
  · rw [k.block i (Nat.lt_of_lt_of_le hi q2.size) (by simp; omega)]; exact q2.block i hi hS

theorem row_ne {w w1 : World} {r r' : Option Nat} {g : Nat} (h : isNew w1 r' r) (hr : ∀ x, r = some x → x < w.heap.size) (hg : w.heap.size ≤ g) (hg1 : g < w1.heap.size) : r' ≠ some g := by
  rcases h with rfl | ⟨x, rfl, hx⟩
  · intro e
    have := hr g e
    omega
  · simp; omega

set_option maxHeartbeats 400000 in
set_option maxRecDepth 1000000 in
theorem writes11 (b1 b2 : Nat) (d : List Nat) (r1 r2 : Option Nat) (n : Nat) (s : ByteArray) (w : World) (h : Two w b1 b2 d r1 r2) (hn : n < 18446744073709551616) (hl : d.length + s.size + 10 ≤ 140737488351232) :
    Calls Try.prog 24 #[.pointer (some ⟨b1, 0, none⟩), .pointer (some ⟨b2, 0, none⟩), .agg #[.int .i64 11, .int .u64 n, .string s]] w fun e w' => e = .returned (.bool true) ∧ TwoPost w w' b1 b2 d r1 r2 := by
  have HT : Hid (Two w b1 b2 d r1 r2) := h
  have HB : Hid (Below w.heap.size w (w.alloc (.cells #[.int .i64 11, .int .u64 n, .string s] 51))) := (Below.refl _ _).alloc (Nat.le_refl _) _
  clear h
  go_enter Try.func24, Try.ntmps24
  go_wp2_with fail
  refine (wBytes b1 d r1 _ (HT.out.later HB.out).a (by omega)).mono ?_
  rintro e w1 ⟨vb, rb, rfl, ho1, hb1, hr1⟩
  have HO1 : Hid (Own w1 vb d rb) := ho1
  have HB1 : Hid (Below w.heap.size w w1) := below_on HB.out hb1
  have HR1 : Hid (∀ g, rb = some g → w.heap.size ≤ g) := fun g hg => by have := hr1 g hg; simp at this; omega
  clear ho1 hb1 hr1
  go_wp2_with fail
  refine (vBytes b2 d r2 _ (HT.out.later HB1.out).b (by omega)).mono ?_
  rintro e w2 ⟨vv, gv, rfl, ho2, hb2, hg2⟩
  obtain ⟨capv, rfl, _, _⟩ := ho2.shape
  have HO2 : Hid (Own w2 (.slice (some ⟨gv, 0, none⟩) d.length capv) d (some gv)) := ho2
  have HO1' : Hid (Own w2 vb d rb) := HO1.out.later hb2
  have HB2 : Hid (Below w.heap.size w w2) := below_on HB1.out hb2
  clear ho2 hb2 hg2 HO1 HB1
  go_wp2_with fail
  refine (sameYes _ _ d _ HO1'.out.bytes HO2.out.bytes).mono ?_
  rintro e w3 ⟨rfl, n3, rfl⟩
  have HB3 : Hid (Below w.heap.size w (w2.drewN n3)) := below_drewN HB2.out n3
  go_wp2_with fail
  refine (wLen b1 d r1 _ (HT.out.later HB3.out).a).mono ?_
  rintro e w4 ⟨rfl, rfl⟩
  go_wp2_with fail
  refine (marked vb d rb 8 d.length (w2.drewN n3) rfl HO1'.out (by decide) (by omega)).mono ?_
  rintro e w5 ⟨v5, r5, rfl, ho5, hg5, hr5, hn5⟩
  have HP : Hid (TwoPost w w5 b1 b2 d r1 r2) := by
    have hT := HT.out.later HB3.out
    cases rb with
    | none => exact TwoPost.of_below HT.out (below_on HB3.out (grow_below hg5 (Nat.le_refl _) (by simp)))
    | some g =>
      have hg := HR1.out g rfl
      refine TwoPost.grow_at hT ⟨HB3.out.os, HB3.out.tape, HB3.out.output, HB3.out.size, fun k hk _ => HB3.out.block k hk⟩ (.inl rfl) (.inl rfl) hg5 hg HT.out.a.lt HT.out.b.lt ?_ ?_
      · intro e
        subst e
        have := HT.out.a.row_lt
        omega
      · intro e
        subst e
        have := HT.out.b.row_lt
        omega
  clear ho5 hg5 hr5 hn5
  go_wp2
  go_ret
  exact ⟨rfl, HP.out⟩

set_option maxHeartbeats 400000 in
set_option maxRecDepth 1000000 in
theorem writes10 (b1 b2 : Nat) (d : List Nat) (r1 r2 : Option Nat) (n : Nat) (s : ByteArray) (w : World) (h : Two w b1 b2 d r1 r2) (hn : n < 18446744073709551616) (hl : d.length + s.size + 10 ≤ 140737488351232) :
    Calls Try.prog 24 #[.pointer (some ⟨b1, 0, none⟩), .pointer (some ⟨b2, 0, none⟩), .agg #[.int .i64 10, .int .u64 n, .string s]] w fun e w' => e = .returned (.bool true) ∧ TwoPost w w' b1 b2 (d ++ bytesOf s) r1 r2 := by
  have HT : Hid (Two w b1 b2 d r1 r2) := h
  have HB : Hid (Below w.heap.size w (w.alloc (.cells #[.int .i64 10, .int .u64 n, .string s] 51))) := (Below.refl _ _).alloc (Nat.le_refl _) _
  have hsl := bytesOf_len s
  have hsm : s.size ≤ maxLen := by unfold maxLen; omega
  have hxb : ((w.alloc (.cells #[.int .i64 10, .int .u64 n, .string s] 51)).heap.size = w.heap.size + 1) := by simp
  clear h
  go_enter Try.func24, Try.ntmps24
  go_wp2_with (refine wpList_to_bytes _ rfl _ rfl s hsm rfl ?_)
  intro vb wb gb hob hbb hgb
  obtain ⟨capb, rfl, hcb, hmb⟩ := hob.shape
  have hx1 : wb.cell? ⟨w.heap.size, 2, none⟩ = some (.string s) := by
    rw [hbb.cell (p := ⟨w.heap.size, 2, none⟩) (by simp), World.cell?_alloc_at _ _ _ _ rfl]; rfl
  rw [hsl] at hob hcb ⊢
  have HOB : Hid (Own wb (.slice (some ⟨gb, 0, none⟩) s.size capb) (bytesOf s) (some gb)) := hob
  have HBB : Hid (Below w.heap.size w wb) := HB.out.trans (hbb.mono (Nat.le_succ _))
  have HGB : Hid (w.heap.size < gb ∧ gb < wb.heap.size) := ⟨by omega, hob.lt⟩
  clear hob hbb hgb hcb hmb HB hxb
  go_wp2_with fail
  refine (wRaw b1 d r1 _ (bytesOf s) _ (HT.out.later HBB.out).a HOB.out.bytes (by omega)).mono ?_
  rintro e w1 ⟨rfl, hp1⟩
  have HP1 : Hid (WPost wb w1 b1 (d ++ bytesOf s) r1) := hp1
  have HK1 : Hid (∀ k, w.heap.size ≤ k → k < wb.heap.size → w1.heap[k]? = wb.heap[k]?) := by
    obtain ⟨r', _, kk, _⟩ := hp1
    intro k hk hk2
    refine kk.block k hk2 ?_ ?_
    · have := HT.out.a.lt
      omega
    · intro e
      subst_vars
      have := HT.out.a.row_lt
      omega
  have hx2 : w1.cell? ⟨w.heap.size, 2, none⟩ = some (.string s) := by
    rw [World.cell?_of_block (w := wb) (a := ⟨w.heap.size, 2, none⟩) (HK1.out _ (Nat.le_refl _) (cell_lt hx1))]; exact hx1
  clear hp1
  go_wp2_with (refine wpList_to_bytes _ rfl _ rfl s hsm rfl ?_)
  intro vc wc gc hoc hbc hgc
  have HOC : Hid (Own wc vc (bytesOf s) (some gc)) := hoc
  have HBC : Hid (Below w1.heap.size w1 wc) := hbc
  clear hoc hbc hgc
  go_wp2_with fail
  refine (vRaw b2 d r2 _ (bytesOf s) _ (((HT.out.later HBB.out).other HP1.out).later HBC.out) HOC.out.bytes (by omega)).mono ?_
  rintro e w2 ⟨rfl, hp2⟩
  have HP2 : Hid (WPost w1 w2 b2 (d ++ bytesOf s) r2) := WPost.on (Kept2.of_below HBC.out) (.inl rfl) hp2
  have HTP : Hid (TwoPost wb w2 b1 b2 (d ++ bytesOf s) r1 r2) := two_close (HT.out.later HBB.out) HP1.out HP2.out
  have HK2 : Hid (∀ k, w.heap.size ≤ k → k < wb.heap.size → w2.heap[k]? = wb.heap[k]?) := by
    obtain ⟨r1', r2', _, kk, _, _⟩ := HTP.out
    intro k hk hk2
    refine kk.block k hk2 ?_
    have h1 := HT.out.a.lt
    have h2 := HT.out.b.lt
    rintro (e | e | e | e)
    · omega
    · omega
    · subst_vars; have := HT.out.a.row_lt; omega
    · subst_vars; have := HT.out.b.row_lt; omega
  have HSZ : Hid (wb.heap.size ≤ w2.heap.size) := by
    obtain ⟨r1', r2', _, kk, _, _⟩ := HTP.out
    exact kk.size
  have hx3 : w2.cell? ⟨w.heap.size, 2, none⟩ = some (.string s) := by
    rw [World.cell?_of_block (w := wb) (a := ⟨w.heap.size, 2, none⟩) (HK2.out _ (Nat.le_refl _) (cell_lt hx1))]; exact hx1
  have HOB2 : Hid (Own w2 (.slice (some ⟨gb, 0, none⟩) s.size capb) (bytesOf s) (some gb)) := by
    obtain ⟨hh1, hh2⟩ := HOB.out
    refine ⟨hh1, ?_⟩
    rcases hh2 with ⟨_, _, e⟩ | ⟨g, cap, e, e2, c1, c2, c3, c4, c5, c6⟩
    · simp at e
    · simp at e; subst e
      have hbl := HK2.out gb (Nat.le_of_lt HGB.out.1) HGB.out.2
      have hsz := HSZ.out
      refine .inr ⟨gb, cap, rfl, e2, by omega, c2, c3, fun j hj => ?_, fun j hj => ?_, fun j hj => ?_⟩
      · rw [World.frozen?_of_block (w := wb) (a := ⟨gb, j, none⟩) hbl]; exact c4 j hj
      · rw [World.cell?_of_block (w := wb) (a := ⟨gb, j, none⟩) hbl]; exact c5 j hj
      · rw [World.cell?_of_block (w := wb) (a := ⟨gb, j, none⟩) hbl]; exact c6 j hj
  have hstr := run_to_string s _ w2 HOB2.out.bytes
  clear hp2 hx1 hx2
  go_wp2_with fail
  refine (marked _ (bytesOf s) (some gb) 5 s.size w2 hsl HOB2.out (by decide) (by omega)).mono ?_
  rintro e w3 ⟨v3, r3, rfl, ho3, hg3, hr3, hn3⟩
  have HP : Hid (TwoPost w w3 b1 b2 (d ++ bytesOf s) r1 r2) := by
    obtain ⟨r1', r2', q1, q2, q3, q4⟩ := HTP.out
    refine TwoPost.grow_at q1 (q2.after_below HBB.out) (q3.on HBB.out.size) (q4.on HBB.out.size) hg3 (Nat.le_of_lt HGB.out.1) HT.out.a.lt HT.out.b.lt ?_ ?_
    · exact row_ne q3 (fun x hx => by subst hx; exact HT.out.a.row_lt) (Nat.le_of_lt HGB.out.1) HGB.out.2
    · exact row_ne q4 (fun x hx => by subst hx; exact HT.out.b.row_lt) (Nat.le_of_lt HGB.out.1) HGB.out.2
  have hx4 : w3.cell? ⟨w.heap.size, 2, none⟩ = some (.string s) := by
    rw [World.cell?_of_block (w := w2) (a := ⟨w.heap.size, 2, none⟩) (hg3.block _ (cell_lt hx3) (by have := HGB.out.1; simp; omega))]; exact hx3
  clear ho3 hg3 hr3 hn3 hstr hx3
  go_wp2
  go_ret
  exact ⟨rfl, HP.out⟩

set_option maxRecDepth 1000000 in
theorem writesElse (p q : Value) (k : Int) (n : Int) (s : ByteArray) (w : World) (h0 : (k == 0) = false) (h1 : (k == 1) = false) (h2 : (k == 2) = false) (h3 : (k == 3) = false) (h4 : (k == 4) = false) (h5 : (k == 5) = false) (h10 : (k == 10) = false) (h11 : (k == 11) = false) :
    Calls Try.prog 24 #[p, q, .agg #[.int .i64 k, .int .u64 n, .string s]] w fun e w' => e = .returned (.bool true) ∧ Below w.heap.size w w' := by
  go_enter Try.func24, Try.ntmps24
  go_wp2
  go_ret
  exact ⟨rfl, (Below.refl _ _).alloc (Nat.le_refl _) _⟩
end Go.Proofs.Ytbngedfpojnbjab
