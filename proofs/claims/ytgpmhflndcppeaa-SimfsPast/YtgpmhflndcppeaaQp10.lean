import Derived.Test.YtgpmhflndcppeaaQp09
import Derived.Test.YtgpmhflndcppeaaQp01
import Derived.Test.YtgpmhflndcppeaaRows
import Derived.ProofKit
/-! The law on Rename: what is known of these disks; the operations on a disk that lies in new memory. -/
namespace Go.Proofs.Ytgpmhflndcppeaa
open Go.RowKit Go.Maps Plain
set_option linter.unusedVariables false
set_option linter.unusedSimpArgs false

theorem szA : nmA.size ≤ maxLen := by unfold maxLen; decide
theorem szT : nmT.size ≤ maxLen := by unfold maxLen; decide
theorem d1 (G : Nat) : (s1 G).Dok 1 := by have := create_dok (G := G) (fresh_dok 1073741824) szA (by omega); rwa [show createK (Dk.fresh 1073741824) nmA G = (0, s1 G) from t1 G] at this
theorem u1 (G : Nat) : (s1 G).Uok := ⟨by simp [s1, dk], by simp [s1, dk], fun p hp => by
  simp only [s1, dk, List.mem_singleton] at hp
  subst hp
  show (((upd F0 G ⟨[], [], []⟩ G).seen.length : Nat) : Int) ≤ 0
  rw [upd_same]; simp⟩
theorem d2 (G : Nat) (o : List Nat) (h : o.length ≤ 1000) : (s2 G o).Dok 2 := by have := append_dok (s := nmA) (b := o) (d1 G) (u1 G) (by omega); rwa [t2 G o h] at this
theorem d3 (G : Nat) (o : List Nat) (h : o.length ≤ 1000) : (s3 G o).Dok 3 := by have := sync_dok (s := nmA) (d2 G o h); rwa [t3] at this
theorem d4 (G H : Nat) (o : List Nat) (h : o.length ≤ 1000) : (s4 G o H).Dok 4 := by have := create_dok (G := H) (d3 G o h) szT (by omega); rwa [t4] at this
theorem u4 (G H : Nat) (o : List Nat) (h : o.length ≤ 1000) (hne : G ≠ H) : (s4 G o H).Uok := ⟨by simp [s4, dk]; omega, by simp [s4, dk], fun p hp => by
  simp only [s4, dk, List.mem_cons, List.not_mem_nil, or_false] at hp
  rcases hp with rfl | rfl
  · show (((upd (F3 G o) H ⟨[], [], []⟩ G).seen.length : Nat) : Int) ≤ (o.length : Int)
    rw [upd_other _ _ _ _ hne, F3G]; exact Int.le_refl _
  · show (((upd (F3 G o) H ⟨[], [], []⟩ H).seen.length : Nat) : Int) ≤ (o.length : Int)
    rw [upd_same]; simp⟩
theorem d5 (G H : Nat) (o f : List Nat) (h : o.length ≤ 1000) (h2 : f.length ≤ 1000) (hne : G ≠ H) : (s5 G o H f).Dok 5 := by have := append_dok (s := nmT) (b := f) (d4 G H o h) (u4 G H o h hne) (by omega); rwa [t5 G H o f h h2] at this
theorem d6 (G H : Nat) (o f : List Nat) (h : o.length ≤ 1000) (h2 : f.length ≤ 1000) (hne : G ≠ H) : (s6 G o H f).Dok 6 := by have := sync_dok (s := nmT) (d5 G H o f h h2 hne); rwa [t6] at this
theorem d7 (G H : Nat) (o f : List Nat) (h : o.length ≤ 1000) (h2 : f.length ≤ 1000) (hne : G ≠ H) : (s7 G o H f).Dok 7 := by have := syncDir_dok (d6 G H o f h h2 hne); rwa [t7] at this
theorem u7 (G H : Nat) (o f : List Nat) (h : o.length ≤ 1000) (h2 : f.length ≤ 1000) (hne : G ≠ H) : (s7 G o H f).Uok := ⟨by simp [s7, dk]; omega, by simp [s7, dk], fun p hp => by
  simp only [s7, dk, List.mem_cons, List.not_mem_nil, or_false] at hp
  rcases hp with rfl | rfl
  · show (((F6 G o H f G).seen.length : Nat) : Int) ≤ (o.length : Int) + f.length
    rw [F6G _ _ _ _ hne]; show (o.length : Int) ≤ _; omega
  · show (((F6 G o H f H).seen.length : Nat) : Int) ≤ (o.length : Int) + f.length
    rw [F6H]; show (f.length : Int) ≤ _; omega⟩
theorem d8 (G H : Nat) (o f : List Nat) (h : o.length ≤ 1000) (h2 : f.length ≤ 1000) (hne : G ≠ H) : (s8 G o H f).Dok 8 := by have := rename_dok (d7 G H o f h h2 hne) szT szA (by omega); rwa [t8 G H o f hne] at this
theorem d9 (G H : Nat) (o f : List Nat) (h : o.length ≤ 1000) (h2 : f.length ≤ 1000) (hne : G ≠ H) : (s9 G o H f).Dok 9 := by have := syncDir_dok (d8 G H o f h h2 hne); rwa [t9] at this

theorem nms2 (G H : Nat) : nms [(kA, G), (kT, H)] = [kA, kT] := srt_of (List.Perm.refl _) (by simp [kA, kT]; decide)
theorem nms1 (H : Nat) : nms [(kA, H)] = [kA] := srt_of (List.Perm.refl _) (by simp)
theorem lf_still (ps : List Int) (x : List Nat) : lf ps ⟨x, x, []⟩ = (x, ps.tail) := by
  unfold lf lfB
  simp [fst]
theorem crL8 (G H : Nat) (o f : List Nat) (ps : List Int) : crL (s8 G o H f) ps = [(kA, G), (kT, H)] ∨ crL (s8 G o H f) ps = [(kA, H)] := by
  have h := upV_le ps 1
  unfold crL
  rw [show (s8 G o H f).chg.length = 1 from rfl]
  rcases Nat.lt_or_ge (upV ps 1) 1 with h1 | h1
  · rw [show upV ps 1 = 0 by omega]; exact .inl rfl
  · rw [show upV ps 1 = 1 by omega]; exact .inr rfl
theorem im2 (G H : Nat) (o f : List Nat) (hne : G ≠ H) (ps : List Int) : imgL [(kA, G), (kT, H)] (fun ps g => (lf ps (F6 G o H f g)).1) (fun ps g => (lf ps (F6 G o H f g)).2) ps (nms [(kA, G), (kT, H)]) = [(kA, o), (kT, f)] := by
  rw [nms2]
  have e1 : fileOf [(kA, G), (kT, H)] kA = G := rfl
  have e2 : fileOf [(kA, G), (kT, H)] kT = H := rfl
  simp only [imgL, e1, e2, F6G _ _ _ _ hne, F6H, lf_still]
theorem im1 (G H : Nat) (o f : List Nat) (ps : List Int) : imgL [(kA, H)] (fun ps g => (lf ps (F6 G o H f g)).1) (fun ps g => (lf ps (F6 G o H f g)).2) ps (nms [(kA, H)]) = [(kA, f)] := by
  rw [nms1]
  have e1 : fileOf [(kA, H)] kA = H := rfl
  simp only [imgL, e1, F6H, lf_still]
theorem cr8 (G H : Nat) (o f : List Nat) (hne : G ≠ H) (ps : List Int) : crK (s8 G o H f) ps = [(kA, o), (kT, f)] ∨ crK (s8 G o H f) ps = [(kA, f)] := by
  unfold crK
  rcases crL8 G H o f ps with h | h
  · rw [h]; exact .inl (im2 G H o f hne _)
  · rw [h]; exact .inr (im1 G H o f _)
theorem crL9 (G H : Nat) (o f : List Nat) (ps : List Int) : crL (s9 G o H f) ps = [(kA, H)] := by
  unfold crL
  rw [show (s9 G o H f).chg = [] from rfl, List.take_nil]
  rfl
theorem cr9 (G H : Nat) (o f : List Nat) (ps : List Int) : crK (s9 G o H f) ps = [(kA, f)] := by
  unfold crK
  rw [crL9]
  exact im1 G H o f _

/-- A disk in memory that was not there in world W. -/
def Dsk (W : World) (d : Nat) (k : Dk) (w1 : World) : Prop := Below W.heap.size W w1 ∧ ∃ S, DiskAt w1 d k S ∧ ∀ x, S x → W.heap.size ≤ x
theorem Dsk.later {W w1 w2 : World} {d : Nat} {k : Dk} (h : Dsk W d k w1) (hb : Below w1.heap.size w1 w2) : Dsk W d k w2 := by
  obtain ⟨h1, S, h2, h3⟩ := h
  exact ⟨h1.trans (hb.mono h1.size), S, h2.later hb, h3⟩
theorem Dsk.liveLt {W w1 : World} {d G : Nat} {k : Dk} (h : Dsk W d k w1) (hG : k.live G) : G < w1.heap.size := by
  obtain ⟨_, S, ⟨ms, md, vc, rc, Sf, hm, _⟩, _⟩ := h
  exact (hm.files G hG).self
theorem Dsk.op {W w1 w2 : World} {d : Nat} {S : Nat → Prop} {r : Int × Dk} {e : Ending} (h1 : Below W.heap.size W w1) (h3 : ∀ x, S x → W.heap.size ≤ x) (h : OpPost d r S w1 e w2) : e = .returned (.int .i64 r.1) ∧ Dsk W d r.2 w2 := by
  obtain ⟨rfl, h4, h5⟩ := h
  refine ⟨rfl, h1.trans (h5.below h1.size h3), _, h4, fun x hx => ?_⟩
  rcases hx with hx | hx
  · exact h3 x hx
  · have := h1.size; omega
abbrev DPost (W : World) (d : Nat) (r : Int × Dk) : Ending → World → Prop := fun e w2 => e = .returned (.int .i64 r.1) ∧ Dsk W d r.2 w2
theorem createD {W w1 : World} {d n : Nat} {k : Dk} {s : ByteArray} (h : Dsk W d k w1) (hs : s.size ≤ maxLen) (hk : k.Dok n) (hn : n ≤ 4398046511103) : Calls Try.prog 12 #[.pointer (some ⟨d, 0, none⟩), .string s] w1 fun e w2 => ∃ G, w1.heap.size ≤ G ∧ DPost W d (createK k s G) e w2 := by
  obtain ⟨h1, S, h2, h3⟩ := h
  refine (createOf d k n S s hs w1 h2 hk hn).mono ?_
  rintro e w2 ⟨G, hG, hp⟩
  exact ⟨G, hG, Dsk.op h1 h3 hp⟩
theorem appendD {W w1 : World} {d n : Nat} {k : Dk} {s : ByteArray} {v : Value} {b : List Nat} (h : Dsk W d k w1) (hs : s.size ≤ maxLen) (hb : BytesAt W v b) (hk : k.Dok n) (hu : k.Uok) (hn : n ≤ 4398046511103) : Calls Try.prog 13 #[.pointer (some ⟨d, 0, none⟩), .string s, v] w1 (DPost W d (appendK k s b)) := by
  obtain ⟨h1, S, h2, h3⟩ := h
  refine (appendOf d k n S s hs v b w1 h2 hk.ok hu hn (fun w' hc => hb.later (h1.trans (hc.below h1.size h3)))).mono ?_
  rintro e w2 hp
  exact Dsk.op h1 h3 hp
theorem syncD {W w1 : World} {d n : Nat} {k : Dk} {s : ByteArray} (h : Dsk W d k w1) (hs : s.size ≤ maxLen) (hk : k.Dok n) (hn : n ≤ 4398046511103) : Calls Try.prog 26 #[.pointer (some ⟨d, 0, none⟩), .string s] w1 (DPost W d (syncK k s)) := by
  obtain ⟨h1, S, h2, h3⟩ := h
  refine (syncOf d k n S s hs w1 h2 hk.ok hn).mono ?_
  rintro e w2 hp
  exact Dsk.op h1 h3 hp
theorem syncDirD {W w1 : World} {d n : Nat} {k : Dk} (h : Dsk W d k w1) (hk : k.Dok n) (hn : n ≤ 4398046511103) : Calls Try.prog 27 #[.pointer (some ⟨d, 0, none⟩)] w1 (DPost W d (syncDirK k)) := by
  obtain ⟨h1, S, h2, h3⟩ := h
  refine (syncDirOf d k n S w1 h2 hk hn).mono ?_
  rintro e w2 hp
  exact Dsk.op h1 h3 hp
theorem renameD {W w1 : World} {d n : Nat} {k : Dk} {s t : ByteArray} (h : Dsk W d k w1) (hs : s.size ≤ maxLen) (ht : t.size ≤ maxLen) (hk : k.Dok n) (hu : k.Uok) (hn : n ≤ 4398046511103) : Calls Try.prog 28 #[.pointer (some ⟨d, 0, none⟩), .string s, .string t] w1 (DPost W d (renameK k s t)) := by
  obtain ⟨h1, S, h2, h3⟩ := h
  refine (renameOf d k n S s t hs ht w1 h2 hk hu hn).mono ?_
  rintro e w2 hp
  exact Dsk.op h1 h3 hp
theorem crashD {W w1 : World} {d n : Nat} {k : Dk} {a : Option Addr} {m c : Nat} {ps : List Int} (h : Dsk W d k w1) (hk : k.Dok n) (hp : PicksAt W (.slice a m c) ps) (hpo : PicksOff W.heap.size (.slice a m c)) (hlv : ∀ p ∈ crL k ps, k.live p.2) (hfew : (crL k ps).length ≤ 2199023255000) :
    Calls Try.prog 7 #[.pointer (some ⟨d, 0, none⟩), .slice a m c] w1 fun e w2 => ∃ a l c, e = .returned (.slice a l c) ∧ ImgAt w2 (.slice a l c) (crK k ps) W.heap.size ∧ Dsk W d k w2 := by
  obtain ⟨h1, S, h2, h3⟩ := h
  have hs1 := h1.size
  refine (crashOf w1 d k n S h2 hk a m c ps (hp.cells hpo (fun b hb => h1.block b hb)) (fun b off n c e h0 => by have := hpo b off n c e h0; omega) hlv hfew).mono ?_
  rintro e w2 ⟨a', l', c', rfl, hi, hb⟩
  exact ⟨a', l', c', rfl, hi.base hs1, Dsk.later ⟨h1, S, h2, h3⟩ hb⟩
theorem readD {W w1 : World} {d n : Nat} {k : Dk} {s : ByteArray} (h : Dsk W d k w1) (hs : s.size ≤ maxLen) (hk : k.Dok n) (A M : Nat) (hM : M ≤ 9223372036854775807) (h0 : (fnd k.dead k.L s).2 = 0) (hA : A ≤ sizeK k s) :
    Calls Try.prog 14 #[.pointer (some ⟨d, 0, none⟩), .string s, .int .i64 (A : Int), .int .i64 (M : Int)] w1 fun e w2 => ∃ a l c r, e = .returned (.tuple #[.slice a l c, .int .i64 0]) ∧ Own w2 (.slice a l c) (rdB k s A M) r ∧ Below w1.heap.size w1 w2 := by
  obtain ⟨h1, S, h2, h3⟩ := h
  refine (readOk (St.start h2) hk.ok s hs A M hM h0 hA).mono ?_
  rintro e w2 ⟨a, l, c, r, rfl, ho, _, hb, _⟩
  exact ⟨a, l, c, r, rfl, ho, hb⟩

set_option maxRecDepth 1000000 in
theorem newOf (q : Int) (hq1 : 0 ≤ q) (hq2 : q ≤ 1073741824) (w : World) : Calls Try.prog 11 #[.int .i64 q] w fun e w' => e = .returned (.tuple #[.pointer (some ⟨w.heap.size, 0, none⟩), .int .i64 0]) ∧ Dsk w w.heap.size (Dk.fresh q) w' := by
  have HL : Hid (Calls Try.prog 34 #[.slice none 0 0, .int .i64 q] w fun e w' => e = .returned (.tuple #[.pointer (some ⟨w.heap.size, 0, none⟩), .int .i64 0]) ∧ Dsk w w.heap.size (Dk.fresh q) w') := by
    refine (loadNil q (by omega) (by omega) w).mono ?_
    rintro e w' (⟨h, _⟩ | ⟨_, rfl, h1, h2⟩)
    · simp [qB, hq1, hq2] at h
    · refine ⟨rfl, ((Below.refl _ w).alloc (Nat.le_refl _) _).trans (h2.below (by simp) (fun x hx => by omega)), _, h1, fun x hx => ?_⟩
      rcases hx with hx | hx
      · omega
      · simp at hx; omega
  go_enter Try.func11, Try.ntmps11
  go_wp2_with fail
  refine HL.out.mono ?_
  rintro e w1 ⟨rfl, h1⟩
  have HP : Hid (Dsk w w.heap.size (Dk.fresh q) w1) := h1
  clear h1
  go_wp2
  go_ret2
  exact ⟨rfl, HP.out⟩
end Go.Proofs.Ytgpmhflndcppeaa

/-! A disk that is nil. -/
namespace Go.Proofs.Ytgpmhflndcppeaa
open Go.RowKit Plain
set_option linter.unusedVariables false

/-- What is answered, and that only new memory was touched. -/
abbrev Ans (w : World) (v : Value) : Ending → World → Prop := fun e w' => e = .returned v ∧ Below w.heap.size w w'

theorem readyNil (v : Value) (w : World) : Calls Try.prog 35 #[.pointer none, v] w fun e w' => e = .returned (.int .i64 1) ∧ w' = w := by
  go_enter Try.func35, Try.ntmps35
  go_wp2
  go_ret
  exact ⟨rfl, rfl⟩

theorem findNil (s : ByteArray) (w : World) : Calls Try.prog 38 #[.pointer none, .string s] w (Ans w (.tuple #[.pointer none, .int .i64 1])) := by
  go_enter Try.func38, Try.ntmps38
  go_wp2_with fail
  refine (readyNil _ _).mono ?_
  rintro e w1 ⟨rfl, rfl⟩
  go_wp2
  go_ret2
  exact ⟨rfl, (Below.refl _ _).alloc (Nat.le_refl _) _⟩

theorem createNil (s : ByteArray) (w : World) : Calls Try.prog 12 #[.pointer none, .string s] w (Ans w (.int .i64 1)) := by
  go_enter Try.func12, Try.ntmps12
  go_wp2_with fail
  refine (readyNil _ _).mono ?_
  rintro e w1 ⟨rfl, rfl⟩
  go_wp2
  go_ret
  exact ⟨rfl, (Below.refl _ _).alloc (Nat.le_refl _) _⟩

theorem appendNil (s : ByteArray) (v : Value) (w : World) : Calls Try.prog 13 #[.pointer none, .string s, v] w (Ans w (.int .i64 1)) := by
  go_enter Try.func13, Try.ntmps13
  go_wp2_with fail
  refine (findNil _ _).mono ?_
  rintro e w1 ⟨rfl, hb⟩
  go_wp2
  go_ret
  exact ⟨rfl, hb⟩

theorem truncNil (s : ByteArray) (n : Int) (w : World) : Calls Try.prog 25 #[.pointer none, .string s, .int .i64 n] w (Ans w (.int .i64 1)) := by
  go_enter Try.func25, Try.ntmps25
  go_wp2_with fail
  refine (findNil _ _).mono ?_
  rintro e w1 ⟨rfl, hb⟩
  go_wp2
  go_ret
  exact ⟨rfl, hb⟩

theorem syncNil (s : ByteArray) (w : World) : Calls Try.prog 26 #[.pointer none, .string s] w (Ans w (.int .i64 1)) := by
  go_enter Try.func26, Try.ntmps26
  go_wp2_with fail
  refine (findNil _ _).mono ?_
  rintro e w1 ⟨rfl, hb⟩
  go_wp2
  go_ret
  exact ⟨rfl, hb⟩

theorem syncDirNil (w : World) : Calls Try.prog 27 #[.pointer none] w (Ans w (.int .i64 1)) := by
  go_enter Try.func27, Try.ntmps27
  go_wp2_with fail
  refine (readyNil _ _).mono ?_
  rintro e w1 ⟨rfl, rfl⟩
  go_wp2
  go_ret
  exact ⟨rfl, Below.refl _ _⟩

theorem renameNil (s t : ByteArray) (w : World) : Calls Try.prog 28 #[.pointer none, .string s, .string t] w (Ans w (.int .i64 1)) := by
  go_enter Try.func28, Try.ntmps28
  go_wp2_with fail
  refine (readyNil _ _).mono ?_
  rintro e w1 ⟨rfl, rfl⟩
  go_wp2
  go_ret
  exact ⟨rfl, (Below.refl _ _).alloc (Nat.le_refl _) _⟩

theorem removeNil (s : ByteArray) (w : World) : Calls Try.prog 29 #[.pointer none, .string s] w (Ans w (.int .i64 1)) := by
  go_enter Try.func29, Try.ntmps29
  go_wp2_with fail
  refine (findNil _ _).mono ?_
  rintro e w1 ⟨rfl, hb⟩
  go_wp2
  go_ret
  exact ⟨rfl, hb⟩

theorem readNil (s : ByteArray) (a n : Int) (w : World) : Calls Try.prog 14 #[.pointer none, .string s, .int .i64 a, .int .i64 n] w (Ans w (.tuple #[.slice none 0 0, .int .i64 1])) := by
  go_enter Try.func14, Try.ntmps14
  go_wp2_with fail
  refine (findNil _ _).mono ?_
  rintro e w1 ⟨rfl, hb⟩
  go_wp2
  go_ret2
  exact ⟨rfl, hb⟩

theorem usedNil (w : World) : Calls Try.prog 15 #[.pointer none] w (Ans w (.int .i64 0)) := by
  go_enter Try.func15, Try.ntmps15
  go_wp2
  go_ret
  exact ⟨rfl, Below.refl _ _⟩

theorem imageNil (w : World) : Calls Try.prog 10 #[.pointer none] w (Ans w (.slice none 0 0)) := by
  go_enter Try.func10, Try.ntmps10
  go_wp2
  go_ret
  exact ⟨rfl, Below.refl _ _⟩

theorem crashNil (v : Value) (w : World) : Calls Try.prog 7 #[.pointer none, v] w (Ans w (.slice none 0 0)) := by
  go_enter Try.func7, Try.ntmps7
  go_wp2
  go_ret
  exact ⟨rfl, Below.refl _ _⟩

end Go.Proofs.Ytgpmhflndcppeaa

/-! Bytes with marks in the room behind them. -/
namespace Go.Proofs.Ytgpmhflndcppeaa
open Go.RowKit Plain
set_option linter.unusedVariables false

def marks (k : Nat) : List Nat := (List.range k).map (200 + ·)
theorem marks_succ (k : Nat) : marks (k + 1) = marks k ++ [200 + k] := by simp [marks, List.range_succ]
theorem marks_len (k : Nat) : (marks k).length = k := by simp [marks]
theorem marks_byte (k : Nat) (h : k ≤ 8) : ∀ c ∈ marks k, c < 256 := by
  intro c hc
  simp [marks] at hc
  omega
theorem marks_get (k j : Nat) (h : j < k) : (marks k).getD j 0 = 200 + j := by simp [marks, h]
theorem wrap_mark (k : Nat) (h : k < 8) : IntKind.u8.wrap (200 + (k : Int)) = ((200 + k : Nat) : Int) := by
  have : ∀ j, j < 8 → IntKind.u8.wrap (200 + ((j : Nat) : Int)) = ((200 + j : Nat) : Int) := by decide
  exact this k h

theorem roomy (vb : Value) (l : List Nat) (w : World) (hb : BytesAt w vb l) (hl : l.length ≤ 140737488351232) :
    Calls Try.prog 23 #[vb] w fun e w' => ∃ g cap, e = .returned (.slice (some ⟨g, 0, none⟩) l.length cap) ∧ Own w' (.slice (some ⟨g, 0, none⟩) (l.length + 8) cap) (l ++ marks 8) (some g) ∧ w.heap.size ≤ g ∧ Below w.heap.size w w' := by
  have HB : Hid (BytesAt w vb l) := hb
  obtain ⟨a0, cap0, rfl, _⟩ := hb
  go_enter Try.func23, Try.ntmps23
  go_wp2_with (at_builtin; refine wpList_append_row _ rfl _ _ 28 28 rfl Try.underlying28 _ _ [] l (some w.heap.size) rfl rfl ?hOwn ?hByte ?hSrc ?hLen ?_)
  case hOwn => exact Own.empty w 5
  case hByte => exact HB.out.byte
  case hSrc => exact src_of Try.underlying28 (HB.out.later ((Below.refl _ _).alloc (Nat.le_refl _) _))
  case hLen => simp; omega
  intro v3 w3 r3 ho3 hg3 hr3 hn3
  have HB3 : Hid (Below w.heap.size w w3) := grow_below (grow_trans (World.grownBy_alloc w _ none) hg3 (.inr (.inr ⟨_, rfl, Nat.le_refl _⟩))) (Nat.le_refl _) (by simp)
  obtain ⟨q3, HO3, HQ3⟩ : ∃ q3, Hid (Own w3 v3 (l ++ marks 0) (some q3)) ∧ Hid (w.heap.size ≤ q3) := by
    have e : l ++ marks 0 = l := by simp [marks]
    rw [e]
    rcases hr3 with rfl | rfl
    · exact ⟨_, ho3, Nat.le_refl _⟩
    · exact ⟨_, ho3, by unfold Hid; simp⟩
  clear ho3 hg3 hr3 hn3
  go_wp2
  go_loopw [3, 4] (fun b i wr => ∃ (k q : Nat), k ≤ 8 ∧ i = .int .i64 k ∧ Own wr b (l ++ marks k) (some q) ∧ w.heap.size ≤ q ∧ Below w.heap.size w wr) (fun _ i _ => 8 - (intOf i).toNat)
  case atStart => exact ⟨0, q3, by omega, rfl, HO3.out, HQ3.out, HB3.out⟩
  case round =>
    obtain ⟨k, q, hk, rfl, ho, hq, hbl⟩ := hrel
    have HBL : Hid (Below w.heap.size w wr) := hbl
    have HQ : Hid (w.heap.size ≤ q) := hq
    clear HB3 HO3 HQ3 hbl hq
    by_cases hlt : k < 8
    · have HO : Hid (Own wr u3 (l ++ marks k) (some q)) := ho
      have hwm := wrap_mark k hlt
      clear ho
      go_wp2_with (at_builtin; refine wpList_append_row _ rfl _ _ 28 28 rfl Try.underlying28 _ _ (l ++ marks k) [200 + k] (some q) rfl rfl ?hOwn ?hByte ?hSrc ?hLen ?_)
      case hOwn => exact HO.out.later ((Below.refl _ _).alloc (Nat.le_refl _) _)
      case hByte => simp; omega
      case hSrc => exact src_one wr (200 + k) 28 5 Try.underlying28
      case hLen => simp [marks_len]; omega
      intro v' w1 r' ho' hg' hr' hn'
      have HB1 : Hid (Below w.heap.size w w1) := (HBL.out.alloc HBL.out.size _).trans (grow_below hg' (by have := HBL.out.size; simp; omega) (by intro g hg; simp at hg; subst hg; exact HQ.out))
      obtain ⟨q1, HO1, HQ1⟩ : ∃ q1, Hid (Own w1 v' (l ++ marks (k + 1)) (some q1)) ∧ Hid (w.heap.size ≤ q1) := by
        rw [marks_succ, ← List.append_assoc]
        have := HBL.out.size
        rcases hr' with rfl | rfl
        · exact ⟨_, by unfold Hid; simpa using ho', HQ.out⟩
        · refine ⟨_, by unfold Hid; simpa using ho', ?_⟩
          unfold Hid
          first | omega | (simp; omega)
      clear ho' hg' hr' hn' hwm
      go_wp2
      go_roundw
      case rel => exact ⟨k + 1, q1, by omega, by go_num, HO1.out, HQ1.out, HB1.out⟩
      case measure => simp [intOf]; omega
    · obtain rfl : k = 8 := by omega
      obtain ⟨cap, rfl, h1, h2⟩ := ho.shape
      have e : (l ++ marks 8).length = l.length + 8 := by simp [marks_len]
      have HO : Hid (Own wr (.slice (some ⟨q, 0, none⟩) (l.length + 8) cap) (l ++ marks 8) (some q)) := by
        have := ho
        rw [e] at this
        exact this
      rw [e] at h1
      unfold maxLen at h2
      clear ho
      rw [e]
      clear e
      go_wp2
      go_ret
      exact ⟨q, cap, rfl, HO.out, HQ.out, HBL.out⟩

theorem kept (g cap : Nat) (l m : List Nat) (vb : Value) (w : World) (hb : BytesAt w vb l) (hn : m.length = l.length) (ho : Own w (.slice (some ⟨g, 0, none⟩) (l.length + 8) cap) (m ++ marks 8) (some g)) :
    Calls Try.prog 24 #[.slice (some ⟨g, 0, none⟩) l.length cap, vb] w fun e w' => e = .returned (.bool (decide (m = l))) ∧ ∃ n, w' = w.drewN n := by
  have HB : Hid (BytesAt w vb l) := hb
  obtain ⟨a0, cap0, rfl, h0, h00, _⟩ := hb
  have HX : Hid (BytesAt w (.slice (some ⟨g, 0, none⟩) l.length cap) m) := by
    have := (ho.bytes.take m.length (by simp))
    rw [List.take_left, hn] at this
    exact this
  obtain ⟨hby, hr⟩ := ho
  rcases hr with ⟨e, _⟩ | ⟨g', cap', e, e2, hg, h1, h2, h3, h4, h5⟩
  · simp at e
  simp at e; subst e
  simp only [Value.slice.injEq, true_and] at e2
  obtain ⟨-, rfl⟩ := e2
  have HC : Hid (∀ k, k < 8 → w.cell? ⟨g, l.length + k, none⟩ = some (.int .u8 ((200 + k : Nat) : Int))) := fun k hk => by
    have := h5 (l.length + k) (by simp [marks_len]; omega)
    rw [getD_right _ _ (by omega), hn, Nat.add_sub_cancel_left, marks_get 8 k hk] at this
    exact this
  have hc8 : l.length + 8 ≤ cap := by simp [marks_len] at h1; omega
  unfold maxLen at h2
  clear hby h3 h4 h5 h1 hn h0 h00
  go_enter Try.func24, Try.ntmps24
  go_wp2
  go_loopw [6] (fun i w' => ∃ k n : Nat, w' = w.drewN n ∧ k ≤ 8 ∧ i = .int .i64 k) (fun i _ => 8 - (intOf i).toNat)
  case atStart => exact ⟨0, 0, rfl, by omega, rfl⟩
  case round =>
    obtain ⟨k, n, rfl, hk, rfl⟩ := hrel
    by_cases hlt : k < 8
    · have hcell := HC.out k hlt
      have hwm := wrap_mark k hlt
      go_wp2
      go_roundw
      case rel => exact ⟨k + 1, _, rfl, by omega, by go_num⟩
      case measure => simp [intOf]; omega
    · go_wp2_with fail
      refine (sameBytes _ _ m l _ (HX.out.drewN n) (HB.out.drewN n)).mono ?_
      rintro e w1 ⟨rfl, n1, rfl⟩
      go_wp2
      go_ret
      exact ⟨rfl, _, rfl⟩
end Go.Proofs.Ytgpmhflndcppeaa

/-! A changing operation, as a step asks for it. -/
namespace Go.Proofs.Ytgpmhflndcppeaa
open Go.RowKit Go.Maps Plain
set_option linter.unusedVariables false
set_option linter.unusedSimpArgs false

/-- What a step's change does. -/
def chK (k : Dk) (kd : Int) (nm to : ByteArray) (n : Int) (l : List Nat) (G : Nat) : Int × Dk :=
  if kd = 1 then createK k nm G else if kd = 2 then appendK k nm l else if kd = 3 then truncK k nm n else if kd = 4 then syncK k nm else if kd = 5 then syncDirK k else if kd = 6 then renameK k nm to else removeK k nm
abbrev ChPost (W : World) (d : Nat) (f : Nat → Int × Dk) (w1 : World) : Ending → World → Prop := fun e w2 => ∃ G, w1.heap.size ≤ G ∧ e = .returned (.tuple #[.int .i64 (f G).1, .bool true]) ∧ Dsk W d (f G).2 w2
theorem truncD {W w1 : World} {d n : Nat} {k : Dk} {s : ByteArray} {m : Int} (h : Dsk W d k w1) (hs : s.size ≤ maxLen) (hm : I64 m) (hk : k.Dok n) (hu : k.Uok) (hn : n ≤ 4398046511103) : Calls Try.prog 25 #[.pointer (some ⟨d, 0, none⟩), .string s, .int .i64 m] w1 (DPost W d (truncK k s m)) := by
  obtain ⟨h1, S, h2, h3⟩ := h
  refine (truncOf d k n S s hs m hm.1 hm.2 w1 h2 hk.ok hu hn).mono ?_
  rintro e w2 hp
  exact Dsk.op h1 h3 hp
theorem removeD {W w1 : World} {d n : Nat} {k : Dk} {s : ByteArray} (h : Dsk W d k w1) (hs : s.size ≤ maxLen) (hk : k.Dok n) (hu : k.Uok) (hn : n ≤ 4398046511103) : Calls Try.prog 29 #[.pointer (some ⟨d, 0, none⟩), .string s] w1 (DPost W d (removeK k s)) := by
  obtain ⟨h1, S, h2, h3⟩ := h
  refine (removeOf d k n S s hs w1 h2 hk hu hn).mono ?_
  rintro e w2 hp
  exact Dsk.op h1 h3 hp

set_option maxHeartbeats 1000000 in
set_option maxRecDepth 1000000 in
theorem changeCreate {W w : World} {d n : Nat} {k : Dk} (nm to : ByteArray) (at' m : Int) (vb vp : Value) (h : Dsk W d k w) (hs : nm.size ≤ maxLen) (hk : k.Dok n) (hn : n ≤ 4398046511103) :
    Calls Try.prog 8 #[.pointer (some ⟨d, 0, none⟩), .agg #[.int .i64 1, .string nm, .string to, .int .i64 at', .int .i64 m, vb, vp]] w (ChPost W d (createK k nm) w) := by
  have HC : Hid (∀ w1, Below w.heap.size w w1 → Calls Try.prog 12 #[.pointer (some ⟨d, 0, none⟩), .string nm] w1 fun e w2 => ∃ G, w1.heap.size ≤ G ∧ DPost W d (createK k nm G) e w2) := fun w1 hb => createD (h.later hb) hs hk hn
  clear h hk
  go_enter Try.func8, Try.ntmps8
  go_wp2_with fail
  refine (HC.out _ ((Below.refl _ _).alloc (Nat.le_refl _) _)).mono ?_
  rintro e w1 ⟨G, hG, rfl, h1⟩
  have HP : Hid (ChPost W d (createK k nm) w (.returned (.tuple #[.int .i64 (createK k nm G).1, .bool true])) w1) := ⟨G, by simp at hG; omega, rfl, h1⟩
  clear h1
  generalize (createK k nm G).1 = z at *
  go_wp2
  go_ret2
  exact HP.out

set_option maxHeartbeats 1000000 in
set_option maxRecDepth 1000000 in
theorem changeTrunc {W w : World} {d n : Nat} {k : Dk} (nm to : ByteArray) (at' m : Int) (vb vp : Value) (h : Dsk W d k w) (hs : nm.size ≤ maxLen) (hm : I64 m) (hk : k.Dok n) (hu : k.Uok) (hn : n ≤ 4398046511103) :
    Calls Try.prog 8 #[.pointer (some ⟨d, 0, none⟩), .agg #[.int .i64 3, .string nm, .string to, .int .i64 at', .int .i64 m, vb, vp]] w (ChPost W d (fun _ => truncK k nm m) w) := by
  have HC : Hid (∀ w1, Below w.heap.size w w1 → Calls Try.prog 25 #[.pointer (some ⟨d, 0, none⟩), .string nm, .int .i64 m] w1 (DPost W d (truncK k nm m))) := fun w1 hb => truncD (h.later hb) hs hm hk hu hn
  clear h hk hu
  go_enter Try.func8, Try.ntmps8
  go_wp2_with fail
  refine (HC.out _ ((Below.refl _ _).alloc (Nat.le_refl _) _)).mono ?_
  rintro e w1 ⟨rfl, h1⟩
  have HP : Hid (ChPost W d (fun _ => truncK k nm m) w (.returned (.tuple #[.int .i64 (truncK k nm m).1, .bool true])) w1) := ⟨_, Nat.le_refl _, rfl, h1⟩
  clear h1
  generalize (truncK k nm m).1 = z at *
  go_wp2
  go_ret2
  exact HP.out

set_option maxHeartbeats 1000000 in
set_option maxRecDepth 1000000 in
theorem changeSync {W w : World} {d n : Nat} {k : Dk} (nm to : ByteArray) (at' m : Int) (vb vp : Value) (h : Dsk W d k w) (hs : nm.size ≤ maxLen) (hk : k.Dok n) (hn : n ≤ 4398046511103) :
    Calls Try.prog 8 #[.pointer (some ⟨d, 0, none⟩), .agg #[.int .i64 4, .string nm, .string to, .int .i64 at', .int .i64 m, vb, vp]] w (ChPost W d (fun _ => syncK k nm) w) := by
  have HC : Hid (∀ w1, Below w.heap.size w w1 → Calls Try.prog 26 #[.pointer (some ⟨d, 0, none⟩), .string nm] w1 (DPost W d (syncK k nm))) := fun w1 hb => syncD (h.later hb) hs hk hn
  clear h hk
  go_enter Try.func8, Try.ntmps8
  go_wp2_with fail
  refine (HC.out _ ((Below.refl _ _).alloc (Nat.le_refl _) _)).mono ?_
  rintro e w1 ⟨rfl, h1⟩
  have HP : Hid (ChPost W d (fun _ => syncK k nm) w (.returned (.tuple #[.int .i64 (syncK k nm).1, .bool true])) w1) := ⟨_, Nat.le_refl _, rfl, h1⟩
  clear h1
  generalize (syncK k nm).1 = z at *
  go_wp2
  go_ret2
  exact HP.out

set_option maxHeartbeats 1000000 in
set_option maxRecDepth 1000000 in
theorem changeSyncDir {W w : World} {d n : Nat} {k : Dk} (nm to : ByteArray) (at' m : Int) (vb vp : Value) (h : Dsk W d k w) (hk : k.Dok n) (hn : n ≤ 4398046511103) :
    Calls Try.prog 8 #[.pointer (some ⟨d, 0, none⟩), .agg #[.int .i64 5, .string nm, .string to, .int .i64 at', .int .i64 m, vb, vp]] w (ChPost W d (fun _ => syncDirK k) w) := by
  have HC : Hid (∀ w1, Below w.heap.size w w1 → Calls Try.prog 27 #[.pointer (some ⟨d, 0, none⟩)] w1 (DPost W d (syncDirK k))) := fun w1 hb => syncDirD (h.later hb) hk hn
  clear h hk
  go_enter Try.func8, Try.ntmps8
  go_wp2_with fail
  refine (HC.out _ ((Below.refl _ _).alloc (Nat.le_refl _) _)).mono ?_
  rintro e w1 ⟨rfl, h1⟩
  have HP : Hid (ChPost W d (fun _ => syncDirK k) w (.returned (.tuple #[.int .i64 (syncDirK k).1, .bool true])) w1) := ⟨_, Nat.le_refl _, rfl, h1⟩
  clear h1
  generalize (syncDirK k).1 = z at *
  go_wp2
  go_ret2
  exact HP.out

set_option maxHeartbeats 1000000 in
set_option maxRecDepth 1000000 in
theorem changeRename {W w : World} {d n : Nat} {k : Dk} (nm to : ByteArray) (at' m : Int) (vb vp : Value) (h : Dsk W d k w) (hs : nm.size ≤ maxLen) (ht : to.size ≤ maxLen) (hk : k.Dok n) (hu : k.Uok) (hn : n ≤ 4398046511103) :
    Calls Try.prog 8 #[.pointer (some ⟨d, 0, none⟩), .agg #[.int .i64 6, .string nm, .string to, .int .i64 at', .int .i64 m, vb, vp]] w (ChPost W d (fun _ => renameK k nm to) w) := by
  have HC : Hid (∀ w1, Below w.heap.size w w1 → Calls Try.prog 28 #[.pointer (some ⟨d, 0, none⟩), .string nm, .string to] w1 (DPost W d (renameK k nm to))) := fun w1 hb => renameD (h.later hb) hs ht hk hu hn
  clear h hk hu
  go_enter Try.func8, Try.ntmps8
  go_wp2_with fail
  refine (HC.out _ ((Below.refl _ _).alloc (Nat.le_refl _) _)).mono ?_
  rintro e w1 ⟨rfl, h1⟩
  have HP : Hid (ChPost W d (fun _ => renameK k nm to) w (.returned (.tuple #[.int .i64 (renameK k nm to).1, .bool true])) w1) := ⟨_, Nat.le_refl _, rfl, h1⟩
  clear h1
  generalize (renameK k nm to).1 = z at *
  go_wp2
  go_ret2
  exact HP.out

set_option maxHeartbeats 1000000 in
set_option maxRecDepth 1000000 in
theorem changeRemove {W w : World} {d n : Nat} {k : Dk} (nm to : ByteArray) (at' m : Int) (vb vp : Value) (h : Dsk W d k w) (hs : nm.size ≤ maxLen) (hk : k.Dok n) (hu : k.Uok) (hn : n ≤ 4398046511103) :
    Calls Try.prog 8 #[.pointer (some ⟨d, 0, none⟩), .agg #[.int .i64 7, .string nm, .string to, .int .i64 at', .int .i64 m, vb, vp]] w (ChPost W d (fun _ => removeK k nm) w) := by
  have HC : Hid (∀ w1, Below w.heap.size w w1 → Calls Try.prog 29 #[.pointer (some ⟨d, 0, none⟩), .string nm] w1 (DPost W d (removeK k nm))) := fun w1 hb => removeD (h.later hb) hs hk hu hn
  clear h hk hu
  go_enter Try.func8, Try.ntmps8
  go_wp2_with fail
  refine (HC.out _ ((Below.refl _ _).alloc (Nat.le_refl _) _)).mono ?_
  rintro e w1 ⟨rfl, h1⟩
  have HP : Hid (ChPost W d (fun _ => removeK k nm) w (.returned (.tuple #[.int .i64 (removeK k nm).1, .bool true])) w1) := ⟨_, Nat.le_refl _, rfl, h1⟩
  clear h1
  generalize (removeK k nm).1 = z at *
  go_wp2
  go_ret2
  exact HP.out
end Go.Proofs.Ytgpmhflndcppeaa

/-! The law on Rename: its walk. -/
namespace Go.Proofs.Ytgpmhflndcppeaa
open Go.RowKit Go.Maps Plain
set_option linter.unusedVariables false
set_option linter.unusedSimpArgs false

theorem op1 {W w1 : World} {d : Nat} (h : Dsk W d s0 w1) : Calls Try.prog 12 #[.pointer (some ⟨d, 0, none⟩), .string ⟨#[110, 97, 109, 101]⟩] w1 fun e w2 => ∃ G, e = .returned (.int .i64 0) ∧ Dsk W d (s1 G) w2 := by
  refine (createD (s := nmA) h szA (fresh_dok _) (by omega)).mono ?_
  rintro e w2 ⟨G, _, rfl, h2⟩
  rw [t1] at h2 ⊢
  exact ⟨G, rfl, h2⟩
theorem op2 {W w1 : World} {d G : Nat} {v : Value} {o : List Nat} (h : Dsk W d (s1 G) w1) (ho : o.length ≤ 1000) (hb : BytesAt W v o) : Calls Try.prog 13 #[.pointer (some ⟨d, 0, none⟩), .string ⟨#[110, 97, 109, 101]⟩, v] w1 fun e w2 => e = .returned (.int .i64 0) ∧ Dsk W d (s2 G o) w2 := by
  have := appendD (s := nmA) h szA hb (d1 G) (u1 G) (by omega)
  rw [t2 G o ho] at this
  exact this
theorem op3 {W w1 : World} {d G : Nat} {o : List Nat} (h : Dsk W d (s2 G o) w1) (ho : o.length ≤ 1000) : Calls Try.prog 26 #[.pointer (some ⟨d, 0, none⟩), .string ⟨#[110, 97, 109, 101]⟩] w1 fun e w2 => e = .returned (.int .i64 0) ∧ Dsk W d (s3 G o) w2 := by
  have := syncD (s := nmA) h szA (d2 G o ho) (by omega)
  rw [t3] at this
  exact this
theorem op4 {W w1 : World} {d G : Nat} {o : List Nat} (h : Dsk W d (s3 G o) w1) (ho : o.length ≤ 1000) : Calls Try.prog 12 #[.pointer (some ⟨d, 0, none⟩), .string ⟨#[110, 97, 109, 101, 46, 116, 109, 112]⟩] w1 fun e w2 => ∃ H, G ≠ H ∧ e = .returned (.int .i64 0) ∧ Dsk W d (s4 G o H) w2 := by
  have hG := h.liveLt (G := G) (.inr rfl)
  refine (createD (s := nmT) h szT (d3 G o ho) (by omega)).mono ?_
  rintro e w2 ⟨H, hH, rfl, h2⟩
  rw [t4] at h2 ⊢
  exact ⟨H, by omega, rfl, h2⟩
theorem op5 {W w1 : World} {d G H : Nat} {v : Value} {o f : List Nat} (h : Dsk W d (s4 G o H) w1) (ho : o.length ≤ 1000) (hf : f.length ≤ 1000) (hne : G ≠ H) (hb : BytesAt W v f) : Calls Try.prog 13 #[.pointer (some ⟨d, 0, none⟩), .string ⟨#[110, 97, 109, 101, 46, 116, 109, 112]⟩, v] w1 fun e w2 => e = .returned (.int .i64 0) ∧ Dsk W d (s5 G o H f) w2 := by
  have := appendD (s := nmT) h szT hb (d4 G H o ho) (u4 G H o ho hne) (by omega)
  rw [t5 G H o f ho hf] at this
  exact this
theorem op6 {W w1 : World} {d G H : Nat} {o f : List Nat} (h : Dsk W d (s5 G o H f) w1) (ho : o.length ≤ 1000) (hf : f.length ≤ 1000) (hne : G ≠ H) : Calls Try.prog 26 #[.pointer (some ⟨d, 0, none⟩), .string ⟨#[110, 97, 109, 101, 46, 116, 109, 112]⟩] w1 fun e w2 => e = .returned (.int .i64 0) ∧ Dsk W d (s6 G o H f) w2 := by
  have := syncD (s := nmT) h szT (d5 G H o f ho hf hne) (by omega)
  rw [t6] at this
  exact this
theorem op7 {W w1 : World} {d G H : Nat} {o f : List Nat} (h : Dsk W d (s6 G o H f) w1) (ho : o.length ≤ 1000) (hf : f.length ≤ 1000) (hne : G ≠ H) : Calls Try.prog 27 #[.pointer (some ⟨d, 0, none⟩)] w1 fun e w2 => e = .returned (.int .i64 0) ∧ Dsk W d (s7 G o H f) w2 := by
  have := syncDirD h (d6 G H o f ho hf hne) (by omega)
  rw [t7] at this
  exact this
theorem op8 {W w1 : World} {d G H : Nat} {o f : List Nat} (h : Dsk W d (s7 G o H f) w1) (ho : o.length ≤ 1000) (hf : f.length ≤ 1000) (hne : G ≠ H) : Calls Try.prog 28 #[.pointer (some ⟨d, 0, none⟩), .string ⟨#[110, 97, 109, 101, 46, 116, 109, 112]⟩, .string ⟨#[110, 97, 109, 101]⟩] w1 fun e w2 => e = .returned (.int .i64 0) ∧ Dsk W d (s8 G o H f) w2 := by
  have := renameD (s := nmT) (t := nmA) h szT szA (d7 G H o f ho hf hne) (u7 G H o f ho hf hne) (by omega)
  rw [t8 G H o f hne] at this
  exact this
theorem op9 {W w1 : World} {d G H : Nat} {o f : List Nat} (h : Dsk W d (s8 G o H f) w1) (ho : o.length ≤ 1000) (hf : f.length ≤ 1000) (hne : G ≠ H) : Calls Try.prog 27 #[.pointer (some ⟨d, 0, none⟩)] w1 fun e w2 => e = .returned (.int .i64 0) ∧ Dsk W d (s9 G o H f) w2 := by
  have := syncDirD h (d8 G H o f ho hf hne) (by omega)
  rw [t9] at this
  exact this
theorem op10 {W w1 : World} {d G H : Nat} {o f : List Nat} (h : Dsk W d (s9 G o H f) w1) (ho : o.length ≤ 1000) (hf : f.length ≤ 1000) (hne : G ≠ H) : Calls Try.prog 14 #[.pointer (some ⟨d, 0, none⟩), .string ⟨#[110, 97, 109, 101]⟩, .int .i64 0, .int .i64 ((f.length : Int) + 1)] w1 fun e w2 => ∃ a l c, e = .returned (.tuple #[.slice a l c, .int .i64 0]) ∧ BytesAt w2 (.slice a l c) f ∧ Below w1.heap.size w1 w2 := by
  refine (readD (s := nmA) h szA (d9 G H o f ho hf hne) 0 (f.length + 1) (by omega) rfl (Nat.zero_le _)).mono ?_
  rintro e w2 ⟨a, l, c, r, rfl, hw, hb⟩
  have e1 : rdB (s9 G o H f) nmA 0 (f.length + 1) = f := by
    show ((F6 G o H f H).seen.drop 0).take (f.length + 1) = f
    rw [F6H, List.drop_zero, List.take_of_length_le (by simp)]
  rw [e1] at hw
  exact ⟨a, l, c, rfl, hw.bytes, hb⟩

/-- What an image of one file, or of two, looks like. -/
structure Pic (w : World) (a : Option Addr) (l c : Nat) (g : Nat) : Prop where
  at' : a = some ⟨g, 0, none⟩
  cap : l ≤ c
  lim : c ≤ 2 ^ 63 - 1
structure Ent (w : World) (g j : Nat) (k : Nm) (b : List Nat) (a : Option Addr) (n c : Nat) : Prop where
  name : w.cell? ⟨g, j * 2, none⟩ = some (.string (str k))
  data : w.cell? ⟨g, j * 2 + 1, none⟩ = some (.slice a n c)
  row : BytesAt w (.slice a n c) b
theorem Ent.later {w w' : World} {g j n c : Nat} {k : Nm} {b : List Nat} {a : Option Addr} (h : Ent w g j k b a n c) (hb : Below w.heap.size w w') : Ent w' g j k b a n c :=
  ⟨by rw [hb.cell (cell_lt h.name)]; exact h.name, by rw [hb.cell (cell_lt h.data)]; exact h.data, h.row.later hb⟩
theorem ImgAt.ent {w : World} {a : Option Addr} {l c base : Nat} {im : List (Nm × List Nat)} (h : ImgAt w (.slice a l c) im base) (h0 : 0 < im.length) : l = im.length ∧ ∃ g, Pic w a l c g ∧ ∀ j k b, im[j]? = some (k, b) → ∃ a' n' c', Ent w g j k b a' n' c' := by
  obtain ⟨ts, r, blk, hm⟩ := h
  have hl := hm.len
  rcases hm.row with ⟨_, rfl, _⟩ | ⟨g, cap, hr, e, hg, h1, h2, h3, h4, h5⟩
  · simp at hl; omega
  · simp only [Value.slice.injEq] at e
    obtain ⟨rfl, rfl, rfl⟩ := e
    unfold maxLen at h2
    refine ⟨hl, g, ⟨rfl, h1, by omega⟩, fun j k b hj => ?_⟩
    have hjl := (List.getElem?_eq_some_iff.mp hj).1
    obtain ⟨dv, e1, ho⟩ := hm.one j (k, b) hj
    have hrow := hm.row
    rw [hr] at hrow
    obtain ⟨c0, c1⟩ := hrow.at (j := j) (by omega)
    have e2 : ts.getD j Fi.none = ⟨str k, dv⟩ := by simp [List.getD_eq_getElem?_getD, e1]
    rw [e2] at c0 c1
    obtain ⟨a', n', c', rfl⟩ := isSliceO ho
    exact ⟨a', n', c', c0, c1, ho.bytes⟩
theorem op8c {W w1 : World} {d G H : Nat} {o f : List Nat} {a : Option Addr} {m c : Nat} {ps : List Int} (h : Dsk W d (s8 G o H f) w1) (ho : o.length ≤ 1000) (hf : f.length ≤ 1000) (hne : G ≠ H) (hp : PicksAt W (.slice a m c) ps) (hpo : PicksOff W.heap.size (.slice a m c)) :
    Calls Try.prog 7 #[.pointer (some ⟨d, 0, none⟩), .slice a m c] w1 fun e w2 => ∃ l c g, e = .returned (.slice (some ⟨g, 0, none⟩) l c) ∧ l ≤ c ∧ c ≤ 2 ^ 63 - 1 ∧ Dsk W d (s8 G o H f) w2 ∧
      ((l = 2 ∧ ∃ a1 n1 c1 a2 n2 c2, Ent w2 g 0 kA o a1 n1 c1 ∧ Ent w2 g 1 kT f a2 n2 c2) ∨ (l = 1 ∧ ∃ a1 n1 c1, Ent w2 g 0 kA f a1 n1 c1)) := by
  refine (crashD h (d8 G H o f ho hf hne) hp hpo ?_ ?_).mono ?_
  · intro p hp
    rcases crL8 G H o f ps with e | e <;> rw [e] at hp
    · simp only [List.mem_cons, List.not_mem_nil, or_false] at hp
      rcases hp with rfl | rfl
      · exact .inl (.inr rfl)
      · exact .inr rfl
    · simp only [List.mem_cons, List.not_mem_nil, or_false] at hp
      subst hp
      exact .inr rfl
  · rcases crL8 G H o f ps with e | e <;> rw [e] <;> simp
  · rintro e w2 ⟨a', l', c', rfl, hi, hd⟩
    rcases cr8 G H o f hne ps with e | e <;> rw [e] at hi
    · obtain ⟨hl, g, ⟨rfl, q1, q2⟩, he⟩ := hi.ent (by simp)
      obtain ⟨a1, n1, c1, h1⟩ := he 0 _ _ rfl
      obtain ⟨a2, n2, c2, h2⟩ := he 1 _ _ rfl
      exact ⟨l', c', g, rfl, q1, q2, hd, .inl ⟨hl, a1, n1, c1, a2, n2, c2, h1, h2⟩⟩
    · obtain ⟨hl, g, ⟨rfl, q1, q2⟩, he⟩ := hi.ent (by simp)
      obtain ⟨a1, n1, c1, h1⟩ := he 0 _ _ rfl
      exact ⟨l', c', g, rfl, q1, q2, hd, .inr ⟨hl, a1, n1, c1, h1⟩⟩
theorem op9c {W w1 : World} {d G H : Nat} {o f : List Nat} {a : Option Addr} {m c : Nat} {ps : List Int} (h : Dsk W d (s9 G o H f) w1) (ho : o.length ≤ 1000) (hf : f.length ≤ 1000) (hne : G ≠ H) (hp : PicksAt W (.slice a m c) ps) (hpo : PicksOff W.heap.size (.slice a m c)) :
    Calls Try.prog 7 #[.pointer (some ⟨d, 0, none⟩), .slice a m c] w1 fun e w2 => ∃ c g a1 n1 c1, e = .returned (.slice (some ⟨g, 0, none⟩) 1 c) ∧ 1 ≤ c ∧ c ≤ 2 ^ 63 - 1 ∧ Dsk W d (s9 G o H f) w2 ∧ Ent w2 g 0 kA f a1 n1 c1 := by
  refine (crashD h (d9 G H o f ho hf hne) hp hpo ?_ ?_).mono ?_
  · intro p hp
    rw [crL9] at hp
    simp only [List.mem_cons, List.not_mem_nil, or_false] at hp
    subst hp
    exact .inr rfl
  · rw [crL9]; simp
  · rintro e w2 ⟨a', l', c', rfl, hi, hd⟩
    rw [cr9] at hi
    obtain ⟨hl, g, ⟨rfl, q1, q2⟩, he⟩ := hi.ent (by simp)
    obtain ⟨a1, n1, c1, h1⟩ := he 0 _ _ rfl
    have hl' : l' = 1 := hl
    subst hl'
    exact ⟨c', g, a1, n1, c1, rfl, q1, q2, hd, h1⟩
theorem below_drewN' (w : World) (n : Nat) : Below w.heap.size w (w.drewN n) := ⟨rfl, rfl, rfl, Nat.le_refl _, fun _ _ => rfl⟩
theorem sameB (va vb : Value) (la lb : List Nat) (w : World) (ha : BytesAt w va la) (hb : BytesAt w vb lb) : Calls Try.prog 45 #[va, vb] w fun e w' => e = .returned (.bool (decide (la = lb))) ∧ Below w.heap.size w w' := by
  refine (sameBytes va vb la lb w ha hb).mono ?_
  rintro e w' ⟨rfl, n, rfl⟩
  exact ⟨rfl, below_drewN' w n⟩
end Go.Proofs.Ytgpmhflndcppeaa
