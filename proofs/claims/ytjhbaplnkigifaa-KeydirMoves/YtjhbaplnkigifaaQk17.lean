import Derived.Test.YtjhbaplnkigifaaQk16
import Derived.Test.YtjhbaplnkigifaaQk14
/-! keydir: the law's taken, by All. -/
namespace Go.Proofs.Ytjhbaplnkigifaa
open Go.RowKit Go.Shelf Plain
attribute [local go_sem] Oper.semAt_some
set_option linter.unusedVariables false
set_option linter.unusedSimpArgs false

/-- One call of the law's. -/
structure Mv where
  dir : Int
  kind : Int
  key : ByteArray
  hi : ByteArray
  e : En
  n : Int
def Mv.cells (m : Mv) : List Value := [.int .i64 m.dir, .int .i64 m.kind, .string m.key, .string m.hi, .int .i64 m.e.seg, .int .i64 m.e.pos, .int .i64 m.e.size, .int .i64 m.e.off, .int .i64 m.e.time, .bool m.e.tomb, .int .i64 m.n]
abbrev Mv.v (m : Mv) : Value := .agg #[.int .i64 m.dir, .int .i64 m.kind, .string m.key, .string m.hi, .int .i64 m.e.seg, .int .i64 m.e.pos, .int .i64 m.e.size, .int .i64 m.e.off, .int .i64 m.e.time, .bool m.e.tomb, .int .i64 m.n]
/-- What taken has got together. -/
structure RtI (w : World) (c : Nat) (m : Mv) (pre : List Ke) (W : World) : Prop where
  lim : W.cell? ⟨w.heap.size, 10, none⟩ = some (.int .i64 m.n)
  row : ∃ v r, W.cell? ⟨w.heap.size + 1, 0, none⟩ = some v ∧ W.frozen? ⟨w.heap.size + 1, 0, none⟩ = false ∧ OwnKr W v (pre.map Ke.r) r ∧ (r ≠ none → pre.map Ke.r ≠ []) ∧ (∀ g, r = some g → w.heap.size + c ≤ g)
  below : Below w.heap.size w W
  sz : w.heap.size + 4 ≤ W.heap.size
theorem RtI.steady {w : World} {c : Nat} {m : Mv} {pre : List Ke} {W W' : World} {row : Option Nat} (h : RtI w c m pre W) (hg : W.grownBy W' row) (hr : ∀ k, row = some k → w.heap.size ≤ k ∧ ∃ o : Obj, W.heap[k]? = some o ∧ o.isCells = false) : RtI w c m pre W' := by
  obtain ⟨h1, ⟨v, r, h2, h3, h4, h5, h6⟩, h7, h8⟩ := h
  have hr2 := fun k e => (hr k e).2
  exact ⟨cell_kept h1 hg hr2, ⟨v, r, cell_kept h2 hg hr2, (frozen_kept h2 hg hr2).trans h3, h4.steady h5 hg hr2, h5, h6⟩, h7.grown hg h7.size (fun k e => (hr k e).1), Nat.le_trans h8 hg.size⟩

set_option maxHeartbeats 4000000 in
set_option maxRecDepth 100000 in
theorem takenAll {ks : List Ke} (da : Option Addr) (p : Option Addr) (d : Nat) (m : Mv) (w : World) (ht : TreeAt (fun _ => True) w d p ks) (hs : Srt ks) (hTop : ∀ u, Below w.heap.size w u → Calls Try.prog 43 #[.pointer da] u fun e w' => e = .returned (.pointer p) ∧ w' = u) (hlo : m.key.size ≤ maxLen) (hhi : m.hi.size ≤ maxLen) (hl : ks.length ≤ 2199023255500) (hk : ¬ m.kind = 9) (hn : ¬ m.n = 0) :
    Calls Try.prog 31 #[.pointer da, m.v] w fun e w' => ∃ v r, e = .returned v ∧ KrNew w w' v (firstL (rowK (rngL m.key m.hi ks)) m.n) r := by
  obtain ⟨mdir, mkind, lo, hi, me, lim⟩ := m
  simp only at hlo hhi hk hn
  have hrl : (rngL lo hi ks).length ≤ 2199023255500 := Nat.le_trans (List.length_filter_le ..) hl
  obtain ⟨w2, hw2⟩ : ∃ w2, (w.alloc (.cells #[.int .i64 mdir, .int .i64 mkind, .string lo, .string hi, .int .i64 me.seg, .int .i64 me.pos, .int .i64 me.size, .int .i64 me.off, .int .i64 me.time, .bool me.tomb, .int .i64 lim] 40)).alloc (.cells #[.slice none 0 0] 43) = w2 := ⟨_, rfl⟩
  have hs2 : w2.heap.size = w.heap.size + 2 := by rw [← hw2]; simp
  have hb2 : Below w.heap.size w w2 := by rw [← hw2]; exact ((Below.refl _ _).alloc (Nat.le_refl _) _).alloc (by simp) _
  obtain ⟨m0, hm0⟩ : ∃ m0, w.alloc (.cells #[.int .i64 mdir, .int .i64 mkind, .string lo, .string hi, .int .i64 me.seg, .int .i64 me.pos, .int .i64 me.size, .int .i64 me.off, .int .i64 me.time, .bool me.tomb, .int .i64 lim] 40) = m0 := ⟨_, rfl⟩
  have hq : m0.heap.size = w.heap.size + 1 := by rw [← hm0]; simp
  have hw2' : m0.alloc (.cells #[.slice none 0 0] 43) = w2 := by rw [← hm0]; exact hw2
  have hmc : ∀ j u, (#[.int .i64 mdir, .int .i64 mkind, .string lo, .string hi, .int .i64 me.seg, .int .i64 me.pos, .int .i64 me.size, .int .i64 me.off, .int .i64 me.time, .bool me.tomb, .int .i64 lim] : Array Value)[j]? = some u → w2.cell? ⟨w.heap.size, j, none⟩ = some u := fun j u hj => by
    rw [← hw2']
    have h1 : m0.cell? ⟨w.heap.size, j, none⟩ = some u := by rw [← hm0, World.cell?_alloc_at _ _ _ _ rfl]; exact hj
    exact cell_kept h1 (World.grownBy_alloc _ _ none) (fun r e => by cases e)
  have k1 := hmc 1 _ rfl
  have k2 := hmc 2 _ rfl
  have k3 := hmc 3 _ rfl
  have k10 := hmc 10 _ rfl
  have hv2 : w2.cell? ⟨w.heap.size + 1, 0, none⟩ = some (.slice none 0 0) := by rw [← hw2', ← hq]; exact World.cell?_alloc_at _ _ _ _ rfl
  have hf2 : w2.frozen? ⟨w.heap.size + 1, 0, none⟩ = false := by rw [← hw2', ← hq]; exact World.frozen?_alloc_at _ _ _ _ rfl
  obtain ⟨w0, hw0⟩ : ∃ w0, ((w2.alloc (.cells #[.pointer da] 23)).alloc (.cells #[.string lo] 9)).alloc (.cells #[.string hi] 9) = w0 := ⟨_, rfl⟩
  have hs0 : w0.heap.size = w.heap.size + 5 := by rw [← hw0]; simp; omega
  have hb02 : Below w2.heap.size w2 w0 := by rw [← hw0]; exact (((Below.refl _ _).alloc (Nat.le_refl _) _).alloc (by simp) _).alloc (by simp; omega) _
  have hb0 : Below w.heap.size w w0 := hb2.trans (hb02.mono hb2.size)
  have hcap : CapAt w0 (w.heap.size + 2) (.pointer da) lo hi := by
    rw [← hw0, ← hs2]
    have e1 : (w2.alloc (.cells #[.pointer da] 23)).heap.size = w2.heap.size + 1 := by simp
    have e2 : ((w2.alloc (.cells #[.pointer da] 23)).alloc (.cells #[.string lo] 9)).heap.size = w2.heap.size + 2 := by simp
    have k1 : (w2.alloc (.cells #[.pointer da] 23)).cell? ⟨w2.heap.size, 0, none⟩ = some (.pointer da) := World.cell?_alloc_at _ _ _ _ rfl
    have k2 : ((w2.alloc (.cells #[.pointer da] 23)).alloc (.cells #[.string lo] 9)).cell? ⟨w2.heap.size + 1, 0, none⟩ = some (.string lo) := by rw [← e1]; exact World.cell?_alloc_at _ _ _ _ rfl
    refine ⟨?_, ?_, ?_⟩
    · exact cell_kept (cell_kept k1 (World.grownBy_alloc _ _ none) (fun r e => by cases e)) (World.grownBy_alloc _ _ none) (fun r e => by cases e)
    · exact cell_kept k2 (World.grownBy_alloc _ _ none) (fun r e => by cases e)
    · rw [← e2]; exact World.cell?_alloc_at _ _ _ _ rfl
  have hseq := allStops da (5 - 1) p lo hi hlo hhi w.heap.size (w.heap.size + 2) d ks w0 (by omega) (by omega) hcap
    (fun u hu => hTop u (hb0.trans (hu.mono (by omega)))) ((TreeAt.tight (fun g _ hg => hg) ht).later hb0) hs
  have HI0 : RtI w 5 ⟨mdir, mkind, lo, hi, me, lim⟩ [] w0 := ⟨(hb02.cell (p := ⟨w.heap.size, 10, none⟩) (by show w.heap.size < _; omega)).trans k10, ⟨.slice none 0 0, none, (hb02.cell (p := ⟨w.heap.size + 1, 0, none⟩) (by show w.heap.size + 1 < _; omega)).trans hv2, (hb02.frozen (p := ⟨w.heap.size + 1, 0, none⟩) (by show w.heap.size + 1 < _; omega)).trans hf2, OwnKr.nil _, fun h => absurd rfl h, fun g e => by cases e⟩, hb0, by omega⟩
  have hkb : (mkind == 9) = false := by simpa using hk
  have hnb : (lim == 0) = false := by simpa using hn
  clear hmc hw2' hm0 hq
  refine (callsIn_wide (n := 5)).1 ?_
  refine callsIn_of_wp_marks Try.func31 rfl trivial ?_ rfl
  simp only [Try.ntmps31, List.size_toArray, List.length_cons, List.length_nil, Nat.reduceAdd, Nat.reduceSub, Array.replicate_succ, Array.replicate_zero, List.push_toArray, List.append_toArray, List.nil_append, List.cons_append]
  gi_wp2_with fail
  refine ⟨trivial, (allIn 4 _ _ _ _).mono ?_⟩
  rintro e wx ⟨rfl, hwx⟩
  rw [hw0] at hwx
  subst hwx
  rw [hs2] at *
  gi_wp2_with fail
  have hFin : ∀ (D : Nat) (pre : List Ke) (W : World), RtI w 5 ⟨mdir, mkind, lo, hi, me, lim⟩ pre W → wx.heap.size ≤ D → W.heap[D]? = some (.deferred (some [])) → RtI w 5 ⟨mdir, mkind, lo, hi, me, lim⟩ pre (W.putObj D (.deferred none)) := fun D pre W h hD hK => h.steady (grownBy_putObj' W D _) (fun k e => by cases e; exact ⟨by omega, _, hK, rfl⟩)
  refine wpIn_rangeFunc_ownH rfl (by omega) (gf := 56) (lb := #[.pointer (some ⟨w.heap.size + 2, 0, none⟩), .pointer (some ⟨w.heap.size + 2 + 1, 0, none⟩), .pointer (some ⟨w.heap.size + 2 + 2, 0, none⟩)]) rfl trivial (enters_of Try.func56 (by kernel_rfl) rfl) hseq belowK_t (belowK_b (by omega)) (Below.refl _ _) (fun _ => rfl)
    (fun pre W => RtI w 5 ⟨mdir, mkind, lo, hi, me, lim⟩ pre W ∧ (lim < 0 ∨ (pre.length : Int) < lim))
    (fun c xs W => c = .exit 2 ∧ RtI w 5 ⟨mdir, mkind, lo, hi, me, lim⟩ xs W ∧ (xs.length : Int) = lim)
    (fun s W W' row ⟨h1, h2⟩ hg hr => ⟨h1.steady hg (fun k e => ⟨by have := (hr k e).1; omega, (hr k e).2⟩), h2⟩)
    (fun c s W W' row ⟨h0, h2, h3⟩ hg hr => ⟨h0, h2.steady hg (fun k e => ⟨by have := (hr k e).1; omega, (hr k e).2⟩), h3⟩)
    ⟨HI0, by simp; omega⟩
    (fun x a' W => ∃ Bx, EnAt W Bx x.e ∧ a' = { tmps := #[.pointer da, Mv.v ⟨mdir, mkind, lo, hi, me, lim⟩, undef, .pointer (some ⟨w.heap.size, 0, none⟩), .slice none 0 0, .pointer (some ⟨w.heap.size + 1, 0, none⟩), undef, undef, .string x.key, .pointer (some ⟨Bx, 0, none⟩), .pointer (some ⟨w.heap.size, 10, none⟩), .int .i64 lim, .bool false, undef, .pointer (some ⟨w.heap.size, 1, none⟩), .int .i64 mkind, .bool false, undef, undef, undef, undef, undef, undef, undef, undef, undef, undef, undef, undef, undef, undef, undef, undef, undef, undef, .pointer da, .pointer (some ⟨w.heap.size, 2, none⟩), .string lo, .pointer (some ⟨w.heap.size, 3, none⟩), .string hi, .func (.func 56) #[] #[.pointer (some ⟨w.heap.size + 2, 0, none⟩), .pointer (some ⟨w.heap.size + 2 + 1, 0, none⟩), .pointer (some ⟨w.heap.size + 2 + 2, 0, none⟩)], .string x.key, x.e.v, undef, undef, undef, undef, undef, undef, undef, undef, undef, undef, undef, undef], defers := [] })
    (fun x a' s W W' row ⟨Bx, ⟨k0, k1, k2, k3, k4, k5⟩, h2⟩ hg hr => ⟨Bx, ⟨cell_kept k0 hg (fun k e => (hr k e).2), cell_kept k1 hg (fun k e => (hr k e).2), cell_kept k2 hg (fun k e => (hr k e).2), cell_kept k3 hg (fun k e => (hr k e).2), cell_kept k4 hg (fun k e => (hr k e).2), cell_kept k5 hg (fun k e => (hr k e).2)⟩, h2⟩)
    ?assign ?body ?done ?stop
  case assign =>
    intro l pre x W K hIh hK
    obtain ⟨hI, hpl⟩ := hIh
    have hsz := hI.below.size
    gi_wp2
    exact hK _ _ ((KeepsOthers.alloc _ _).from _) ((Below.refl _ W).alloc hsz _) ⟨hI.steady (World.grownBy_alloc W _ none) (fun k e => by cases e), hpl⟩ ⟨W.heap.size, EnAt.new W x.e, rfl⟩
  case body =>
    rintro l pre x a' W hl0 ⟨rc, hrc⟩ ⟨hI, hpl⟩ ⟨Bx, hen, rfl⟩ hN
    have hIc := hI
    obtain ⟨hlim, ⟨v, r, hv, hvf, hown, hr5, hr6⟩, hbw, hsz⟩ := hI
    obtain ⟨k0, k1, k2, k3, k4, k5⟩ := hen
    obtain ⟨a, cap, rfl, hcap, hle⟩ := hown.shape
    rw [List.length_map] at *
    gi_wp2_with (gi_at_builtin; refine wpListIn_append_k _ rfl _ _ rfl _ _ (pre.map Ke.r) [x.r] r rfl rfl ?hOwn ?hSrc ?hLen ?hR ?_)
    case hOwn => exact hown.later ((Below.refl _ W).alloc (Nat.le_refl _) _)
    case hSrc => exact src_kr W x
    case hLen => omega
    intro v1 w1 g1 ho1 hg1 hgr1
    obtain ⟨a1, cap1, rfl, hcap1, hle1⟩ := ho1.shape
    have hlen1 : (pre.map Ke.r ++ [x.r]).length = pre.length + 1 := by simp
    rw [hlen1] at ho1 hle1 ⊢
    have hnb : ∀ j, j < w.heap.size + 2 → w1.heap[j]? = W.heap[j]? := fun j hj => (hg1.block j (by simp; omega) (fun e => by have := hr6 j e.symm; omega)).trans (Below.heap_alloc W _ j (by omega))
    have hv1 : w1.cell? ⟨w.heap.size + 1, 0, none⟩ = some (.slice a pre.length cap) := (World.cell?_of_block (w := W) (a := ⟨w.heap.size + 1, 0, none⟩) (hnb (w.heap.size + 1) (by omega))).trans hv
    have hvf1 : w1.frozen? ⟨w.heap.size + 1, 0, none⟩ = false := (World.frozen?_of_block (w := W) (a := ⟨w.heap.size + 1, 0, none⟩) (hnb (w.heap.size + 1) (by omega))).trans hvf
    have hs1 := hg1.size
    simp only [World.size_alloc] at hs1
    have hg1l : w.heap.size + 5 ≤ g1 := by
      rcases hgr1 with e | e
      · exact hr6 g1 e.symm
      · first | (simp at e; omega) | omega
    have hKO : KeepsOthers W w1 := (KeepsOthers.alloc W _).trans ((hown.later ((Below.refl _ W).alloc (Nat.le_refl _) _)).others hr5 hg1)
    have hBW : Below w.heap.size W w1 := ((Below.refl _ W).alloc (by omega) _).grown hg1 (by simp; omega) (fun k e => by have := hr6 k e; omega)
    have gS := grow_setC w1 (w.heap.size + 1) 0 (.slice a1 (pre.length + 1) cap1)
    obtain ⟨w5, hw5⟩ : ∃ w5, w1.setCell ⟨w.heap.size + 1, 0, none⟩ (.slice a1 (pre.length + 1) cap1) = w5 := ⟨_, rfl⟩
    have hlim5 : w5.cell? ⟨w.heap.size, 10, none⟩ = some (.int .i64 lim) := by
      rw [← hw5, World.cell?_of_block (w := w1) (a := ⟨w.heap.size, 10, none⟩) (gS.block w.heap.size (by omega) (fun e => by simp at e)), World.cell?_of_block (w := W) (a := ⟨w.heap.size, 10, none⟩) (hnb w.heap.size (by omega))]
      exact hlim
    have hv5 : w5.cell? ⟨w.heap.size + 1, 0, none⟩ = some (.slice a1 (pre.length + 1) cap1) := by
      rw [← hw5]
      exact World.cell?_setCell_same' _ _ _ (by rw [hv1]; rfl)
    have HE : Hid (KeepsFrom wx.heap.size W w5 ∧ Below w.heap.size W w5 ∧ RtI w 5 ⟨mdir, mkind, lo, hi, me, lim⟩ (pre ++ [x]) w5) := by
      unfold Hid
      rw [← hw5]
      refine ⟨(hKO.trans (KeepsOthers.setCell _ _ _)).from _, hBW.setCell (p := ⟨w.heap.size + 1, 0, none⟩) (by show w.heap.size ≤ w.heap.size + 1; omega) _, ⟨?_, ⟨_, some g1, World.cell?_setCell_same' _ _ _ (by rw [hv1]; rfl), by rw [World.frozen?_setCell]; exact hvf1, ?_, fun _ => by simp, fun g e => by cases e; exact hg1l⟩, ?_, ?_⟩⟩
      · rw [hw5]; exact hlim5
      · have h2 := ho1.kept gS (.inr (fun e => by cases e; omega))
        rw [List.map_append]
        exact h2
      · exact (hbw.trans hBW).setCell (p := ⟨w.heap.size + 1, 0, none⟩) (by show w.heap.size ≤ w.heap.size + 1; omega) _
      · exact Nat.le_trans (by omega) gS.size
    clear hKO hBW gS hnb ho1 hg1 hgr1
    by_cases hend : ((pre.length + 1 : Nat) : Int) = lim
    · have HQ : Hid (((pre ++ [x]).length : Int) = lim) := by unfold Hid; rw [List.length_append, List.length_singleton]; exact hend
      have hbb : ((pre.length : Int) + 1 == lim) = true := by simp; omega
      gi_wp2
      exact ⟨HE.out.1, rfl, HE.out.2.2, HQ.out⟩
    · have HQ : Hid (lim < 0 ∨ ((pre ++ [x]).length : Int) < lim) := by unfold Hid; rw [List.length_append, List.length_singleton]; omega
      have hbb : ((pre.length : Int) + 1 == lim) = false := by simp; omega
      gi_wp2
      exact ⟨HE.out.1, HE.out.2.1, HE.out.2.2, HQ.out⟩
  case done =>
    rintro D ys W hD rfl ⟨hI, hpl⟩ hK
    have hF := hFin D _ W hI hD hK
    obtain ⟨v, r, hv, hvf, hown, hr5, hr6⟩ := hI.row
    have hv' := cell_kept hv (grownBy_putObj' W D (.deferred none)) (fun k e => by cases e; exact ⟨_, hK, rfl⟩)
    obtain ⟨v2, r2, hv2', -, hown2, -, hr62⟩ := hF.row
    rw [hv'] at hv2'
    cases hv2'
    have hfl : firstL (rowK (rngL lo hi ks)) lim = rowK (rngL lo hi ks) := by
      unfold firstL
      rw [if_neg (by simp; omega)]
    gi_wp2
    refine ⟨by simp, .inl ⟨_, _, rfl, run_takeDeferred hK, ?_⟩⟩
    exact ⟨_, results_tmp rfl _ _ _, v, r2, rfl, by rw [hfl]; exact hown2, fun g e => by have := hr62 g e; omega, hF.below⟩
  case stop =>
    rintro D c pre W hD hpre ⟨rfl, hI, hpl⟩ hK
    have hF := hFin D _ W hI hD hK
    obtain ⟨v, r, hv, hvf, hown, hr5, hr6⟩ := hI.row
    have hv' := cell_kept hv (grownBy_putObj' W D (.deferred none)) (fun k e => by cases e; exact ⟨_, hK, rfl⟩)
    obtain ⟨v2, r2, hv2', -, hown2, -, hr62⟩ := hF.row
    rw [hv'] at hv2'
    cases hv2'
    have hfl : firstL (rowK (rngL lo hi ks)) lim = rowK pre := by
      obtain ⟨t, ht⟩ := hpre
      unfold firstL
      rw [← ht, ← hpl]
      by_cases hc : 0 ≤ (pre.length : Int) ∧ (pre.length : Int) < ((rowK (pre ++ t)).length : Int)
      · rw [if_pos hc]
        simp [rowK]
      · rw [if_neg hc]
        have : t = [] := by
          cases t with
          | nil => rfl
          | cons y ys => exact absurd ⟨by omega, by simp; omega⟩ hc
        rw [this, List.append_nil]
    gi_wp2
    refine ⟨by simp, .inl ⟨_, _, rfl, run_takeDeferred hK, ?_⟩⟩
    exact ⟨_, results_tmp rfl _ _ _, v, r2, rfl, by rw [hfl]; exact hown2, fun g e => by have := hr62 g e; omega, hF.below⟩
end Go.Proofs.Ytjhbaplnkigifaa

/-! keydir: a loop over Prefix that may be broken off. -/
namespace Go.Proofs.Ytjhbaplnkigifaa
open Go.RowKit Go.Shelf Plain
attribute [local go_sem] Oper.semAt_some
set_option linter.unusedVariables false
set_option linter.unusedSimpArgs false

/-- What a round keeps: all below n₀; all that is no cells from n₁ on; and the block n₁. -/
structure KpC (n₀ n₁ : Nat) (A B : World) : Prop where
  low : Below n₀ A B
  others : KeepsFrom n₁ A B
  one : n₁ < A.heap.size → B.heap[n₁]? = A.heap[n₁]?
theorem KpC.trans {n₀ n₁ : Nat} {A B C : World} (h : KpC n₀ n₁ A B) (k : KpC n₀ n₁ B C) : KpC n₀ n₁ A C :=
  ⟨h.low.trans k.low, h.others.trans k.others, fun hl => (k.one (Nat.lt_of_lt_of_le hl h.low.size)).trans (h.one hl)⟩
theorem KpC.put {n₀ n₁ : Nat} (W : World) {l : Nat} (o : Obj) (h0 : n₀ ≤ l) (h1 : l < n₁) (hl : l < W.heap.size) : KpC n₀ n₁ W (W.putObj l o) :=
  ⟨(Below.refl n₀ W).grown (grownBy_putObj' W l o) (by omega) (fun k e => by cases e; exact h0), KeepsFrom.of_grownBy (grownBy_putObj' W l o) (fun j e => by cases e; exact h1), fun _ => World.putObj_heap_other (by omega)⟩
theorem keepsFrom_put {n₁ : Nat} (W : World) {l : Nat} (o : Obj) (h1 : l < n₁) : KeepsFrom n₁ W (W.putObj l o) := KeepsFrom.of_grownBy (grownBy_putObj' W l o) (fun j e => by cases e; exact h1)
theorem keepsUp {B B' : Nat} {W W' : World} (h : KeepsFrom B W W') (hb : B ≤ B') : KeepsFrom B' W W' := ⟨h.size, fun k o hk => h.same k o (Nat.le_trans hb hk)⟩

/-- An iterator that gives the keys L, to rounds of which each keeps all that lay below n₀ and what the iterator itself has made. -/
def SeqOwnC (n₀ n gf : Nat) (lb : Array Value) (L : List Ke) (w : World) : Prop :=
  ∀ (l : Nat) (J Jx : List Ke → World → Prop) (W : World), Below w.heap.size w W → OwnFrom W.heap.size J → OwnFrom W.heap.size Jx →
    (∀ pre x W1, J pre W1 → W.heap.size < W1.heap.size → pre.length < L.length → YieldAt Fence.wide (n - 1) Try.prog l (kencs x) W1 fun e W' => (e = .returned (.bool true) ∧ KpC n₀ W.heap.size W1 W' ∧ J (pre ++ [x]) W') ∨ (e = .returned (.bool false) ∧ KeepsFrom W.heap.size W1 W' ∧ Jx (pre ++ [x]) W')) →
    J [] W → CallsIn Fence.wide n Try.prog gf (#[.func (.yield l) #[] #[]] ++ lb) W fun e W' => (∃ v, e = .returned v) ∧ (J L W' ∨ ∃ pre, pre <+: L ∧ Jx pre W')

/-- How a round is left. -/
def postOwnB (X n₀ B : Nat) (I Ix : List Ke → World → Prop) (xs : List Ke) (W : World) : Exit → Act → World → Prop
  | .normal, _, W' => KeepsFrom B W W' ∧ KpC n₀ (B + 2) W W' ∧ I xs W'
  | .exit id, _, W' => id = X ∧ KeepsFrom B W W' ∧ Ix xs W'
  | _, _, _ => False

/-- A loop over such an iterator, whose rounds may break it off. -/
theorem rangeOwnB (X : Nat) {n n₀ : Nat} {g : Operand} {ps : Array Tmp} {assign body : Code} {Q : Exit → Act → World → Prop} {a : Act} {w : World} {gf : Nat} {lb : Array Value} {L : List Ke}
    (hg : a.eval g = .func (.func gf) #[] lb) (eg : ∀ args w, (callFunc gf args).run Try.prog w = .ok (.enter gf args) w) (hn₀ : n₀ ≤ w.heap.size) (hseq : SeqOwnC n₀ (n - 1) gf lb L w) (hps : ps.size = 2)
    (I Ix : List Ke → World → Prop) (hI : OwnFrom w.heap.size I) (hIx : OwnFrom w.heap.size Ix) (h0 : I [] w) (Ax : Ke → Act → World → Prop) (hAx : ∀ x a', OwnFrom w.heap.size (fun (_ : Unit) W => Ax x a' W))
    (hassign : ∀ (l : Nat) (pre : List Ke) (x : Ke) (W : World) (K : Act → World → Prop), w.heap.size + 2 < W.heap.size → I pre W → (∀ a' W', KeepsFrom w.heap.size W W' → KpC n₀ (w.heap.size + 2) W W' → I pre W' → Ax x a' W' → K a' W') →
      assign.wpIn (Fence.wide.inRound l) (n - 1 - 1) Try.prog (Exit.then K (fun _ _ _ => False)) { tmps := (ps.zip (kencs x)).foldl (fun t (p, v) => t.setIfInBounds p v) a.tmps, defers := [] } W)
    (hbody : ∀ (l : Nat) (pre : List Ke) (x : Ke) (a' : Act) (W : World), w.heap.size + 2 < W.heap.size → pre.length < L.length → I pre W → Ax x a' W → body.wpIn (Fence.wide.inRound l) (n - 1 - 1) Try.prog (postOwnB X n₀ w.heap.size I Ix (pre ++ [x]) W) a' W)
    (hdone : ∀ (D : Nat) (W : World), w.heap.size ≤ D → I L W → W.heap[D]? = some (.deferred (some [])) → Q .normal { a with defers := { target := .collected D, args := #[] } :: a.defers } W)
    (hstop : ∀ (D : Nat) (pre : List Ke) (W : World), w.heap.size ≤ D → pre <+: L → Ix pre W → W.heap[D]? = some (.deferred (some [])) → (Code.exit X).wpIn Fence.wide n Try.prog Q { a with defers := { target := .collected D, args := #[] } :: a.defers } W) : (Code.rangeFunc g ps assign body).wpIn Fence.wide n Try.prog Q a w := by
  refine wpIn_rangeFunc fun fn hfn => ?_
  obtain ⟨mk, hmk⟩ : ∃ mk : LoopState → Option Code → Obj, mk = fun st pe => .loop { state := st, pending := pe, fn, tmps := a.tmps, params := ps, assign, body, defers := w.heap.size } := ⟨_, rfl⟩
  have hmc : ∀ st pe, (mk st pe).isCells = false := fun st pe => by rw [hmk]; rfl
  obtain ⟨w1, hw1⟩ : ∃ w1, (w.alloc (.deferred (some []))).alloc (mk .ready none) = w1 := ⟨_, rfl⟩
  have hs1 : w1.heap.size = w.heap.size + 2 := by rw [← hw1]; simp
  have hr1 : w1.heap[w.heap.size + 1]? = some (mk .ready none) := by
    rw [← hw1]
    have := World.alloc_heap_new (w.alloc (.deferred (some []))) (mk .ready none)
    rwa [World.size_alloc] at this
  have hd1 : w1.heap[w.heap.size]? = some (.deferred (some [])) := by
    rw [← hw1]
    exact (Below.heap_alloc _ _ _ (by simp)).trans (World.alloc_heap_new w _)
  have hb1 : Below w.heap.size w w1 := by rw [← hw1]; exact ((Below.refl _ _).alloc (Nat.le_refl _) _).alloc (by simp) _
  have hI1 : I [] w1 := by rw [← hw1]; exact own_alloc2 hI h0 _ _
  have hkeep : ∀ {A B : World} {row : Option Nat} {k : Nat} {o : Obj}, A.grownBy B row → (∀ r, row = some r → w1.heap.size ≤ r ∧ ∃ o : Obj, A.heap[r]? = some o ∧ o.isCells = false) → k < w1.heap.size → A.heap[k]? = some o → B.heap[k]? = some o := fun hgr hrow hk ho =>
    (hgr.block _ (Array.getElem?_eq_some_iff.1 ho).1 (fun e => by have := (hrow _ e.symm).1; omega)).trans ho
  have hup : ∀ {row : Option Nat} {A : World}, (∀ r, row = some r → w1.heap.size ≤ r ∧ ∃ o : Obj, A.heap[r]? = some o ∧ o.isCells = false) → ∀ r, row = some r → w.heap.size ≤ r ∧ ∃ o : Obj, A.heap[r]? = some o ∧ o.isCells = false := fun hrow r e => ⟨by have := (hrow r e).1; omega, (hrow r e).2⟩
  refine ⟨w.heap.size + 1, [{ target := .collected w.heap.size, args := #[] }], w1, { target := .fn (.func gf) lb, args := #[.func (.yield (w.heap.size + 1)) #[] #[]] }, w1, gf, #[.func (.yield (w.heap.size + 1)) #[] #[]] ++ lb, w1, ?_, ?_, ?_, ?_, ?_, ?_⟩
  · have := run_enterLoop_outer (P := Try.prog) (w := w) fn a.tmps ps assign body
    rw [← hw1, hmk]
    exact this
  · simp only [resolve, hg]
    simp [go_sem]
  · exact fun f' _ => trivial
  · simp [invoke, go_sem, eg]
  · exact fun h => by cases h
  · refine (hseq (w.heap.size + 1) (fun pre W => I pre W ∧ W.heap[w.heap.size + 1]? = some (mk .ready none) ∧ W.heap[w.heap.size]? = some (.deferred (some [])))
      (fun pre W => Ix pre W ∧ W.heap[w.heap.size + 1]? = some (mk .done (some (.exit X))) ∧ W.heap[w.heap.size]? = some (.deferred (some []))) w1 hb1 (fun s A B row hs hgr hrow => ⟨hI s A B row hs.1 hgr (hup hrow), hkeep hgr hrow (by omega) hs.2.1, hkeep hgr hrow (by omega) hs.2.2⟩) (fun s A B row hs hgr hrow => ⟨hIx s A B row hs.1 hgr (hup hrow), hkeep hgr hrow (by omega) hs.2.1, hkeep hgr hrow (by omega) hs.2.2⟩) ?_ ⟨hI1, hr1, hd1⟩).mono ?_
    · rintro pre x W ⟨hi, hr, hd⟩ hW1 hpL
      have hlt : w.heap.size + 1 < W.heap.size := (Array.getElem?_eq_some_iff.1 hr).1
      have hy : (Instr.yield (w.heap.size + 1) (kencs x)).run Try.prog W = .ok (.round (w.heap.size + 1) fn ((ps.zip (kencs x)).foldl (fun t (p, v) => t.setIfInBounds p v) a.tmps) assign body) W := by
        rw [hmk] at hr
        exact run_yield hr (by rw [hps]; rfl)
      refine ⟨fn, _, assign, body, hy, roundIn_of_wpIn hfn (hassign _ pre x W _ (by omega) hi ?_)⟩
      clear hy
      intro a' Wa hka hpa hia hax
      have hra : Wa.heap[w.heap.size + 1]? = some (mk .ready none) := hka.same _ _ (by omega) hr (hmc _ _)
      have hda := hka.same _ _ (Nat.le_refl _) hd rfl
      have hla : w.heap.size + 1 < Wa.heap.size := (Array.getElem?_eq_some_iff.1 hra).1
      obtain ⟨Wb, hWb⟩ : ∃ Wb, Wa.putObj (w.heap.size + 1) (mk .busy none) = Wb := ⟨_, rfl⟩
      have hrb : Wb.heap[w.heap.size + 1]? = some (mk .busy none) := by rw [← hWb]; exact World.putObj_heap_same hla
      have hdb : Wb.heap[w.heap.size]? = some (.deferred (some [])) := by rw [← hWb]; exact (World.putObj_heap_other (by omega)).trans hda
      have hpb : KpC n₀ (w.heap.size + 2) Wa Wb := by rw [← hWb]; exact KpC.put Wa _ (by omega) (by omega) hla
      have hsa := hka.size
      have hsb := hpb.low.size
      have hib : I pre Wb := by rw [← hWb]; exact hI.putObj _ hia (by omega) hra (hmc _ _)
      have hxb : Ax x a' Wb := by rw [← hWb]; exact (hAx x a').putObj (s := ()) _ hax (by omega) hra (hmc _ _)
      have hbe : (Instr.beginRound (w.heap.size + 1)).run Try.prog Wa = .ok () Wb := by
        rw [hmk] at hra
        have := run_beginRound (P := Try.prog) hra rfl
        rw [this, ← hWb, hmk]
      refine ⟨Wb, hbe, wpIn_mono (hbody _ pre x a' Wb (by omega) hpL hib hxb) ?_⟩
      have hfin : ∀ (jump : Option Code) (Wc : World), KeepsFrom w.heap.size Wb Wc → ∃ We, (Instr.endRound (w.heap.size + 1) jump).run Try.prog Wc = .ok (.bool jump.isNone) We ∧ We = Wc.putObj (w.heap.size + 1) (mk (if jump.isNone then .ready else .done) jump) ∧ Wc.heap[w.heap.size + 1]? = some (mk .busy none) ∧ We.heap[w.heap.size + 1]? = some (mk (if jump.isNone then .ready else .done) jump) ∧ We.heap[w.heap.size]? = some (.deferred (some [])) := fun jump Wc hkc => by
        have hrc := hkc.same _ _ (by omega) hrb (hmc _ _)
        have hdc := hkc.same _ _ (Nat.le_refl _) hdb rfl
        have hlc := (Array.getElem?_eq_some_iff.1 hrc).1
        refine ⟨_, ?_, rfl, hrc, World.putObj_heap_same hlc, (World.putObj_heap_other (by omega)).trans hdc⟩
        have hrc' := hrc
        rw [hmk] at hrc'
        rw [run_endRound (P := Try.prog) jump hrc', hmk]
      rintro e a3 Wc hp
      cases e with
      | normal =>
        obtain ⟨hkc, hpc, hic⟩ := hp
        obtain ⟨We, he, rfl, hrc, hre, hde⟩ := hfin none Wc hkc
        have hpe : KpC n₀ w1.heap.size W (Wc.putObj (w.heap.size + 1) (mk (if (none : Option Code).isNone then .ready else .done) none)) := by
          rw [hs1]
          exact hpa.trans (hpb.trans (hpc.trans (KpC.put Wc _ (by omega) (by omega) (Array.getElem?_eq_some_iff.1 hrc).1)))
        exact ⟨_, _, he, .inl ⟨rfl, hpe, hI.putObj _ hic (by omega) hrc (hmc _ _), hre, hde⟩⟩
      | ret => exact hp.elim
      | exit id =>
        obtain ⟨rfl, hkc, hic⟩ := hp
        obtain ⟨We, he, rfl, hrc, hre, hde⟩ := hfin (some (.exit id)) Wc hkc
        have hpe : KeepsFrom w1.heap.size W (Wc.putObj (w.heap.size + 1) (mk (if (some (Code.exit id)).isNone then .ready else .done) (some (.exit id)))) := by
          rw [hs1]
          exact (keepsUp hka (by omega)).trans (hpb.others.trans ((keepsUp hkc (by omega)).trans (keepsFrom_put Wc _ (by omega))))
        exact ⟨_, _, he, .inr ⟨rfl, hpe, hIx.putObj _ hic (by omega) hrc (hmc _ _), hre, hde⟩⟩
      | goto t => exact hp.elim
      | panic ch => exact hp.elim
      | outgrown => exact hp.elim
    · rintro e W2 ⟨⟨v, rfl⟩, (⟨hi, hr, hd⟩ | ⟨pre, hpre, hx, hr, hd⟩)⟩
      · refine ⟨none, W2.putObj (w.heap.size + 1) (mk .exhausted none), ?_, hdone _ _ (Nat.le_refl _) (hI.putObj _ hi (by omega) hr (hmc _ _)) ((World.putObj_heap_other (by omega)).trans hd)⟩
        rw [hmk] at hr
        rw [run_endLoop (P := Try.prog) hr (by simp), hmk]
      · refine ⟨some (.exit X), W2.putObj (w.heap.size + 1) (mk .exhausted (some (.exit X))), ?_, hstop _ pre _ (Nat.le_refl _) hpre (hIx.putObj _ hx (by omega) hr (hmc _ _)) ((World.putObj_heap_other (by omega)).trans hd)⟩
        rw [hmk] at hr
        rw [run_endLoop (P := Try.prog) hr (by simp), hmk]
set_option maxRecDepth 100000 in
set_option maxHeartbeats 8000000 in
theorem prefix1C {da q : Option Addr} (n n₀ d B l : Nat) (hn : 1 ≤ n) (p : ByteArray) (hp : p.size ≤ maxLen) (ks : List Ke) (J Jx : List Ke → World → Prop) (W : World) (hJ : OwnFrom W.heap.size J) (hJx : OwnFrom W.heap.size Jx)
    (hY : ∀ pre x W1, J pre W1 → W.heap.size < W1.heap.size → pre.length < (rngL p (aftS p) ks).length → YieldAt Fence.wide (n - 1) Try.prog l (kencs x) W1 fun e W' => (e = .returned (.bool true) ∧ KpC n₀ W.heap.size W1 W' ∧ J (pre ++ [x]) W') ∨ (e = .returned (.bool false) ∧ KeepsFrom W.heap.size W1 W' ∧ Jx (pre ++ [x]) W'))
    (hn₀ : n₀ ≤ W.heap.size) (hcd : W.cell? ⟨B, 0, none⟩ = some (.pointer da)) (hcp : W.cell? ⟨B + 1, 0, none⟩ = some (.string p)) (hTop : ∀ u, Below n₀ W u → Calls Try.prog 43 #[.pointer da] u fun e w' => e = .returned (.pointer q) ∧ w' = u) (hT : TreeAt (fun g => g < n₀) W d q ks) (hs : Srt ks) (h0 : J [] W) :
    CallsIn Fence.wide n Try.prog 58 #[.func (.yield l) #[] #[], .pointer (some ⟨B + 1, 0, none⟩), .pointer (some ⟨B, 0, none⟩)] W fun e W' => (∃ v, e = .returned v) ∧ (J (rngL p (aftS p) ks) W' ∨ ∃ pre, pre <+: rngL p (aftS p) ks ∧ Jx pre W') := by
  have hdd : ∀ k : Nat, (Fence.wide.depth.isSome = true → 1 ≤ k) := fun k h => by cases h
  obtain ⟨W0, hw0⟩ : ∃ W0, W.alloc (.cells #[.func (.yield l) #[] #[]] 89) = W0 := ⟨_, rfl⟩
  have hb0 : Below W.heap.size W W0 := by rw [← hw0]; exact (Below.refl _ _).alloc (Nat.le_refl _) _
  have hs0 : W0.heap.size = W.heap.size + 1 := by rw [← hw0]; simp
  have hcd0 := (hb0.cell (p := ⟨B, 0, none⟩) (cell_lt hcd)).trans hcd
  have hcp0 := (hb0.cell (p := ⟨B + 1, 0, none⟩) (cell_lt hcp)).trans hcp
  have hcy0 : W0.cell? ⟨W.heap.size, 0, none⟩ = some (.func (.yield l) #[] #[]) := by rw [← hw0]; exact World.cell?_alloc_at _ _ _ _ rfl
  have HA : Hid (CallsIn Fence.wide (n - 1) Try.prog 59 #[.string p] W0 fun e w' => e = .returned (.tuple #[.string (aftS p), .bool (aftB p)]) ∧ Below W0.heap.size W0 w') := callsIn_wide.2 (afterOf p W0 hp)
  refine callsIn_of_wp_marks Try.func58 rfl trivial ?_ rfl
  simp only [Try.ntmps58, List.size_toArray, List.length_cons, List.length_nil, Nat.reduceAdd, Nat.reduceSub, Array.replicate_succ, Array.replicate_zero, List.push_toArray, List.append_toArray, List.nil_append, List.cons_append]
  gi_wp2_with fail
  refine ⟨trivial, HA.out.mono ?_⟩
  rintro e W1 ⟨rfl, hb1⟩
  have hs01 := hb1.size
  have hcd1 := (hb1.cell (p := ⟨B, 0, none⟩) (cell_lt hcd0)).trans hcd0
  have hcp1 := (hb1.cell (p := ⟨B + 1, 0, none⟩) (cell_lt hcp0)).trans hcp0
  have hcy1 := (hb1.cell (p := ⟨W.heap.size, 0, none⟩) (cell_lt hcy0)).trans hcy0
  have hbW1 : Below W.heap.size W W1 := hb0.trans (hb1.mono hb0.size)
  clear HA
  obtain ⟨W2, hw2⟩ : ∃ W2, ((W1.alloc (.cells #[.pointer da] 23)).alloc (.cells #[.string p] 9)).alloc (.cells #[.string (aftS p)] 9) = W2 := ⟨_, rfl⟩
  have HAL : Hid (CallsIn Fence.wide (n - 1) Try.prog 49 #[.pointer da, .string p, .string (aftS p)] W1 fun e w' => e = .returned (.func (.func 56) #[] #[.pointer (some ⟨W1.heap.size, 0, none⟩), .pointer (some ⟨W1.heap.size + 1, 0, none⟩), .pointer (some ⟨W1.heap.size + 2, 0, none⟩)]) ∧ w' = W2) := by
    have h := allIn (n - 1) da p (aftS p) W1
    rw [hw2] at h
    exact h
  have hs2 : W2.heap.size = W1.heap.size + 3 := by rw [← hw2]; simp
  have hb2 : Below W1.heap.size W1 W2 := by rw [← hw2]; exact (((Below.refl _ _).alloc (Nat.le_refl _) _).alloc (by simp) _).alloc (by simp; omega) _
  have hbW2 : Below W.heap.size W W2 := hbW1.trans (hb2.mono hbW1.size)
  have hcy2 := (hb2.cell (p := ⟨W.heap.size, 0, none⟩) (cell_lt hcy1)).trans hcy1
  have hcap : CapAt W2 W1.heap.size (.pointer da) p (aftS p) := by
    rw [← hw2]
    have e1 : (W1.alloc (.cells #[.pointer da] 23)).heap.size = W1.heap.size + 1 := by simp
    have e2 : ((W1.alloc (.cells #[.pointer da] 23)).alloc (.cells #[.string p] 9)).heap.size = W1.heap.size + 2 := by simp
    have k1 : (W1.alloc (.cells #[.pointer da] 23)).cell? ⟨W1.heap.size, 0, none⟩ = some (.pointer da) := World.cell?_alloc_at _ _ _ _ rfl
    have k2 : ((W1.alloc (.cells #[.pointer da] 23)).alloc (.cells #[.string p] 9)).cell? ⟨W1.heap.size + 1, 0, none⟩ = some (.string p) := by rw [← e1]; exact World.cell?_alloc_at _ _ _ _ rfl
    refine ⟨?_, ?_, ?_⟩
    · exact cell_kept (cell_kept k1 (World.grownBy_alloc _ _ none) (fun r e => by cases e)) (World.grownBy_alloc _ _ none) (fun r e => by cases e)
    · exact cell_kept k2 (World.grownBy_alloc _ _ none) (fun r e => by cases e)
    · rw [← e2]; exact World.cell?_alloc_at _ _ _ _ rfl
  have hseq := allStops da (n - 1) q p (aftS p) hp (Nat.le_trans (aftS_len p) hp) n₀ W1.heap.size d ks W2 (by omega) (by omega) hcap (fun u hu => hTop u ((hbW2.mono hn₀).trans (hu.mono (by omega)))) (hT.kept fun g hg hg0 => hbW2.block g hg) hs
  have hJ2 : J [] W2 := hJ [] W W2 none h0 (below_grow hbW2 none) (fun r e => by cases e)
  gi_wp2_with fail
  refine ⟨trivial, HAL.out.mono ?_⟩
  rintro e wk ⟨rfl, hwk⟩
  obtain rfl := hwk.symm
  gi_wp2_with fail
  refine wpIn_rangeFunc_ownH rfl hn (gf := 56) (lb := #[.pointer (some ⟨W1.heap.size, 0, none⟩), .pointer (some ⟨W1.heap.size + 1, 0, none⟩), .pointer (some ⟨W1.heap.size + 2, 0, none⟩)]) rfl trivial (enters_of Try.func56 (by kernel_rfl) rfl) hseq belowK_t (belowK_b (by omega)) (Below.refl _ _) (fun _ => rfl)
    (fun pre u => J pre u ∧ u.cell? ⟨W.heap.size, 0, none⟩ = some (.func (.yield l) #[] #[]) ∧ W2.heap.size ≤ u.heap.size) (fun c xs u => c = .ret ∧ Jx xs u)
    (fun s A A' row h1 hg hr => ⟨hJ s A A' row h1.1 hg (fun k e => ⟨by have := (hr k e).1; omega, (hr k e).2⟩), cell_kept h1.2.1 hg (fun k e => (hr k e).2), Nat.le_trans h1.2.2 hg.size⟩)
    (fun c s A A' row h1 hg hr => ⟨h1.1, hJx s A A' row h1.2 hg (fun k e => ⟨by have := (hr k e).1; omega, (hr k e).2⟩)⟩)
    ⟨hJ2, hcy2, Nat.le_refl _⟩ (fun x a' V => ∃ Bx, EnAt V Bx x.e ∧ a' = { tmps := #[.func (.yield l) #[] #[], .pointer (some ⟨B + 1, 0, none⟩), .pointer (some ⟨B, 0, none⟩), .pointer (some ⟨W.heap.size, 0, none⟩), .string (aftS p), .bool (aftB p), .string x.key, .pointer (some ⟨Bx, 0, none⟩), .tuple #[.string (aftS p), .bool (aftB p)], .string p, .tuple #[.string (aftS p), .bool (aftB p)], .string (aftS p), .bool (aftB p), .pointer da, .string p, .string (aftS p), .func (.func 56) #[] #[.pointer (some ⟨W1.heap.size, 0, none⟩), .pointer (some ⟨W1.heap.size + 1, 0, none⟩), .pointer (some ⟨W1.heap.size + 2, 0, none⟩)], .string x.key, x.e.v, undef, undef, undef, undef, undef], defers := [] })
    (fun x a' s A A' row ⟨Bx, ⟨k0, k1, k2, k3, k4, k5⟩, h2⟩ hg hr => ⟨Bx, ⟨cell_kept k0 hg (fun k e => (hr k e).2), cell_kept k1 hg (fun k e => (hr k e).2), cell_kept k2 hg (fun k e => (hr k e).2), cell_kept k3 hg (fun k e => (hr k e).2), cell_kept k4 hg (fun k e => (hr k e).2), cell_kept k5 hg (fun k e => (hr k e).2)⟩, h2⟩)
    ?assign ?body ?done ?stop
  case assign =>
    intro l' pre x V K hI hK
    gi_wp2
    refine hK _ _ ((KeepsOthers.alloc _ _).from _) ((Below.refl _ V).alloc (by have := hI.2.2; omega) _) ⟨hJ.alloc _ hI.1, cell_kept hI.2.1 (World.grownBy_alloc _ _ none) (fun r e => by cases e), by have := hI.2.2; simp; omega⟩ ⟨V.heap.size, EnAt.new V x.e, ?_⟩
    rfl
  case body =>
    rintro l' pre x a' V hl0 hrc ⟨hj, hcy, hsz⟩ ⟨Bx, hen, rfl⟩ hN
    obtain ⟨k0, k1, k2, k3, k4, k5⟩ := hen
    obtain ⟨fn, tmps, assign, body, hy, hR⟩ := yieldIn (l' := l') (m' := n - 1 - 1 - 1) (hY pre x V hj (cell_lt hcy) hN)
    gi_wp2
    refine ⟨hdd _, hR.mono ?_⟩
    rintro e V3 (⟨rfl, hk3, hj3⟩ | ⟨rfl, hk3, hj3⟩)
    · have hKF : KeepsFrom W2.heap.size V V3 := keepsUp hk3.others (by omega)
      have hcy3 : V3.cell? ⟨W.heap.size, 0, none⟩ = some (.func (.yield l) #[] #[]) := (World.cell?_of_block (w := V) (a := ⟨W.heap.size, 0, none⟩) (hk3.one (cell_lt hcy))).trans hcy
      have HE : Hid (KeepsFrom W2.heap.size V V3 ∧ Below n₀ V V3 ∧ J (pre ++ [x]) V3 ∧ V3.cell? ⟨W.heap.size, 0, none⟩ = some (.func (.yield l) #[] #[]) ∧ W2.heap.size ≤ V3.heap.size) := ⟨hKF, hk3.low, hj3, hcy3, Nat.le_trans hsz hk3.low.size⟩
      clear hKF hk3 hj3
      gi_wp2
      exact HE.out
    · have hKF : KeepsFrom W2.heap.size V V3 := keepsUp hk3 (by omega)
      have HE : Hid (KeepsFrom W2.heap.size V V3 ∧ Jx (pre ++ [x]) V3) := ⟨hKF, hj3⟩
      clear hKF hk3 hj3
      gi_wp2
      exact ⟨HE.out.1, rfl, HE.out.2⟩
  case done =>
    rintro D ys V hD rfl ⟨hj, -, -⟩ hK
    gi_wp2
    refine ⟨by simp, .inl ⟨_, _, rfl, run_takeDeferred hK, ?_⟩⟩
    exact ⟨_, results_none rfl _ _ _, ⟨_, rfl⟩, .inl (hJ.putObj _ hj (by omega) hK rfl)⟩
  case stop =>
    rintro D c pre V hD hpre ⟨rfl, hj⟩ hK
    gi_wp2
    refine ⟨by simp, .inl ⟨_, _, rfl, run_takeDeferred hK, ?_⟩⟩
    exact ⟨_, results_none rfl _ _ _, ⟨_, rfl⟩, .inr ⟨pre, hpre, hJx.putObj _ hj (by omega) hK rfl⟩⟩
/-- Prefix is an iterator that gives the keys that begin so. -/
theorem prefixOwnC {da q : Option Addr} (n n₀ d B : Nat) (hn : 1 ≤ n) (p : ByteArray) (hp : p.size ≤ maxLen) (ks : List Ke) (w : World) (hn₀ : n₀ ≤ w.heap.size) (hcd : w.cell? ⟨B, 0, none⟩ = some (.pointer da)) (hcp : w.cell? ⟨B + 1, 0, none⟩ = some (.string p))
    (hTop : ∀ u, Below n₀ w u → Calls Try.prog 43 #[.pointer da] u fun e w' => e = .returned (.pointer q) ∧ w' = u) (hT : TreeAt (fun g => g < n₀) w d q ks) (hs : Srt ks) :
    SeqOwnC n₀ n 58 #[.pointer (some ⟨B + 1, 0, none⟩), .pointer (some ⟨B, 0, none⟩)] (rngL p (aftS p) ks) w := fun l J Jx W hW hJ hJx hY h0 =>
  prefix1C n n₀ d B l hn p hp ks J Jx W hJ hJx hY (Nat.le_trans hn₀ hW.size) ((hW.cell (p := ⟨B, 0, none⟩) (cell_lt hcd)).trans hcd) ((hW.cell (p := ⟨B + 1, 0, none⟩) (cell_lt hcp)).trans hcp) (fun u hu => hTop u ((hW.mono hn₀).trans hu)) (hT.later hW) hs h0
end Go.Proofs.Ytjhbaplnkigifaa
