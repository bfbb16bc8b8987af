import Derived.Test.YtjhbaplnkigifaaQk17
import Derived.Test.YtjhbaplnkigifaaQk11
import Derived.Test.YtjhbaplnkigifaaQk05
/-! keydir: the law's taken, by Prefix. -/
namespace Go.Proofs.Ytjhbaplnkigifaa
open Go.RowKit Go.Shelf Plain
attribute [local go_sem] Oper.semAt_some
set_option linter.unusedVariables false
set_option linter.unusedSimpArgs false

set_option maxHeartbeats 4000000 in
set_option maxRecDepth 100000 in
theorem takenPre {ks : List Ke} (da : Option Addr) (p : Option Addr) (d : Nat) (m : Mv) (w : World) (ht : TreeAt (fun _ => True) w d p ks) (hs : Srt ks) (hTop : ∀ u, Below w.heap.size w u → Calls Try.prog 43 #[.pointer da] u fun e w' => e = .returned (.pointer p) ∧ w' = u) (hlo : m.key.size ≤ maxLen) (hl : ks.length ≤ 2199023255500) (hk : m.kind = 9) (hn : ¬ m.n = 0) :
    Calls Try.prog 31 #[.pointer da, m.v] w fun e w' => ∃ v r, e = .returned v ∧ KrNew w w' v (firstL (rowK (rngL m.key (aftS m.key) ks)) m.n) r := by
  obtain ⟨mdir, mkind, lo, hi, me, lim⟩ := m
  simp only at hlo hk hn
  subst hk
  have hrl : (rngL lo (aftS lo) ks).length ≤ 2199023255500 := Nat.le_trans (List.length_filter_le ..) hl
  obtain ⟨w2, hw2⟩ : ∃ w2, (w.alloc (.cells #[.int .i64 mdir, .int .i64 9, .string lo, .string hi, .int .i64 me.seg, .int .i64 me.pos, .int .i64 me.size, .int .i64 me.off, .int .i64 me.time, .bool me.tomb, .int .i64 lim] 40)).alloc (.cells #[.slice none 0 0] 43) = w2 := ⟨_, rfl⟩
  have hs2 : w2.heap.size = w.heap.size + 2 := by rw [← hw2]; simp
  have hb2 : Below w.heap.size w w2 := by rw [← hw2]; exact ((Below.refl _ _).alloc (Nat.le_refl _) _).alloc (by simp) _
  obtain ⟨m0, hm0⟩ : ∃ m0, w.alloc (.cells #[.int .i64 mdir, .int .i64 9, .string lo, .string hi, .int .i64 me.seg, .int .i64 me.pos, .int .i64 me.size, .int .i64 me.off, .int .i64 me.time, .bool me.tomb, .int .i64 lim] 40) = m0 := ⟨_, rfl⟩
  have hq : m0.heap.size = w.heap.size + 1 := by rw [← hm0]; simp
  have hw2' : m0.alloc (.cells #[.slice none 0 0] 43) = w2 := by rw [← hm0]; exact hw2
  have hmc : ∀ j u, (#[.int .i64 mdir, .int .i64 9, .string lo, .string hi, .int .i64 me.seg, .int .i64 me.pos, .int .i64 me.size, .int .i64 me.off, .int .i64 me.time, .bool me.tomb, .int .i64 lim] : Array Value)[j]? = some u → w2.cell? ⟨w.heap.size, j, none⟩ = some u := fun j u hj => by
    rw [← hw2']
    have h1 : m0.cell? ⟨w.heap.size, j, none⟩ = some u := by rw [← hm0, World.cell?_alloc_at _ _ _ _ rfl]; exact hj
    exact cell_kept h1 (World.grownBy_alloc _ _ none) (fun r e => by cases e)
  have k1 := hmc 1 _ rfl
  have k2 := hmc 2 _ rfl
  have k3 := hmc 3 _ rfl
  have k10 := hmc 10 _ rfl
  have hv2 : w2.cell? ⟨w.heap.size + 1, 0, none⟩ = some (.slice none 0 0) := by rw [← hw2', ← hq]; exact World.cell?_alloc_at _ _ _ _ rfl
  have hf2 : w2.frozen? ⟨w.heap.size + 1, 0, none⟩ = false := by rw [← hw2', ← hq]; exact World.frozen?_alloc_at _ _ _ _ rfl
  obtain ⟨w0, hw0⟩ : ∃ w0, (w2.alloc (.cells #[.pointer da] 23)).alloc (.cells #[.string lo] 9) = w0 := ⟨_, rfl⟩
  have hs0 : w0.heap.size = w.heap.size + 4 := by rw [← hw0]; simp; omega
  have hb02 : Below w2.heap.size w2 w0 := by rw [← hw0]; exact ((Below.refl _ _).alloc (Nat.le_refl _) _).alloc (by simp) _
  have hb0 : Below w.heap.size w w0 := hb2.trans (hb02.mono hb2.size)
  have hcd : w0.cell? ⟨w.heap.size + 2, 0, none⟩ = some (.pointer da) := by
    rw [← hw0, ← hs2]
    have k1 : (w2.alloc (.cells #[.pointer da] 23)).cell? ⟨w2.heap.size, 0, none⟩ = some (.pointer da) := World.cell?_alloc_at _ _ _ _ rfl
    exact cell_kept k1 (World.grownBy_alloc _ _ none) (fun r e => by cases e)
  have hcp : w0.cell? ⟨w.heap.size + 2 + 1, 0, none⟩ = some (.string lo) := by
    have e1 : (w2.alloc (.cells #[.pointer da] 23)).heap.size = w.heap.size + 2 + 1 := by simp; omega
    rw [← hw0, ← e1]
    exact World.cell?_alloc_at _ _ _ _ rfl
  have hseq := prefixOwnC (da := da) (q := p) (5 - 1) w.heap.size d (w.heap.size + 2) (by omega) lo hlo ks w0 (by omega) hcd hcp
    (fun u hu => hTop u (hb0.trans hu)) ((TreeAt.tight (fun g _ hg => hg) ht).kept fun g hg hg0 => hb0.block g hg) hs
  have HI0 : RtI w 7 ⟨mdir, (9 : Int), lo, hi, me, lim⟩ [] w0 := ⟨(hb02.cell (p := ⟨w.heap.size, 10, none⟩) (by show w.heap.size < _; omega)).trans k10, ⟨.slice none 0 0, none, (hb02.cell (p := ⟨w.heap.size + 1, 0, none⟩) (by show w.heap.size + 1 < _; omega)).trans hv2, (hb02.frozen (p := ⟨w.heap.size + 1, 0, none⟩) (by show w.heap.size + 1 < _; omega)).trans hf2, OwnKr.nil _, fun h => absurd rfl h, fun g e => by cases e⟩, hb0, by omega⟩
  have hnb : (lim == 0) = false := by simpa using hn
  clear hmc hw2' hm0 hq
  refine (callsIn_wide (n := 5)).1 ?_
  refine callsIn_of_wp_marks Try.func31 rfl trivial ?_ rfl
  simp only [Try.ntmps31, List.size_toArray, List.length_cons, List.length_nil, Nat.reduceAdd, Nat.reduceSub, Array.replicate_succ, Array.replicate_zero, List.push_toArray, List.append_toArray, List.nil_append, List.cons_append]
  gi_wp2_with fail
  refine ⟨trivial, (prefixIn 4 _ _ _).mono ?_⟩
  rintro e wx ⟨rfl, hwx⟩
  rw [hw0] at hwx
  subst hwx
  rw [hs2] at *
  gi_wp2_with fail
  have hFin : ∀ (D : Nat) (pre : List Ke) (W : World), RtI w 7 ⟨mdir, (9 : Int), lo, hi, me, lim⟩ pre W → wx.heap.size ≤ D → W.heap[D]? = some (.deferred (some [])) → RtI w 7 ⟨mdir, (9 : Int), lo, hi, me, lim⟩ pre (W.putObj D (.deferred none)) := fun D pre W h hD hK => h.steady (grownBy_putObj' W D _) (fun k e => by cases e; exact ⟨by omega, _, hK, rfl⟩)
  refine rangeOwnB 0 (gf := 58) (lb := #[.pointer (some ⟨w.heap.size + 2 + 1, 0, none⟩), .pointer (some ⟨w.heap.size + 2, 0, none⟩)]) rfl (enters_of Try.func58 (by kernel_rfl) rfl) (by omega : w.heap.size ≤ wx.heap.size) hseq rfl
    (fun pre W => RtI w 7 ⟨mdir, (9 : Int), lo, hi, me, lim⟩ pre W ∧ (lim < 0 ∨ (pre.length : Int) < lim))
    (fun xs W => RtI w 7 ⟨mdir, (9 : Int), lo, hi, me, lim⟩ xs W ∧ (xs.length : Int) = lim)
    (fun s W W' row ⟨h1, h2⟩ hg hr => ⟨h1.steady hg (fun k e => ⟨by have := (hr k e).1; omega, (hr k e).2⟩), h2⟩)
    (fun s W W' row ⟨h2, h3⟩ hg hr => ⟨h2.steady hg (fun k e => ⟨by have := (hr k e).1; omega, (hr k e).2⟩), h3⟩)
    ⟨HI0, by simp; omega⟩
    (fun x a' W => ∃ Bx, EnAt W Bx x.e ∧ a' = { tmps := #[.pointer da, Mv.v ⟨mdir, (9 : Int), lo, hi, me, lim⟩, undef, .pointer (some ⟨w.heap.size, 0, none⟩), .slice none 0 0, .pointer (some ⟨w.heap.size + 1, 0, none⟩), .string x.key, .pointer (some ⟨Bx, 0, none⟩), undef, undef, .pointer (some ⟨w.heap.size, 10, none⟩), .int .i64 lim, .bool false, undef, .pointer (some ⟨w.heap.size, 1, none⟩), .int .i64 9, .bool true, .pointer da, .pointer (some ⟨w.heap.size, 2, none⟩), .string lo, .func (.func 58) #[] #[.pointer (some ⟨w.heap.size + 2 + 1, 0, none⟩), .pointer (some ⟨w.heap.size + 2, 0, none⟩)], .string x.key, x.e.v, undef, undef, undef, undef, undef, undef, undef, undef, undef, undef, undef, undef, undef, undef, undef, undef, undef, undef, undef, undef, undef, undef, undef, undef, undef, undef, undef, undef, undef, undef, undef, undef], defers := [] })
    (fun x a' s W W' row ⟨Bx, ⟨k0, k1, k2, k3, k4, k5⟩, h2⟩ hg hr => ⟨Bx, ⟨cell_kept k0 hg (fun k e => (hr k e).2), cell_kept k1 hg (fun k e => (hr k e).2), cell_kept k2 hg (fun k e => (hr k e).2), cell_kept k3 hg (fun k e => (hr k e).2), cell_kept k4 hg (fun k e => (hr k e).2), cell_kept k5 hg (fun k e => (hr k e).2)⟩, h2⟩)
    ?assign ?body ?done ?stop
  case assign =>
    intro l pre x W K hWs hIh hK
    obtain ⟨hI, hpl⟩ := hIh
    have hsz := hI.below.size
    gi_wp2
    exact hK _ _ ((KeepsOthers.alloc _ _).from _) ⟨(Below.refl _ W).alloc hsz _, (KeepsOthers.alloc _ _).from _, fun h => Below.heap_alloc W _ _ h⟩ ⟨hI.steady (World.grownBy_alloc W _ none) (fun k e => by cases e), hpl⟩ ⟨W.heap.size, EnAt.new W x.e, rfl⟩
  case body =>
    rintro l pre x a' W hWs hN ⟨hI, hpl⟩ ⟨Bx, hen, rfl⟩
    have hIc := hI
    obtain ⟨hlim, ⟨v, r, hv, hvf, hown, hr5, hr6⟩, hbw, hsz⟩ := hI
    obtain ⟨k0, k1, k2, k3, k4, k5⟩ := hen
    obtain ⟨a, cap, rfl, hcap, hle⟩ := hown.shape
    rw [List.length_map] at *
    gi_wp2_with (gi_at_builtin; refine wpListIn_append_k _ rfl _ _ rfl _ _ (pre.map Ke.r) [x.r] r rfl rfl ?hOwn ?hSrc ?hLen ?hR ?_)
    case hOwn => exact hown.later ((Below.refl _ W).alloc (Nat.le_refl _) _)
    case hSrc => exact src_kr W x
    case hLen => omega
    intro v1 w1 g1 ho1 hg1 hgr1
    obtain ⟨a1, cap1, rfl, hcap1, hle1⟩ := ho1.shape
    have hlen1 : (pre.map Ke.r ++ [x.r]).length = pre.length + 1 := by simp
    rw [hlen1] at ho1 hle1 ⊢
    have hnb : ∀ j, j < w.heap.size + 7 → w1.heap[j]? = W.heap[j]? := fun j hj => (hg1.block j (by simp; omega) (fun e => by have := hr6 j e.symm; omega)).trans (Below.heap_alloc W _ j (by omega))
    have hv1 : w1.cell? ⟨w.heap.size + 1, 0, none⟩ = some (.slice a pre.length cap) := (World.cell?_of_block (w := W) (a := ⟨w.heap.size + 1, 0, none⟩) (hnb (w.heap.size + 1) (by omega))).trans hv
    have hvf1 : w1.frozen? ⟨w.heap.size + 1, 0, none⟩ = false := (World.frozen?_of_block (w := W) (a := ⟨w.heap.size + 1, 0, none⟩) (hnb (w.heap.size + 1) (by omega))).trans hvf
    have hs1 := hg1.size
    simp only [World.size_alloc] at hs1
    have hg1l : w.heap.size + 7 ≤ g1 := by
      rcases hgr1 with e | e
      · exact hr6 g1 e.symm
      · first | (simp at e; omega) | omega
    have hKO : KeepsOthers W w1 := (KeepsOthers.alloc W _).trans ((hown.later ((Below.refl _ W).alloc (Nat.le_refl _) _)).others hr5 hg1)
    have hBW : Below w.heap.size W w1 := ((Below.refl _ W).alloc (by omega) _).grown hg1 (by simp; omega) (fun k e => by have := hr6 k e; omega)
    have gS := grow_setC w1 (w.heap.size + 1) 0 (.slice a1 (pre.length + 1) cap1)
    obtain ⟨w5, hw5⟩ : ∃ w5, w1.setCell ⟨w.heap.size + 1, 0, none⟩ (.slice a1 (pre.length + 1) cap1) = w5 := ⟨_, rfl⟩
    have hlim5 : w5.cell? ⟨w.heap.size, 10, none⟩ = some (.int .i64 lim) := by
      rw [← hw5, World.cell?_of_block (w := w1) (a := ⟨w.heap.size, 10, none⟩) (gS.block w.heap.size (by omega) (fun e => by simp at e)), World.cell?_of_block (w := W) (a := ⟨w.heap.size, 10, none⟩) (hnb w.heap.size (by omega))]
      exact hlim
    have hv5 : w5.cell? ⟨w.heap.size + 1, 0, none⟩ = some (.slice a1 (pre.length + 1) cap1) := by
      rw [← hw5]
      exact World.cell?_setCell_same' _ _ _ (by rw [hv1]; rfl)
    have HE : Hid (KeepsFrom wx.heap.size W w5 ∧ KpC w.heap.size (wx.heap.size + 2) W w5 ∧ RtI w 7 ⟨mdir, (9 : Int), lo, hi, me, lim⟩ (pre ++ [x]) w5) := by
      unfold Hid
      rw [← hw5]
      refine ⟨(hKO.trans (KeepsOthers.setCell _ _ _)).from _, ⟨hBW.setCell (p := ⟨w.heap.size + 1, 0, none⟩) (by show w.heap.size ≤ w.heap.size + 1; omega) _, (hKO.trans (KeepsOthers.setCell _ _ _)).from _, fun hh => (gS.block (wx.heap.size + 2) (by omega) (fun e => by have e2 : wx.heap.size + 2 = w.heap.size + 1 := Option.some.inj e; omega)).trans (hnb _ (by omega))⟩, ⟨?_, ⟨_, some g1, World.cell?_setCell_same' _ _ _ (by rw [hv1]; rfl), by rw [World.frozen?_setCell]; exact hvf1, ?_, fun _ => by simp, fun g e => by cases e; exact hg1l⟩, ?_, ?_⟩⟩
      · rw [hw5]; exact hlim5
      · have h2 := ho1.kept gS (.inr (fun e => by cases e; omega))
        rw [List.map_append]
        exact h2
      · exact (hbw.trans hBW).setCell (p := ⟨w.heap.size + 1, 0, none⟩) (by show w.heap.size ≤ w.heap.size + 1; omega) _
      · exact Nat.le_trans (by omega) gS.size
    clear hKO hBW gS hnb ho1 hg1 hgr1
    by_cases hend : ((pre.length + 1 : Nat) : Int) = lim
    · have HQ : Hid (((pre ++ [x]).length : Int) = lim) := by unfold Hid; rw [List.length_append, List.length_singleton]; exact hend
      have hbb : ((pre.length : Int) + 1 == lim) = true := by simp; omega
      gi_wp2
      exact ⟨rfl, HE.out.1, HE.out.2.2, HQ.out⟩
    · have HQ : Hid (lim < 0 ∨ ((pre ++ [x]).length : Int) < lim) := by unfold Hid; rw [List.length_append, List.length_singleton]; omega
      have hbb : ((pre.length : Int) + 1 == lim) = false := by simp; omega
      gi_wp2
      exact ⟨HE.out.1, HE.out.2.1, HE.out.2.2, HQ.out⟩
  case done =>
    rintro D W hD ⟨hI, hpl⟩ hK
    have hF := hFin D _ W hI hD hK
    obtain ⟨v, r, hv, hvf, hown, hr5, hr6⟩ := hI.row
    have hv' := cell_kept hv (grownBy_putObj' W D (.deferred none)) (fun k e => by cases e; exact ⟨_, hK, rfl⟩)
    obtain ⟨v2, r2, hv2', -, hown2, -, hr62⟩ := hF.row
    rw [hv'] at hv2'
    cases hv2'
    have hfl : firstL (rowK (rngL lo (aftS lo) ks)) lim = rowK (rngL lo (aftS lo) ks) := by
      unfold firstL
      rw [if_neg (by simp; omega)]
    gi_wp2
    refine ⟨by simp, .inl ⟨_, _, rfl, run_takeDeferred hK, ?_⟩⟩
    exact ⟨_, results_tmp rfl _ _ _, v, r2, rfl, by rw [hfl]; exact hown2, fun g e => by have := hr62 g e; omega, hF.below⟩
  case stop =>
    rintro D pre W hD hpre ⟨hI, hpl⟩ hK
    have hF := hFin D _ W hI hD hK
    obtain ⟨v, r, hv, hvf, hown, hr5, hr6⟩ := hI.row
    have hv' := cell_kept hv (grownBy_putObj' W D (.deferred none)) (fun k e => by cases e; exact ⟨_, hK, rfl⟩)
    obtain ⟨v2, r2, hv2', -, hown2, -, hr62⟩ := hF.row
    rw [hv'] at hv2'
    cases hv2'
    have hfl : firstL (rowK (rngL lo (aftS lo) ks)) lim = rowK pre := by
      obtain ⟨t, ht⟩ := hpre
      unfold firstL
      rw [← ht, ← hpl]
      by_cases hc : 0 ≤ (pre.length : Int) ∧ (pre.length : Int) < ((rowK (pre ++ t)).length : Int)
      · rw [if_pos hc]
        simp [rowK]
      · rw [if_neg hc]
        have : t = [] := by
          cases t with
          | nil => rfl
          | cons y ys => exact absurd ⟨by omega, by simp; omega⟩ hc
        rw [this, List.append_nil]
    gi_wp2
    refine ⟨by simp, .inl ⟨_, _, rfl, run_takeDeferred hK, ?_⟩⟩
    exact ⟨_, results_tmp rfl _ _ _, v, r2, rfl, by rw [hfl]; exact hown2, fun g e => by have := hr62 g e; omega, hF.below⟩
end Go.Proofs.Ytjhbaplnkigifaa

/-! keydir: the law's taken. -/
namespace Go.Proofs.Ytjhbaplnkigifaa
open Go.RowKit Go.Shelf Plain
set_option linter.unusedVariables false
set_option linter.unusedSimpArgs false

theorem firstL_zero (st : List Kr) : firstL st 0 = [] := by
  unfold firstL
  by_cases h : 0 ≤ (0 : Int) ∧ (0 : Int) < (st.length : Int)
  · rw [if_pos h]; rfl
  · rw [if_neg h]
    cases st with
    | nil => rfl
    | cons y ys => exact absurd ⟨by omega, by simp⟩ h
/-- What an iterator gives. -/
def givenL (m : Mv) (ks : List Ke) : List Ke := if m.kind = 9 then ks.filter (begB m.key) else rngL m.key m.hi ks
set_option maxHeartbeats 4000000 in
theorem takenNone (da : Option Addr) (m : Mv) (w : World) (hn : m.n = 0) :
    Calls Try.prog 31 #[.pointer da, m.v] w fun e w' => e = .returned (.slice none 0 0) ∧ Below w.heap.size w w' := by
  obtain ⟨mdir, mkind, lo, hi, me, lim⟩ := m
  simp only at hn
  subst hn
  obtain ⟨m0, hm0⟩ : ∃ m0, w.alloc (.cells #[.int .i64 mdir, .int .i64 mkind, .string lo, .string hi, .int .i64 me.seg, .int .i64 me.pos, .int .i64 me.size, .int .i64 me.off, .int .i64 me.time, .bool me.tomb, .int .i64 0] 40) = m0 := ⟨_, rfl⟩
  obtain ⟨w2, hw2⟩ : ∃ w2, m0.alloc (.cells #[.slice none 0 0] 43) = w2 := ⟨_, rfl⟩
  have hq : m0.heap.size = w.heap.size + 1 := by rw [← hm0]; simp
  have hb : Below w.heap.size w w2 := by rw [← hw2, ← hm0]; exact ((Below.refl _ _).alloc (Nat.le_refl _) _).alloc (by simp) _
  have HB : Hid (Below w.heap.size w w2) := hb
  have k10 : w2.cell? ⟨w.heap.size, 10, none⟩ = some (.int .i64 0) := by
    rw [← hw2]
    have h1 : m0.cell? ⟨w.heap.size, 10, none⟩ = some (.int .i64 0) := by rw [← hm0, World.cell?_alloc_at _ _ _ _ rfl]; rfl
    exact cell_kept h1 (World.grownBy_alloc _ _ none) (fun r e => by cases e)
  have hv2 : w2.cell? ⟨w.heap.size + 1, 0, none⟩ = some (.slice none 0 0) := by rw [← hw2, ← hq]; exact World.cell?_alloc_at _ _ _ _ rfl
  clear hb
  refine (callsIn_wide (n := 5)).1 ?_
  refine callsIn_of_wp_marks Try.func31 rfl trivial ?_ rfl
  simp only [Try.ntmps31, List.size_toArray, List.length_cons, List.length_nil, Nat.reduceAdd, Nat.reduceSub, Array.replicate_succ, Array.replicate_zero, List.push_toArray, List.append_toArray, List.nil_append, List.cons_append]
  gi_wp2
  exact ⟨_, results_tmp rfl _ _ _, rfl, HB.out⟩
theorem takenOf {D : Nat → Prop} {gd : Nat} {ks : List Ke} (m : Mv) (w : World) (h : DirAt D w gd ks) (hlo : m.key.size ≤ maxLen) (hhi : m.hi.size ≤ maxLen) (hl : ks.length ≤ 2199023255500) :
    Calls Try.prog 31 #[.pointer (some ⟨gd, 0, none⟩), m.v] w fun e w' => ∃ v r, e = .returned v ∧ KrNew w w' v (firstL (rowK (givenL m ks)) m.n) r := by
  by_cases hn : m.n = 0
  · refine (takenNone _ m w hn).mono fun e w' ⟨h1, h2⟩ => ⟨_, none, h1, ?_⟩
    rw [hn, firstL_zero]
    exact (KrNew.nil w).later h2
  · have hgl := h.lt
    obtain ⟨-, hs, -, d, p, hcd, ht⟩ := h
    have hTop : ∀ u, Below w.heap.size w u → Calls Try.prog 43 #[.pointer (some ⟨gd, 0, none⟩)] u fun e w' => e = .returned (.pointer p) ∧ w' = u := fun u hu => topOf gd p u ((hu.cell (p := ⟨gd, 0, none⟩) hgl).trans hcd)
    unfold givenL
    by_cases hk : m.kind = 9
    · rw [if_pos hk, ← rngL_after]
      exact takenPre (some ⟨gd, 0, none⟩) p d m w (ht.weak fun _ _ => trivial) hs hTop hlo hl hk hn
    · rw [if_neg hk]
      exact takenAll (some ⟨gd, 0, none⟩) p d m w (ht.weak fun _ _ => trivial) hs hTop hlo hhi hl hk hn
end Go.Proofs.Ytjhbaplnkigifaa

/-! keydir: the lists that were handed out; stands. -/
namespace Go.Proofs.Ytjhbaplnkigifaa
open Go.RowKit Plain
set_option linter.unusedVariables false
set_option linter.unusedSimpArgs false

/-- A list that was handed out: its slice, its length, its row. -/
structure Ho where
  v : Value
  n : Nat
  r : Option Nat
def Ho.zero : Ho := ⟨.slice none 0 0, 0, none⟩
def markS : ByteArray := ⟨#[109, 97, 114, 107, 101, 100]⟩
def markK (k : Nat) : Kr := ⟨markS, k, 0, 0, 0, 0, false⟩
/-- The lists, each full of its mark. -/
structure LsAt (w : World) (v : Value) (hs : List Ho) (r : Option Nat) : Prop where
  row : OwnV w v (hs.map Ho.v) r
  each : ∀ k, k < hs.length → OwnKr w (hs.getD k Ho.zero).v (List.replicate (hs.getD k Ho.zero).n (markK k)) (hs.getD k Ho.zero).r
  len : hs.length ≤ 2199023255000
  lens : ∀ k, k < hs.length → (hs.getD k Ho.zero).n ≤ 2199023255000
theorem LsAt.at {w : World} {a : Option Addr} {n c : Nat} {hs : List Ho} {r : Option Nat} (h : LsAt w (.slice a n c) hs r) {k : Nat} (hk : k < hs.length) : ∃ g x cc, r = some g ∧ a = some ⟨g, 0, none⟩ ∧ (hs.getD k Ho.zero).v = .slice x (hs.getD k Ho.zero).n cc ∧ w.cell? ⟨g, k, none⟩ = some (.slice x (hs.getD k Ho.zero).n cc) ∧ cc ≤ maxLen ∧ (hs.getD k Ho.zero).n ≤ cc ∧
    ∀ i, i < (hs.getD k Ho.zero).n → ∃ b, x = some ⟨b, 0, none⟩ ∧ Kr.CellsAt w b (i * 7) (markK k) := by
  have hj : (hs.map Ho.v)[k]? = some (hs.getD k Ho.zero).v := by
    rw [List.getElem?_map, List.getElem?_eq_getElem hk, List.getD_eq_getElem?_getD, List.getElem?_eq_getElem hk]; rfl
  obtain ⟨g, e1, e2, e3⟩ := h.row.get hj
  have ho := h.each k hk
  obtain ⟨x, cc, e4, h5, h6⟩ := ho.shape
  rw [List.length_replicate] at e4 h6
  refine ⟨g, x, cc, e1, e2, e4, by rw [e3, e4], h5, h6, fun i hi => ?_⟩
  rcases hr : (hs.getD k Ho.zero).r with _ | b
  · rw [hr] at ho
    rcases ho with ⟨_, e, _⟩ | ⟨g', c', e, _⟩
    · have := congrArg List.length e
      rw [List.length_replicate, List.length_nil] at this
      omega
    · cases e
  · rw [hr] at ho
    have hc := ho.at (j := i) (by simpa using hi)
    rw [List.getD_eq_getElem?_getD, List.getElem?_replicate, if_pos hi] at hc
    refine ⟨b, ?_, hc⟩
    rcases ho with ⟨_, _, e⟩ | ⟨g', c', e, e6, _⟩
    · cases e
    · cases e
      rw [e4] at e6
      injection e6
set_option maxHeartbeats 8000000 in
set_option maxRecDepth 100000 in
theorem standsOf (gw : Nat) (v : Value) (hs : List Ho) (r : Option Nat) (w : World) (hc : w.cell? ⟨gw, 2, none⟩ = some v) (h : LsAt w v hs r) :
    Calls Try.prog 7 #[.pointer (some ⟨gw, 0, none⟩)] w fun e w' => e = .returned (.bool true) ∧ ∃ n, w' = w.drewN n := by
  have HA : Hid (∀ k a n c, v = .slice a n c → k < hs.length → ∃ g x cc, r = some g ∧ a = some ⟨g, 0, none⟩ ∧ (hs.getD k Ho.zero).v = .slice x (hs.getD k Ho.zero).n cc ∧ w.cell? ⟨g, k, none⟩ = some (.slice x (hs.getD k Ho.zero).n cc) ∧ cc ≤ maxLen ∧ (hs.getD k Ho.zero).n ≤ cc ∧
    ∀ i, i < (hs.getD k Ho.zero).n → ∃ b, x = some ⟨b, 0, none⟩ ∧ Kr.CellsAt w b (i * 7) (markK k)) := fun k a n c e hk => by subst e; exact h.at hk
  obtain ⟨a, cap, e, hc1, hc2⟩ := h.row.shape
  rw [List.length_map] at e hc2
  subst e
  have hll := h.len
  have HLL : Hid (∀ k, k < hs.length → (hs.getD k Ho.zero).n ≤ 2199023255000) := h.lens
  clear h
  go_enter Try.func7, Try.ntmps7
  go_wp2
  go_loopw [3] (fun i wr => ∃ k n : Nat, wr = w.drewN n ∧ k ≤ hs.length ∧ i = .int .i64 k) (fun i _ => hs.length - (intOf i).toNat)
  case atStart => exact ⟨0, 0, rfl, by omega, rfl⟩
  case round =>
    obtain ⟨k, n, rfl, hk, rfl⟩ := hrel
    by_cases hlt : k < hs.length
    · obtain ⟨g, x, cc, -, rfl, -, hgc, hcc, hnc, HI⟩ := HA.out k a hs.length cap rfl hlt
      have hn := HLL.out k hlt
      generalize (hs.getD k Ho.zero).n = N at *
      have hki : (k : Int) < (hs.length : Int) := by omega
      have HI2 : Hid (∀ i, i < N → ∃ b, x = some ⟨b, 0, none⟩ ∧ Kr.CellsAt w b (i * 7) (markK k)) := HI
      clear HI
      go_wp2
      go_loopw [4] (fun i wr => ∃ j n' : Nat, wr = w.drewN n' ∧ j ≤ N ∧ i = .int .i64 j) (fun i _ => N - (intOf i).toNat)
      case atStart => exact ⟨0, _, rfl, by omega, rfl⟩
      case round =>
        obtain ⟨j, n', rfl, hj, rfl⟩ := hrel
        by_cases hjl : j < N
        · obtain ⟨b, rfl, d0, d1, d2, d3, d4, d5, d6⟩ := HI2.out j hjl
          simp only [markK, markS] at d0 d1 d2 d3 d4 d5 d6
          have hji : (j : Int) < (N : Int) := by omega
          go_wp2
          go_roundw
          case rel => exact ⟨j + 1, _, rfl, by omega, by go_num⟩
          case measure => simp [intOf]; omega
        · have hji : ¬ (j : Int) < (N : Int) := by omega
          go_wp2
          go_roundw
          case rel => exact ⟨k + 1, _, rfl, by omega, by go_num⟩
          case measure => simp [intOf]; omega
    · go_wp2
      go_ret
      exact ⟨rfl, _, rfl⟩
end Go.Proofs.Ytjhbaplnkigifaa
