import Derived.Test.YtlnbmblmmgjmfaaCtF
import Derived.Test.YtlnbmblmmgjmfaaCtLay
import Derived.Sort.OwnSortedInts
import Derived.Lib.SlicesCompact
import Derived.Lib.RowBridge
/-! The program's Cuts: sorted, and what stands twice struck, plainly; slices.Sort and slices.Compact. -/
namespace Go.Proofs.Ytlnbmblmmgjmfaa
open Go.RowKit Plain Go.Sort
set_option linter.unusedVariables false
set_option linter.unusedSimpArgs false

theorem emod_neg (x n : Int) (hn : 0 ≤ n) : x % (n + 1) = n - (-x - 1) % (n + 1) := by
  have h1 := Int.emod_nonneg (-x - 1) (show n + 1 ≠ 0 by omega)
  have h2 := Int.emod_lt_of_pos (-x - 1) (show 0 < n + 1 by omega)
  have h3 := Int.mul_ediv_add_emod (-x - 1) (n + 1)
  have e : x = (n - (-x - 1) % (n + 1)) + (n + 1) * (-((-x - 1) / (n + 1)) - 1) := by
    rw [Int.mul_sub, Int.mul_neg]
    omega
  conv => lhs; rw [e]
  rw [Int.add_mul_emod_self_left]
  exact Int.emod_eq_of_lt (by omega) (by omega)
/-- What stands twice in a rising row is struck. -/
theorem compactUp (d : Array Int) (hd : ∀ i j, i < j → j < d.size → d[i]! ≤ d[j]!) : ∀ m, m ≤ d.size → (Lib.compactUpTo d m).Pairwise (· < ·) ∧ (∀ z, z ∈ Lib.compactUpTo d m ↔ ∃ j, j < m ∧ z = d[j]!) := by
  intro m
  induction m with
  | zero => intro _; simp [Lib.compactUpTo]
  | succ m ih =>
    intro hm
    obtain ⟨i1, i2⟩ := ih (by omega)
    rw [Lib.compactUpTo_succ]
    by_cases hk : Lib.keeps d m = true
    · rw [if_pos hk]
      refine ⟨List.pairwise_append.mpr ⟨i1, by simp, fun a ha b hb => ?_⟩, fun z => ?_⟩
      · simp at hb
        subst hb
        obtain ⟨j, hj, rfl⟩ := (i2 a).mp ha
        simp only [Lib.keeps, decide_eq_true_eq] at hk
        rcases hk with h | h
        · omega
        · have h5 := hd (m - 1) m (by omega) (by omega)
          have h6 : d[j]! ≤ d[m - 1]! := by
            by_cases e : j = m - 1
            · rw [e]; exact Int.le_refl _
            · exact hd j (m - 1) (by omega) (by omega)
          omega
      · rw [List.mem_append, i2]
        constructor
        · rintro (⟨j, hj, rfl⟩ | h)
          · exact ⟨j, by omega, rfl⟩
          · simp at h; exact ⟨m, by omega, h⟩
        · rintro ⟨j, hj, rfl⟩
          by_cases e : j = m
          · right; simp [e]
          · left; exact ⟨j, by omega, rfl⟩
    · rw [if_neg hk, List.append_nil]
      refine ⟨i1, fun z => ?_⟩
      rw [i2]
      constructor
      · rintro ⟨j, hj, rfl⟩; exact ⟨j, by omega, rfl⟩
      · rintro ⟨j, hj, rfl⟩
        by_cases e : j = m
        · subst e
          simp only [Lib.keeps, decide_eq_true_eq] at hk
          exact ⟨j - 1, by omega, by omega⟩
        · exact ⟨j, by omega, rfl⟩
theorem compact_is (zs : List Int) (h : zs.Pairwise (· ≤ ·)) : (Lib.compact zs).Pairwise (· < ·) ∧ ∀ z, z ∈ Lib.compact zs ↔ z ∈ zs := by
  have hd : ∀ i j, i < j → j < zs.toArray.size → zs.toArray[i]! ≤ zs.toArray[j]! := fun i j hij hj => by
    have hj' : j < zs.length := by simpa using hj
    have := List.pairwise_iff_getElem.mp h i j (by omega) hj' hij
    simpa [hj', show i < zs.length by omega] using this
  obtain ⟨h1, h2⟩ := compactUp zs.toArray hd zs.toArray.size (Nat.le_refl _)
  refine ⟨by simpa [Lib.compact] using h1, fun z => ?_⟩
  have h3 := h2 z
  have e : Lib.compactUpTo zs.toArray zs.toArray.size = Lib.compact zs := by simp [Lib.compact]
  rw [e] at h3
  rw [h3, List.mem_iff_getElem]
  constructor
  · rintro ⟨j, hj, rfl⟩
    have hj' : j < zs.length := by simpa using hj
    exact ⟨j, hj', by simp [hj']⟩
  · rintro ⟨j, hj, rfl⟩
    exact ⟨j, by simpa using hj, by simp [hj]⟩
theorem sorted_is (zs : List Int) : (zs.mergeSort (fun a b => decide (a ≤ b))).Pairwise (· ≤ ·) := by
  have h := List.pairwise_mergeSort (le := fun a b : Int => decide (a ≤ b)) (fun a b c hab hbc => by simp at *; omega) (fun a b => by simp; omega) zs
  simpa using h
/-- Sorted, and struck: the places. -/
theorem cuts_are (n : Int) (hn : 0 ≤ n) (l : List Int) : Lib.compact ((l.map fun a => a % (n + 1)).mergeSort (fun a b => decide (a ≤ b))) = cutsL n l := by
  obtain ⟨a1, a2⟩ := compact_is _ (sorted_is (l.map fun a => a % (n + 1)))
  obtain ⟨b1, b2⟩ := cutsL_is n hn l
  refine rise_one a1 b1 fun z => ?_
  rw [a2, b2, List.mem_mergeSort, List.mem_map]
  constructor
  · rintro ⟨a, h, rfl⟩; exact ⟨a, h, rfl⟩
  · rintro ⟨a, h, rfl⟩; exact ⟨a, h, rfl⟩
theorem OwnV.holdsZ {w : World} {v : Value} {zs : List Int} {g : Nat} (h : OwnV w v (ints zs) (some g)) : Holds (Value.int .i64) w g 0 zs.toArray := by
  intro j hj
  have hj' : j < zs.length := by simpa using hj
  rcases h with ⟨_, _, e⟩ | ⟨g', cap, e, _, hg, h1, h2, h3, h4, h5⟩
  · cases e
  · cases e
    rw [ints_len] at h1 h5
    refine ⟨?_, by rw [Nat.zero_add]; exact h3 j (by omega)⟩
    rw [Nat.zero_add, h5 j hj', ints_get hj']
    simp [hj']
theorem qsortOf (v : Value) (zs : List Int) (w : World) (r : Option Nat) (h : OwnV w v (ints zs) r) (hl : zs.length ≤ 17592186044416) :
    Calls Try.prog 8 #[v] w fun e w' => e = .returned (.tuple #[]) ∧ OwnV w' v (ints (zs.mergeSort (fun a b => decide (a ≤ b)))) r ∧ w.grownBy w' r := by
  rcases h with ⟨rfl, h0, rfl⟩ | ⟨g, cap, rfl, rfl, hg, h1, h2, h3, h4, h5⟩
  · have : zs = [] := by simpa [ints] using h0
    subst this
    refine (Any.slices_Sort_int_none Try.laysSort none 0 w).mono ?_
    rintro e w' ⟨rfl, rfl⟩
    refine ⟨rfl, ?_, ⟨rfl, rfl, rfl, Nat.le_refl _, fun _ _ _ => rfl⟩⟩
    have : ([] : List Int).mergeSort (fun a b => decide (a ≤ b)) = [] := by simp
    rw [this]
    exact OwnV.nil _
  · have hO : OwnV w (.slice (some ⟨g, 0, none⟩) (ints zs).length cap) (ints zs) (some g) := .inr ⟨g, cap, rfl, rfl, hg, h1, h2, h3, h4, h5⟩
    have hH := hO.holdsZ
    rw [ints_len] at h1 h5 ⊢
    refine (Any.slices_Sort_int Try.laysSort g 0 cap zs w hH hg (by omega)).mono ?_
    rintro e w' ⟨rfl, n, os, rfl⟩
    refine ⟨rfl, ?_, grownBy_sortedI _⟩
    have hls : (zs.mergeSort (fun a b => decide (a ≤ b))).length = zs.length := List.length_mergeSort zs
    generalize hts : zs.mergeSort (fun a b => decide (a ≤ b)) = ts at *
    have hsz : ∀ (d : Array Int), g < (putRow (Value.int .i64) (Sort.ahead w n) g 0 d).heap.size := fun d => by simpa using hg
    have hput := holds_putRow (Value.int .i64) (Sort.ahead w n) g 0 zs.toArray ts.toArray (fun j hj => hH j hj) (by simp [hls])
    refine .inr ⟨g, cap, rfl, by rw [ints_len, hls], ?_, by rw [ints_len, hls]; exact h1, h2, fun j hj => ?_, fun j hj => ?_, fun j hj => ?_⟩
    · rw [size_grow]; have := hsz ts.toArray; omega
    · rw [frozen?_grow _ _ _ (hsz _), frozen?_putRow]; exact h3 j hj
    · rw [cell?_grow _ _ _ (hsz _)]
      by_cases hjt : j < ts.length
      · have := (hput j (by simpa using hjt)).1
        rw [Nat.zero_add] at this
        rw [this]; rfl
      · rw [cell?_putRow_other _ _ _ _ _ _ (.inr (.inr (by simp; omega)))]
        exact h4 j hj
    · rw [ints_len] at hj
      rw [cell?_grow _ _ _ (hsz _)]
      have := (hput j (by simpa using hj)).1
      rw [Nat.zero_add] at this
      rw [this]
      simp [ints, hj]
theorem grownBy_put (w : World) (q g : Nat) (d : Array Int) : w.grownBy (putRow (Value.int .i64) (Sort.ahead w q) g 0 d) (some g) := by
  have := grownBy_sortedI (w := w) (g := g) (n := q) (os := #[]) d
  simp only [grow, Array.append_empty] at this
  exact this
theorem qcompactOf (a : Option Addr) (N c : Nat) (zs : List Int) (w : World) (r : Option Nat) (h : OwnV w (.slice a N c) (ints zs) r) (hl : zs.length ≤ 17592186044416) :
    Calls Try.prog 9 #[.slice a N c] w fun e w' => e = .returned (.slice a (Lib.compact zs).length c) ∧ OwnV w' (.slice a (Lib.compact zs).length c) (ints (Lib.compact zs)) r ∧ w.grownBy w' r := by
  rcases h with ⟨e0, h0, rfl⟩ | ⟨g, cap, rfl, e0, hg, h1, h2, h3, h4, h5⟩
  · have : zs = [] := by simpa [ints] using h0
    subst this
    cases e0
    have hc : Lib.compact ([] : List Int) = [] := by simp [Lib.compact, Lib.compactUpTo]
    rw [hc]
    refine (Any.slices_Compact_int_empty Try.laysCompact none 0 w).mono ?_
    rintro e w' ⟨rfl, rfl⟩
    exact ⟨rfl, OwnV.nil _, ⟨rfl, rfl, rfl, Nat.le_refl _, fun _ _ _ => rfl⟩⟩
  · cases e0
    have hO : OwnV w (.slice (some ⟨g, 0, none⟩) (ints zs).length c) (ints zs) (some g) := .inr ⟨g, c, rfl, rfl, hg, h1, h2, h3, h4, h5⟩
    have hH := hO.holdsZ
    rw [ints_len] at h1 h5 ⊢
    refine (Any.slices_Compact_int Try.laysCompact g 0 c zs w hH (by omega) h1).mono ?_
    rintro e w' ⟨rfl, q, rfl⟩
    have hle := Lib.compact_length_le zs
    generalize hts : Lib.compact zs = ts at *
    have hlen : (ts ++ List.replicate (zs.length - ts.length) (0 : Int)).length = zs.length := by simp; omega
    have hput := holds_putRow (Value.int .i64) (Sort.ahead w q) g 0 zs.toArray (ts ++ List.replicate (zs.length - ts.length) 0).toArray (fun j hj => hH j hj) (by rw [List.size_toArray, List.size_toArray, hlen])
    refine ⟨rfl, .inr ⟨g, c, rfl, by rw [ints_len], by simpa using hg, by rw [ints_len]; omega, h2, fun j hj => ?_, fun j hj => ?_, fun j hj => ?_⟩, grownBy_put _ _ _ _⟩
    · rw [frozen?_putRow]; exact h3 j hj
    · by_cases hjt : j < zs.length
      · have := (hput j (by rw [List.size_toArray, hlen]; exact hjt)).1
        rw [Nat.zero_add] at this
        rw [this]; rfl
      · rw [cell?_putRow_other _ _ _ _ _ _ (.inr (.inr (by simp only [List.size_toArray, hlen]; omega)))]
        exact h4 j hj
    · rw [ints_len] at hj
      have := (hput j (by rw [List.size_toArray, hlen]; omega)).1
      rw [Nat.zero_add] at this
      have e : (ts ++ List.replicate (zs.length - ts.length) (0 : Int)).toArray[j]! = ts.getD j 0 := by
        simp [List.getElem?_append_left hj, List.getD_eq_getElem?_getD, hj]
      rw [this, ints_get hj, e]
end Go.Proofs.Ytlnbmblmmgjmfaa
