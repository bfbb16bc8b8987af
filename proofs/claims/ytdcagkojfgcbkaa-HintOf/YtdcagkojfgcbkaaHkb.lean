import Derived.Test.YtdcagkojfgcbkaaHka
import Derived.Test.YtdcagkojfgcbkaaHkLay
import Derived.Sort.OwnSortedInts
import Derived.OwnWalk
/-! hint: numbers sorted; where the last record of each key stands. -/
namespace Go.Proofs.Ytdcagkojfgcbkaa
open Go.RowKit Plain Go.WideMaps Go.Maps Go.Sort
set_option linter.unusedVariables false

abbrev iv (l : List Int) : List Value := l.map (Value.int .i64)
theorem OwnV.of_row {w : World} {base n : Nat} {e : TypeId} {v : Value} {xs : List Value} (h : w.ownsRow base e 1 v n xs) : ∃ r, OwnV w v xs r ∧ ∀ g, r = some g → base ≤ g := by
  obtain ⟨hl, ⟨rfl, rfl⟩ | ⟨g, cap, cur, rfl, hb, hh, h1, h2, h3, h4⟩⟩ := h
  · have : xs = [] := List.eq_nil_of_length_eq_zero (by omega)
    subst this
    exact ⟨none, OwnV.nil w, by simp⟩
  · rw [Nat.mul_one] at hl h3 h4
    subst hl
    refine ⟨some g, .inr ⟨g, cap, rfl, rfl, (Array.getElem?_eq_some_iff.1 hh).1, h1, h2, fun j hj => ?_, fun j hj => ?_, fun j hj => ?_⟩, fun g' e => by simp at e; omega⟩
    · simp [World.frozen?, hh]
    · simp [World.cell?, hh]; omega
    · rw [← h4, List.getElem?_take_of_lt hj]
      simp [World.cell?, hh]
theorem OwnV.holds {w : World} {v : Value} {zs : List Int} {g : Nat} (h : OwnV w v (iv zs) (some g)) : Holds (Value.int .i64) w g 0 zs.toArray := by
  intro j hj
  have hj' : j < zs.length := by simpa using hj
  rcases h with ⟨_, _, e⟩ | ⟨g', cap, e, _, hg, h1, h2, h3, h4, h5⟩
  · cases e
  · cases e
    rw [List.length_map] at h1 h5
    refine ⟨?_, by rw [Nat.zero_add]; exact h3 j (by omega)⟩
    rw [Nat.zero_add, h5 j hj']
    simp [hj']
theorem sortOf (v : Value) (zs : List Int) (w : World) (r : Option Nat) (h : OwnV w v (iv zs) r) (hl : zs.length ≤ 4398046511104) :
    Calls Try.prog 12 #[v] w fun e w' => e = .returned (.tuple #[]) ∧ OwnV w' v (iv (zs.mergeSort (fun a b => decide (a ≤ b)))) r ∧ w.grownBy w' r := by
  rcases h with ⟨rfl, h0, rfl⟩ | ⟨g, cap, rfl, rfl, hg, h1, h2, h3, h4, h5⟩
  · have : zs = [] := by simpa using h0
    subst this
    refine (Any.slices_Sort_int_none Try.laysSort none 0 w).mono ?_
    rintro e w' ⟨rfl, rfl⟩
    refine ⟨rfl, ?_, ⟨rfl, rfl, rfl, Nat.le_refl _, fun _ _ _ => rfl⟩⟩
    have : ([] : List Int).mergeSort (fun a b => decide (a ≤ b)) = [] := by simp
    rw [this]
    exact OwnV.nil _
  · have hO : OwnV w (.slice (some ⟨g, 0, none⟩) (iv zs).length cap) (iv zs) (some g) := .inr ⟨g, cap, rfl, rfl, hg, h1, h2, h3, h4, h5⟩
    have hH := hO.holds
    rw [List.length_map] at h1 h5 ⊢
    refine (Any.slices_Sort_int Try.laysSort g 0 cap zs w hH hg (by omega)).mono ?_
    rintro e w' ⟨rfl, n, os, rfl⟩
    refine ⟨rfl, ?_, grownBy_sortedI _⟩
    have hls : (zs.mergeSort (fun a b => decide (a ≤ b))).length = zs.length := List.length_mergeSort zs
    generalize hts : zs.mergeSort (fun a b => decide (a ≤ b)) = ts at *
    have hsz : ∀ (d : Array Int), g < (putRow (Value.int .i64) (Sort.ahead w n) g 0 d).heap.size := fun d => by simpa using hg
    have hput := holds_putRow (Value.int .i64) (Sort.ahead w n) g 0 zs.toArray ts.toArray (fun j hj => hH j hj) (by simp [hls])
    refine .inr ⟨g, cap, rfl, by rw [List.length_map, hls], ?_, by rw [List.length_map, hls]; exact h1, h2, fun j hj => ?_, fun j hj => ?_, fun j hj => ?_⟩
    · rw [size_grow]; have := hsz ts.toArray; omega
    · rw [frozen?_grow _ _ _ (hsz _), frozen?_putRow]; exact h3 j hj
    · rw [cell?_grow _ _ _ (hsz _)]
      by_cases hjt : j < ts.length
      · have := (hput j (by simpa using hjt)).1
        rw [Nat.zero_add] at this
        rw [this]; rfl
      · rw [cell?_putRow_other _ _ _ _ _ _ (.inr (.inr (by simp; omega)))]
        exact h4 j hj
    · rw [List.length_map] at hj
      rw [cell?_grow _ _ _ (hsz _)]
      have := (hput j (by simpa using hj)).1
      rw [Nat.zero_add] at this
      rw [this]
      simp [hj]
end Go.Proofs.Ytdcagkojfgcbkaa
