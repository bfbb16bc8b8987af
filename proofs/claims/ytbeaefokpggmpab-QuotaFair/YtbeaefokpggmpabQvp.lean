import Derived.Test.YtbeaefokpggmpabQvo
import Derived.Sort.OwnSortedInts
/-! quota: the asks, sorted. -/
namespace Go.Proofs.Ytbeaefokpggmpab
open Go.RowKit Go.Shelf Go.Sort Plain
set_option linter.unusedVariables false
set_option linter.unusedSimpArgs false

theorem OwnL.holds {w : World} {g cap : Nat} {zs : List Int} (h : OwnL w (.slice (some ⟨g, 0, none⟩) zs.length cap) zs (some g)) : Holds (Value.int .i64) w g 0 zs.toArray := by
  intro j hj
  have hj' : j < zs.length := by simpa using hj
  rcases h.2 with ⟨_, _, e⟩ | ⟨g', cap', e, e2, hg, h1, h2, h3, h4, h5⟩
  · cases e
  · cases e
    refine ⟨?_, by rw [Nat.zero_add]; exact h3 j (by omega)⟩
    rw [Nat.zero_add, h5 j hj']
    simp [hj']
theorem sortOf (v : Value) (zs : List Int) (w : World) (r : Option Nat) (h : OwnL w v zs r) (hl : zs.length ≤ 64) :
    Calls Try.prog 37 #[v] w fun e w' => e = .returned (.tuple #[]) ∧ OwnL w' v (zs.mergeSort (fun a b => decide (a ≤ b))) r ∧ w.grownBy w' r := by
  have hb := h.1
  rcases h.2 with ⟨rfl, h0, rfl⟩ | ⟨g, cap, rfl, rfl, hg, h1, h2, h3, h4, h5⟩
  · subst h0
    refine (AnyM.slices_Sort_int_none Try.sortQ none 0 w).mono ?_
    rintro e w' ⟨rfl, rfl⟩
    refine ⟨rfl, ?_, ⟨rfl, rfl, rfl, Nat.le_refl _, fun _ _ _ => rfl⟩⟩
    have : ([] : List Int).mergeSort (fun a b => decide (a ≤ b)) = [] := by simp
    rw [this]
    exact OwnL.nil _
  · have hH := OwnL.holds h
    refine (AnyM.slices_Sort_int Try.sortQ g 0 cap zs w hH hg (by omega)).mono ?_
    rintro e w' ⟨rfl, n, os, rfl⟩
    refine ⟨rfl, ?_, grownBy_sortedI _⟩
    have hls : (zs.mergeSort (fun a b => decide (a ≤ b))).length = zs.length := List.length_mergeSort zs
    have hmem : ∀ c ∈ zs.mergeSort (fun a b => decide (a ≤ b)), c ∈ zs := fun c hc => List.mem_mergeSort.mp hc
    generalize hts : zs.mergeSort (fun a b => decide (a ≤ b)) = ts at *
    have hsz : ∀ (d : Array Int), g < (putRow (Value.int .i64) (Sort.ahead w n) g 0 d).heap.size := fun d => by simpa using hg
    have hput := holds_putRow (Value.int .i64) (Sort.ahead w n) g 0 zs.toArray ts.toArray (fun j hj => hH j hj) (by simp [hls])
    refine ⟨fun c hc => hb c (hmem c hc), .inr ⟨g, cap, rfl, by rw [hls], ?_, by rw [hls]; exact h1, h2, fun j hj => ?_, fun j hj => ?_, fun j hj => ?_⟩⟩
    · rw [size_grow]; have := hsz ts.toArray; omega
    · rw [frozen?_grow _ _ _ (hsz _), frozen?_putRow]; exact h3 j hj
    · rw [cell?_grow _ _ _ (hsz _)]
      by_cases hjt : j < ts.length
      · have := (hput j (by simpa using hjt)).1
        rw [Nat.zero_add] at this
        rw [this]; rfl
      · rw [cell?_putRow_other _ _ _ _ _ _ (.inr (.inr (by simp; omega)))]
        exact h4 j hj
    · rw [cell?_grow _ _ _ (hsz _)]
      have := (hput j (by simpa using hj)).1
      rw [Nat.zero_add] at this
      rw [this]
      simp [hj]
def sortI (l : List Int) : List Int := l.mergeSort (fun a b => decide (a ≤ b))
theorem sortI_perm (l : List Int) : (sortI l).Perm l := List.mergeSort_perm l _
theorem sortI_le (l : List Int) : (sortI l).Pairwise (fun a b => a ≤ b) := by
  have := List.pairwise_mergeSort (le := fun a b : Int => decide (a ≤ b)) (fun a b c h1 h2 => by simp at h1 h2 ⊢; omega) (fun a b => by simp; omega) l
  exact this.imp (fun h => by simpa using h)
theorem sortI_len (l : List Int) : (sortI l).length = l.length := List.length_mergeSort l
theorem sortedOf (v : Value) (l : List Int) (Bs : Nat) (w : World) (hl : l.length ≤ 64) (hBs : Bs < w.heap.size) (hc : w.cell? ⟨Bs, 0, none⟩ = some v) (hI : NumsAt w v l) :
    Calls Try.prog 27 #[.func (.func 38) #[] #[.pointer (some ⟨Bs, 0, none⟩)]] w fun e w' => ∃ v' r, e = .returned v' ∧ OwnL w' v' (sortI l) r ∧ (∀ g, r = some g → w.heap.size ≤ g) ∧ Below w.heap.size w w' := by
  have HC : Hid (Calls Try.prog 36 #[.func (.func 38) #[] #[.pointer (some ⟨Bs, 0, none⟩)]] w fun e w' => ∃ v' r, e = .returned v' ∧ OwnL w' v' l r ∧ (∀ g, r = some g → w.heap.size ≤ g) ∧ Below w.heap.size w w') := collectOf v l Bs 0 w hl hBs hc hI
  clear hc hI
  go_enter Try.func27, Try.ntmps27
  go_wp2_with fail
  refine HC.out.mono ?_
  rintro e w1 ⟨v', r, rfl, ho, hr, hb⟩
  have HS : Hid (Calls Try.prog 37 #[v'] w1 fun e w' => e = .returned (.tuple #[]) ∧ OwnL w' v' (sortI l) r ∧ w1.grownBy w' r) := sortOf v' l w1 r ho hl
  have HR : Hid (∀ g, r = some g → w.heap.size ≤ g) := hr
  have HB : Hid (Below w.heap.size w w1) := hb
  obtain ⟨a, cap, rfl⟩ := ho.shp
  clear ho hr hb
  go_wp2_with fail
  refine HS.out.mono ?_
  rintro e w2 ⟨rfl, ho2, hg2⟩
  have HF : Hid (OwnL w2 (.slice a l.length cap) (sortI l) r ∧ (∀ g, r = some g → w.heap.size ≤ g) ∧ Below w.heap.size w w2) := ⟨ho2, HR.out, HB.out.grown hg2 HB.out.size (fun q hq => HR.out q hq)⟩
  clear ho2 hg2
  go_wp2
  go_ret
  exact ⟨_, r, rfl, HF.out⟩
end Go.Proofs.Ytbeaefokpggmpab
