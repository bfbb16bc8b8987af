import Derived.Test.YtlicoejklbnlnabDoorMnE
/-! Names of files: the document's Name, of numbers that may not be. -/
namespace Go.Proofs.YtlicoejklbnlnabDoor
open Go.RowKit
set_option linter.unusedVariables false
set_option linter.unusedSimpArgs false

set_option maxHeartbeats 8000000 in
set_option maxRecDepth 100000 in
theorem rnameN2 (i s : Int) (t : Bool) (hok : FN.Ok ⟨2, i, s, t⟩) (hv : ¬ (isN i = true ∧ isS s = true)) (w : World) :
    Calls Tryd.prog 6 #[.agg #[.int .i64 2, .int .i64 i, .int .i64 s, .bool t]] w fun e w' => e = .returned (.string ⟨(nameL ⟨2, i, s, t⟩).toArray⟩) ∧ Below w.heap.size w w' := by
  obtain ⟨hk0, hk1, hi0, hi1, hs0, hs1⟩ := hok
  simp only at hk0 hk1 hi0 hi1 hs0 hs1
  obtain ⟨W1, hW1⟩ : ∃ W1, w.alloc (.cells #[.int .i64 2, .int .i64 i, .int .i64 s, .bool t] 23) = W1 := ⟨_, rfl⟩
  have HB1 : Hid (Below w.heap.size w W1) := by
    unfold Hid
    rw [← hW1]
    exact (Below.refl _ _).alloc (Nat.le_refl _) _
  have hWs : W1.heap.size = w.heap.size + 1 := by rw [← hW1]; simp
  have z0 : W1.cell? ⟨w.heap.size, 0, none⟩ = some (.int .i64 2) := by rw [← hW1, World.cell?_alloc_at _ _ _ _ rfl]; rfl
  have z1 : W1.cell? ⟨w.heap.size, 1, none⟩ = some (.int .i64 i) := by rw [← hW1, World.cell?_alloc_at _ _ _ _ rfl]; rfl
  have z2 : W1.cell? ⟨w.heap.size, 2, none⟩ = some (.int .i64 s) := by rw [← hW1, World.cell?_alloc_at _ _ _ _ rfl]; rfl
  have z3 : W1.cell? ⟨w.heap.size, 3, none⟩ = some (.bool t) := by rw [← hW1, World.cell?_alloc_at _ _ _ _ rfl]; rfl
  have HCL : Hid (∀ u, Below W1.heap.size W1 u → u.cell? ⟨w.heap.size, 0, none⟩ = some (.int .i64 2) ∧ u.cell? ⟨w.heap.size, 1, none⟩ = some (.int .i64 i) ∧ u.cell? ⟨w.heap.size, 2, none⟩ = some (.int .i64 s) ∧ u.cell? ⟨w.heap.size, 3, none⟩ = some (.bool t)) := fun u hu => ⟨(hu.cell (by show w.heap.size < _; omega)).trans z0, (hu.cell (by show w.heap.size < _; omega)).trans z1, (hu.cell (by show w.heap.size < _; omega)).trans z2, (hu.cell (by show w.heap.size < _; omega)).trans z3⟩
  go_enter Tryd.func6, Tryd.ntmps6
  clear hk0 hk1
  have HZ : Hid (nameL ⟨2, i, s, t⟩ = []) := by
    unfold Hid nameL
    rw [show stemL ⟨2, i, s, t⟩ = [] by unfold stemL; simp only [show ((2 : Int) = 1) = False by simp, show ((2 : Int) = 2) = True by simp, true_and, false_and, if_false]; rw [if_neg hv]; simp]
    simp
  have hig : (0 ≤ i ∧ i < 1073741824) ∨ (0 ≤ i ∧ ¬ i < 1073741824) ∨ ¬ 0 ≤ i := by omega
  have hsg : (1 ≤ s ∧ s < 1073741824) ∨ (1 ≤ s ∧ ¬ s < 1073741824) ∨ ¬ 1 ≤ s := by omega
  have hnb : ¬ ((0 ≤ i ∧ i < 1073741824) ∧ (1 ≤ s ∧ s < 1073741824)) := fun hh => hv ⟨by unfold isN; simp; omega, by unfold isS; simp; omega⟩
  clear hv
  rcases hig with ⟨f1, f2⟩ | ⟨f1, f2⟩ | f1 <;> rcases hsg with ⟨g1, g2⟩ | ⟨g1, g2⟩ | g1
  · exact absurd ⟨⟨f1, f2⟩, ⟨g1, g2⟩⟩ hnb
  all_goals
    clear hnb
    go_wp2
    go_ret
    refine ⟨?_, HB1.out⟩
    rw [HZ.out]
    rfl
end Go.Proofs.YtlicoejklbnlnabDoor
