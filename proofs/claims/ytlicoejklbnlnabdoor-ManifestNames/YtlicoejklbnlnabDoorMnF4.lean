import Derived.Test.YtlicoejklbnlnabDoorMnE
/-! Names of files: the document's Name. -/
namespace Go.Proofs.YtlicoejklbnlnabDoor
open Go.RowKit
set_option linter.unusedVariables false
set_option linter.unusedSimpArgs false

set_option maxHeartbeats 8000000 in
set_option maxRecDepth 100000 in
theorem rname4 (i s : Int) (t : Bool) (hok : FN.Ok ⟨4, i, s, t⟩) (w : World) :
    Calls Tryd.prog 6 #[.agg #[.int .i64 4, .int .i64 i, .int .i64 s, .bool t]] w fun e w' => e = .returned (.string ⟨(nameL ⟨4, i, s, t⟩).toArray⟩) ∧ Below w.heap.size w w' := by
  obtain ⟨hk0, hk1, hi0, hi1, hs0, hs1⟩ := hok
  simp only at hk0 hk1 hi0 hi1 hs0 hs1
  obtain ⟨W1, hW1⟩ : ∃ W1, w.alloc (.cells #[.int .i64 4, .int .i64 i, .int .i64 s, .bool t] 23) = W1 := ⟨_, rfl⟩
  have HB1 : Hid (Below w.heap.size w W1) := by
    unfold Hid
    rw [← hW1]
    exact (Below.refl _ _).alloc (Nat.le_refl _) _
  have hWs : W1.heap.size = w.heap.size + 1 := by rw [← hW1]; simp
  have z0 : W1.cell? ⟨w.heap.size, 0, none⟩ = some (.int .i64 4) := by rw [← hW1, World.cell?_alloc_at _ _ _ _ rfl]; rfl
  have z1 : W1.cell? ⟨w.heap.size, 1, none⟩ = some (.int .i64 i) := by rw [← hW1, World.cell?_alloc_at _ _ _ _ rfl]; rfl
  have z2 : W1.cell? ⟨w.heap.size, 2, none⟩ = some (.int .i64 s) := by rw [← hW1, World.cell?_alloc_at _ _ _ _ rfl]; rfl
  have z3 : W1.cell? ⟨w.heap.size, 3, none⟩ = some (.bool t) := by rw [← hW1, World.cell?_alloc_at _ _ _ _ rfl]; rfl
  have HCL : Hid (∀ u, Below W1.heap.size W1 u → u.cell? ⟨w.heap.size, 0, none⟩ = some (.int .i64 4) ∧ u.cell? ⟨w.heap.size, 1, none⟩ = some (.int .i64 i) ∧ u.cell? ⟨w.heap.size, 2, none⟩ = some (.int .i64 s) ∧ u.cell? ⟨w.heap.size, 3, none⟩ = some (.bool t)) := fun u hu => ⟨(hu.cell (by show w.heap.size < _; omega)).trans z0, (hu.cell (by show w.heap.size < _; omega)).trans z1, (hu.cell (by show w.heap.size < _; omega)).trans z2, (hu.cell (by show w.heap.size < _; omega)).trans z3⟩
  go_enter Tryd.func6, Tryd.ntmps6
  clear hk0 hk1
  have hig : (0 ≤ i ∧ i < 1073741824) ∨ (0 ≤ i ∧ ¬ i < 1073741824) ∨ ¬ 0 ≤ i := by omega
  have hsg : (1 ≤ s ∧ s < 1073741824) ∨ (1 ≤ s ∧ ¬ s < 1073741824) ∨ ¬ 1 ≤ s := by omega
  by_cases hz : i = 0 ∧ s = 0
  · obtain ⟨rfl, rfl⟩ := hz
    clear hig hsg
    cases t with
    | false =>
      go_wp2
      go_ret
      exact ⟨rfl, HB1.out⟩
    | true =>
      go_wp2
      go_ret
      exact ⟨rfl, HB1.out⟩
  · have HZ : Hid (nameL ⟨4, i, s, t⟩ = []) := by
      unfold Hid nameL
      rw [show stemL ⟨4, i, s, t⟩ = [] by unfold stemL; simp [hz]]
      simp
    by_cases hi : i = 0
    · have hs : s ≠ 0 := fun e => hz ⟨hi, e⟩
      subst hi
      have hsd : decide (s = 0) = false := decide_eq_false hs
      clear hz hig
      rcases hsg with ⟨g1, g2⟩ | ⟨g1, g2⟩ | g1
      all_goals
        go_wp2
        go_ret
        refine ⟨?_, HB1.out⟩
        rw [HZ.out]
        rfl
    · have hsd : decide (i = 0) = false := decide_eq_false hi
      clear hz
      rcases hig with ⟨f1, f2⟩ | ⟨f1, f2⟩ | f1 <;> rcases hsg with ⟨g1, g2⟩ | ⟨g1, g2⟩ | g1
      all_goals
        go_wp2
        go_ret
        refine ⟨?_, HB1.out⟩
        rw [HZ.out]
        rfl


end Go.Proofs.YtlicoejklbnlnabDoor
