import Derived.Test.YtlicoejklbnlnabDoorMnE
/-! Names of files: the document's Name. -/
namespace Go.Proofs.YtlicoejklbnlnabDoor
open Go.RowKit
set_option linter.unusedVariables false
set_option linter.unusedSimpArgs false

set_option maxHeartbeats 8000000 in
set_option maxRecDepth 100000 in
theorem rname3 (i s : Int) (t : Bool) (hok : FN.Ok ⟨3, i, s, t⟩) (w : World) :
    Calls Tryd.prog 6 #[.agg #[.int .i64 3, .int .i64 i, .int .i64 s, .bool t]] w fun e w' => e = .returned (.string ⟨(nameL ⟨3, i, s, t⟩).toArray⟩) ∧ Below w.heap.size w w' := by
  obtain ⟨hk0, hk1, hi0, hi1, hs0, hs1⟩ := hok
  simp only at hk0 hk1 hi0 hi1 hs0 hs1
  obtain ⟨W1, hW1⟩ : ∃ W1, w.alloc (.cells #[.int .i64 3, .int .i64 i, .int .i64 s, .bool t] 23) = W1 := ⟨_, rfl⟩
  have HB1 : Hid (Below w.heap.size w W1) := by
    unfold Hid
    rw [← hW1]
    exact (Below.refl _ _).alloc (Nat.le_refl _) _
  have hWs : W1.heap.size = w.heap.size + 1 := by rw [← hW1]; simp
  have z0 : W1.cell? ⟨w.heap.size, 0, none⟩ = some (.int .i64 3) := by rw [← hW1, World.cell?_alloc_at _ _ _ _ rfl]; rfl
  have z1 : W1.cell? ⟨w.heap.size, 1, none⟩ = some (.int .i64 i) := by rw [← hW1, World.cell?_alloc_at _ _ _ _ rfl]; rfl
  have z2 : W1.cell? ⟨w.heap.size, 2, none⟩ = some (.int .i64 s) := by rw [← hW1, World.cell?_alloc_at _ _ _ _ rfl]; rfl
  have z3 : W1.cell? ⟨w.heap.size, 3, none⟩ = some (.bool t) := by rw [← hW1, World.cell?_alloc_at _ _ _ _ rfl]; rfl
  have HCL : Hid (∀ u, Below W1.heap.size W1 u → u.cell? ⟨w.heap.size, 0, none⟩ = some (.int .i64 3) ∧ u.cell? ⟨w.heap.size, 1, none⟩ = some (.int .i64 i) ∧ u.cell? ⟨w.heap.size, 2, none⟩ = some (.int .i64 s) ∧ u.cell? ⟨w.heap.size, 3, none⟩ = some (.bool t)) := fun u hu => ⟨(hu.cell (by show w.heap.size < _; omega)).trans z0, (hu.cell (by show w.heap.size < _; omega)).trans z1, (hu.cell (by show w.heap.size < _; omega)).trans z2, (hu.cell (by show w.heap.size < _; omega)).trans z3⟩
  go_enter Tryd.func6, Tryd.ntmps6
  clear hk0 hk1
  have hsg : (1 ≤ s ∧ s < 1073741824) ∨ (1 ≤ s ∧ ¬ s < 1073741824) ∨ ¬ 1 ≤ s := by omega
  cases hi : isN i with
  | false =>
    have i_n : ¬ 0 ≤ i ∨ (0 ≤ i ∧ ¬ i < 1073741824) := by unfold isN at hi; simp at hi; omega
    have HZ : Hid (nameL ⟨3, i, s, t⟩ = []) := by
      unfold Hid nameL
      rw [show stemL ⟨3, i, s, t⟩ = [] by unfold stemL; simp [hi]]
      simp
    clear hi
    rcases i_n with hin | ⟨hin, hin2⟩ <;> rcases hsg with ⟨g1, g2⟩ | ⟨g1, g2⟩ | g1
    all_goals
      go_wp2
      go_ret
      refine ⟨?_, HB1.out⟩
      rw [HZ.out]
      rfl
  | true =>
    have ia : 0 ≤ i := by unfold isN at hi; simp at hi; omega
    have ib : i < 1073741824 := by unfold isN at hi; simp at hi; omega
    by_cases hs : s = 0
    · subst hs
      have HDi : Hid (∀ u, Calls Tryd.prog 24 #[.int .i64 i] u fun e w' => e = .returned (.string ⟨(dc i).toArray⟩) ∧ Below u.heap.size u w') := fun u => by
        have := decimalOf (i.toNat + 1) i.toNat (by omega) (by omega) u
        rwa [Int.toNat_of_nonneg (by omega)] at this
      have li : (dc i).length ≤ 21 := dec_len (by omega)
      have HN : Hid (nameL ⟨3, i, 0, t⟩ = if t = true then (116 :: (dc i ++ tM)) ++ tmpB else 116 :: (dc i ++ tM)) := by
        unfold Hid nameL
        rw [show stemL ⟨3, i, 0, t⟩ = 116 :: (dc i ++ tM) by unfold stemL; simp [hi]]
        simp
      clear hi hsg
      generalize dc i = di at *
      have hsi : (⟨di.toArray⟩ : ByteArray).size = di.length := rfl
      go_wp2_with fail
      refine (HDi.out _).mono ?_
      rintro e w1 ⟨rfl, hb⟩
      have HB : Hid (Below W1.heap.size W1 w1) := hb
      obtain ⟨y0, y1, y2, y3⟩ := HCL.out _ HB.out
      clear hb
      cases t with
      | false =>
        go_wp2
        go_ret
        refine ⟨?_, below_on HB1.out HB.out⟩
        rw [HN.out]
        refine congrArg Ending.returned (str_eq ?_)
        simp [tM]
      | true =>
        go_wp2
        go_ret
        refine ⟨?_, below_on HB1.out HB.out⟩
        rw [HN.out]
        refine congrArg Ending.returned (str_eq ?_)
        simp [tM, tmpB]
    · have HZ : Hid (nameL ⟨3, i, s, t⟩ = []) := by
        unfold Hid nameL
        rw [show stemL ⟨3, i, s, t⟩ = [] by unfold stemL; simp [hs]]
        simp
      have hsd : decide (s = 0) = false := decide_eq_false hs
      clear hi
      rcases hsg with ⟨g1, g2⟩ | ⟨g1, g2⟩ | g1
      all_goals
        go_wp2
        go_ret
        refine ⟨?_, HB1.out⟩
        rw [HZ.out]
        rfl


end Go.Proofs.YtlicoejklbnlnabDoor
