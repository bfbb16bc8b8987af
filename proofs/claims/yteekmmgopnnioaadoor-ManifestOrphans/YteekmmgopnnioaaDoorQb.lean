import Derived.Test.YteekmmgopnnioaaDoorMnE
import Derived.Test.YteekmmgopnnioaaDoorMnG1
import Derived.Test.YteekmmgopnnioaaDoorMnG2
import Derived.Test.YteekmmgopnnioaaDoorMnN
import Derived.Test.YteekmmgopnnioaaDoorMnH
import Derived.Deep.CutRange
/-! Names of files: the document's Name, of numbers that may not be. -/
namespace Go.Proofs.YteekmmgopnnioaaDoor.Mn
open Go.RowKit
set_option linter.unusedVariables false
set_option linter.unusedSimpArgs false

set_option maxHeartbeats 8000000 in
set_option maxRecDepth 100000 in
theorem rnameN1 (i s : Int) (t : Bool) (hok : FN.Ok ⟨1, i, s, t⟩) (hv : ¬ (isN i = true ∧ isS s = true)) (w : World) :
    Calls Tryd.prog 6 #[.agg #[.int .i64 1, .int .i64 i, .int .i64 s, .bool t]] w fun e w' => e = .returned (.string ⟨(nameL ⟨1, i, s, t⟩).toArray⟩) ∧ Below w.heap.size w w' := by
  obtain ⟨hk0, hk1, hi0, hi1, hs0, hs1⟩ := hok
  simp only at hk0 hk1 hi0 hi1 hs0 hs1
  obtain ⟨W1, hW1⟩ : ∃ W1, w.alloc (.cells #[.int .i64 1, .int .i64 i, .int .i64 s, .bool t] 23) = W1 := ⟨_, rfl⟩
  have HB1 : Hid (Below w.heap.size w W1) := by
    unfold Hid
    rw [← hW1]
    exact (Below.refl _ _).alloc (Nat.le_refl _) _
  have hWs : W1.heap.size = w.heap.size + 1 := by rw [← hW1]; simp
  have z0 : W1.cell? ⟨w.heap.size, 0, none⟩ = some (.int .i64 1) := by rw [← hW1, World.cell?_alloc_at _ _ _ _ rfl]; rfl
  have z1 : W1.cell? ⟨w.heap.size, 1, none⟩ = some (.int .i64 i) := by rw [← hW1, World.cell?_alloc_at _ _ _ _ rfl]; rfl
  have z2 : W1.cell? ⟨w.heap.size, 2, none⟩ = some (.int .i64 s) := by rw [← hW1, World.cell?_alloc_at _ _ _ _ rfl]; rfl
  have z3 : W1.cell? ⟨w.heap.size, 3, none⟩ = some (.bool t) := by rw [← hW1, World.cell?_alloc_at _ _ _ _ rfl]; rfl
  have HCL : Hid (∀ u, Below W1.heap.size W1 u → u.cell? ⟨w.heap.size, 0, none⟩ = some (.int .i64 1) ∧ u.cell? ⟨w.heap.size, 1, none⟩ = some (.int .i64 i) ∧ u.cell? ⟨w.heap.size, 2, none⟩ = some (.int .i64 s) ∧ u.cell? ⟨w.heap.size, 3, none⟩ = some (.bool t)) := fun u hu => ⟨(hu.cell (by show w.heap.size < _; omega)).trans z0, (hu.cell (by show w.heap.size < _; omega)).trans z1, (hu.cell (by show w.heap.size < _; omega)).trans z2, (hu.cell (by show w.heap.size < _; omega)).trans z3⟩
  go_enter Tryd.func6, Tryd.ntmps6
  clear hk0 hk1
  have HZ : Hid (nameL ⟨1, i, s, t⟩ = []) := by
    unfold Hid nameL
    rw [show stemL ⟨1, i, s, t⟩ = [] by unfold stemL; simp only [show ((1 : Int) = 1) = True by simp, show ((1 : Int) = 2) = False by simp, true_and, false_and, if_false]; rw [if_neg hv]; simp]
    simp
  have hig : (0 ≤ i ∧ i < 1073741824) ∨ (0 ≤ i ∧ ¬ i < 1073741824) ∨ ¬ 0 ≤ i := by omega
  have hsg : (1 ≤ s ∧ s < 1073741824) ∨ (1 ≤ s ∧ ¬ s < 1073741824) ∨ ¬ 1 ≤ s := by omega
  have hnb : ¬ ((0 ≤ i ∧ i < 1073741824) ∧ (1 ≤ s ∧ s < 1073741824)) := fun hh => hv ⟨by unfold isN; simp; omega, by unfold isS; simp; omega⟩
  clear hv
  rcases hig with ⟨f1, f2⟩ | ⟨f1, f2⟩ | f1 <;> rcases hsg with ⟨g1, g2⟩ | ⟨g1, g2⟩ | g1
  · exact absurd ⟨⟨f1, f2⟩, ⟨g1, g2⟩⟩ hnb
  all_goals
    clear hnb
    go_wp2
    go_ret
    refine ⟨?_, HB1.out⟩
    rw [HZ.out]
    rfl
end Go.Proofs.YteekmmgopnnioaaDoor.Mn

/-! Names of files: the document's Name, of numbers that may not be. -/
namespace Go.Proofs.YteekmmgopnnioaaDoor.Mn
open Go.RowKit
set_option linter.unusedVariables false
set_option linter.unusedSimpArgs false

set_option maxHeartbeats 8000000 in
set_option maxRecDepth 100000 in
theorem rnameN2 (i s : Int) (t : Bool) (hok : FN.Ok ⟨2, i, s, t⟩) (hv : ¬ (isN i = true ∧ isS s = true)) (w : World) :
    Calls Tryd.prog 6 #[.agg #[.int .i64 2, .int .i64 i, .int .i64 s, .bool t]] w fun e w' => e = .returned (.string ⟨(nameL ⟨2, i, s, t⟩).toArray⟩) ∧ Below w.heap.size w w' := by
  obtain ⟨hk0, hk1, hi0, hi1, hs0, hs1⟩ := hok
  simp only at hk0 hk1 hi0 hi1 hs0 hs1
  obtain ⟨W1, hW1⟩ : ∃ W1, w.alloc (.cells #[.int .i64 2, .int .i64 i, .int .i64 s, .bool t] 23) = W1 := ⟨_, rfl⟩
  have HB1 : Hid (Below w.heap.size w W1) := by
    unfold Hid
    rw [← hW1]
    exact (Below.refl _ _).alloc (Nat.le_refl _) _
  have hWs : W1.heap.size = w.heap.size + 1 := by rw [← hW1]; simp
  have z0 : W1.cell? ⟨w.heap.size, 0, none⟩ = some (.int .i64 2) := by rw [← hW1, World.cell?_alloc_at _ _ _ _ rfl]; rfl
  have z1 : W1.cell? ⟨w.heap.size, 1, none⟩ = some (.int .i64 i) := by rw [← hW1, World.cell?_alloc_at _ _ _ _ rfl]; rfl
  have z2 : W1.cell? ⟨w.heap.size, 2, none⟩ = some (.int .i64 s) := by rw [← hW1, World.cell?_alloc_at _ _ _ _ rfl]; rfl
  have z3 : W1.cell? ⟨w.heap.size, 3, none⟩ = some (.bool t) := by rw [← hW1, World.cell?_alloc_at _ _ _ _ rfl]; rfl
  have HCL : Hid (∀ u, Below W1.heap.size W1 u → u.cell? ⟨w.heap.size, 0, none⟩ = some (.int .i64 2) ∧ u.cell? ⟨w.heap.size, 1, none⟩ = some (.int .i64 i) ∧ u.cell? ⟨w.heap.size, 2, none⟩ = some (.int .i64 s) ∧ u.cell? ⟨w.heap.size, 3, none⟩ = some (.bool t)) := fun u hu => ⟨(hu.cell (by show w.heap.size < _; omega)).trans z0, (hu.cell (by show w.heap.size < _; omega)).trans z1, (hu.cell (by show w.heap.size < _; omega)).trans z2, (hu.cell (by show w.heap.size < _; omega)).trans z3⟩
  go_enter Tryd.func6, Tryd.ntmps6
  clear hk0 hk1
  have HZ : Hid (nameL ⟨2, i, s, t⟩ = []) := by
    unfold Hid nameL
    rw [show stemL ⟨2, i, s, t⟩ = [] by unfold stemL; simp only [show ((2 : Int) = 1) = False by simp, show ((2 : Int) = 2) = True by simp, true_and, false_and, if_false]; rw [if_neg hv]; simp]
    simp
  have hig : (0 ≤ i ∧ i < 1073741824) ∨ (0 ≤ i ∧ ¬ i < 1073741824) ∨ ¬ 0 ≤ i := by omega
  have hsg : (1 ≤ s ∧ s < 1073741824) ∨ (1 ≤ s ∧ ¬ s < 1073741824) ∨ ¬ 1 ≤ s := by omega
  have hnb : ¬ ((0 ≤ i ∧ i < 1073741824) ∧ (1 ≤ s ∧ s < 1073741824)) := fun hh => hv ⟨by unfold isN; simp; omega, by unfold isS; simp; omega⟩
  clear hv
  rcases hig with ⟨f1, f2⟩ | ⟨f1, f2⟩ | f1 <;> rcases hsg with ⟨g1, g2⟩ | ⟨g1, g2⟩ | g1
  · exact absurd ⟨⟨f1, f2⟩, ⟨g1, g2⟩⟩ hnb
  all_goals
    clear hnb
    go_wp2
    go_ret
    refine ⟨?_, HB1.out⟩
    rw [HZ.out]
    rfl
end Go.Proofs.YteekmmgopnnioaaDoor.Mn

/-! Names of files: the document's Name. -/
namespace Go.Proofs.YteekmmgopnnioaaDoor.Mn
open Go.RowKit
set_option linter.unusedVariables false
set_option linter.unusedSimpArgs false

set_option maxHeartbeats 8000000 in
set_option maxRecDepth 100000 in
theorem rname0 (k i s : Int) (t : Bool) (hok : FN.Ok ⟨k, i, s, t⟩) (hk : k ≠ 1) (hk2 : k ≠ 2) (hk3 : k ≠ 3) (hk4 : k ≠ 4) (w : World) :
    Calls Tryd.prog 6 #[.agg #[.int .i64 k, .int .i64 i, .int .i64 s, .bool t]] w fun e w' => e = .returned (.string ⟨(nameL ⟨k, i, s, t⟩).toArray⟩) ∧ Below w.heap.size w w' := by
  obtain ⟨hk0, hk1, hi0, hi1, hs0, hs1⟩ := hok
  simp only at hk0 hk1 hi0 hi1 hs0 hs1
  obtain ⟨W1, hW1⟩ : ∃ W1, w.alloc (.cells #[.int .i64 k, .int .i64 i, .int .i64 s, .bool t] 23) = W1 := ⟨_, rfl⟩
  have HB1 : Hid (Below w.heap.size w W1) := by
    unfold Hid
    rw [← hW1]
    exact (Below.refl _ _).alloc (Nat.le_refl _) _
  have hWs : W1.heap.size = w.heap.size + 1 := by rw [← hW1]; simp
  have z0 : W1.cell? ⟨w.heap.size, 0, none⟩ = some (.int .i64 k) := by rw [← hW1, World.cell?_alloc_at _ _ _ _ rfl]; rfl
  have z1 : W1.cell? ⟨w.heap.size, 1, none⟩ = some (.int .i64 i) := by rw [← hW1, World.cell?_alloc_at _ _ _ _ rfl]; rfl
  have z2 : W1.cell? ⟨w.heap.size, 2, none⟩ = some (.int .i64 s) := by rw [← hW1, World.cell?_alloc_at _ _ _ _ rfl]; rfl
  have z3 : W1.cell? ⟨w.heap.size, 3, none⟩ = some (.bool t) := by rw [← hW1, World.cell?_alloc_at _ _ _ _ rfl]; rfl
  have HCL : Hid (∀ u, Below W1.heap.size W1 u → u.cell? ⟨w.heap.size, 0, none⟩ = some (.int .i64 k) ∧ u.cell? ⟨w.heap.size, 1, none⟩ = some (.int .i64 i) ∧ u.cell? ⟨w.heap.size, 2, none⟩ = some (.int .i64 s) ∧ u.cell? ⟨w.heap.size, 3, none⟩ = some (.bool t)) := fun u hu => ⟨(hu.cell (by show w.heap.size < _; omega)).trans z0, (hu.cell (by show w.heap.size < _; omega)).trans z1, (hu.cell (by show w.heap.size < _; omega)).trans z2, (hu.cell (by show w.heap.size < _; omega)).trans z3⟩
  go_enter Tryd.func6, Tryd.ntmps6
  have hig : (0 ≤ i ∧ i < 1073741824) ∨ (0 ≤ i ∧ ¬ i < 1073741824) ∨ ¬ 0 ≤ i := by omega
  have hsg : (1 ≤ s ∧ s < 1073741824) ∨ (1 ≤ s ∧ ¬ s < 1073741824) ∨ ¬ 1 ≤ s := by omega
  have d1 : decide (k = 1) = false := decide_eq_false hk
  have d2 : decide (k = 2) = false := decide_eq_false hk2
  have d3 : decide (k = 3) = false := decide_eq_false hk3
  have d4 : decide (k = 4) = false := decide_eq_false hk4
  have HZ : Hid (nameL ⟨k, i, s, t⟩ = []) := by
    unfold Hid nameL
    rw [show stemL ⟨k, i, s, t⟩ = [] by unfold stemL; simp [hk, hk2, hk3, hk4]]
    simp
  rcases hig with ⟨f1, f2⟩ | ⟨f1, f2⟩ | f1 <;> rcases hsg with ⟨g1, g2⟩ | ⟨g1, g2⟩ | g1
  all_goals
    go_wp2
    go_ret
    refine ⟨?_, HB1.out⟩
    rw [HZ.out]
    rfl

end Go.Proofs.YteekmmgopnnioaaDoor.Mn

/-! Names of files: the document's Name. -/
namespace Go.Proofs.YteekmmgopnnioaaDoor.Mn
open Go.RowKit
set_option linter.unusedVariables false
set_option linter.unusedSimpArgs false

set_option maxHeartbeats 8000000 in
set_option maxRecDepth 100000 in
theorem rname3 (i s : Int) (t : Bool) (hok : FN.Ok ⟨3, i, s, t⟩) (w : World) :
    Calls Tryd.prog 6 #[.agg #[.int .i64 3, .int .i64 i, .int .i64 s, .bool t]] w fun e w' => e = .returned (.string ⟨(nameL ⟨3, i, s, t⟩).toArray⟩) ∧ Below w.heap.size w w' := by
  obtain ⟨hk0, hk1, hi0, hi1, hs0, hs1⟩ := hok
  simp only at hk0 hk1 hi0 hi1 hs0 hs1
  obtain ⟨W1, hW1⟩ : ∃ W1, w.alloc (.cells #[.int .i64 3, .int .i64 i, .int .i64 s, .bool t] 23) = W1 := ⟨_, rfl⟩
  have HB1 : Hid (Below w.heap.size w W1) := by
    unfold Hid
    rw [← hW1]
    exact (Below.refl _ _).alloc (Nat.le_refl _) _
  have hWs : W1.heap.size = w.heap.size + 1 := by rw [← hW1]; simp
  have z0 : W1.cell? ⟨w.heap.size, 0, none⟩ = some (.int .i64 3) := by rw [← hW1, World.cell?_alloc_at _ _ _ _ rfl]; rfl
  have z1 : W1.cell? ⟨w.heap.size, 1, none⟩ = some (.int .i64 i) := by rw [← hW1, World.cell?_alloc_at _ _ _ _ rfl]; rfl
  have z2 : W1.cell? ⟨w.heap.size, 2, none⟩ = some (.int .i64 s) := by rw [← hW1, World.cell?_alloc_at _ _ _ _ rfl]; rfl
  have z3 : W1.cell? ⟨w.heap.size, 3, none⟩ = some (.bool t) := by rw [← hW1, World.cell?_alloc_at _ _ _ _ rfl]; rfl
  have HCL : Hid (∀ u, Below W1.heap.size W1 u → u.cell? ⟨w.heap.size, 0, none⟩ = some (.int .i64 3) ∧ u.cell? ⟨w.heap.size, 1, none⟩ = some (.int .i64 i) ∧ u.cell? ⟨w.heap.size, 2, none⟩ = some (.int .i64 s) ∧ u.cell? ⟨w.heap.size, 3, none⟩ = some (.bool t)) := fun u hu => ⟨(hu.cell (by show w.heap.size < _; omega)).trans z0, (hu.cell (by show w.heap.size < _; omega)).trans z1, (hu.cell (by show w.heap.size < _; omega)).trans z2, (hu.cell (by show w.heap.size < _; omega)).trans z3⟩
  go_enter Tryd.func6, Tryd.ntmps6
  clear hk0 hk1
  have hsg : (1 ≤ s ∧ s < 1073741824) ∨ (1 ≤ s ∧ ¬ s < 1073741824) ∨ ¬ 1 ≤ s := by omega
  cases hi : isN i with
  | false =>
    have i_n : ¬ 0 ≤ i ∨ (0 ≤ i ∧ ¬ i < 1073741824) := by unfold isN at hi; simp at hi; omega
    have HZ : Hid (nameL ⟨3, i, s, t⟩ = []) := by
      unfold Hid nameL
      rw [show stemL ⟨3, i, s, t⟩ = [] by unfold stemL; simp [hi]]
      simp
    clear hi
    rcases i_n with hin | ⟨hin, hin2⟩ <;> rcases hsg with ⟨g1, g2⟩ | ⟨g1, g2⟩ | g1
    all_goals
      go_wp2
      go_ret
      refine ⟨?_, HB1.out⟩
      rw [HZ.out]
      rfl
  | true =>
    have ia : 0 ≤ i := by unfold isN at hi; simp at hi; omega
    have ib : i < 1073741824 := by unfold isN at hi; simp at hi; omega
    by_cases hs : s = 0
    · subst hs
      have HDi : Hid (∀ u, Calls Tryd.prog 24 #[.int .i64 i] u fun e w' => e = .returned (.string ⟨(dc i).toArray⟩) ∧ Below u.heap.size u w') := fun u => by
        have := decimalOf (i.toNat + 1) i.toNat (by omega) (by omega) u
        rwa [Int.toNat_of_nonneg (by omega)] at this
      have li : (dc i).length ≤ 21 := dec_len (by omega)
      have HN : Hid (nameL ⟨3, i, 0, t⟩ = if t = true then (116 :: (dc i ++ tM)) ++ tmpB else 116 :: (dc i ++ tM)) := by
        unfold Hid nameL
        rw [show stemL ⟨3, i, 0, t⟩ = 116 :: (dc i ++ tM) by unfold stemL; simp [hi]]
        simp
      clear hi hsg
      generalize dc i = di at *
      have hsi : (⟨di.toArray⟩ : ByteArray).size = di.length := rfl
      go_wp2_with fail
      refine (HDi.out _).mono ?_
      rintro e w1 ⟨rfl, hb⟩
      have HB : Hid (Below W1.heap.size W1 w1) := hb
      obtain ⟨y0, y1, y2, y3⟩ := HCL.out _ HB.out
      clear hb
      cases t with
      | false =>
        go_wp2
        go_ret
        refine ⟨?_, below_on HB1.out HB.out⟩
        rw [HN.out]
        refine congrArg Ending.returned (str_eq ?_)
        simp [tM]
      | true =>
        go_wp2
        go_ret
        refine ⟨?_, below_on HB1.out HB.out⟩
        rw [HN.out]
        refine congrArg Ending.returned (str_eq ?_)
        simp [tM, tmpB]
    · have HZ : Hid (nameL ⟨3, i, s, t⟩ = []) := by
        unfold Hid nameL
        rw [show stemL ⟨3, i, s, t⟩ = [] by unfold stemL; simp [hs]]
        simp
      have hsd : decide (s = 0) = false := decide_eq_false hs
      clear hi
      rcases hsg with ⟨g1, g2⟩ | ⟨g1, g2⟩ | g1
      all_goals
        go_wp2
        go_ret
        refine ⟨?_, HB1.out⟩
        rw [HZ.out]
        rfl


end Go.Proofs.YteekmmgopnnioaaDoor.Mn

/-! Names of files: the document's Name. -/
namespace Go.Proofs.YteekmmgopnnioaaDoor.Mn
open Go.RowKit
set_option linter.unusedVariables false
set_option linter.unusedSimpArgs false

set_option maxHeartbeats 8000000 in
set_option maxRecDepth 100000 in
theorem rname4 (i s : Int) (t : Bool) (hok : FN.Ok ⟨4, i, s, t⟩) (w : World) :
    Calls Tryd.prog 6 #[.agg #[.int .i64 4, .int .i64 i, .int .i64 s, .bool t]] w fun e w' => e = .returned (.string ⟨(nameL ⟨4, i, s, t⟩).toArray⟩) ∧ Below w.heap.size w w' := by
  obtain ⟨hk0, hk1, hi0, hi1, hs0, hs1⟩ := hok
  simp only at hk0 hk1 hi0 hi1 hs0 hs1
  obtain ⟨W1, hW1⟩ : ∃ W1, w.alloc (.cells #[.int .i64 4, .int .i64 i, .int .i64 s, .bool t] 23) = W1 := ⟨_, rfl⟩
  have HB1 : Hid (Below w.heap.size w W1) := by
    unfold Hid
    rw [← hW1]
    exact (Below.refl _ _).alloc (Nat.le_refl _) _
  have hWs : W1.heap.size = w.heap.size + 1 := by rw [← hW1]; simp
  have z0 : W1.cell? ⟨w.heap.size, 0, none⟩ = some (.int .i64 4) := by rw [← hW1, World.cell?_alloc_at _ _ _ _ rfl]; rfl
  have z1 : W1.cell? ⟨w.heap.size, 1, none⟩ = some (.int .i64 i) := by rw [← hW1, World.cell?_alloc_at _ _ _ _ rfl]; rfl
  have z2 : W1.cell? ⟨w.heap.size, 2, none⟩ = some (.int .i64 s) := by rw [← hW1, World.cell?_alloc_at _ _ _ _ rfl]; rfl
  have z3 : W1.cell? ⟨w.heap.size, 3, none⟩ = some (.bool t) := by rw [← hW1, World.cell?_alloc_at _ _ _ _ rfl]; rfl
  have HCL : Hid (∀ u, Below W1.heap.size W1 u → u.cell? ⟨w.heap.size, 0, none⟩ = some (.int .i64 4) ∧ u.cell? ⟨w.heap.size, 1, none⟩ = some (.int .i64 i) ∧ u.cell? ⟨w.heap.size, 2, none⟩ = some (.int .i64 s) ∧ u.cell? ⟨w.heap.size, 3, none⟩ = some (.bool t)) := fun u hu => ⟨(hu.cell (by show w.heap.size < _; omega)).trans z0, (hu.cell (by show w.heap.size < _; omega)).trans z1, (hu.cell (by show w.heap.size < _; omega)).trans z2, (hu.cell (by show w.heap.size < _; omega)).trans z3⟩
  go_enter Tryd.func6, Tryd.ntmps6
  clear hk0 hk1
  have hig : (0 ≤ i ∧ i < 1073741824) ∨ (0 ≤ i ∧ ¬ i < 1073741824) ∨ ¬ 0 ≤ i := by omega
  have hsg : (1 ≤ s ∧ s < 1073741824) ∨ (1 ≤ s ∧ ¬ s < 1073741824) ∨ ¬ 1 ≤ s := by omega
  by_cases hz : i = 0 ∧ s = 0
  · obtain ⟨rfl, rfl⟩ := hz
    clear hig hsg
    cases t with
    | false =>
      go_wp2
      go_ret
      exact ⟨rfl, HB1.out⟩
    | true =>
      go_wp2
      go_ret
      exact ⟨rfl, HB1.out⟩
  · have HZ : Hid (nameL ⟨4, i, s, t⟩ = []) := by
      unfold Hid nameL
      rw [show stemL ⟨4, i, s, t⟩ = [] by unfold stemL; simp [hz]]
      simp
    by_cases hi : i = 0
    · have hs : s ≠ 0 := fun e => hz ⟨hi, e⟩
      subst hi
      have hsd : decide (s = 0) = false := decide_eq_false hs
      clear hz hig
      rcases hsg with ⟨g1, g2⟩ | ⟨g1, g2⟩ | g1
      all_goals
        go_wp2
        go_ret
        refine ⟨?_, HB1.out⟩
        rw [HZ.out]
        rfl
    · have hsd : decide (i = 0) = false := decide_eq_false hi
      clear hz
      rcases hig with ⟨f1, f2⟩ | ⟨f1, f2⟩ | f1 <;> rcases hsg with ⟨g1, g2⟩ | ⟨g1, g2⟩ | g1
      all_goals
        go_wp2
        go_ret
        refine ⟨?_, HB1.out⟩
        rw [HZ.out]
        rfl


end Go.Proofs.YteekmmgopnnioaaDoor.Mn

/-! Names of files: the document's Name, whatever the kind. -/
namespace Go.Proofs.YteekmmgopnnioaaDoor.Mn
open Go.RowKit
set_option linter.unusedVariables false

theorem rnameOf (n : FN) (hok : n.Ok) (w : World) :
    Calls Tryd.prog 6 #[n.val] w fun e w' => e = .returned (.string ⟨(nameL n).toArray⟩) ∧ Below w.heap.size w w' := by
  obtain ⟨k, i, s, t⟩ := n
  have hI : isN i = true → 0 ≤ i ∧ i < 1073741824 := fun h => by unfold isN at h; simpa using h
  have hS : isS s = true → 1 ≤ s ∧ s < 1073741824 := fun h => by unfold isS at h; simpa using h
  by_cases h1 : k = 1
  · subst h1
    by_cases hv : isN i = true ∧ isS s = true
    · exact rnameY1 i s t hok hv.1 hv.2 (hI hv.1).1 (hI hv.1).2 (hS hv.2).1 (hS hv.2).2 w
    · exact rnameN1 i s t hok hv w
  by_cases h2 : k = 2
  · subst h2
    by_cases hv : isN i = true ∧ isS s = true
    · exact rnameY2 i s t hok hv.1 hv.2 (hI hv.1).1 (hI hv.1).2 (hS hv.2).1 (hS hv.2).2 w
    · exact rnameN2 i s t hok hv w
  by_cases h3 : k = 3
  · subst h3; exact rname3 i s t hok w
  by_cases h4 : k = 4
  · subst h4; exact rname4 i s t hok w
  exact rname0 k i s t hok h1 h2 h3 h4 w
end Go.Proofs.YteekmmgopnnioaaDoor.Mn

/-! Names of files: the document's Parse. -/
namespace Go.Proofs.YteekmmgopnnioaaDoor.Mn
open Go.RowKit
set_option linter.unusedVariables false
set_option linter.unusedSimpArgs false

theorem hres8 : Tryd.f8.results = #[.cell 2 23] := by kernel_rfl
theorem cand_ok (l : By) (k : Int) (t : Bool) (h0 : 0 ≤ k) (h4 : k ≤ 4) : (cand l k t).Ok := by
  have h1 : idL l ≤ 1073741824 := by
    unfold idL
    split
    · exact dgv_le _ _ (by omega)
    · omega
  have h2 : segL l ≤ 1073741824 := by
    unfold segL
    split
    · exact dgv_le _ _ (by omega)
    · omega
  unfold cand
  constructor <;> simp only
  · omega
  · omega
  · split <;> omega
  · split <;> omega
  · split <;> omega
  · split <;> omega
/-- No candidate ahead of (k, t) hit. -/
def Miss (l : By) (k t : Nat) : Prop := ∀ (k' : Nat) (t' : Bool), 1 ≤ k' → k' ≤ 4 → (k' < k ∨ (k' = k ∧ (if t' = true then 1 else 0) < t)) → ¬ hit l (cand l (k' : Int) t')
theorem Miss.start (l : By) : Miss l 1 0 := fun k' t' h1 h4 h => by
  rcases h with h | ⟨_, h⟩
  · omega
  · omega
theorem Miss.next {l : By} {k : Nat} {t : Bool} (h : Miss l k (if t = true then 1 else 0)) (hn : ¬ hit l (cand l (k : Int) t)) : Miss l k ((if t = true then 1 else 0) + 1) := fun k' t' h1 h4 hh => by
  rcases hh with hh | ⟨e, hh⟩
  · exact h k' t' h1 h4 (.inl hh)
  · subst e
    by_cases e : t' = t
    · subst e; exact hn
    · refine h k' t' h1 h4 (.inr ⟨rfl, ?_⟩)
      cases t <;> cases t' <;> simp at e hh ⊢
theorem Miss.row {l : By} {k : Nat} (h : Miss l k 2) : Miss l (k + 1) 0 := fun k' t' h1 h4 hh => by
  rcases hh with hh | ⟨_, hh⟩
  · rcases Nat.lt_or_ge k' k with h5 | h5
    · exact h k' t' h1 h4 (.inl h5)
    · refine h k' t' h1 h4 (.inr ⟨by omega, ?_⟩)
      cases t' <;> simp
  · omega
theorem Miss.all {l : By} (h : Miss l 5 0) : parseL l = FN.zero := miss_parse fun k t hk => by
  obtain ⟨k', rfl, h1, h4⟩ : ∃ k' : Nat, k = (k' : Int) ∧ 1 ≤ k' ∧ k' ≤ 4 := ⟨k.toNat, by omega, by omega, by omega⟩
  exact h k' t h1 h4 (.inl (by omega))
end Go.Proofs.YteekmmgopnnioaaDoor.Mn

/-! Names of files: the document's Parse, its walk. -/
namespace Go.Proofs.YteekmmgopnnioaaDoor.Mn
open Go.RowKit
set_option linter.unusedVariables false
set_option linter.unusedSimpArgs false

set_option maxHeartbeats 20000000 in
set_option maxRecDepth 100000 in
theorem rparseOf (s : ByteArray) (hs : s.size ≤ 281474976710656) (w : World) :
    Calls Tryd.prog 8 #[.string s] w fun e w' => e = .returned (parseL s.data.toList).val ∧ Below w.heap.size w w' := by
  obtain ⟨id, hid⟩ : ∃ id, idL s.data.toList = id := ⟨_, rfl⟩
  obtain ⟨sg, hsg⟩ : ∃ sg, segL s.data.toList = sg := ⟨_, rfl⟩
  have HID : Hid (idL s.data.toList = id) := hid
  have HSG : Hid (segL s.data.toList = sg) := hsg
  have HDG : Hid (∀ (a : Nat) (v : World), a ≤ s.size → Calls Tryd.prog 26 #[.string s, .int .i64 a] v fun e w' => e = .returned (.tuple #[.int .i64 (dgv 0 (s.data.toList.drop a) : Nat), .int .i64 (a + dgn (s.data.toList.drop a) : Nat)]) ∧ w' = v) := fun a v ha => digitsOf s a (by unfold maxLen; omega) ha v
  obtain ⟨W0, hW0⟩ : ∃ W0, w.alloc (.cells #[.int .i64 0, .int .i64 0, .int .i64 0, .bool false] 23) = W0 := ⟨_, rfl⟩
  have H0 : Hid (Miss s.data.toList 1 0 ∧ Below w.heap.size w W0 ∧ Own4 W0 w.heap.size (.int .i64 0) (.int .i64 0) (.int .i64 0) (.bool false)) := by
    refine ⟨Miss.start _, ?_, ?_⟩
    · rw [← hW0]; exact (Below.refl _ _).alloc (Nat.le_refl _) _
    · rw [← hW0]; exact Own4.new _ _ _ _ _
  have hll : s.data.toList.length = s.size := by simp
  go_enter Tryd.func8, Tryd.ntmps8
  go_upto_region 3 with fail
  go_cut [20] from 13 to 20 (fun s20 wx => s20 = .bool (decide (s.data.toList.head? = some 116)) ∧ wx = W0)
  case first =>
    by_cases h0 : s.size = 0
    · have hh : decide (s.data.toList.head? = some 116) = false := by
        have : s.data.toList = [] := List.eq_nil_of_length_eq_zero (by omega)
        rw [this]; rfl
      have hlt : decide ((0 : Int) < (s.size : Int)) = false := decide_eq_false (by omega)
      have HH : Hid (decide (s.data.toList.head? = some 116) = false) := hh
      clear hh
      go_wp2_with fail
      go_meet
      case rel => exact ⟨by rw [HH.out], rfl⟩
    · have hp : 0 < s.size := by omega
      have hpi : (0 : Int) < (s.size : Int) := by omega
      have hhd : s.data.toList.head? = some (s[0]'hp) := by
        have := sget s 0 hp
        rw [List.head?_eq_getElem?]; exact this
      have hc := u8lt (s[0]'hp)
      by_cases h116 : (s[0]'hp).toNat = 116
      · have hh : decide (s.data.toList.head? = some 116) = true := by
          rw [hhd, decide_eq_true_iff]
          congr 1
          exact UInt8.toNat_inj.mp h116
        have HH : Hid (decide (s.data.toList.head? = some 116) = true) := hh
        clear hh hhd
        go_wp2_with fail
        go_meet
        case rel => exact ⟨by rw [HH.out], rfl⟩
      · have hh : decide (s.data.toList.head? = some 116) = false := by
          rw [hhd, decide_eq_false_iff_not]
          intro e
          apply h116
          rw [Option.some.inj e]; rfl
        have hbq : (((s[0]'hp).toNat : Int) == 116) = false := by
          rw [beq_eq_false_iff_ne]; omega
        have HH : Hid (decide (s.data.toList.head? = some 116) = false) := hh
        clear hh hhd
        go_wp2_with fail
        go_meet
        case rel => exact ⟨by rw [HH.out], rfl⟩
  case rest =>
    obtain ⟨rfl, rfl⟩ := hcut
    obtain ⟨hdB, hhB⟩ : ∃ b, decide (s.data.toList.head? = some 116) = b := ⟨_, rfl⟩
    rw [hhB]
    go_upto_if 20 with fail
    go_cut [3, 4, 5, 6, 7, 8] from 21 to 38 (fun s3 s4 s5 s6 s7 s8 wx => s3 = .int .i64 (id : Nat) ∧ s4 = .int .i64 (sg : Nat) ∧ wx = wc)
    case first =>
      cases hdB with
      | false =>
        have hh := hhB
        clear hhB
        have hnh : ¬ s.data.toList.head? = some 116 := of_decide_eq_false hh
        have HII : Hid (id = 0 ∧ sg = 0) := by
          refine ⟨?_, ?_⟩
          · rw [← HID.out]; unfold idL; rw [if_neg hnh]
          · rw [← HSG.out]; unfold segL; rw [if_neg (fun x => hnh x.1)]
        clear hh hnh hid hsg
        go_wp2_with fail
        go_meet
        case rel => exact ⟨by rw [HII.out.1]; rfl, by rw [HII.out.2]; rfl, rfl⟩
      | true =>
        have hh := hhB
        clear hhB
        have hyh : s.data.toList.head? = some 116 := of_decide_eq_true hh
        have hp : 1 ≤ s.size := by
          cases hl : s.data.toList with
          | nil => rw [hl] at hyh; simp at hyh
          | cons a b => rw [hl] at hll; simp at hll; omega
        have HI1 : Hid (dgv 0 (s.data.toList.drop 1) = id) := by
          unfold Hid
          rw [← HID.out]; unfold idL; rw [if_pos hyh]
        obtain ⟨dn, hdn⟩ : ∃ dn, 1 + dgn (s.data.toList.drop 1) = dn := ⟨_, rfl⟩
        have hdl : dn ≤ s.size := by
          have := dgn_le (s.data.toList.drop 1)
          rw [List.length_drop] at this
          omega
        have HD1 : Hid (∀ v, Calls Tryd.prog 26 #[.string s, .int .i64 1] v fun e w' => e = .returned (.tuple #[.int .i64 (id : Nat), .int .i64 (dn : Nat)]) ∧ w' = v) := fun v => by
          have := HDG.out 1 v hp
          rw [HI1.out, hdn] at this
          exact this
        by_cases hd : dn < s.size
        · have HD2 : Hid (∀ v, Calls Tryd.prog 26 #[.string s, .int .i64 ((dn : Int) + 1)] v fun e w' => ∃ z, e = .returned (.tuple #[.int .i64 (sg : Nat), .int .i64 z]) ∧ w' = v) := fun v => by
            have := HDG.out (dn + 1) v (by omega)
            have hsg2 : dgv 0 (s.data.toList.drop (dn + 1)) = sg := by
              rw [← HSG.out]; unfold segL; rw [if_pos ⟨hyh, by omega⟩, hdn]
            rw [hsg2] at this
            refine this.mono ?_
            rintro e w' ⟨rfl, rfl⟩
            exact ⟨_, rfl, rfl⟩
          have hdi : (dn : Int) < (s.size : Int) := by omega
          clear hh hyh hid hsg hdn
          go_wp2_with fail
          refine (HD1.out _).mono ?_
          rintro e w2 ⟨rfl, rfl⟩
          go_wp2_with fail
          refine (HD2.out _).mono ?_
          rintro e w3 ⟨z, rfl, rfl⟩
          go_wp2_with fail
          go_meet
          case rel => exact ⟨rfl, rfl, rfl⟩
        · have HS0 : Hid (sg = 0) := by
            unfold Hid
            rw [← HSG.out]; unfold segL; rw [if_neg (fun x => by have := x.2; omega)]
          have hdi : ¬ (dn : Int) < (s.size : Int) := by omega
          clear hh hyh hid hsg hdn
          go_wp2_with fail
          refine (HD1.out _).mono ?_
          rintro e w2 ⟨rfl, rfl⟩
          go_wp2_with fail
          go_meet
          case rel => exact ⟨rfl, by rw [HS0.out]; rfl, rfl⟩
    case rest =>
      obtain ⟨rfl, rfl, rfl⟩ := hcut
      clear hid hsg HDG hhB
      go_wp2
      go_loopg [9] 4 (fun gk s9 wx => ∃ (k : Nat), 1 ≤ k ∧ k + gk = 5 ∧ s9 = .int .i64 k ∧ Hid (Miss s.data.toList k 0 ∧ Below w.heap.size w wx ∧ Own4 wx w.heap.size (.int .i64 0) (.int .i64 0) (.int .i64 0) (.bool false)))
      case atStart => exact ⟨1, by omega, by omega, rfl, H0.out⟩
      case round =>
        clear H0
        obtain ⟨k, hk1, hkg, rfl, HV⟩ := hrel
        cases gk with
        | zero =>
          obtain rfl : k = 5 := by omega
          have HM : Hid (parseL s.data.toList = FN.zero) := HV.out.1.all
          have HB : Hid (Below w.heap.size w wr) := HV.out.2.1
          have HR3 : Hid (Own4 wr w.heap.size (.int .i64 0) (.int .i64 0) (.int .i64 0) (.bool false)) := HV.out.2.2
          obtain ⟨r0, r1, r2, r3, rf⟩ := HR3.out
          have rf0 := rf 0
          have rf1 := rf 1
          have rf2 := rf 2
          have rf3 := rf 3
          clear HV rf
          go_wp2
          refine bodyPost_ret (v := .agg #[.int .i64 0, .int .i64 0, .int .i64 0, .bool false]) ?_ rfl ⟨?_, below4 HB.out (Nat.le_refl _) _ _ _ _⟩
          · obtain ⟨p0, p1, p2, p3, _⟩ := HR3.out.put (.int .i64 0) (.int .i64 0) (.int .i64 0) (.bool false)
            simp only [results, hres8]
            go_simp
          · rw [HM.out]; rfl
        | succ gk1 =>
          obtain rfl | rfl | rfl | rfl : k = 1 ∨ k = 2 ∨ k = 3 ∨ k = 4 := by omega
          · go_wp2
            go_loopg [10] 2 (fun gk s10 wx => ∃ (t : Nat), t + gk = 2 ∧ s10 = .int .i64 t ∧ Hid (Miss s.data.toList 1 t ∧ Below w.heap.size w wx ∧ Own4 wx w.heap.size (.int .i64 0) (.int .i64 0) (.int .i64 0) (.bool false)))
            case atStart => exact ⟨0, by omega, rfl, HV.out⟩
            case round =>
              clear HV
              obtain ⟨wi, hwi⟩ : ∃ u, u = wr := ⟨_, rfl⟩
              subst hwi
              obtain ⟨t, htg, rfl, HV⟩ := hrel
              cases gk with
              | zero =>
                obtain rfl : t = 2 := by omega
                have HN : Hid (Miss s.data.toList 2 0 ∧ Below w.heap.size w wi ∧ Own4 wi w.heap.size (.int .i64 0) (.int .i64 0) (.int .i64 0) (.bool false)) := ⟨HV.out.1.row, HV.out.2⟩
                clear HV
                go_wp2
                go_roundg gk1
                case measure => omega
                case rel => exact ⟨2, by omega, by omega, by go_num, HN.out⟩
              | succ gk2 =>
                obtain rfl | rfl : t = 0 ∨ t = 1 := by omega
                · have HNM : Hid (∀ v, Calls Tryd.prog 6 #[.agg #[(.int .i64 1), (.int .i64 (id : Nat)), (.int .i64 (sg : Nat)), (.bool false)]] v fun e w' => e = .returned (.string ⟨(nameL (cand s.data.toList 1 false)).toArray⟩) ∧ Below v.heap.size v w') := fun v => by
                    have := rnameOf (cand s.data.toList 1 false) (cand_ok s.data.toList 1 false (by omega) (by omega)) v
                    have hv : (cand s.data.toList 1 false).val = .agg #[(.int .i64 1), (.int .i64 (id : Nat)), (.int .i64 (sg : Nat)), (.bool false)] := by
                      show Value.agg _ = _
                      try rw [← HID.out]
                      try rw [← HSG.out]
                      rfl
                    rw [hv] at this
                    exact this
                  have HHIT : Hid (nameL (cand s.data.toList 1 false) ≠ [] → nameL (cand s.data.toList 1 false) = s.data.toList → parseL s.data.toList = (cand s.data.toList 1 false)) := fun h1 h2 => hit_parse ⟨h1, h2⟩
                  have HMS : Hid (¬ hit s.data.toList (cand s.data.toList 1 false) → Miss s.data.toList 1 1) := fun hn => HV.out.1.next (t := false) hn
                  have HHT : Hid (hit s.data.toList (cand s.data.toList 1 false) → nameL (cand s.data.toList 1 false) ≠ [] ∧ nameL (cand s.data.toList 1 false) = s.data.toList) := fun hh => hh
                  have HCV : Hid ((cand s.data.toList 1 false).val = .agg #[(.int .i64 1), (.int .i64 (id : Nat)), (.int .i64 (sg : Nat)), (.bool false)]) := by
                    show Value.agg _ = _
                    try rw [← HID.out]
                    try rw [← HSG.out]
                    rfl
                  have hnl := name_len (cand s.data.toList 1 false)
                  obtain ⟨W2, hW2⟩ : ∃ W2, wi.alloc (.cells #[(.int .i64 1), (.int .i64 (id : Nat)), (.int .i64 (sg : Nat)), (.bool false)] 23) = W2 := ⟨_, rfl⟩
                  have HZ2 : Hid (Own4 W2 wi.heap.size (.int .i64 1) (.int .i64 (id : Nat)) (.int .i64 (sg : Nat)) (.bool false)) := by
                    unfold Hid
                    rw [← hW2]; exact Own4.new _ _ _ _ _
                  have hb2 : Below wi.heap.size wi W2 := by
                    rw [← hW2]; exact (Below.refl _ _).alloc (Nat.le_refl _) _
                  have HB2 : Hid (Below w.heap.size w W2) := below_on HV.out.2.1 hb2
                  have HR2 : Hid (Own4 W2 w.heap.size (.int .i64 0) (.int .i64 0) (.int .i64 0) (.bool false)) := HV.out.2.2.later hb2
                  obtain ⟨z0, z1, z2, z3, _⟩ := HZ2.out
                  clear hb2 HV
                  generalize nameL (cand s.data.toList 1 false) = L at *
                  go_wp2_with fail
                  refine (HNM.out _).mono ?_
                  rintro e w3 ⟨rfl, hb3⟩
                  have HB3 : Hid (Below w.heap.size w w3) := below_on HB2.out hb3
                  have HR3 : Hid (Own4 w3 w.heap.size (.int .i64 0) (.int .i64 0) (.int .i64 0) (.bool false)) := HR2.out.later hb3
                  have HZ3 : Hid (Own4 w3 wi.heap.size (.int .i64 1) (.int .i64 (id : Nat)) (.int .i64 (sg : Nat)) (.bool false)) := HZ2.out.later hb3
                  clear hb3 hW2 z0 z1 z2 z3 HNM
                  by_cases hL0 : L = []
                  · have HN : Hid (Miss s.data.toList 1 1 ∧ Below w.heap.size w w3 ∧ Own4 w3 w.heap.size (.int .i64 0) (.int .i64 0) (.int .i64 0) (.bool false)) := ⟨HMS.out (fun hh => (HHT.out hh).1 hL0), HB3.out, HR3.out⟩
                    subst hL0
                    clear HMS HHT HHIT HCV
                    go_wp2
                    go_roundg gk2
                    case measure => omega
                    case rel => exact ⟨1, by omega, by go_num, HN.out⟩
                  · have hem : L.isEmpty = false := by cases L with
                      | nil => exact absurd rfl hL0
                      | cons a b => rfl
                    by_cases hL : L = s.data.toList
                    · have HM : Hid (parseL s.data.toList = (cand s.data.toList 1 false)) := HHIT.out hL0 hL
                      have hse : s = ⟨L.toArray⟩ := by
                        apply ByteArray.ext
                        rw [hL]
                      have heq : (L == s.toList) = true := by rw [ByteArray.toList_eq, hL]; simp
                      have heq2 : ((⟨L.toArray⟩ : ByteArray).toList == s.toList) = true := by rw [ByteArray.toList_eq, ByteArray.toList_eq, hL]; simp
                      obtain ⟨y0, y1, y2, y3, _⟩ := HZ3.out
                      obtain ⟨r0, r1, r2, r3, rf⟩ := HR3.out
                      have rf0 := rf 0
                      have rf1 := rf 1
                      have rf2 := rf 2
                      have rf3 := rf 3
                      clear HMS HHT HHIT hL hL0 hse rf
                      go_wp2
                      refine bodyPost_ret (v := .agg #[(.int .i64 1), (.int .i64 (id : Nat)), (.int .i64 (sg : Nat)), (.bool false)]) ?_ rfl ⟨?_, below4 HB3.out (Nat.le_refl _) _ _ _ _⟩
                      · obtain ⟨p0, p1, p2, p3, _⟩ := HR3.out.put (.int .i64 1) (.int .i64 (id : Nat)) (.int .i64 (sg : Nat)) (.bool false)
                        simp only [results, hres8]
                        go_simp
                      · rw [HM.out, HCV.out]
                    · have HN : Hid (Miss s.data.toList 1 1 ∧ Below w.heap.size w w3 ∧ Own4 w3 w.heap.size (.int .i64 0) (.int .i64 0) (.int .i64 0) (.bool false)) := ⟨HMS.out (fun hh => hL (HHT.out hh).2), HB3.out, HR3.out⟩
                      have heq : (L == s.toList) = false := by rw [ByteArray.toList_eq, beq_eq_false_iff_ne]; exact hL
                      have heq2 : ((⟨L.toArray⟩ : ByteArray).toList == s.toList) = false := by rw [ByteArray.toList_eq, ByteArray.toList_eq, beq_eq_false_iff_ne]; exact hL
                      clear HMS HHT HHIT HCV hL hL0
                      go_wp2
                      go_roundg gk2
                      case measure => omega
                      case rel => exact ⟨1, by omega, by go_num, HN.out⟩
                · have HNM : Hid (∀ v, Calls Tryd.prog 6 #[.agg #[(.int .i64 1), (.int .i64 (id : Nat)), (.int .i64 (sg : Nat)), (.bool true)]] v fun e w' => e = .returned (.string ⟨(nameL (cand s.data.toList 1 true)).toArray⟩) ∧ Below v.heap.size v w') := fun v => by
                    have := rnameOf (cand s.data.toList 1 true) (cand_ok s.data.toList 1 true (by omega) (by omega)) v
                    have hv : (cand s.data.toList 1 true).val = .agg #[(.int .i64 1), (.int .i64 (id : Nat)), (.int .i64 (sg : Nat)), (.bool true)] := by
                      show Value.agg _ = _
                      try rw [← HID.out]
                      try rw [← HSG.out]
                      rfl
                    rw [hv] at this
                    exact this
                  have HHIT : Hid (nameL (cand s.data.toList 1 true) ≠ [] → nameL (cand s.data.toList 1 true) = s.data.toList → parseL s.data.toList = (cand s.data.toList 1 true)) := fun h1 h2 => hit_parse ⟨h1, h2⟩
                  have HMS : Hid (¬ hit s.data.toList (cand s.data.toList 1 true) → Miss s.data.toList 1 2) := fun hn => HV.out.1.next (t := true) hn
                  have HHT : Hid (hit s.data.toList (cand s.data.toList 1 true) → nameL (cand s.data.toList 1 true) ≠ [] ∧ nameL (cand s.data.toList 1 true) = s.data.toList) := fun hh => hh
                  have HCV : Hid ((cand s.data.toList 1 true).val = .agg #[(.int .i64 1), (.int .i64 (id : Nat)), (.int .i64 (sg : Nat)), (.bool true)]) := by
                    show Value.agg _ = _
                    try rw [← HID.out]
                    try rw [← HSG.out]
                    rfl
                  have hnl := name_len (cand s.data.toList 1 true)
                  obtain ⟨W2, hW2⟩ : ∃ W2, wi.alloc (.cells #[(.int .i64 1), (.int .i64 (id : Nat)), (.int .i64 (sg : Nat)), (.bool true)] 23) = W2 := ⟨_, rfl⟩
                  have HZ2 : Hid (Own4 W2 wi.heap.size (.int .i64 1) (.int .i64 (id : Nat)) (.int .i64 (sg : Nat)) (.bool true)) := by
                    unfold Hid
                    rw [← hW2]; exact Own4.new _ _ _ _ _
                  have hb2 : Below wi.heap.size wi W2 := by
                    rw [← hW2]; exact (Below.refl _ _).alloc (Nat.le_refl _) _
                  have HB2 : Hid (Below w.heap.size w W2) := below_on HV.out.2.1 hb2
                  have HR2 : Hid (Own4 W2 w.heap.size (.int .i64 0) (.int .i64 0) (.int .i64 0) (.bool false)) := HV.out.2.2.later hb2
                  obtain ⟨z0, z1, z2, z3, _⟩ := HZ2.out
                  clear hb2 HV
                  generalize nameL (cand s.data.toList 1 true) = L at *
                  go_wp2_with fail
                  refine (HNM.out _).mono ?_
                  rintro e w3 ⟨rfl, hb3⟩
                  have HB3 : Hid (Below w.heap.size w w3) := below_on HB2.out hb3
                  have HR3 : Hid (Own4 w3 w.heap.size (.int .i64 0) (.int .i64 0) (.int .i64 0) (.bool false)) := HR2.out.later hb3
                  have HZ3 : Hid (Own4 w3 wi.heap.size (.int .i64 1) (.int .i64 (id : Nat)) (.int .i64 (sg : Nat)) (.bool true)) := HZ2.out.later hb3
                  clear hb3 hW2 z0 z1 z2 z3 HNM
                  by_cases hL0 : L = []
                  · have HN : Hid (Miss s.data.toList 1 2 ∧ Below w.heap.size w w3 ∧ Own4 w3 w.heap.size (.int .i64 0) (.int .i64 0) (.int .i64 0) (.bool false)) := ⟨HMS.out (fun hh => (HHT.out hh).1 hL0), HB3.out, HR3.out⟩
                    subst hL0
                    clear HMS HHT HHIT HCV
                    go_wp2
                    go_roundg gk2
                    case measure => omega
                    case rel => exact ⟨2, by omega, by go_num, HN.out⟩
                  · have hem : L.isEmpty = false := by cases L with
                      | nil => exact absurd rfl hL0
                      | cons a b => rfl
                    by_cases hL : L = s.data.toList
                    · have HM : Hid (parseL s.data.toList = (cand s.data.toList 1 true)) := HHIT.out hL0 hL
                      have hse : s = ⟨L.toArray⟩ := by
                        apply ByteArray.ext
                        rw [hL]
                      have heq : (L == s.toList) = true := by rw [ByteArray.toList_eq, hL]; simp
                      have heq2 : ((⟨L.toArray⟩ : ByteArray).toList == s.toList) = true := by rw [ByteArray.toList_eq, ByteArray.toList_eq, hL]; simp
                      obtain ⟨y0, y1, y2, y3, _⟩ := HZ3.out
                      obtain ⟨r0, r1, r2, r3, rf⟩ := HR3.out
                      have rf0 := rf 0
                      have rf1 := rf 1
                      have rf2 := rf 2
                      have rf3 := rf 3
                      clear HMS HHT HHIT hL hL0 hse rf
                      go_wp2
                      refine bodyPost_ret (v := .agg #[(.int .i64 1), (.int .i64 (id : Nat)), (.int .i64 (sg : Nat)), (.bool true)]) ?_ rfl ⟨?_, below4 HB3.out (Nat.le_refl _) _ _ _ _⟩
                      · obtain ⟨p0, p1, p2, p3, _⟩ := HR3.out.put (.int .i64 1) (.int .i64 (id : Nat)) (.int .i64 (sg : Nat)) (.bool true)
                        simp only [results, hres8]
                        go_simp
                      · rw [HM.out, HCV.out]
                    · have HN : Hid (Miss s.data.toList 1 2 ∧ Below w.heap.size w w3 ∧ Own4 w3 w.heap.size (.int .i64 0) (.int .i64 0) (.int .i64 0) (.bool false)) := ⟨HMS.out (fun hh => hL (HHT.out hh).2), HB3.out, HR3.out⟩
                      have heq : (L == s.toList) = false := by rw [ByteArray.toList_eq, beq_eq_false_iff_ne]; exact hL
                      have heq2 : ((⟨L.toArray⟩ : ByteArray).toList == s.toList) = false := by rw [ByteArray.toList_eq, ByteArray.toList_eq, beq_eq_false_iff_ne]; exact hL
                      clear HMS HHT HHIT HCV hL hL0
                      go_wp2
                      go_roundg gk2
                      case measure => omega
                      case rel => exact ⟨2, by omega, by go_num, HN.out⟩
          · go_wp2
            go_loopg [10] 2 (fun gk s10 wx => ∃ (t : Nat), t + gk = 2 ∧ s10 = .int .i64 t ∧ Hid (Miss s.data.toList 2 t ∧ Below w.heap.size w wx ∧ Own4 wx w.heap.size (.int .i64 0) (.int .i64 0) (.int .i64 0) (.bool false)))
            case atStart => exact ⟨0, by omega, rfl, HV.out⟩
            case round =>
              clear HV
              obtain ⟨wi, hwi⟩ : ∃ u, u = wr := ⟨_, rfl⟩
              subst hwi
              obtain ⟨t, htg, rfl, HV⟩ := hrel
              cases gk with
              | zero =>
                obtain rfl : t = 2 := by omega
                have HN : Hid (Miss s.data.toList 3 0 ∧ Below w.heap.size w wi ∧ Own4 wi w.heap.size (.int .i64 0) (.int .i64 0) (.int .i64 0) (.bool false)) := ⟨HV.out.1.row, HV.out.2⟩
                clear HV
                go_wp2
                go_roundg gk1
                case measure => omega
                case rel => exact ⟨3, by omega, by omega, by go_num, HN.out⟩
              | succ gk2 =>
                obtain rfl | rfl : t = 0 ∨ t = 1 := by omega
                · have HNM : Hid (∀ v, Calls Tryd.prog 6 #[.agg #[(.int .i64 2), (.int .i64 (id : Nat)), (.int .i64 (sg : Nat)), (.bool false)]] v fun e w' => e = .returned (.string ⟨(nameL (cand s.data.toList 2 false)).toArray⟩) ∧ Below v.heap.size v w') := fun v => by
                    have := rnameOf (cand s.data.toList 2 false) (cand_ok s.data.toList 2 false (by omega) (by omega)) v
                    have hv : (cand s.data.toList 2 false).val = .agg #[(.int .i64 2), (.int .i64 (id : Nat)), (.int .i64 (sg : Nat)), (.bool false)] := by
                      show Value.agg _ = _
                      try rw [← HID.out]
                      try rw [← HSG.out]
                      rfl
                    rw [hv] at this
                    exact this
                  have HHIT : Hid (nameL (cand s.data.toList 2 false) ≠ [] → nameL (cand s.data.toList 2 false) = s.data.toList → parseL s.data.toList = (cand s.data.toList 2 false)) := fun h1 h2 => hit_parse ⟨h1, h2⟩
                  have HMS : Hid (¬ hit s.data.toList (cand s.data.toList 2 false) → Miss s.data.toList 2 1) := fun hn => HV.out.1.next (t := false) hn
                  have HHT : Hid (hit s.data.toList (cand s.data.toList 2 false) → nameL (cand s.data.toList 2 false) ≠ [] ∧ nameL (cand s.data.toList 2 false) = s.data.toList) := fun hh => hh
                  have HCV : Hid ((cand s.data.toList 2 false).val = .agg #[(.int .i64 2), (.int .i64 (id : Nat)), (.int .i64 (sg : Nat)), (.bool false)]) := by
                    show Value.agg _ = _
                    try rw [← HID.out]
                    try rw [← HSG.out]
                    rfl
                  have hnl := name_len (cand s.data.toList 2 false)
                  obtain ⟨W2, hW2⟩ : ∃ W2, wi.alloc (.cells #[(.int .i64 2), (.int .i64 (id : Nat)), (.int .i64 (sg : Nat)), (.bool false)] 23) = W2 := ⟨_, rfl⟩
                  have HZ2 : Hid (Own4 W2 wi.heap.size (.int .i64 2) (.int .i64 (id : Nat)) (.int .i64 (sg : Nat)) (.bool false)) := by
                    unfold Hid
                    rw [← hW2]; exact Own4.new _ _ _ _ _
                  have hb2 : Below wi.heap.size wi W2 := by
                    rw [← hW2]; exact (Below.refl _ _).alloc (Nat.le_refl _) _
                  have HB2 : Hid (Below w.heap.size w W2) := below_on HV.out.2.1 hb2
                  have HR2 : Hid (Own4 W2 w.heap.size (.int .i64 0) (.int .i64 0) (.int .i64 0) (.bool false)) := HV.out.2.2.later hb2
                  obtain ⟨z0, z1, z2, z3, _⟩ := HZ2.out
                  clear hb2 HV
                  generalize nameL (cand s.data.toList 2 false) = L at *
                  go_wp2_with fail
                  refine (HNM.out _).mono ?_
                  rintro e w3 ⟨rfl, hb3⟩
                  have HB3 : Hid (Below w.heap.size w w3) := below_on HB2.out hb3
                  have HR3 : Hid (Own4 w3 w.heap.size (.int .i64 0) (.int .i64 0) (.int .i64 0) (.bool false)) := HR2.out.later hb3
                  have HZ3 : Hid (Own4 w3 wi.heap.size (.int .i64 2) (.int .i64 (id : Nat)) (.int .i64 (sg : Nat)) (.bool false)) := HZ2.out.later hb3
                  clear hb3 hW2 z0 z1 z2 z3 HNM
                  by_cases hL0 : L = []
                  · have HN : Hid (Miss s.data.toList 2 1 ∧ Below w.heap.size w w3 ∧ Own4 w3 w.heap.size (.int .i64 0) (.int .i64 0) (.int .i64 0) (.bool false)) := ⟨HMS.out (fun hh => (HHT.out hh).1 hL0), HB3.out, HR3.out⟩
                    subst hL0
                    clear HMS HHT HHIT HCV
                    go_wp2
                    go_roundg gk2
                    case measure => omega
                    case rel => exact ⟨1, by omega, by go_num, HN.out⟩
                  · have hem : L.isEmpty = false := by cases L with
                      | nil => exact absurd rfl hL0
                      | cons a b => rfl
                    by_cases hL : L = s.data.toList
                    · have HM : Hid (parseL s.data.toList = (cand s.data.toList 2 false)) := HHIT.out hL0 hL
                      have hse : s = ⟨L.toArray⟩ := by
                        apply ByteArray.ext
                        rw [hL]
                      have heq : (L == s.toList) = true := by rw [ByteArray.toList_eq, hL]; simp
                      have heq2 : ((⟨L.toArray⟩ : ByteArray).toList == s.toList) = true := by rw [ByteArray.toList_eq, ByteArray.toList_eq, hL]; simp
                      obtain ⟨y0, y1, y2, y3, _⟩ := HZ3.out
                      obtain ⟨r0, r1, r2, r3, rf⟩ := HR3.out
                      have rf0 := rf 0
                      have rf1 := rf 1
                      have rf2 := rf 2
                      have rf3 := rf 3
                      clear HMS HHT HHIT hL hL0 hse rf
                      go_wp2
                      refine bodyPost_ret (v := .agg #[(.int .i64 2), (.int .i64 (id : Nat)), (.int .i64 (sg : Nat)), (.bool false)]) ?_ rfl ⟨?_, below4 HB3.out (Nat.le_refl _) _ _ _ _⟩
                      · obtain ⟨p0, p1, p2, p3, _⟩ := HR3.out.put (.int .i64 2) (.int .i64 (id : Nat)) (.int .i64 (sg : Nat)) (.bool false)
                        simp only [results, hres8]
                        go_simp
                      · rw [HM.out, HCV.out]
                    · have HN : Hid (Miss s.data.toList 2 1 ∧ Below w.heap.size w w3 ∧ Own4 w3 w.heap.size (.int .i64 0) (.int .i64 0) (.int .i64 0) (.bool false)) := ⟨HMS.out (fun hh => hL (HHT.out hh).2), HB3.out, HR3.out⟩
                      have heq : (L == s.toList) = false := by rw [ByteArray.toList_eq, beq_eq_false_iff_ne]; exact hL
                      have heq2 : ((⟨L.toArray⟩ : ByteArray).toList == s.toList) = false := by rw [ByteArray.toList_eq, ByteArray.toList_eq, beq_eq_false_iff_ne]; exact hL
                      clear HMS HHT HHIT HCV hL hL0
                      go_wp2
                      go_roundg gk2
                      case measure => omega
                      case rel => exact ⟨1, by omega, by go_num, HN.out⟩
                · have HNM : Hid (∀ v, Calls Tryd.prog 6 #[.agg #[(.int .i64 2), (.int .i64 (id : Nat)), (.int .i64 (sg : Nat)), (.bool true)]] v fun e w' => e = .returned (.string ⟨(nameL (cand s.data.toList 2 true)).toArray⟩) ∧ Below v.heap.size v w') := fun v => by
                    have := rnameOf (cand s.data.toList 2 true) (cand_ok s.data.toList 2 true (by omega) (by omega)) v
                    have hv : (cand s.data.toList 2 true).val = .agg #[(.int .i64 2), (.int .i64 (id : Nat)), (.int .i64 (sg : Nat)), (.bool true)] := by
                      show Value.agg _ = _
                      try rw [← HID.out]
                      try rw [← HSG.out]
                      rfl
                    rw [hv] at this
                    exact this
                  have HHIT : Hid (nameL (cand s.data.toList 2 true) ≠ [] → nameL (cand s.data.toList 2 true) = s.data.toList → parseL s.data.toList = (cand s.data.toList 2 true)) := fun h1 h2 => hit_parse ⟨h1, h2⟩
                  have HMS : Hid (¬ hit s.data.toList (cand s.data.toList 2 true) → Miss s.data.toList 2 2) := fun hn => HV.out.1.next (t := true) hn
                  have HHT : Hid (hit s.data.toList (cand s.data.toList 2 true) → nameL (cand s.data.toList 2 true) ≠ [] ∧ nameL (cand s.data.toList 2 true) = s.data.toList) := fun hh => hh
                  have HCV : Hid ((cand s.data.toList 2 true).val = .agg #[(.int .i64 2), (.int .i64 (id : Nat)), (.int .i64 (sg : Nat)), (.bool true)]) := by
                    show Value.agg _ = _
                    try rw [← HID.out]
                    try rw [← HSG.out]
                    rfl
                  have hnl := name_len (cand s.data.toList 2 true)
                  obtain ⟨W2, hW2⟩ : ∃ W2, wi.alloc (.cells #[(.int .i64 2), (.int .i64 (id : Nat)), (.int .i64 (sg : Nat)), (.bool true)] 23) = W2 := ⟨_, rfl⟩
                  have HZ2 : Hid (Own4 W2 wi.heap.size (.int .i64 2) (.int .i64 (id : Nat)) (.int .i64 (sg : Nat)) (.bool true)) := by
                    unfold Hid
                    rw [← hW2]; exact Own4.new _ _ _ _ _
                  have hb2 : Below wi.heap.size wi W2 := by
                    rw [← hW2]; exact (Below.refl _ _).alloc (Nat.le_refl _) _
                  have HB2 : Hid (Below w.heap.size w W2) := below_on HV.out.2.1 hb2
                  have HR2 : Hid (Own4 W2 w.heap.size (.int .i64 0) (.int .i64 0) (.int .i64 0) (.bool false)) := HV.out.2.2.later hb2
                  obtain ⟨z0, z1, z2, z3, _⟩ := HZ2.out
                  clear hb2 HV
                  generalize nameL (cand s.data.toList 2 true) = L at *
                  go_wp2_with fail
                  refine (HNM.out _).mono ?_
                  rintro e w3 ⟨rfl, hb3⟩
                  have HB3 : Hid (Below w.heap.size w w3) := below_on HB2.out hb3
                  have HR3 : Hid (Own4 w3 w.heap.size (.int .i64 0) (.int .i64 0) (.int .i64 0) (.bool false)) := HR2.out.later hb3
                  have HZ3 : Hid (Own4 w3 wi.heap.size (.int .i64 2) (.int .i64 (id : Nat)) (.int .i64 (sg : Nat)) (.bool true)) := HZ2.out.later hb3
                  clear hb3 hW2 z0 z1 z2 z3 HNM
                  by_cases hL0 : L = []
                  · have HN : Hid (Miss s.data.toList 2 2 ∧ Below w.heap.size w w3 ∧ Own4 w3 w.heap.size (.int .i64 0) (.int .i64 0) (.int .i64 0) (.bool false)) := ⟨HMS.out (fun hh => (HHT.out hh).1 hL0), HB3.out, HR3.out⟩
                    subst hL0
                    clear HMS HHT HHIT HCV
                    go_wp2
                    go_roundg gk2
                    case measure => omega
                    case rel => exact ⟨2, by omega, by go_num, HN.out⟩
                  · have hem : L.isEmpty = false := by cases L with
                      | nil => exact absurd rfl hL0
                      | cons a b => rfl
                    by_cases hL : L = s.data.toList
                    · have HM : Hid (parseL s.data.toList = (cand s.data.toList 2 true)) := HHIT.out hL0 hL
                      have hse : s = ⟨L.toArray⟩ := by
                        apply ByteArray.ext
                        rw [hL]
                      have heq : (L == s.toList) = true := by rw [ByteArray.toList_eq, hL]; simp
                      have heq2 : ((⟨L.toArray⟩ : ByteArray).toList == s.toList) = true := by rw [ByteArray.toList_eq, ByteArray.toList_eq, hL]; simp
                      obtain ⟨y0, y1, y2, y3, _⟩ := HZ3.out
                      obtain ⟨r0, r1, r2, r3, rf⟩ := HR3.out
                      have rf0 := rf 0
                      have rf1 := rf 1
                      have rf2 := rf 2
                      have rf3 := rf 3
                      clear HMS HHT HHIT hL hL0 hse rf
                      go_wp2
                      refine bodyPost_ret (v := .agg #[(.int .i64 2), (.int .i64 (id : Nat)), (.int .i64 (sg : Nat)), (.bool true)]) ?_ rfl ⟨?_, below4 HB3.out (Nat.le_refl _) _ _ _ _⟩
                      · obtain ⟨p0, p1, p2, p3, _⟩ := HR3.out.put (.int .i64 2) (.int .i64 (id : Nat)) (.int .i64 (sg : Nat)) (.bool true)
                        simp only [results, hres8]
                        go_simp
                      · rw [HM.out, HCV.out]
                    · have HN : Hid (Miss s.data.toList 2 2 ∧ Below w.heap.size w w3 ∧ Own4 w3 w.heap.size (.int .i64 0) (.int .i64 0) (.int .i64 0) (.bool false)) := ⟨HMS.out (fun hh => hL (HHT.out hh).2), HB3.out, HR3.out⟩
                      have heq : (L == s.toList) = false := by rw [ByteArray.toList_eq, beq_eq_false_iff_ne]; exact hL
                      have heq2 : ((⟨L.toArray⟩ : ByteArray).toList == s.toList) = false := by rw [ByteArray.toList_eq, ByteArray.toList_eq, beq_eq_false_iff_ne]; exact hL
                      clear HMS HHT HHIT HCV hL hL0
                      go_wp2
                      go_roundg gk2
                      case measure => omega
                      case rel => exact ⟨2, by omega, by go_num, HN.out⟩
          · go_wp2
            go_loopg [10] 2 (fun gk s10 wx => ∃ (t : Nat), t + gk = 2 ∧ s10 = .int .i64 t ∧ Hid (Miss s.data.toList 3 t ∧ Below w.heap.size w wx ∧ Own4 wx w.heap.size (.int .i64 0) (.int .i64 0) (.int .i64 0) (.bool false)))
            case atStart => exact ⟨0, by omega, rfl, HV.out⟩
            case round =>
              clear HV
              obtain ⟨wi, hwi⟩ : ∃ u, u = wr := ⟨_, rfl⟩
              subst hwi
              obtain ⟨t, htg, rfl, HV⟩ := hrel
              cases gk with
              | zero =>
                obtain rfl : t = 2 := by omega
                have HN : Hid (Miss s.data.toList 4 0 ∧ Below w.heap.size w wi ∧ Own4 wi w.heap.size (.int .i64 0) (.int .i64 0) (.int .i64 0) (.bool false)) := ⟨HV.out.1.row, HV.out.2⟩
                clear HV
                go_wp2
                go_roundg gk1
                case measure => omega
                case rel => exact ⟨4, by omega, by omega, by go_num, HN.out⟩
              | succ gk2 =>
                obtain rfl | rfl : t = 0 ∨ t = 1 := by omega
                · have HNM : Hid (∀ v, Calls Tryd.prog 6 #[.agg #[(.int .i64 3), (.int .i64 (id : Nat)), (.int .i64 0), (.bool false)]] v fun e w' => e = .returned (.string ⟨(nameL (cand s.data.toList 3 false)).toArray⟩) ∧ Below v.heap.size v w') := fun v => by
                    have := rnameOf (cand s.data.toList 3 false) (cand_ok s.data.toList 3 false (by omega) (by omega)) v
                    have hv : (cand s.data.toList 3 false).val = .agg #[(.int .i64 3), (.int .i64 (id : Nat)), (.int .i64 0), (.bool false)] := by
                      show Value.agg _ = _
                      try rw [← HID.out]
                      try rw [← HSG.out]
                      rfl
                    rw [hv] at this
                    exact this
                  have HHIT : Hid (nameL (cand s.data.toList 3 false) ≠ [] → nameL (cand s.data.toList 3 false) = s.data.toList → parseL s.data.toList = (cand s.data.toList 3 false)) := fun h1 h2 => hit_parse ⟨h1, h2⟩
                  have HMS : Hid (¬ hit s.data.toList (cand s.data.toList 3 false) → Miss s.data.toList 3 1) := fun hn => HV.out.1.next (t := false) hn
                  have HHT : Hid (hit s.data.toList (cand s.data.toList 3 false) → nameL (cand s.data.toList 3 false) ≠ [] ∧ nameL (cand s.data.toList 3 false) = s.data.toList) := fun hh => hh
                  have HCV : Hid ((cand s.data.toList 3 false).val = .agg #[(.int .i64 3), (.int .i64 (id : Nat)), (.int .i64 0), (.bool false)]) := by
                    show Value.agg _ = _
                    try rw [← HID.out]
                    try rw [← HSG.out]
                    rfl
                  have hnl := name_len (cand s.data.toList 3 false)
                  obtain ⟨W2, hW2⟩ : ∃ W2, wi.alloc (.cells #[(.int .i64 3), (.int .i64 (id : Nat)), (.int .i64 0), (.bool false)] 23) = W2 := ⟨_, rfl⟩
                  have HZ2 : Hid (Own4 W2 wi.heap.size (.int .i64 3) (.int .i64 (id : Nat)) (.int .i64 0) (.bool false)) := by
                    unfold Hid
                    rw [← hW2]; exact Own4.new _ _ _ _ _
                  have hb2 : Below wi.heap.size wi W2 := by
                    rw [← hW2]; exact (Below.refl _ _).alloc (Nat.le_refl _) _
                  have HB2 : Hid (Below w.heap.size w W2) := below_on HV.out.2.1 hb2
                  have HR2 : Hid (Own4 W2 w.heap.size (.int .i64 0) (.int .i64 0) (.int .i64 0) (.bool false)) := HV.out.2.2.later hb2
                  obtain ⟨z0, z1, z2, z3, _⟩ := HZ2.out
                  clear hb2 HV
                  generalize nameL (cand s.data.toList 3 false) = L at *
                  go_wp2_with fail
                  refine (HNM.out _).mono ?_
                  rintro e w3 ⟨rfl, hb3⟩
                  have HB3 : Hid (Below w.heap.size w w3) := below_on HB2.out hb3
                  have HR3 : Hid (Own4 w3 w.heap.size (.int .i64 0) (.int .i64 0) (.int .i64 0) (.bool false)) := HR2.out.later hb3
                  have HZ3 : Hid (Own4 w3 wi.heap.size (.int .i64 3) (.int .i64 (id : Nat)) (.int .i64 0) (.bool false)) := HZ2.out.later hb3
                  clear hb3 hW2 z0 z1 z2 z3 HNM
                  by_cases hL0 : L = []
                  · have HN : Hid (Miss s.data.toList 3 1 ∧ Below w.heap.size w w3 ∧ Own4 w3 w.heap.size (.int .i64 0) (.int .i64 0) (.int .i64 0) (.bool false)) := ⟨HMS.out (fun hh => (HHT.out hh).1 hL0), HB3.out, HR3.out⟩
                    subst hL0
                    clear HMS HHT HHIT HCV
                    go_wp2
                    go_roundg gk2
                    case measure => omega
                    case rel => exact ⟨1, by omega, by go_num, HN.out⟩
                  · have hem : L.isEmpty = false := by cases L with
                      | nil => exact absurd rfl hL0
                      | cons a b => rfl
                    by_cases hL : L = s.data.toList
                    · have HM : Hid (parseL s.data.toList = (cand s.data.toList 3 false)) := HHIT.out hL0 hL
                      have hse : s = ⟨L.toArray⟩ := by
                        apply ByteArray.ext
                        rw [hL]
                      have heq : (L == s.toList) = true := by rw [ByteArray.toList_eq, hL]; simp
                      have heq2 : ((⟨L.toArray⟩ : ByteArray).toList == s.toList) = true := by rw [ByteArray.toList_eq, ByteArray.toList_eq, hL]; simp
                      obtain ⟨y0, y1, y2, y3, _⟩ := HZ3.out
                      obtain ⟨r0, r1, r2, r3, rf⟩ := HR3.out
                      have rf0 := rf 0
                      have rf1 := rf 1
                      have rf2 := rf 2
                      have rf3 := rf 3
                      clear HMS HHT HHIT hL hL0 hse rf
                      go_wp2
                      refine bodyPost_ret (v := .agg #[(.int .i64 3), (.int .i64 (id : Nat)), (.int .i64 0), (.bool false)]) ?_ rfl ⟨?_, below4 HB3.out (Nat.le_refl _) _ _ _ _⟩
                      · obtain ⟨p0, p1, p2, p3, _⟩ := HR3.out.put (.int .i64 3) (.int .i64 (id : Nat)) (.int .i64 0) (.bool false)
                        simp only [results, hres8]
                        go_simp
                      · rw [HM.out, HCV.out]
                    · have HN : Hid (Miss s.data.toList 3 1 ∧ Below w.heap.size w w3 ∧ Own4 w3 w.heap.size (.int .i64 0) (.int .i64 0) (.int .i64 0) (.bool false)) := ⟨HMS.out (fun hh => hL (HHT.out hh).2), HB3.out, HR3.out⟩
                      have heq : (L == s.toList) = false := by rw [ByteArray.toList_eq, beq_eq_false_iff_ne]; exact hL
                      have heq2 : ((⟨L.toArray⟩ : ByteArray).toList == s.toList) = false := by rw [ByteArray.toList_eq, ByteArray.toList_eq, beq_eq_false_iff_ne]; exact hL
                      clear HMS HHT HHIT HCV hL hL0
                      go_wp2
                      go_roundg gk2
                      case measure => omega
                      case rel => exact ⟨1, by omega, by go_num, HN.out⟩
                · have HNM : Hid (∀ v, Calls Tryd.prog 6 #[.agg #[(.int .i64 3), (.int .i64 (id : Nat)), (.int .i64 0), (.bool true)]] v fun e w' => e = .returned (.string ⟨(nameL (cand s.data.toList 3 true)).toArray⟩) ∧ Below v.heap.size v w') := fun v => by
                    have := rnameOf (cand s.data.toList 3 true) (cand_ok s.data.toList 3 true (by omega) (by omega)) v
                    have hv : (cand s.data.toList 3 true).val = .agg #[(.int .i64 3), (.int .i64 (id : Nat)), (.int .i64 0), (.bool true)] := by
                      show Value.agg _ = _
                      try rw [← HID.out]
                      try rw [← HSG.out]
                      rfl
                    rw [hv] at this
                    exact this
                  have HHIT : Hid (nameL (cand s.data.toList 3 true) ≠ [] → nameL (cand s.data.toList 3 true) = s.data.toList → parseL s.data.toList = (cand s.data.toList 3 true)) := fun h1 h2 => hit_parse ⟨h1, h2⟩
                  have HMS : Hid (¬ hit s.data.toList (cand s.data.toList 3 true) → Miss s.data.toList 3 2) := fun hn => HV.out.1.next (t := true) hn
                  have HHT : Hid (hit s.data.toList (cand s.data.toList 3 true) → nameL (cand s.data.toList 3 true) ≠ [] ∧ nameL (cand s.data.toList 3 true) = s.data.toList) := fun hh => hh
                  have HCV : Hid ((cand s.data.toList 3 true).val = .agg #[(.int .i64 3), (.int .i64 (id : Nat)), (.int .i64 0), (.bool true)]) := by
                    show Value.agg _ = _
                    try rw [← HID.out]
                    try rw [← HSG.out]
                    rfl
                  have hnl := name_len (cand s.data.toList 3 true)
                  obtain ⟨W2, hW2⟩ : ∃ W2, wi.alloc (.cells #[(.int .i64 3), (.int .i64 (id : Nat)), (.int .i64 0), (.bool true)] 23) = W2 := ⟨_, rfl⟩
                  have HZ2 : Hid (Own4 W2 wi.heap.size (.int .i64 3) (.int .i64 (id : Nat)) (.int .i64 0) (.bool true)) := by
                    unfold Hid
                    rw [← hW2]; exact Own4.new _ _ _ _ _
                  have hb2 : Below wi.heap.size wi W2 := by
                    rw [← hW2]; exact (Below.refl _ _).alloc (Nat.le_refl _) _
                  have HB2 : Hid (Below w.heap.size w W2) := below_on HV.out.2.1 hb2
                  have HR2 : Hid (Own4 W2 w.heap.size (.int .i64 0) (.int .i64 0) (.int .i64 0) (.bool false)) := HV.out.2.2.later hb2
                  obtain ⟨z0, z1, z2, z3, _⟩ := HZ2.out
                  clear hb2 HV
                  generalize nameL (cand s.data.toList 3 true) = L at *
                  go_wp2_with fail
                  refine (HNM.out _).mono ?_
                  rintro e w3 ⟨rfl, hb3⟩
                  have HB3 : Hid (Below w.heap.size w w3) := below_on HB2.out hb3
                  have HR3 : Hid (Own4 w3 w.heap.size (.int .i64 0) (.int .i64 0) (.int .i64 0) (.bool false)) := HR2.out.later hb3
                  have HZ3 : Hid (Own4 w3 wi.heap.size (.int .i64 3) (.int .i64 (id : Nat)) (.int .i64 0) (.bool true)) := HZ2.out.later hb3
                  clear hb3 hW2 z0 z1 z2 z3 HNM
                  by_cases hL0 : L = []
                  · have HN : Hid (Miss s.data.toList 3 2 ∧ Below w.heap.size w w3 ∧ Own4 w3 w.heap.size (.int .i64 0) (.int .i64 0) (.int .i64 0) (.bool false)) := ⟨HMS.out (fun hh => (HHT.out hh).1 hL0), HB3.out, HR3.out⟩
                    subst hL0
                    clear HMS HHT HHIT HCV
                    go_wp2
                    go_roundg gk2
                    case measure => omega
                    case rel => exact ⟨2, by omega, by go_num, HN.out⟩
                  · have hem : L.isEmpty = false := by cases L with
                      | nil => exact absurd rfl hL0
                      | cons a b => rfl
                    by_cases hL : L = s.data.toList
                    · have HM : Hid (parseL s.data.toList = (cand s.data.toList 3 true)) := HHIT.out hL0 hL
                      have hse : s = ⟨L.toArray⟩ := by
                        apply ByteArray.ext
                        rw [hL]
                      have heq : (L == s.toList) = true := by rw [ByteArray.toList_eq, hL]; simp
                      have heq2 : ((⟨L.toArray⟩ : ByteArray).toList == s.toList) = true := by rw [ByteArray.toList_eq, ByteArray.toList_eq, hL]; simp
                      obtain ⟨y0, y1, y2, y3, _⟩ := HZ3.out
                      obtain ⟨r0, r1, r2, r3, rf⟩ := HR3.out
                      have rf0 := rf 0
                      have rf1 := rf 1
                      have rf2 := rf 2
                      have rf3 := rf 3
                      clear HMS HHT HHIT hL hL0 hse rf
                      go_wp2
                      refine bodyPost_ret (v := .agg #[(.int .i64 3), (.int .i64 (id : Nat)), (.int .i64 0), (.bool true)]) ?_ rfl ⟨?_, below4 HB3.out (Nat.le_refl _) _ _ _ _⟩
                      · obtain ⟨p0, p1, p2, p3, _⟩ := HR3.out.put (.int .i64 3) (.int .i64 (id : Nat)) (.int .i64 0) (.bool true)
                        simp only [results, hres8]
                        go_simp
                      · rw [HM.out, HCV.out]
                    · have HN : Hid (Miss s.data.toList 3 2 ∧ Below w.heap.size w w3 ∧ Own4 w3 w.heap.size (.int .i64 0) (.int .i64 0) (.int .i64 0) (.bool false)) := ⟨HMS.out (fun hh => hL (HHT.out hh).2), HB3.out, HR3.out⟩
                      have heq : (L == s.toList) = false := by rw [ByteArray.toList_eq, beq_eq_false_iff_ne]; exact hL
                      have heq2 : ((⟨L.toArray⟩ : ByteArray).toList == s.toList) = false := by rw [ByteArray.toList_eq, ByteArray.toList_eq, beq_eq_false_iff_ne]; exact hL
                      clear HMS HHT HHIT HCV hL hL0
                      go_wp2
                      go_roundg gk2
                      case measure => omega
                      case rel => exact ⟨2, by omega, by go_num, HN.out⟩
          · go_wp2
            go_loopg [10] 2 (fun gk s10 wx => ∃ (t : Nat), t + gk = 2 ∧ s10 = .int .i64 t ∧ Hid (Miss s.data.toList 4 t ∧ Below w.heap.size w wx ∧ Own4 wx w.heap.size (.int .i64 0) (.int .i64 0) (.int .i64 0) (.bool false)))
            case atStart => exact ⟨0, by omega, rfl, HV.out⟩
            case round =>
              clear HV
              obtain ⟨wi, hwi⟩ : ∃ u, u = wr := ⟨_, rfl⟩
              subst hwi
              obtain ⟨t, htg, rfl, HV⟩ := hrel
              cases gk with
              | zero =>
                obtain rfl : t = 2 := by omega
                have HN : Hid (Miss s.data.toList 5 0 ∧ Below w.heap.size w wi ∧ Own4 wi w.heap.size (.int .i64 0) (.int .i64 0) (.int .i64 0) (.bool false)) := ⟨HV.out.1.row, HV.out.2⟩
                clear HV
                go_wp2
                go_roundg gk1
                case measure => omega
                case rel => exact ⟨5, by omega, by omega, by go_num, HN.out⟩
              | succ gk2 =>
                obtain rfl | rfl : t = 0 ∨ t = 1 := by omega
                · have HNM : Hid (∀ v, Calls Tryd.prog 6 #[.agg #[(.int .i64 4), (.int .i64 0), (.int .i64 0), (.bool false)]] v fun e w' => e = .returned (.string ⟨(nameL (cand s.data.toList 4 false)).toArray⟩) ∧ Below v.heap.size v w') := fun v => by
                    have := rnameOf (cand s.data.toList 4 false) (cand_ok s.data.toList 4 false (by omega) (by omega)) v
                    have hv : (cand s.data.toList 4 false).val = .agg #[(.int .i64 4), (.int .i64 0), (.int .i64 0), (.bool false)] := by
                      show Value.agg _ = _
                      try rw [← HID.out]
                      try rw [← HSG.out]
                      rfl
                    rw [hv] at this
                    exact this
                  have HHIT : Hid (nameL (cand s.data.toList 4 false) ≠ [] → nameL (cand s.data.toList 4 false) = s.data.toList → parseL s.data.toList = (cand s.data.toList 4 false)) := fun h1 h2 => hit_parse ⟨h1, h2⟩
                  have HMS : Hid (¬ hit s.data.toList (cand s.data.toList 4 false) → Miss s.data.toList 4 1) := fun hn => HV.out.1.next (t := false) hn
                  have HHT : Hid (hit s.data.toList (cand s.data.toList 4 false) → nameL (cand s.data.toList 4 false) ≠ [] ∧ nameL (cand s.data.toList 4 false) = s.data.toList) := fun hh => hh
                  have HCV : Hid ((cand s.data.toList 4 false).val = .agg #[(.int .i64 4), (.int .i64 0), (.int .i64 0), (.bool false)]) := by
                    show Value.agg _ = _
                    try rw [← HID.out]
                    try rw [← HSG.out]
                    rfl
                  have hnl := name_len (cand s.data.toList 4 false)
                  obtain ⟨W2, hW2⟩ : ∃ W2, wi.alloc (.cells #[(.int .i64 4), (.int .i64 0), (.int .i64 0), (.bool false)] 23) = W2 := ⟨_, rfl⟩
                  have HZ2 : Hid (Own4 W2 wi.heap.size (.int .i64 4) (.int .i64 0) (.int .i64 0) (.bool false)) := by
                    unfold Hid
                    rw [← hW2]; exact Own4.new _ _ _ _ _
                  have hb2 : Below wi.heap.size wi W2 := by
                    rw [← hW2]; exact (Below.refl _ _).alloc (Nat.le_refl _) _
                  have HB2 : Hid (Below w.heap.size w W2) := below_on HV.out.2.1 hb2
                  have HR2 : Hid (Own4 W2 w.heap.size (.int .i64 0) (.int .i64 0) (.int .i64 0) (.bool false)) := HV.out.2.2.later hb2
                  obtain ⟨z0, z1, z2, z3, _⟩ := HZ2.out
                  clear hb2 HV
                  generalize nameL (cand s.data.toList 4 false) = L at *
                  have HW2 : Hid (wi.alloc (.cells #[(.int .i64 4), (.int .i64 0), (.int .i64 0), (.bool false)] 23) = W2) := hW2
                  clear hW2 z0 z1 z2 z3
                  go_wp2_with fail
                  refine (HNM.out _).mono ?_
                  rintro e w3 ⟨rfl, hb3⟩
                  rw [HW2.out] at hb3
                  have HB3 : Hid (Below w.heap.size w w3) := below_on HB2.out hb3
                  have HR3 : Hid (Own4 w3 w.heap.size (.int .i64 0) (.int .i64 0) (.int .i64 0) (.bool false)) := HR2.out.later hb3
                  have HZ3 : Hid (Own4 w3 wi.heap.size (.int .i64 4) (.int .i64 0) (.int .i64 0) (.bool false)) := HZ2.out.later hb3
                  clear hb3 HNM
                  by_cases hL0 : L = []
                  · have HN : Hid (Miss s.data.toList 4 1 ∧ Below w.heap.size w w3 ∧ Own4 w3 w.heap.size (.int .i64 0) (.int .i64 0) (.int .i64 0) (.bool false)) := ⟨HMS.out (fun hh => (HHT.out hh).1 hL0), HB3.out, HR3.out⟩
                    subst hL0
                    clear HMS HHT HHIT HCV
                    go_wp2
                    go_roundg gk2
                    case measure => omega
                    case rel => exact ⟨1, by omega, by go_num, HN.out⟩
                  · have hem : L.isEmpty = false := by cases L with
                      | nil => exact absurd rfl hL0
                      | cons a b => rfl
                    by_cases hL : L = s.data.toList
                    · have HM : Hid (parseL s.data.toList = (cand s.data.toList 4 false)) := HHIT.out hL0 hL
                      have hse : s = ⟨L.toArray⟩ := by
                        apply ByteArray.ext
                        rw [hL]
                      have heq : (L == s.toList) = true := by rw [ByteArray.toList_eq, hL]; simp
                      have heq2 : ((⟨L.toArray⟩ : ByteArray).toList == s.toList) = true := by rw [ByteArray.toList_eq, ByteArray.toList_eq, hL]; simp
                      obtain ⟨y0, y1, y2, y3, _⟩ := HZ3.out
                      obtain ⟨r0, r1, r2, r3, rf⟩ := HR3.out
                      have rf0 := rf 0
                      have rf1 := rf 1
                      have rf2 := rf 2
                      have rf3 := rf 3
                      clear HMS HHT HHIT hL hL0 hse rf
                      go_wp2
                      refine bodyPost_ret (v := .agg #[(.int .i64 4), (.int .i64 0), (.int .i64 0), (.bool false)]) ?_ rfl ⟨?_, below4 HB3.out (Nat.le_refl _) _ _ _ _⟩
                      · obtain ⟨p0, p1, p2, p3, _⟩ := HR3.out.put (.int .i64 4) (.int .i64 0) (.int .i64 0) (.bool false)
                        simp only [results, hres8]
                        go_simp
                      · rw [HM.out, HCV.out]
                    · have HN : Hid (Miss s.data.toList 4 1 ∧ Below w.heap.size w w3 ∧ Own4 w3 w.heap.size (.int .i64 0) (.int .i64 0) (.int .i64 0) (.bool false)) := ⟨HMS.out (fun hh => hL (HHT.out hh).2), HB3.out, HR3.out⟩
                      have heq : (L == s.toList) = false := by rw [ByteArray.toList_eq, beq_eq_false_iff_ne]; exact hL
                      have heq2 : ((⟨L.toArray⟩ : ByteArray).toList == s.toList) = false := by rw [ByteArray.toList_eq, ByteArray.toList_eq, beq_eq_false_iff_ne]; exact hL
                      clear HMS HHT HHIT HCV hL hL0
                      go_wp2
                      go_roundg gk2
                      case measure => omega
                      case rel => exact ⟨1, by omega, by go_num, HN.out⟩
                · have HNM : Hid (∀ v, Calls Tryd.prog 6 #[.agg #[(.int .i64 4), (.int .i64 0), (.int .i64 0), (.bool true)]] v fun e w' => e = .returned (.string ⟨(nameL (cand s.data.toList 4 true)).toArray⟩) ∧ Below v.heap.size v w') := fun v => by
                    have := rnameOf (cand s.data.toList 4 true) (cand_ok s.data.toList 4 true (by omega) (by omega)) v
                    have hv : (cand s.data.toList 4 true).val = .agg #[(.int .i64 4), (.int .i64 0), (.int .i64 0), (.bool true)] := by
                      show Value.agg _ = _
                      try rw [← HID.out]
                      try rw [← HSG.out]
                      rfl
                    rw [hv] at this
                    exact this
                  have HHIT : Hid (nameL (cand s.data.toList 4 true) ≠ [] → nameL (cand s.data.toList 4 true) = s.data.toList → parseL s.data.toList = (cand s.data.toList 4 true)) := fun h1 h2 => hit_parse ⟨h1, h2⟩
                  have HMS : Hid (¬ hit s.data.toList (cand s.data.toList 4 true) → Miss s.data.toList 4 2) := fun hn => HV.out.1.next (t := true) hn
                  have HHT : Hid (hit s.data.toList (cand s.data.toList 4 true) → nameL (cand s.data.toList 4 true) ≠ [] ∧ nameL (cand s.data.toList 4 true) = s.data.toList) := fun hh => hh
                  have HCV : Hid ((cand s.data.toList 4 true).val = .agg #[(.int .i64 4), (.int .i64 0), (.int .i64 0), (.bool true)]) := by
                    show Value.agg _ = _
                    try rw [← HID.out]
                    try rw [← HSG.out]
                    rfl
                  have hnl := name_len (cand s.data.toList 4 true)
                  obtain ⟨W2, hW2⟩ : ∃ W2, wi.alloc (.cells #[(.int .i64 4), (.int .i64 0), (.int .i64 0), (.bool true)] 23) = W2 := ⟨_, rfl⟩
                  have HZ2 : Hid (Own4 W2 wi.heap.size (.int .i64 4) (.int .i64 0) (.int .i64 0) (.bool true)) := by
                    unfold Hid
                    rw [← hW2]; exact Own4.new _ _ _ _ _
                  have hb2 : Below wi.heap.size wi W2 := by
                    rw [← hW2]; exact (Below.refl _ _).alloc (Nat.le_refl _) _
                  have HB2 : Hid (Below w.heap.size w W2) := below_on HV.out.2.1 hb2
                  have HR2 : Hid (Own4 W2 w.heap.size (.int .i64 0) (.int .i64 0) (.int .i64 0) (.bool false)) := HV.out.2.2.later hb2
                  obtain ⟨z0, z1, z2, z3, _⟩ := HZ2.out
                  clear hb2 HV
                  generalize nameL (cand s.data.toList 4 true) = L at *
                  have HW2 : Hid (wi.alloc (.cells #[(.int .i64 4), (.int .i64 0), (.int .i64 0), (.bool true)] 23) = W2) := hW2
                  clear hW2 z0 z1 z2 z3
                  go_wp2_with fail
                  refine (HNM.out _).mono ?_
                  rintro e w3 ⟨rfl, hb3⟩
                  rw [HW2.out] at hb3
                  have HB3 : Hid (Below w.heap.size w w3) := below_on HB2.out hb3
                  have HR3 : Hid (Own4 w3 w.heap.size (.int .i64 0) (.int .i64 0) (.int .i64 0) (.bool false)) := HR2.out.later hb3
                  have HZ3 : Hid (Own4 w3 wi.heap.size (.int .i64 4) (.int .i64 0) (.int .i64 0) (.bool true)) := HZ2.out.later hb3
                  clear hb3 HNM
                  by_cases hL0 : L = []
                  · have HN : Hid (Miss s.data.toList 4 2 ∧ Below w.heap.size w w3 ∧ Own4 w3 w.heap.size (.int .i64 0) (.int .i64 0) (.int .i64 0) (.bool false)) := ⟨HMS.out (fun hh => (HHT.out hh).1 hL0), HB3.out, HR3.out⟩
                    subst hL0
                    clear HMS HHT HHIT HCV
                    go_wp2
                    go_roundg gk2
                    case measure => omega
                    case rel => exact ⟨2, by omega, by go_num, HN.out⟩
                  · have hem : L.isEmpty = false := by cases L with
                      | nil => exact absurd rfl hL0
                      | cons a b => rfl
                    by_cases hL : L = s.data.toList
                    · have HM : Hid (parseL s.data.toList = (cand s.data.toList 4 true)) := HHIT.out hL0 hL
                      have hse : s = ⟨L.toArray⟩ := by
                        apply ByteArray.ext
                        rw [hL]
                      have heq : (L == s.toList) = true := by rw [ByteArray.toList_eq, hL]; simp
                      have heq2 : ((⟨L.toArray⟩ : ByteArray).toList == s.toList) = true := by rw [ByteArray.toList_eq, ByteArray.toList_eq, hL]; simp
                      obtain ⟨y0, y1, y2, y3, _⟩ := HZ3.out
                      obtain ⟨r0, r1, r2, r3, rf⟩ := HR3.out
                      have rf0 := rf 0
                      have rf1 := rf 1
                      have rf2 := rf 2
                      have rf3 := rf 3
                      clear HMS HHT HHIT hL hL0 hse rf
                      go_wp2
                      refine bodyPost_ret (v := .agg #[(.int .i64 4), (.int .i64 0), (.int .i64 0), (.bool true)]) ?_ rfl ⟨?_, below4 HB3.out (Nat.le_refl _) _ _ _ _⟩
                      · obtain ⟨p0, p1, p2, p3, _⟩ := HR3.out.put (.int .i64 4) (.int .i64 0) (.int .i64 0) (.bool true)
                        simp only [results, hres8]
                        go_simp
                      · rw [HM.out, HCV.out]
                    · have HN : Hid (Miss s.data.toList 4 2 ∧ Below w.heap.size w w3 ∧ Own4 w3 w.heap.size (.int .i64 0) (.int .i64 0) (.int .i64 0) (.bool false)) := ⟨HMS.out (fun hh => hL (HHT.out hh).2), HB3.out, HR3.out⟩
                      have heq : (L == s.toList) = false := by rw [ByteArray.toList_eq, beq_eq_false_iff_ne]; exact hL
                      have heq2 : ((⟨L.toArray⟩ : ByteArray).toList == s.toList) = false := by rw [ByteArray.toList_eq, ByteArray.toList_eq, beq_eq_false_iff_ne]; exact hL
                      clear HMS HHT HHIT HCV hL hL0
                      go_wp2
                      go_roundg gk2
                      case measure => omega
                      case rel => exact ⟨2, by omega, by go_num, HN.out⟩
end Go.Proofs.YteekmmgopnnioaaDoor.Mn
