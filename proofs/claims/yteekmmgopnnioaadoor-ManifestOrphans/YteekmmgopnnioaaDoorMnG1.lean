import Derived.Test.YteekmmgopnnioaaDoorMnE
import Derived.BigRegion
import Derived.Deep.CutRange
/-! Names of files: the document's Name. -/
namespace Go.Proofs.YteekmmgopnnioaaDoor.Mn
open Go.RowKit
set_option linter.unusedVariables false
set_option linter.unusedSimpArgs false

set_option maxHeartbeats 8000000 in
set_option maxRecDepth 100000 in
theorem rnameY1 (i s : Int) (t : Bool) (hok : FN.Ok ⟨1, i, s, t⟩) (hi : isN i = true) (hs : isS s = true) (ia : 0 ≤ i) (ib : i < 1073741824) (sa : 1 ≤ s) (sb : s < 1073741824) (w : World) :
    Calls Tryd.prog 6 #[.agg #[.int .i64 1, .int .i64 i, .int .i64 s, .bool t]] w fun e w' => e = .returned (.string ⟨(nameL ⟨1, i, s, t⟩).toArray⟩) ∧ Below w.heap.size w w' := by
  obtain ⟨hk0, hk1, hi0, hi1, hs0, hs1⟩ := hok
  simp only at hk0 hk1 hi0 hi1 hs0 hs1
  obtain ⟨W1, hW1⟩ : ∃ W1, w.alloc (.cells #[.int .i64 1, .int .i64 i, .int .i64 s, .bool t] 23) = W1 := ⟨_, rfl⟩
  have HB1 : Hid (Below w.heap.size w W1) := by
    unfold Hid
    rw [← hW1]
    exact (Below.refl _ _).alloc (Nat.le_refl _) _
  have hWs : W1.heap.size = w.heap.size + 1 := by rw [← hW1]; simp
  have z0 : W1.cell? ⟨w.heap.size, 0, none⟩ = some (.int .i64 1) := by rw [← hW1, World.cell?_alloc_at _ _ _ _ rfl]; rfl
  have z1 : W1.cell? ⟨w.heap.size, 1, none⟩ = some (.int .i64 i) := by rw [← hW1, World.cell?_alloc_at _ _ _ _ rfl]; rfl
  have z2 : W1.cell? ⟨w.heap.size, 2, none⟩ = some (.int .i64 s) := by rw [← hW1, World.cell?_alloc_at _ _ _ _ rfl]; rfl
  have z3 : W1.cell? ⟨w.heap.size, 3, none⟩ = some (.bool t) := by rw [← hW1, World.cell?_alloc_at _ _ _ _ rfl]; rfl
  have HCL : Hid (∀ u, Below W1.heap.size W1 u → u.cell? ⟨w.heap.size, 0, none⟩ = some (.int .i64 1) ∧ u.cell? ⟨w.heap.size, 1, none⟩ = some (.int .i64 i) ∧ u.cell? ⟨w.heap.size, 2, none⟩ = some (.int .i64 s) ∧ u.cell? ⟨w.heap.size, 3, none⟩ = some (.bool t)) := fun u hu => ⟨(hu.cell (by show w.heap.size < _; omega)).trans z0, (hu.cell (by show w.heap.size < _; omega)).trans z1, (hu.cell (by show w.heap.size < _; omega)).trans z2, (hu.cell (by show w.heap.size < _; omega)).trans z3⟩
  go_enter Tryd.func6, Tryd.ntmps6
  clear hk0 hk1
  have HDi : Hid (∀ u, Calls Tryd.prog 24 #[.int .i64 i] u fun e w' => e = .returned (.string ⟨(dc i).toArray⟩) ∧ Below u.heap.size u w') := fun u => by
    have := decimalOf (i.toNat + 1) i.toNat (by omega) (by omega) u
    rwa [Int.toNat_of_nonneg (by omega)] at this
  have li : (dc i).length ≤ 21 := dec_len (by omega)
  have HDs : Hid (∀ u, Calls Tryd.prog 24 #[.int .i64 s] u fun e w' => e = .returned (.string ⟨(dc s).toArray⟩) ∧ Below u.heap.size u w') := fun u => by
    have := decimalOf (s.toNat + 1) s.toNat (by omega) (by omega) u
    rwa [Int.toNat_of_nonneg (by omega)] at this
  have ls : (dc s).length ≤ 21 := dec_len (by omega)
  have HN : Hid (nameL ⟨1, i, s, t⟩ = if t = true then (116 :: (dc i ++ 46 :: (dc s ++ tS))) ++ tmpB else 116 :: (dc i ++ 46 :: (dc s ++ tS))) := by
    unfold Hid nameL
    rw [show stemL ⟨1, i, s, t⟩ = 116 :: (dc i ++ 46 :: (dc s ++ tS)) by unfold stemL; simp [hi, hs]]
    simp
  clear hi hs
  generalize dc i = di at *
  generalize dc s = ds at *
  have hsi : (⟨di.toArray⟩ : ByteArray).size = di.length := rfl
  have hss : (⟨ds.toArray⟩ : ByteArray).size = ds.length := rfl
  go_wp2
  go_region_with (first
    | (go_at_call_of 24 (Value.int .i64 i)
       refine (HDi.out _).mono ?_
       rintro e w1 ⟨rfl, hb⟩
       have HB : Hid (Below W1.heap.size W1 w1) := by
         unfold Hid
         first
           | exact below_on HB.out hb
           | exact below_on ((Below.refl _ W1).drew) hb
           | exact hb
       obtain ⟨y0, y1, y2, y3⟩ := HCL.out _ HB.out
       clear hb)
    | (go_at_call_of 24 (Value.int .i64 s)
       refine (HDs.out _).mono ?_
       rintro e w1 ⟨rfl, hb⟩
       have HB : Hid (Below W1.heap.size W1 w1) := by
         unfold Hid
         first
           | exact below_on HB.out hb
           | exact below_on ((Below.refl _ W1).drew) hb
           | exact hb
       obtain ⟨y0, y1, y2, y3⟩ := HCL.out _ HB.out
       clear hb))
  all_goals
    clear HDi HDs HCL
    cases t with
    | false =>
      go_wp2
      go_ret
      refine ⟨?_, below_on HB1.out HB.out⟩
      rw [HN.out]
      refine congrArg Ending.returned (str_eq ?_)
      simp [tS]
    | true =>
      go_wp2
      go_ret
      refine ⟨?_, below_on HB1.out HB.out⟩
      rw [HN.out]
      refine congrArg Ending.returned (str_eq ?_)
      simp [tS, tmpB]

end Go.Proofs.YteekmmgopnnioaaDoor.Mn
