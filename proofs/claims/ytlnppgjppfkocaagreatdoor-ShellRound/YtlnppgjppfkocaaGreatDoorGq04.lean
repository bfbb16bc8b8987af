import Derived.Test.YtlnppgjppfkocaaGreatDoorGq03
/-! Lines: the document's words of operations and codes. -/
namespace Go.Proofs.YtlnppgjppfkocaaGreatDoor.Xs
open Go.RowKit
set_option linter.unusedVariables false
set_option linter.unusedSimpArgs false

set_option maxHeartbeats 8000000 in
set_option maxRecDepth 100000 in
theorem ropWordOf (op : Int) (h1 : -9223372036854775808 ≤ op) (h2 : op ≤ 9223372036854775807) (w : World) :
    Calls Tryz.prog 50 #[.int .i64 op] w fun e w' => e = .returned (.string (ba (opT op))) ∧ Below w.heap.size w w' := by
  have HN : Hid (∀ u, Calls Tryz.prog 30 #[.int .i64 op] u fun e w' => e = .returned (.string (ba (Lib.itoa op))) ∧ Below u.heap.size u w') := rnumberOf op h1 h2
  by_cases h : 1 ≤ op ∧ op ≤ 15
  · have hcases : op = 1 ∨ op = 2 ∨ op = 3 ∨ op = 4 ∨ op = 5 ∨ op = 6 ∨ op = 7 ∨ op = 8 ∨ op = 9 ∨ op = 10 ∨ op = 11 ∨ op = 12 ∨ op = 13 ∨ op = 14 ∨ op = 15 := by omega
    clear h1 h2 h HN
    rcases hcases with rfl | rfl | rfl | rfl | rfl | rfl | rfl | rfl | rfl | rfl | rfl | rfl | rfl | rfl | rfl
    all_goals
      go_enter Tryz.func50, Tryz.ntmps50
      go_wp2
      go_ret
      exact ⟨rfl, (Below.refl _ _).alloc (Nat.le_refl _) _⟩
  · by_cases h64 : op = 64
    · have HO : Hid (opT op = delW) := by unfold Hid opT; rw [if_neg h, if_pos h64]
      generalize opT op = O at *
      clear HN h
      subst h64
      go_enter Tryz.func50, Tryz.ntmps50
      go_wp2
      go_ret
      exact ⟨by rw [HO.out]; rfl, (Below.refl _ _).alloc (Nat.le_refl _) _⟩
    · have HO : Hid (opT op = opP ++ Lib.itoa op) := by unfold Hid opT; rw [if_neg h, if_neg h64]
      have hl := itoa_len h1 h2
      have hn64 : (op == 64) = false := by simpa using h64
      have hcase : op < 1 ∨ 15 < op := by omega
      generalize opT op = O at *
      generalize Lib.itoa op = I at *
      have hIs : (ba I).size = I.length := rfl
      clear h
      rcases hcase with hc | hc
      · go_enter Tryz.func50, Tryz.ntmps50
        go_wp2_with fail
        refine (HN.out _).mono ?_
        rintro e w1 ⟨rfl, hb⟩
        go_wp2
        go_ret
        refine ⟨congrArg Ending.returned (str_eq ?_), below_on ((Below.refl _ _).alloc (Nat.le_refl _) _) hb⟩
        rw [HO.out]
        simp [opP]
      · have hc1 : 1 ≤ op := by omega
        go_enter Tryz.func50, Tryz.ntmps50
        go_wp2_with fail
        refine (HN.out _).mono ?_
        rintro e w1 ⟨rfl, hb⟩
        go_wp2
        go_ret
        refine ⟨congrArg Ending.returned (str_eq ?_), below_on ((Below.refl _ _).alloc (Nat.le_refl _) _) hb⟩
        rw [HO.out]
        simp [opP]

end Go.Proofs.YtlnppgjppfkocaaGreatDoor.Xs
