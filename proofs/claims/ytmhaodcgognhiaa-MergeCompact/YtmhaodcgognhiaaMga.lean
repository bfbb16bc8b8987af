import Derived.Test.YtmhaodcgognhiaaRc
/-! merge: the number of steps. -/
namespace Go.Proofs.Ytmhaodcgognhiaa
open Go.RowKit Plain
set_option linter.unusedVariables false

def stepsN (a b : Int) : Int := if a < 0 ∨ b < 0 ∨ 2305843009213693950 < a ∨ 9223372036854775803 - 4 * a < b then 0 else b + 4 * a + 4

theorem stepsOf (a b : Int) (ha : I64 a) (hb : I64 b) (w : World) : Calls Try.prog 6 #[.int .i64 a, .int .i64 b] w fun e w' => e = .returned (.int .i64 (stepsN a b)) ∧ w' = w := by
  unfold I64 at ha hb
  by_cases h1 : a < 0
  · have HE : Hid (stepsN a b = 0) := by unfold Hid stepsN; rw [if_pos (by omega)]
    go_enter Try.func6, Try.ntmps6
    go_wp2
    go_ret
    exact ⟨by rw [HE.out]; rfl, rfl⟩
  by_cases h2 : b < 0
  · have HE : Hid (stepsN a b = 0) := by unfold Hid stepsN; rw [if_pos (by omega)]
    go_enter Try.func6, Try.ntmps6
    go_wp2
    go_ret
    exact ⟨by rw [HE.out]; rfl, rfl⟩
  by_cases h3 : a > 2305843009213693950
  · have HE : Hid (stepsN a b = 0) := by unfold Hid stepsN; rw [if_pos (by omega)]
    go_enter Try.func6, Try.ntmps6
    go_wp2
    go_ret
    exact ⟨by rw [HE.out]; rfl, rfl⟩
  have hw1 : wrap64 (4 * a) = 4 * a := by unfold wrap64; omega
  have hw2 : wrap64 (9223372036854775803 - 4 * a) = 9223372036854775803 - 4 * a := by unfold wrap64; omega
  by_cases h4 : b > 9223372036854775803 - 4 * a
  · have HE : Hid (stepsN a b = 0) := by unfold Hid stepsN; rw [if_pos (by omega)]
    go_enter Try.func6, Try.ntmps6
    go_wp2
    go_ret
    exact ⟨by rw [HE.out]; rfl, rfl⟩
  have hw3 : wrap64 (b + 4 * a) = b + 4 * a := by unfold wrap64; omega
  have hw4 : wrap64 (b + 4 * a + 4) = b + 4 * a + 4 := by unfold wrap64; omega
  have HE : Hid (stepsN a b = b + 4 * a + 4) := by unfold Hid stepsN; rw [if_neg (by omega)]
  go_enter Try.func6, Try.ntmps6
  go_wp2
  go_ret
  exact ⟨by rw [HE.out]; rfl, rfl⟩
theorem rstepsOf (a b : Int) (ha : I64 a) (hb : I64 b) (w : World) : Calls Try.prog 7 #[.int .i64 a, .int .i64 b] w fun e w' => e = .returned (.int .i64 (stepsN a b)) ∧ w' = w := by
  unfold I64 at ha hb
  by_cases h1 : a < 0
  · have HE : Hid (stepsN a b = 0) := by unfold Hid stepsN; rw [if_pos (by omega)]
    go_enter Try.func7, Try.ntmps7
    go_wp2
    go_ret
    exact ⟨by rw [HE.out]; rfl, rfl⟩
  by_cases h2 : b < 0
  · have HE : Hid (stepsN a b = 0) := by unfold Hid stepsN; rw [if_pos (by omega)]
    go_enter Try.func7, Try.ntmps7
    go_wp2
    go_ret
    exact ⟨by rw [HE.out]; rfl, rfl⟩
  by_cases h3 : a > 2305843009213693950
  · have HE : Hid (stepsN a b = 0) := by unfold Hid stepsN; rw [if_pos (by omega)]
    go_enter Try.func7, Try.ntmps7
    go_wp2
    go_ret
    exact ⟨by rw [HE.out]; rfl, rfl⟩
  have hw1 : wrap64 (4 * a) = 4 * a := by unfold wrap64; omega
  have hw2 : wrap64 (9223372036854775803 - 4 * a) = 9223372036854775803 - 4 * a := by unfold wrap64; omega
  by_cases h4 : b > 9223372036854775803 - 4 * a
  · have HE : Hid (stepsN a b = 0) := by unfold Hid stepsN; rw [if_pos (by omega)]
    go_enter Try.func7, Try.ntmps7
    go_wp2
    go_ret
    exact ⟨by rw [HE.out]; rfl, rfl⟩
  have hw3 : wrap64 (b + 4 * a) = b + 4 * a := by unfold wrap64; omega
  have hw4 : wrap64 (b + 4 * a + 4) = b + 4 * a + 4 := by unfold wrap64; omega
  have HE : Hid (stepsN a b = b + 4 * a + 4) := by unfold Hid stepsN; rw [if_neg (by omega)]
  go_enter Try.func7, Try.ntmps7
  go_wp2
  go_ret
  exact ⟨by rw [HE.out]; rfl, rfl⟩


theorem stepsWalk (a b : Int) (ha : I64 a) (hb : I64 b) (w : World) : Calls Try.prog 3 #[.int .i64 a, .int .i64 b] w fun e w' => e = .returned (.bool true) ∧ Below w.heap.size w w' := by
  go_enter Try.func3, Try.ntmps3
  go_wp2_with fail
  refine (stepsOf a b ha hb w).mono ?_
  rintro e w1 ⟨rfl, rfl⟩
  go_wp2_with fail
  refine (rstepsOf a b ha hb w1).mono ?_
  rintro e w2 ⟨rfl, rfl⟩
  generalize stepsN a b = N
  go_wp2
  go_ret
  exact ⟨by simp, Below.refl _ _⟩
end Go.Proofs.Ytmhaodcgognhiaa
