import Derived.Test.YtdlhcadmmnjonaaProg
import Derived.RowKit
import Derived.WalkKit
import Derived.Below
/-! Both CodeOf, and the law. -/
namespace Go.Proofs.Ytdlhcadmmnjonaa
open Go.RowKit
set_option linter.unusedVariables false
set_option linter.unusedSimpArgs false

def codeN (z : Int) : Int := if z = 0 then 0 else if z = 141 ∨ z = 105 then 2 else if z = 142 then 3 else if z = 33 ∨ z = 35 ∨ z = 102 ∨ z = 103 then 4 else if z = 101 then 5 else if z = 120 then 6 else if z = 90 ∨ z = 91 ∨ z = 93 ∨ z = 151 then 8 else if z = 92 ∨ z = 143 ∨ z = 182 ∨ z = 183 ∨ z = 184 ∨ z = 180 ∨ z = 200 then 9 else if z = 185 ∨ z = 152 then 10 else if z = 122 ∨ z = 153 then 11 else 1
theorem codeN_is (z : Int) : (z = 0 ∨ z = 141 ∨ z = 105 ∨ z = 142 ∨ z = 33 ∨ z = 35 ∨ z = 102 ∨ z = 103 ∨ z = 101 ∨ z = 120 ∨ z = 90 ∨ z = 91 ∨ z = 93 ∨ z = 151 ∨ z = 92 ∨ z = 143 ∨ z = 182 ∨ z = 183 ∨ z = 184 ∨ z = 180 ∨ z = 200 ∨ z = 185 ∨ z = 152 ∨ z = 122 ∨ z = 153) ∨ (z ≠ 0 ∧ z ≠ 141 ∧ z ≠ 105 ∧ z ≠ 142 ∧ z ≠ 33 ∧ z ≠ 35 ∧ z ≠ 102 ∧ z ≠ 103 ∧ z ≠ 101 ∧ z ≠ 120 ∧ z ≠ 90 ∧ z ≠ 91 ∧ z ≠ 93 ∧ z ≠ 151 ∧ z ≠ 92 ∧ z ≠ 143 ∧ z ≠ 182 ∧ z ≠ 183 ∧ z ≠ 184 ∧ z ≠ 180 ∧ z ≠ 200 ∧ z ≠ 185 ∧ z ≠ 152 ∧ z ≠ 122 ∧ z ≠ 153 ∧ codeN z = 1) := by
  by_cases h : z = 0 ∨ z = 141 ∨ z = 105 ∨ z = 142 ∨ z = 33 ∨ z = 35 ∨ z = 102 ∨ z = 103 ∨ z = 101 ∨ z = 120 ∨ z = 90 ∨ z = 91 ∨ z = 93 ∨ z = 151 ∨ z = 92 ∨ z = 143 ∨ z = 182 ∨ z = 183 ∨ z = 184 ∨ z = 180 ∨ z = 200 ∨ z = 185 ∨ z = 152 ∨ z = 122 ∨ z = 153
  · exact .inl h
  · refine .inr ?_
    simp only [not_or] at h
    obtain ⟨h0, h1, h2, h3, h4, h5, h6, h7, h8, h9, h10, h11, h12, h13, h14, h15, h16, h17, h18, h19, h20, h21, h22, h23, h24⟩ := h
    refine ⟨h0, h1, h2, h3, h4, h5, h6, h7, h8, h9, h10, h11, h12, h13, h14, h15, h16, h17, h18, h19, h20, h21, h22, h23, h24, ?_⟩
    unfold codeN
    simp only [h0, h1, h2, h3, h4, h5, h6, h7, h8, h9, h10, h11, h12, h13, h14, h15, h16, h17, h18, h19, h20, h21, h22, h23, h24, or_self, if_false]
set_option maxHeartbeats 4000000 in
set_option maxRecDepth 100000 in
theorem codeP (z : Int) (w : World) : Calls Try.prog 4 #[.int .i64 z] w fun e w' => e = .returned (.int .i64 (codeN z)) ∧ w' = w := by
  rcases codeN_is z with h | ⟨h0, h1, h2, h3, h4, h5, h6, h7, h8, h9, h10, h11, h12, h13, h14, h15, h16, h17, h18, h19, h20, h21, h22, h23, h24, hc⟩
  · rcases h with rfl | rfl | rfl | rfl | rfl | rfl | rfl | rfl | rfl | rfl | rfl | rfl | rfl | rfl | rfl | rfl | rfl | rfl | rfl | rfl | rfl | rfl | rfl | rfl | rfl
    all_goals
      go_enter Try.func4, Try.ntmps4
      go_wp2
      go_ret
      exact ⟨rfl, rfl⟩
  · rw [hc]
    clear hc
    go_enter Try.func4, Try.ntmps4
    go_wp2
    go_ret
    exact ⟨rfl, rfl⟩
set_option maxHeartbeats 4000000 in
set_option maxRecDepth 100000 in
theorem codeD (z : Int) (w : World) : Calls Try.prog 5 #[.int .i64 z] w fun e w' => e = .returned (.int .i64 (codeN z)) ∧ w' = w := by
  rcases codeN_is z with h | ⟨h0, h1, h2, h3, h4, h5, h6, h7, h8, h9, h10, h11, h12, h13, h14, h15, h16, h17, h18, h19, h20, h21, h22, h23, h24, hc⟩
  · rcases h with rfl | rfl | rfl | rfl | rfl | rfl | rfl | rfl | rfl | rfl | rfl | rfl | rfl | rfl | rfl | rfl | rfl | rfl | rfl | rfl | rfl | rfl | rfl | rfl | rfl
    all_goals
      go_enter Try.func5, Try.ntmps5
      go_wp2
      go_ret
      exact ⟨rfl, rfl⟩
  · rw [hc]
    clear hc
    go_enter Try.func5, Try.ntmps5
    go_wp2
    go_ret
    exact ⟨rfl, rfl⟩
theorem codesWalk (z : Int) (w : World) : Calls Try.prog 3 #[.int .i64 z] w fun e w' => e = .returned (.bool true) ∧ Below w.heap.size w w' := by
  have HP := codeP z
  have HD := codeD z
  generalize codeN z = c at *
  go_enter Try.func3, Try.ntmps3
  go_wp2_with fail
  refine (HP _).mono ?_
  rintro e w' ⟨rfl, rfl⟩
  go_wp2_with fail
  refine (HD _).mono ?_
  rintro e w'' ⟨rfl, rfl⟩
  go_wp2
  go_ret
  exact ⟨by simp, Below.refl _ _⟩
end Go.Proofs.Ytdlhcadmmnjonaa
