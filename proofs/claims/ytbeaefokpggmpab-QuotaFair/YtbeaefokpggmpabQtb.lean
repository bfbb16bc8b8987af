import Derived.Test.YtbeaefokpggmpabQta
/-! quota: the document's Check and New. -/
namespace Go.Proofs.Ytbeaefokpggmpab
open Go.RowKit
set_option linter.unusedVariables false

def inR (v a e : Int) : Bool := decide (a ≤ v) && decide (v ≤ e)
theorem inR_true {v a e : Int} (h : a ≤ v ∧ v ≤ e) : inR v a e = true := by simp [inR, h.1, h.2]
theorem inR_false {v a e : Int} (h : ¬ (a ≤ v ∧ v ≤ e)) : inR v a e = false := by simp [inR]; omega
theorem inR_is {v a e : Int} (h : inR v a e = true) : a ≤ v ∧ v ≤ e := by simpa [inR] using h
theorem inR_not {v a e : Int} (h : inR v a e = false) : ¬ (a ≤ v ∧ v ≤ e) := by simpa [inR] using h
theorem rwithinOf (v a e : Int) (w : World) : Calls Try.prog 20 #[.int .i64 v, .int .i64 a, .int .i64 e] w fun x w' => x = .returned (.bool (inR v a e)) ∧ w' = w := by
  by_cases h1 : a ≤ v
  · by_cases h2 : v ≤ e
    all_goals
      go_enter Try.func20, Try.ntmps20
      go_wp2
      go_ret
      exact ⟨by simp [inR, h1, h2], rfl⟩
  · go_enter Try.func20, Try.ntmps20
    go_wp2
    go_ret
    exact ⟨by simp [inR]; omega, rfl⟩

abbrev ChkPost (b : Bk) (w : World) : Ending → World → Prop := fun e w' => e = .returned (.int .i64 (chkB b)) ∧ Below w.heap.size w w'
end Go.Proofs.Ytbeaefokpggmpab
