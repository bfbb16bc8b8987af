import Derived.Test.YtelhjdplghpnbabSdJ
import Derived.Test.YtelhjdplghpnbabSdJt
/-! The document's Check. -/
namespace Go.Proofs.Ytelhjdplghpnbab
open Go.RowKit Plain
set_option linter.unusedVariables false
set_option linter.unusedSimpArgs false

theorem rcheckOf (t : Tr) (v : Value) (w : World) (h : TrAt w v t) : Calls Try.prog 11 #[turV v t] w fun e w' => e = .returned (.int .i64 (chkT t)) ∧ Below w.heap.size w w' := by
  cases hf : t.fresh with
  | false => exact rcheckF t v w h hf
  | true => exact rcheckT t v w h hf
end Go.Proofs.Ytelhjdplghpnbab
