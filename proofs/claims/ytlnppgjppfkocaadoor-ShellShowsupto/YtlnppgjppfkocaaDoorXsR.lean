import Derived.Test.YtlnppgjppfkocaaDoorXsJ
/-! Lines: the document's digit, readNumber. -/
namespace Go.Proofs.YtlnppgjppfkocaaDoor.Xs
open Go.RowKit
set_option linter.unusedVariables false
set_option linter.unusedSimpArgs false

theorem hxV_lt (c : UInt8) : hxV c < 16 := by
  unfold hxV
  split
  · omega
  · split <;> omega
end Go.Proofs.YtlnppgjppfkocaaDoor.Xs
