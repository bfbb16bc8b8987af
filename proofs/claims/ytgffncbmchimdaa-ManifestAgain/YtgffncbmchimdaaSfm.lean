import Derived.Test.YtgffncbmchimdaaSf1
/-! Which function a change's method is. -/
namespace Go.Proofs.Ytgffncbmchimdaa
open Go.RowKit Plain
set_option maxRecDepth 100000
theorem methAdd (v : Value) (W : World) : (method 268 105 v "chronicle/simfs.onto").run Try.prog W = .ok (102, v) W := by kernel_rfl
theorem methTru (v : Value) (W : World) : (method 268 107 v "chronicle/simfs.onto").run Try.prog W = .ok (104, v) W := by kernel_rfl
theorem methAddT (v : Value) (W : World) : (method 268 105 v "chronicle/simfs.torn").run Try.prog W = .ok (103, v) W := by kernel_rfl
theorem methTruT (v : Value) (W : World) : (method 268 107 v "chronicle/simfs.torn").run Try.prog W = .ok (105, v) W := by kernel_rfl
theorem methCre (v : Value) (W : World) : (method 268 99 v "chronicle/simfs.onto").run Try.prog W = .ok (101, v) W := by kernel_rfl
theorem methRen (v : Value) (W : World) : (method 268 110 v "chronicle/simfs.onto").run Try.prog W = .ok (106, v) W := by kernel_rfl
theorem methRem (v : Value) (W : World) : (method 268 112 v "chronicle/simfs.onto").run Try.prog W = .ok (107, v) W := by kernel_rfl
end Go.Proofs.Ytgffncbmchimdaa
