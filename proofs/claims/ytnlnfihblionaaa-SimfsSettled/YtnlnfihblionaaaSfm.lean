import Derived.Test.YtnlnfihblionaaaSf1
/-! Which function a change's method is. -/
namespace Go.Proofs.Ytnlnfihblionaaa
open Go.RowKit Plain
set_option maxRecDepth 100000
theorem methAdd (v : Value) (W : World) : (method 268 93 v "chronicle/simfs.onto").run Try.prog W = .ok (106, v) W := by kernel_rfl
theorem methTru (v : Value) (W : World) : (method 268 118 v "chronicle/simfs.onto").run Try.prog W = .ok (109, v) W := by kernel_rfl
theorem methAddT (v : Value) (W : World) : (method 268 93 v "chronicle/simfs.torn").run Try.prog W = .ok (107, v) W := by kernel_rfl
theorem methTruT (v : Value) (W : World) : (method 268 118 v "chronicle/simfs.torn").run Try.prog W = .ok (110, v) W := by kernel_rfl
theorem methCre (v : Value) (W : World) : (method 268 85 v "chronicle/simfs.onto").run Try.prog W = .ok (105, v) W := by kernel_rfl
theorem methRen (v : Value) (W : World) : (method 268 96 v "chronicle/simfs.onto").run Try.prog W = .ok (108, v) W := by kernel_rfl
theorem methRem (v : Value) (W : World) : (method 268 120 v "chronicle/simfs.onto").run Try.prog W = .ok (111, v) W := by kernel_rfl
end Go.Proofs.Ytnlnfihblionaaa
