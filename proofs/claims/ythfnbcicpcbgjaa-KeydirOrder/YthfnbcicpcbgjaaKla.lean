import Derived.Shelf.Pu.Clone
import Derived.Test.YthfnbcicpcbgjaaProg
/-! keydir: strings.Clone. -/
namespace Go.Proofs
open Go.Shelf Go.RowKit
def Try.laysClone_ren : Go.Shelf.Ren := ⟨fun | 25 => 74 | n => n, fun | 0 => 0 | 3 => 3 | 4 => 4 | 5 => 5 | 9 => 9 | 37 => 103 | 47 => 105 | n => n, fun n => n⟩
theorem Try.laysClone : Go.Proofs.LaysPu.n25 Try.prog Try.laysClone_ren := {
  mixed := by kernel_rfl
  f25 := Try.func74.trans (congrArg some (by kernel_rfl))
  t0 := Try.underlying0
  a0 := Try.isAgg0
  z0 := Try.sizeOf0
  v0 := Try.zeroValue0
  i0 := by kernel_rfl
  t3 := Try.underlying3
  a3 := Try.isAgg3
  z3 := Try.sizeOf3
  v3 := Try.zeroValue3
  i3 := by kernel_rfl
  t4 := Try.underlying4
  a4 := Try.isAgg4
  z4 := Try.sizeOf4
  v4 := Try.zeroValue4
  i4 := by kernel_rfl
  t5 := Try.underlying5
  a5 := Try.isAgg5
  z5 := Try.sizeOf5
  v5 := Try.zeroValue5
  i5 := by kernel_rfl
  t9 := Try.underlying9
  a9 := Try.isAgg9
  z9 := Try.sizeOf9
  v9 := Try.zeroValue9
  i9 := by kernel_rfl
  t37 := Try.underlying103
  a37 := Try.isAgg103
  z37 := Try.sizeOf103
  v37 := Try.zeroValue103
  i37 := by kernel_rfl
  t47 := Try.underlying105
  a47 := Try.isAgg105
  z47 := Try.sizeOf105
  v47 := Try.zeroValue105
  i47 := by kernel_rfl
}
namespace Ythfnbcicpcbgjaa
theorem lcloneOf (s : ByteArray) (w : World) (h : s.size ≤ 281474976710656) : Calls Try.prog 74 #[.string s] w fun e w' => e = .returned (.string s) ∧ Below w.heap.size w w' := AnyPu.stringslite_Clone Try.laysClone s w h
theorem cloneOf (s : ByteArray) (w : World) (h : s.size ≤ 281474976710656) : Calls Try.prog 68 #[.string s] w fun e w' => e = .returned (.string s) ∧ Below w.heap.size w w' := by
  go_enter Try.func68, Try.ntmps68
  go_wp2_with (go_at_call 74; refine (lcloneOf s _ h).mono ?_; rintro e w' ⟨rfl, hb⟩)
  go_ret
  exact ⟨rfl, hb⟩
end Ythfnbcicpcbgjaa
end Go.Proofs
