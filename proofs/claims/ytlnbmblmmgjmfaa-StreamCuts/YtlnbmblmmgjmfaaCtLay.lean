import Derived.Shelf.Sort.Plain
import Derived.Shelf.Slices.In.SortNone
import Derived.Shelf.Slices.CompactI
import Derived.Ground.NamesProg
import Derived.Ground.Names2Prog
import Derived.Test.YtlnbmblmmgjmfaaProg
namespace Go.Proofs
open Go.Shelf
def Try.laysSort_ren : Go.Shelf.Ren := ⟨fun | 189 => 8 | 125 => 13 | 257 => 12 | 128 => 23 | 129 => 24 | 294 => 14 | 295 => 15 | 296 => 16 | 297 => 17 | 298 => 18 | 299 => 19 | 216 => 20 | 300 => 21 | 301 => 22 | 328 => 25 | 329 => 26 | 330 => 27 | 331 => 28 | 332 => 29 | 215 => 30 | 343 => 31 | n => n, fun | 28 => 22 | 3 => 3 | 46 => 32 | 0 => 0 | 51 => 43 | 53 => 29 | 4 => 4 | 183 => 35 | 182 => 34 | 131 => 40 | 5 => 5 | 9 => 9 | 218 => 45 | 222 => 49 | 228 => 52 | 229 => 53 | n => n, fun | n => n⟩
theorem Try.laysSort : Go.Proofs.Lays.n189 Try.prog Try.laysSort_ren := {
  mixed := by kernel_rfl
  f125 := Try.func13.trans (congrArg some (by kernel_rfl))
  f128 := Try.func23.trans (congrArg some (by kernel_rfl))
  f129 := Try.func24.trans (congrArg some (by kernel_rfl))
  f189 := Try.func8.trans (congrArg some (by kernel_rfl))
  f215 := Try.func30.trans (congrArg some (by kernel_rfl))
  f216 := Try.func20.trans (congrArg some (by kernel_rfl))
  f257 := Try.func12.trans (congrArg some (by kernel_rfl))
  f294 := Try.func14.trans (congrArg some (by kernel_rfl))
  f295 := Try.func15.trans (congrArg some (by kernel_rfl))
  f296 := Try.func16.trans (congrArg some (by kernel_rfl))
  f297 := Try.func17.trans (congrArg some (by kernel_rfl))
  f298 := Try.func18.trans (congrArg some (by kernel_rfl))
  f299 := Try.func19.trans (congrArg some (by kernel_rfl))
  f300 := Try.func21.trans (congrArg some (by kernel_rfl))
  f301 := Try.func22.trans (congrArg some (by kernel_rfl))
  f328 := Try.func25.trans (congrArg some (by kernel_rfl))
  f329 := Try.func26.trans (congrArg some (by kernel_rfl))
  f330 := Try.func27.trans (congrArg some (by kernel_rfl))
  f331 := Try.func28.trans (congrArg some (by kernel_rfl))
  f332 := Try.func29.trans (congrArg some (by kernel_rfl))
  f343 := Try.func31.trans (congrArg some (by kernel_rfl))
  t0 := Try.underlying0
  a0 := Try.isAgg0
  z0 := Try.sizeOf0
  v0 := Try.zeroValue0
  t3 := Try.underlying3
  a3 := Try.isAgg3
  z3 := Try.sizeOf3
  v3 := Try.zeroValue3
  t4 := Try.underlying4
  a4 := Try.isAgg4
  z4 := Try.sizeOf4
  v4 := Try.zeroValue4
  t5 := Try.underlying5
  a5 := Try.isAgg5
  z5 := Try.sizeOf5
  v5 := Try.zeroValue5
  t9 := Try.underlying9
  a9 := Try.isAgg9
  z9 := Try.sizeOf9
  v9 := Try.zeroValue9
  t28 := Try.underlying22
  a28 := Try.isAgg22
  z28 := Try.sizeOf22
  v28 := Try.zeroValue22
  t46 := Try.underlying32
  a46 := Try.isAgg32
  z46 := Try.sizeOf32
  v46 := Try.zeroValue32
  t51 := Try.underlying43
  a51 := Try.isAgg43
  z51 := Try.sizeOf43
  v51 := Try.zeroValue43
  t53 := Try.underlying29
  a53 := Try.isAgg29
  z53 := Try.sizeOf29
  v53 := Try.zeroValue29
  t131 := Try.underlying40
  a131 := Try.isAgg40
  z131 := Try.sizeOf40
  v131 := Try.zeroValue40
  t182 := Try.underlying34
  a182 := Try.isAgg34
  z182 := Try.sizeOf34
  v182 := Try.zeroValue34
  t183 := Try.underlying35
  a183 := Try.isAgg35
  z183 := Try.sizeOf35
  v183 := Try.zeroValue35
  t218 := Try.underlying45
  a218 := Try.isAgg45
  z218 := Try.sizeOf45
  v218 := Try.zeroValue45
  t222 := Try.underlying49
  a222 := Try.isAgg49
  z222 := Try.sizeOf49
  v222 := Try.zeroValue49
  t228 := Try.underlying52
  a228 := Try.isAgg52
  z228 := Try.sizeOf52
  v228 := Try.zeroValue52
  t229 := Try.underlying53
  a229 := Try.isAgg53
  z229 := Try.sizeOf53
  v229 := Try.zeroValue53 }
def Try.laysCompact_ren : Go.Shelf.Ren := ⟨fun | 20 => 9 | n => n, fun | 22 => 22 | 3 => 3 | 4 => 4 | 0 => 0 | n => n, fun | n => n⟩
theorem Try.laysCompact : Go.Proofs.Lays2.n20 Try.prog Try.laysCompact_ren := {
  mixed := by kernel_rfl
  f20 := Try.func9.trans (congrArg some (by kernel_rfl))
  t0 := Try.underlying0
  a0 := Try.isAgg0
  z0 := Try.sizeOf0
  v0 := Try.zeroValue0
  t3 := Try.underlying3
  a3 := Try.isAgg3
  z3 := Try.sizeOf3
  v3 := Try.zeroValue3
  t4 := Try.underlying4
  a4 := Try.isAgg4
  z4 := Try.sizeOf4
  v4 := Try.zeroValue4
  t22 := Try.underlying22
  a22 := Try.isAgg22
  z22 := Try.sizeOf22
  v22 := Try.zeroValue22
  i3 := by kernel_rfl }
end Go.Proofs
