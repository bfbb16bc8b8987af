import Derived.Shelf.Strconv.Itoa4
import Derived.Shelf.Strings.OnBuilder
import Derived.Shelf.Strings.SlTrimAscii
import Derived.Ground.NamesProg
import Derived.Test.YtlnppgjppfkocaaGreatDoorProg
import Derived.Test.YtlnppgjppfkocaaGreatDoorGp14
import Derived.Test.YtlnppgjppfkocaaGreatDoorGp12
import Derived.Lib.LaidTab
import Derived.Lib.ItoaMem
import Derived.Lib.AppendIntMem
import Derived.Test.YtlnppgjppfkocaaGreatDoorGp01
import Derived.Lib.Join
import Derived.Lib.SlTrimSet
import Derived.Test.YtlnppgjppfkocaaGreatDoorGp16
namespace Go.Proofs
open Go.Shelf
def Tryz.lFmt_ren : Go.Shelf.Ren := ⟨fun | 173 => 57 | 246 => 85 | 283 => 109 | 284 => 110 | 285 => 111 | 286 => 112 | 129 => 125 | 317 => 124 | 318 => 126 | 319 => 127 | 320 => 128 | 337 => 138 | 338 => 139 | n => n, fun | 2 => 2 | 3 => 3 | 9 => 9 | 4 => 4 | 171 => 137 | 0 => 0 | 53 => 83 | 37 => 25 | 5 => 5 | 173 => 140 | 212 => 158 | 51 => 22 | 20 => 20 | 213 => 159 | 46 => 145 | 232 => 180 | 233 => 181 | n => n, fun | 17 => 1 | 18 => 6 | 19 => 7 | n => n⟩
theorem Tryz.lFmt : Go.Proofs.LaysM.n173 Tryz.prog Tryz.lFmt_ren := {
  mixed := by kernel_rfl
  f129 := Tryz.func125.trans (congrArg some (by kernel_rfl))
  f173 := Tryz.func57.trans (congrArg some (by kernel_rfl))
  f246 := Tryz.func85.trans (congrArg some (by kernel_rfl))
  f283 := Tryz.func109.trans (congrArg some (by kernel_rfl))
  f284 := Tryz.func110.trans (congrArg some (by kernel_rfl))
  f285 := Tryz.func111.trans (congrArg some (by kernel_rfl))
  f286 := Tryz.func112.trans (congrArg some (by kernel_rfl))
  f317 := Tryz.func124.trans (congrArg some (by kernel_rfl))
  f318 := Tryz.func126.trans (congrArg some (by kernel_rfl))
  f319 := Tryz.func127.trans (congrArg some (by kernel_rfl))
  f320 := Tryz.func128.trans (congrArg some (by kernel_rfl))
  f337 := Tryz.func138.trans (congrArg some (by kernel_rfl))
  f338 := Tryz.func139.trans (congrArg some (by kernel_rfl))
  t0 := Tryz.underlying0
  a0 := Tryz.isAgg0
  z0 := Tryz.sizeOf0
  v0 := Tryz.zeroValue0
  t2 := Tryz.underlying2
  a2 := Tryz.isAgg2
  z2 := Tryz.sizeOf2
  v2 := Tryz.zeroValue2
  t3 := Tryz.underlying3
  a3 := Tryz.isAgg3
  z3 := Tryz.sizeOf3
  v3 := Tryz.zeroValue3
  t4 := Tryz.underlying4
  a4 := Tryz.isAgg4
  z4 := Tryz.sizeOf4
  v4 := Tryz.zeroValue4
  t5 := Tryz.underlying5
  a5 := Tryz.isAgg5
  z5 := Tryz.sizeOf5
  v5 := Tryz.zeroValue5
  t9 := Tryz.underlying9
  a9 := Tryz.isAgg9
  z9 := Tryz.sizeOf9
  v9 := Tryz.zeroValue9
  t20 := Tryz.underlying20
  a20 := Tryz.isAgg20
  z20 := Tryz.sizeOf20
  v20 := Tryz.zeroValue20
  t37 := Tryz.underlying25
  a37 := Tryz.isAgg25
  z37 := Tryz.sizeOf25
  v37 := Tryz.zeroValue25
  t46 := Tryz.underlying145
  a46 := Tryz.isAgg145
  z46 := Tryz.sizeOf145
  v46 := Tryz.zeroValue145
  t51 := Tryz.underlying22
  a51 := Tryz.isAgg22
  z51 := Tryz.sizeOf22
  v51 := Tryz.zeroValue22
  t53 := Tryz.underlying83
  a53 := Tryz.isAgg83
  z53 := Tryz.sizeOf83
  v53 := Tryz.zeroValue83
  t171 := Tryz.underlying137
  a171 := Tryz.isAgg137
  z171 := Tryz.sizeOf137
  v171 := Tryz.zeroValue137
  t173 := Tryz.underlying140
  a173 := Tryz.isAgg140
  z173 := Tryz.sizeOf140
  v173 := Tryz.zeroValue140
  t212 := Tryz.underlying158
  a212 := Tryz.isAgg158
  z212 := Tryz.sizeOf158
  v212 := Tryz.zeroValue158
  t213 := Tryz.underlying159
  a213 := Tryz.isAgg159
  z213 := Tryz.sizeOf159
  t232 := Tryz.underlying180
  a232 := Tryz.isAgg180
  z232 := Tryz.sizeOf180
  v232 := Tryz.zeroValue180
  t233 := Tryz.underlying181
  a233 := Tryz.isAgg181
  z233 := Tryz.sizeOf181
  v233 := Tryz.zeroValue181
  g17 := by kernel_rfl
  g18 := by kernel_rfl
  g19 := by kernel_rfl
  i0 := by kernel_rfl
  i2 := by kernel_rfl
  i3 := by kernel_rfl
  i4 := by kernel_rfl
  i5 := by kernel_rfl
  i9 := by kernel_rfl
  i20 := by kernel_rfl
  i37 := by kernel_rfl
  i46 := by kernel_rfl
  i51 := by kernel_rfl
  i53 := by kernel_rfl
  i171 := by kernel_rfl
  i173 := by kernel_rfl
  i212 := by kernel_rfl
  i232 := by kernel_rfl
  i233 := by kernel_rfl
  m17 := by kernel_rfl
  m18 := by kernel_rfl
  m19 := by kernel_rfl }
def Tryz.lItoa_ren : Go.Shelf.Ren := ⟨fun | 171 => 58 | 243 => 86 | 246 => 85 | 283 => 109 | 284 => 110 | 285 => 111 | 286 => 112 | 129 => 125 | 317 => 124 | 318 => 126 | 319 => 127 | 320 => 128 | 337 => 138 | 338 => 139 | n => n, fun | 3 => 3 | 9 => 9 | 2 => 2 | 4 => 4 | 171 => 137 | 0 => 0 | 53 => 83 | 37 => 25 | 5 => 5 | 173 => 140 | 212 => 158 | 51 => 22 | 20 => 20 | 213 => 159 | 46 => 145 | 232 => 180 | 233 => 181 | n => n, fun | 17 => 1 | 18 => 6 | 19 => 7 | n => n⟩
theorem Tryz.lItoa : Go.Proofs.LaysM.n171 Tryz.prog Tryz.lItoa_ren := {
  mixed := by kernel_rfl
  f129 := Tryz.func125.trans (congrArg some (by kernel_rfl))
  f171 := Tryz.func58.trans (congrArg some (by kernel_rfl))
  f243 := Tryz.func86.trans (congrArg some (by kernel_rfl))
  f246 := Tryz.func85.trans (congrArg some (by kernel_rfl))
  f283 := Tryz.func109.trans (congrArg some (by kernel_rfl))
  f284 := Tryz.func110.trans (congrArg some (by kernel_rfl))
  f285 := Tryz.func111.trans (congrArg some (by kernel_rfl))
  f286 := Tryz.func112.trans (congrArg some (by kernel_rfl))
  f317 := Tryz.func124.trans (congrArg some (by kernel_rfl))
  f318 := Tryz.func126.trans (congrArg some (by kernel_rfl))
  f319 := Tryz.func127.trans (congrArg some (by kernel_rfl))
  f320 := Tryz.func128.trans (congrArg some (by kernel_rfl))
  f337 := Tryz.func138.trans (congrArg some (by kernel_rfl))
  f338 := Tryz.func139.trans (congrArg some (by kernel_rfl))
  t0 := Tryz.underlying0
  a0 := Tryz.isAgg0
  z0 := Tryz.sizeOf0
  v0 := Tryz.zeroValue0
  t2 := Tryz.underlying2
  a2 := Tryz.isAgg2
  z2 := Tryz.sizeOf2
  v2 := Tryz.zeroValue2
  t3 := Tryz.underlying3
  a3 := Tryz.isAgg3
  z3 := Tryz.sizeOf3
  v3 := Tryz.zeroValue3
  t4 := Tryz.underlying4
  a4 := Tryz.isAgg4
  z4 := Tryz.sizeOf4
  v4 := Tryz.zeroValue4
  t5 := Tryz.underlying5
  a5 := Tryz.isAgg5
  z5 := Tryz.sizeOf5
  v5 := Tryz.zeroValue5
  t9 := Tryz.underlying9
  a9 := Tryz.isAgg9
  z9 := Tryz.sizeOf9
  v9 := Tryz.zeroValue9
  t20 := Tryz.underlying20
  a20 := Tryz.isAgg20
  z20 := Tryz.sizeOf20
  v20 := Tryz.zeroValue20
  t37 := Tryz.underlying25
  a37 := Tryz.isAgg25
  z37 := Tryz.sizeOf25
  v37 := Tryz.zeroValue25
  t46 := Tryz.underlying145
  a46 := Tryz.isAgg145
  z46 := Tryz.sizeOf145
  v46 := Tryz.zeroValue145
  t51 := Tryz.underlying22
  a51 := Tryz.isAgg22
  z51 := Tryz.sizeOf22
  v51 := Tryz.zeroValue22
  t53 := Tryz.underlying83
  a53 := Tryz.isAgg83
  z53 := Tryz.sizeOf83
  v53 := Tryz.zeroValue83
  t171 := Tryz.underlying137
  a171 := Tryz.isAgg137
  z171 := Tryz.sizeOf137
  v171 := Tryz.zeroValue137
  t173 := Tryz.underlying140
  a173 := Tryz.isAgg140
  z173 := Tryz.sizeOf140
  v173 := Tryz.zeroValue140
  t212 := Tryz.underlying158
  a212 := Tryz.isAgg158
  z212 := Tryz.sizeOf158
  v212 := Tryz.zeroValue158
  t213 := Tryz.underlying159
  a213 := Tryz.isAgg159
  z213 := Tryz.sizeOf159
  t232 := Tryz.underlying180
  a232 := Tryz.isAgg180
  z232 := Tryz.sizeOf180
  v232 := Tryz.zeroValue180
  t233 := Tryz.underlying181
  a233 := Tryz.isAgg181
  z233 := Tryz.sizeOf181
  v233 := Tryz.zeroValue181
  g17 := by kernel_rfl
  g18 := by kernel_rfl
  g19 := by kernel_rfl
  i0 := by kernel_rfl
  i2 := by kernel_rfl
  i3 := by kernel_rfl
  i4 := by kernel_rfl
  i5 := by kernel_rfl
  i9 := by kernel_rfl
  i20 := by kernel_rfl
  i37 := by kernel_rfl
  i46 := by kernel_rfl
  i51 := by kernel_rfl
  i53 := by kernel_rfl
  i171 := by kernel_rfl
  i173 := by kernel_rfl
  i212 := by kernel_rfl
  i232 := by kernel_rfl
  i233 := by kernel_rfl
  m17 := by kernel_rfl
  m18 := by kernel_rfl
  m19 := by kernel_rfl }
def Tryz.lTrim_ren : Go.Shelf.Ren := ⟨fun | 160 => 59 | 232 => 88 | 231 => 87 | 227 => 89 | 234 => 91 | 233 => 90 | 236 => 93 | 235 => 92 | 228 => 113 | 271 => 116 | 151 => 115 | 197 => 114 | 120 => 131 | 152 => 130 | 260 => 129 | 137 => 140 | 119 => 141 | 224 => 142 | 225 => 143 | 217 => 155 | 266 => 157 | n => n, fun | 9 => 9 | 4 => 4 | 3 => 3 | 5 => 5 | 117 => 109 | 116 => 108 | 0 => 0 | 124 => 112 | 21 => 21 | 105 => 142 | 46 => 145 | 119 => 166 | 139 => 169 | 138 => 168 | n => n, fun | 3 => 4 | 4 => 5 | n => n⟩
theorem Tryz.lTrim : Go.Proofs.Lays.n160 Tryz.prog Tryz.lTrim_ren := {
  mixed := by kernel_rfl
  f119 := Tryz.func141.trans (congrArg some (by kernel_rfl))
  f120 := Tryz.func131.trans (congrArg some (by kernel_rfl))
  f137 := Tryz.func140.trans (congrArg some (by kernel_rfl))
  f151 := Tryz.func115.trans (congrArg some (by kernel_rfl))
  f152 := Tryz.func130.trans (congrArg some (by kernel_rfl))
  f160 := Tryz.func59.trans (congrArg some (by kernel_rfl))
  f197 := Tryz.func114.trans (congrArg some (by kernel_rfl))
  f217 := Tryz.func155.trans (congrArg some (by kernel_rfl))
  f224 := Tryz.func142.trans (congrArg some (by kernel_rfl))
  f225 := Tryz.func143.trans (congrArg some (by kernel_rfl))
  f227 := Tryz.func89.trans (congrArg some (by kernel_rfl))
  f228 := Tryz.func113.trans (congrArg some (by kernel_rfl))
  f231 := Tryz.func87.trans (congrArg some (by kernel_rfl))
  f232 := Tryz.func88.trans (congrArg some (by kernel_rfl))
  f233 := Tryz.func90.trans (congrArg some (by kernel_rfl))
  f234 := Tryz.func91.trans (congrArg some (by kernel_rfl))
  f235 := Tryz.func92.trans (congrArg some (by kernel_rfl))
  f236 := Tryz.func93.trans (congrArg some (by kernel_rfl))
  f260 := Tryz.func129.trans (congrArg some (by kernel_rfl))
  f266 := Tryz.func157.trans (congrArg some (by kernel_rfl))
  f271 := Tryz.func116.trans (congrArg some (by kernel_rfl))
  t0 := Tryz.underlying0
  a0 := Tryz.isAgg0
  z0 := Tryz.sizeOf0
  v0 := Tryz.zeroValue0
  t3 := Tryz.underlying3
  a3 := Tryz.isAgg3
  z3 := Tryz.sizeOf3
  v3 := Tryz.zeroValue3
  t4 := Tryz.underlying4
  a4 := Tryz.isAgg4
  z4 := Tryz.sizeOf4
  v4 := Tryz.zeroValue4
  t5 := Tryz.underlying5
  a5 := Tryz.isAgg5
  z5 := Tryz.sizeOf5
  v5 := Tryz.zeroValue5
  t9 := Tryz.underlying9
  a9 := Tryz.isAgg9
  z9 := Tryz.sizeOf9
  v9 := Tryz.zeroValue9
  t21 := Tryz.underlying21
  a21 := Tryz.isAgg21
  z21 := Tryz.sizeOf21
  v21 := Tryz.zeroValue21
  t46 := Tryz.underlying145
  a46 := Tryz.isAgg145
  z46 := Tryz.sizeOf145
  v46 := Tryz.zeroValue145
  t105 := Tryz.underlying142
  a105 := Tryz.isAgg142
  z105 := Tryz.sizeOf142
  v105 := Tryz.zeroValue142
  t116 := Tryz.underlying108
  a116 := Tryz.isAgg108
  z116 := Tryz.sizeOf108
  t117 := Tryz.underlying109
  a117 := Tryz.isAgg109
  z117 := Tryz.sizeOf109
  v117 := Tryz.zeroValue109
  t119 := Tryz.underlying166
  a119 := Tryz.isAgg166
  z119 := Tryz.sizeOf166
  t124 := Tryz.underlying112
  a124 := Tryz.isAgg112
  z124 := Tryz.sizeOf112
  v124 := Tryz.zeroValue112
  t138 := Tryz.underlying168
  a138 := Tryz.isAgg168
  z138 := Tryz.sizeOf168
  v138 := Tryz.zeroValue168
  t139 := Tryz.underlying169
  a139 := Tryz.isAgg169
  z139 := Tryz.sizeOf169
  v139 := Tryz.zeroValue169
  g3 := by kernel_rfl
  g4 := by kernel_rfl }
def Tryz.lJoin_ren : Go.Shelf.Ren := ⟨fun | 156 => 44 | 165 => 78 | 166 => 79 | 169 => 80 | 240 => 107 | 241 => 108 | 276 => 122 | 277 => 123 | n => n, fun | 31 => 43 | 9 => 9 | 3 => 3 | 4 => 4 | 0 => 0 | 20 => 20 | 72 => 98 | 76 => 102 | 70 => 96 | 37 => 25 | 75 => 101 | 127 => 136 | 164 => 153 | 5 => 5 | 80 => 58 | n => n, fun | n => n⟩
theorem Tryz.lJoin : Go.Proofs.Lays.n156 Tryz.prog Tryz.lJoin_ren := {
  mixed := by kernel_rfl
  f156 := Tryz.func44.trans (congrArg some (by kernel_rfl))
  f165 := Tryz.func78.trans (congrArg some (by kernel_rfl))
  f166 := Tryz.func79.trans (congrArg some (by kernel_rfl))
  f169 := Tryz.func80.trans (congrArg some (by kernel_rfl))
  f240 := Tryz.func107.trans (congrArg some (by kernel_rfl))
  f241 := Tryz.func108.trans (congrArg some (by kernel_rfl))
  f276 := Tryz.func122.trans (congrArg some (by kernel_rfl))
  f277 := Tryz.func123.trans (congrArg some (by kernel_rfl))
  t0 := Tryz.underlying0
  a0 := Tryz.isAgg0
  z0 := Tryz.sizeOf0
  v0 := Tryz.zeroValue0
  t3 := Tryz.underlying3
  a3 := Tryz.isAgg3
  z3 := Tryz.sizeOf3
  v3 := Tryz.zeroValue3
  t4 := Tryz.underlying4
  a4 := Tryz.isAgg4
  z4 := Tryz.sizeOf4
  v4 := Tryz.zeroValue4
  t9 := Tryz.underlying9
  a9 := Tryz.isAgg9
  z9 := Tryz.sizeOf9
  v9 := Tryz.zeroValue9
  t20 := Tryz.underlying20
  a20 := Tryz.isAgg20
  z20 := Tryz.sizeOf20
  v20 := Tryz.zeroValue20
  t31 := Tryz.underlying43
  a31 := Tryz.isAgg43
  z31 := Tryz.sizeOf43
  v31 := Tryz.zeroValue43
  t37 := Tryz.underlying25
  a37 := Tryz.isAgg25
  z37 := Tryz.sizeOf25
  v37 := Tryz.zeroValue25
  t70 := Tryz.underlying96
  a70 := Tryz.isAgg96
  z70 := Tryz.sizeOf96
  v70 := Tryz.zeroValue96
  t72 := Tryz.underlying98
  a72 := Tryz.isAgg98
  z72 := Tryz.sizeOf98
  v72 := Tryz.zeroValue98
  t75 := Tryz.underlying101
  a75 := Tryz.isAgg101
  z75 := Tryz.sizeOf101
  v75 := Tryz.zeroValue101
  t76 := Tryz.underlying102
  a76 := Tryz.isAgg102
  z76 := Tryz.sizeOf102
  v76 := Tryz.zeroValue102
  t127 := Tryz.underlying136
  a127 := Tryz.isAgg136
  z127 := Tryz.sizeOf136
  v127 := Tryz.zeroValue136
  t164 := Tryz.underlying153
  a164 := Tryz.isAgg153
  z164 := Tryz.sizeOf153
  v164 := Tryz.zeroValue153 }
end Go.Proofs

/-! The program's writer: parts of a line that are gathered. -/
namespace Go.Proofs.YtlnppgjppfkocaaGreatDoor.Xs
open Go.RowKit Plain
set_option linter.unusedVariables false
set_option linter.unusedSimpArgs false

/-- strconv's table, as laid. -/
def Tab (w : World) : Prop := Lib.TabIs Tryz.prog w "internal/strconv.uint64pow10" .u64 Lib.pow10Tab
theorem Tab.later {w w' : World} (h : Tab w) (hb : Below w.heap.size w w') : Tab w' := Lib.tabBelow_of_tabIs h w' hb
theorem Tab.on {W w : World} (h : Tab W) (hb : Below W.heap.size W w) : Tab w := h.later hb

/-- The blocks of P stay as they are. -/
def Kp (P : Nat → Prop) (w w' : World) : Prop := ∀ b, P b → w'.heap[b]? = w.heap[b]?
theorem Kp.refl (P : Nat → Prop) (w : World) : Kp P w w := fun _ _ => rfl
theorem Kp.trans {P : Nat → Prop} {a b c : World} (h : Kp P a b) (k : Kp P b c) : Kp P a c := fun x hx => (k x hx).trans (h x hx)
theorem Kp.weak {P Q : Nat → Prop} {w w' : World} (h : Kp P w w') (hq : ∀ b, Q b → P b) : Kp Q w w' := fun x hx => h x (hq x hx)
theorem Kp.cell {P : Nat → Prop} {w w' : World} (h : Kp P w w') {b o : Nat} (hb : P b) : w'.cell? ⟨b, o, none⟩ = w.cell? ⟨b, o, none⟩ := World.cell?_of_block (w := w) (a := ⟨b, o, none⟩) (h b hb)
theorem Kp.below {P : Nat → Prop} {w w' : World} (hb : Below w.heap.size w w') (pb : ∀ b, P b → b < w.heap.size) : Kp P w w' := fun x hx => hb.block x (pb x hx)
/-- At g lies a writer with the parts l; all of it was made since the world W; it owns no block of P. -/
structure Wr (P : Nat → Prop) (W w : World) (g : Nat) (l : List By) : Prop where
  ex : ∃ v r, w.cell? ⟨g, 0, none⟩ = some v ∧ w.frozen? ⟨g, 0, none⟩ = false ∧ OwnV w v (strs l) r ∧ (∀ x, r = some x → W.heap.size ≤ x ∧ ¬ P x) ∧ r ≠ some g
  ge : W.heap.size ≤ g
  np : ¬ P g
  bel : Below W.heap.size W w
  pb : ∀ b, P b → b < w.heap.size
theorem Wr.lt {P : Nat → Prop} {W w : World} {g : Nat} {l : List By} (h : Wr P W w g l) : g < w.heap.size := by
  obtain ⟨v, r, h1, _⟩ := h.ex
  exact cell_lt h1
theorem Wr.later {P : Nat → Prop} {W w w' : World} {g : Nat} {l : List By} (h : Wr P W w g l) (hb : Below w.heap.size w w') : Wr P W w' g l := by
  obtain ⟨v, r, h1, h2, h3, h4, h5⟩ := h.ex
  exact ⟨⟨v, r, (hb.cell (cell_lt h1)).trans h1, (hb.frozen (cell_lt h1)).trans h2, ownV_later h3 hb, h4, h5⟩, h.ge, h.np, below_on h.bel hb, fun b k => Nat.lt_of_lt_of_le (h.pb b k) hb.size⟩
theorem Wr.kp {P : Nat → Prop} {W w w' : World} {g : Nat} {l : List By} (h : Wr P W w g l) (hb : Below w.heap.size w w') : Kp P w w' := Kp.below hb h.pb
theorem Wr.weak {P Q : Nat → Prop} {W w : World} {g : Nat} {l : List By} (h : Wr P W w g l) (hq : ∀ b, Q b → P b) : Wr Q W w g l := by
  obtain ⟨v, r, h1, h2, h3, h4, h5⟩ := h.ex
  exact ⟨⟨v, r, h1, h2, h3, fun x e => ⟨(h4 x e).1, fun k => (h4 x e).2 (hq x k)⟩, h5⟩, h.ge, fun k => h.np (hq g k), h.bel, fun b k => h.pb b (hq b k)⟩
/-- A new block is none of the writer's. -/
theorem Wr.guard {P : Nat → Prop} {W w w' : World} {g : Nat} {l : List By} (h : Wr P W w g l) (hb : Below w.heap.size w w') {X : Nat} (h1 : w.heap.size ≤ X) (h2 : X < w'.heap.size) : Wr (fun b => P b ∨ b = X) W w' g l := by
  have hg := h.lt
  obtain ⟨v, r, k1, k2, k3, k4, k5⟩ := h.ex
  refine ⟨⟨v, r, (hb.cell (cell_lt k1)).trans k1, (hb.frozen (cell_lt k1)).trans k2, ownV_later k3 hb, fun x e => ⟨(k4 x e).1, ?_⟩, k5⟩, h.ge, ?_, below_on h.bel hb, ?_⟩
  · rintro (k | k)
    · exact (k4 x e).2 k
    · subst e
      have := k3.lt
      omega
  · rintro (k | k)
    · exact h.np k
    · omega
  · rintro b (k | k)
    · exact Nat.lt_of_lt_of_le (h.pb b k) hb.size
    · omega
theorem Wr.drew {P : Nat → Prop} {W w : World} {g : Nat} {l : List By} (h : Wr P W w g l) : Wr P W w.drew g l := h.later (Below.refl _ w).drew
/-- One part more. -/
theorem Wr.put {P : Nat → Prop} {W w w1 w' : World} {g g' : Nat} {l : List By} {s : By} {v v' : Value} {r : Option Nat} (h : Wr P W w g l) (hb : Below w.heap.size w w1) (h1 : w.cell? ⟨g, 0, none⟩ = some v) (h2 : w.frozen? ⟨g, 0, none⟩ = false) (h4 : ∀ x, r = some x → W.heap.size ≤ x ∧ ¬ P x) (h5 : r ≠ some g)
    (ho : OwnV w' v' (strs l ++ [.string (ba s)]) (some g')) (hg : w1.grownBy w' r) (hr : some g' = r ∨ g' = w1.heap.size) : (w'.cell? ⟨g, 0, none⟩ = some v ∧ w'.frozen? ⟨g, 0, none⟩ = false) ∧ Wr P W (w'.setCell ⟨g, 0, none⟩ v') g (l ++ [s]) ∧ Kp P w (w'.setCell ⟨g, 0, none⟩ v') := by
  have hge := h.ge
  have hW := h.bel
  have hgl : g < w.heap.size := cell_lt h1
  have hne : g' ≠ g := by
    rcases hr with e | e
    · intro e2; rw [e2] at e; exact h5 e.symm
    · have := hb.size; omega
  have k0 : Below W.heap.size W w' := (hW.trans (hb.mono hW.size)).grown hg (Nat.le_trans hW.size hb.size) (fun k e => (h4 k e).1)
  have c1 : w1.cell? ⟨g, 0, none⟩ = some v := (hb.cell hgl).trans h1
  have c2 : w1.frozen? ⟨g, 0, none⟩ = false := (hb.frozen hgl).trans h2
  have c3 : w'.heap[g]? = w1.heap[g]? := hg.block g (Nat.lt_of_lt_of_le hgl hb.size) (by first | exact h5 | exact (fun e => h5 e.symm))
  have c4 : w'.cell? ⟨g, 0, none⟩ = some v := (World.cell?_of_block (w := w1) c3).trans c1
  have c5 : w'.frozen? ⟨g, 0, none⟩ = false := (World.frozen?_of_block (w := w1) c3).trans c2
  have hpg' : ¬ P g' := fun k => by
    rcases hr with e | e
    · exact (h4 _ e.symm).2 k
    · have := h.pb _ k; have := hb.size; omega
  have hsz := (grow_setCells w' g 0 [v']).size
  have hgs := hg.size
  have hbs := hb.size
  refine ⟨⟨c4, c5⟩, ⟨⟨v', some g', ?_, ?_, ?_, ?_, ?_⟩, hge, h.np, k0.setCell hge v', fun b k => ?_⟩, fun b k => ?_⟩
  · exact World.cell?_setCell_same _ _ _ c4
  · rw [World.frozen?_setCell]; exact c5
  · rw [strs_app]
    exact ho.of_block (grow_setCells w' g 0 [v']).size (fun x e => Below.heap_setCell w' ⟨g, 0, none⟩ v' x (by cases e; exact hne))
  · intro x hx
    cases hx
    refine ⟨?_, hpg'⟩
    rcases hr with e | e
    · exact (h4 _ e.symm).1
    · have := hb.size; have := hW.size; omega
  · intro e; cases e; exact hne rfl
  · exact Nat.lt_of_lt_of_le (h.pb b k) (Nat.le_trans hbs (Nat.le_trans hgs hsz))
  · have hbg : b ≠ g := fun e => h.np (e ▸ k)
    have hbr : r ≠ some b := fun e => (h4 b e).2 k
    exact (Below.heap_setCell w' ⟨g, 0, none⟩ v' b hbg).trans ((hg.block b (Nat.lt_of_lt_of_le (h.pb b k) hbs) (by first | exact hbr | exact (fun e => hbr e.symm))).trans (hb.block b (h.pb b k)))
set_option maxHeartbeats 4000000 in
set_option maxRecDepth 100000 in
theorem wordOf (s : By) (P : Nat → Prop) (W w : World) (g : Nat) (l : List By) (h : Wr P W w g l) (hl : l.length ≤ 8796093022000) :
    Calls Tryz.prog 22 #[.pointer (some ⟨g, 0, none⟩), .string (ba s)] w fun e w' => e = .returned (.tuple #[]) ∧ Wr P W w' g (l ++ [s]) ∧ Kp P w w' := by
  obtain ⟨v, r, h1, h2, h3, h4, h5⟩ := h.ex
  have hb1 : Below w.heap.size w (w.alloc (.cells #[.string (ba s)] 9)) := (Below.refl _ w).alloc (Nat.le_refl _) _
  go_enter Tryz.func22, Tryz.ntmps22
  go_wp2_with (at_builtin; refine wpList_append_txs (w.alloc (.cells #[.string (ba s)] 9)) rfl _ _ rfl v _ (strs l) [.string (ba s)] r rfl rfl ?hOwn ?hSrc ?hLen ?hR ?_)
  case hOwn => exact ownV_later h3 hb1
  case hSrc => exact srcTx w (ba s)
  case hLen => rw [strs_len]; simp; omega
  case hR => exact .inr (by simp)
  intro v' w' g' ho hg hr
  have hr' : some g' = r ∨ g' = (w.alloc (.cells #[.string (ba s)] 9)).heap.size := by
    rcases hr with e | e
    · exact .inl e
    · right; rw [e]; simp
  clear hr
  obtain ⟨⟨k1, k2⟩, k3⟩ := Wr.put (s := s) h hb1 h1 h2 h4 h5 ho hg hr'
  obtain ⟨a3, c3, rfl, _, _⟩ := ho.shape
  clear ho hg hr'
  go_wp2
  go_end0
  exact ⟨rfl, by simpa using k3⟩
end Go.Proofs.YtlnppgjppfkocaaGreatDoor.Xs

/-! What the program's writer writes, plainly: words by number, trimmed texts, joined parts. -/
namespace Go.Proofs.YtlnppgjppfkocaaGreatDoor.Xs
set_option linter.unusedVariables false
set_option linter.unusedSimpArgs false

/-- The words of a table that has none for 0. -/
def opsL : List By := [] :: oW ++ List.replicate 48 [] ++ [delW]
def kindsL : List By := [[], valueW, tombW]
/-- What named tells. -/
def namedL (ws : List By) (n : Int) (p : By) : By := if 0 ≤ n ∧ n < ws.length ∧ ws.getD n.toNat [] ≠ [] then ws.getD n.toNat [] else p ++ Lib.itoa n
theorem opsL_len : opsL.length = 65 := by decide +kernel
theorem named_op (n : Int) : namedL opsL n opP = opT n := by
  unfold namedL opT
  rw [opsL_len]
  by_cases h1 : 1 ≤ n ∧ n ≤ 15
  · have key : ∀ i : Fin 15, opsL.getD (i.val + 1) [] = oW.getD i.val [] ∧ oW.getD i.val [] ≠ [] := by decide +kernel
    obtain ⟨k1, k2⟩ := key ⟨n.toNat - 1, by omega⟩
    have e : n.toNat - 1 + 1 = n.toNat := by omega
    simp only [e] at k1 k2
    rw [if_pos h1, if_pos ⟨by omega, by omega, by rw [k1]; exact k2⟩, k1]
  · rw [if_neg h1]
    by_cases h2 : n = 64
    · subst h2
      rw [if_pos rfl, if_pos ⟨by omega, by omega, by decide +kernel⟩]
      decide +kernel
    · rw [if_neg h2, if_neg]
      rintro ⟨a, b, c⟩
      have key : ∀ i : Fin 65, i.val = 64 ∨ (1 ≤ i.val ∧ i.val ≤ 15) ∨ opsL.getD i.val [] = [] := by decide +kernel
      rcases key ⟨n.toNat, by omega⟩ with k | k | k
      · simp only at k; omega
      · simp only at k; exact h1 (by omega)
      · exact c k
theorem named_code (n : Int) : namedL cW n codeP = codeT n := by
  unfold namedL codeT
  have hl : cW.length = 12 := by decide +kernel
  rw [hl]
  by_cases h : 0 ≤ n ∧ n < 12
  · have key : ∀ i : Fin 12, cW.getD i.val [] ≠ [] := by decide +kernel
    rw [if_pos h, if_pos ⟨h.1, by omega, key ⟨n.toNat, by omega⟩⟩]
  · rw [if_neg h, if_neg]
    rintro ⟨a, b, _⟩
    exact h (by omega)
theorem named_kind (n : Int) : namedL kindsL n kindP = kindT n := by
  unfold namedL kindT
  have hl : kindsL.length = 3 := by decide
  rw [hl]
  by_cases h1 : n = 1
  · subst h1; rw [if_pos rfl, if_pos ⟨by omega, by omega, by decide⟩]; decide
  · rw [if_neg h1]
    by_cases h2 : n = 2
    · subst h2; rw [if_pos rfl, if_pos ⟨by omega, by omega, by decide⟩]; decide
    · rw [if_neg h2, if_neg]
      rintro ⟨a, b, c⟩
      have : n = 0 := by omega
      subst this
      exact c (by decide)

/-! ### Trimmed texts -/
def plainB : By := [97, 98, 99, 100, 101, 102, 103, 104, 105, 106, 107, 108, 109, 110, 111, 112, 113, 114, 115, 116, 117, 118, 119, 120, 121, 122, 65, 66, 67, 68, 69, 70, 71, 72, 73, 74, 75, 76, 77, 78, 79, 80, 81, 82, 83, 84, 85, 86, 87, 88, 89, 90, 48, 49, 50, 51, 52, 53, 54, 55, 56, 57, 46, 95, 45]
theorem plain_has : ∀ c : UInt8, plainB.contains c = plB c := all256 (by decide +kernel)
theorem dropWhile_nil {α : Type} (p : α → Bool) : ∀ (l : List α), l.dropWhile p = [] ↔ l.all p = true
  | [] => by simp
  | x :: l => by
    cases h : p x
    · simp [List.dropWhile, h]
    · simpa [List.dropWhile, h] using dropWhile_nil p l
theorem drop_all {α : Type} (p : α → Bool) : ∀ (l : List α), (l.dropWhile p).all p = l.all p
  | [] => rfl
  | x :: l => by
    cases h : p x
    · simp [List.dropWhile, h]
    · simpa [List.dropWhile, h] using drop_all p l
theorem trim_nil (s : By) : Lib.trimS s plainB = [] ↔ s.all plB = true := by
  unfold Lib.trimS Lib.trimLeftS Lib.trimRightS
  have e : (fun c : UInt8 => plainB.contains c) = plB := funext plain_has
  rw [e, dropWhile_nil, List.all_reverse, drop_all, List.all_reverse]

/-! ### Joined parts -/
theorem join_tail (ps : List By) : Lib.joinTail [32] ps = ps.flatMap (fun x => 32 :: x) := by
  induction ps with
  | nil => rfl
  | cons x ps ih => rw [List.flatMap_cons, ← ih]; simp [Lib.joinTail]
theorem join_is (p : By) (ps : List By) : Lib.join (p :: ps) [32] = joinL p ps := by
  rw [Lib.join_cons, join_tail]; rfl
end Go.Proofs.YtlnppgjppfkocaaGreatDoor.Xs

/-! The program's writer: bytes in two digits, numbers, texts. -/
namespace Go.Proofs.YtlnppgjppfkocaaGreatDoor.Xs
open Go.RowKit Plain
set_option linter.unusedVariables false
set_option linter.unusedSimpArgs false

theorem src_bytes (w : World) (ys : By) (n : Nat) (C : Array Value) (t : TypeId) (hC : C = (cellsOf (nats ys)).toArray) (hn : n = ys.length) (hm : ys.length ≤ 1000) : Src Tryz.prog 1 25 (.slice (some ⟨w.heap.size, 0, none⟩) n n) (nats ys).length (cellsOf (nats ys)) (w.alloc (.cells C t)) := by
  subst hn
  have hs : C.size = ys.length := by rw [hC, List.size_toArray, cellsOf_len, nats_len]
  have h := Own.new w C (nats ys) ys.length t (nats_lt ys) hs (by rw [nats_len]; exact Nat.le_refl _) (by unfold maxLen; omega) (fun j hj => by rw [hC, List.getElem?_toArray, cellsOf_get _ _ hj])
  rw [nats_len] at h
  have := src_of Tryz.underlying25 h.bytes
  exact this
/-- append of some bytes, which lie in a block of their own. -/
theorem wpList_append_gbs {ops : Array Oper} {rest : List Oper} {o : Oper} {a : Act} {Q : Exit → Act → World → Prop} {W : World} (w w1 : World) (hgd : o.guard = none) (s x : Operand)
    (ho : o.op = .call { callee := .builtin .append, args := #[s, x], argTypes := #[25, 25] }) (v xv : Value) (l ys : By)
    (hs : a.eval s = v) (hx : a.eval x = xv) (h : Gb W w v l) (hb1 : Below w.heap.size w w1) (hsrc : Src Tryz.prog 1 25 xv (nats ys).length (cellsOf (nats ys)) w1) (hlen : l.length + ys.length ≤ 140737488355000)
    (hK : ∀ v' w', Gb W w' v' (l ++ ys) → wpList Tryz.prog ops Q rest (a.put o.dst v') w') : wpList Tryz.prog ops Q (o :: rest) a w1 := by
  obtain ⟨r, h1, h2, h3⟩ := h
  refine wpList_append_row w1 hgd s x 25 25 ho Tryz.underlying25 v xv (nats l) (nats ys) r hs hx (h1.later hb1) (nats_lt ys) hsrc (by rw [nats_len, nats_len]; omega) ?_
  intro v' w' r' ho' hg' hr' _
  refine hK v' w' ⟨r', by rw [nats_app]; exact ho', fun g e => ?_, ?_⟩
  · rcases hr' with k | k
    · exact h2 g (by rw [← k]; exact e)
    · rw [k] at e; cases e; exact Nat.le_trans h3.size hb1.size
  · exact (h3.trans (hb1.mono h3.size)).trans (grow_below hg' (Nat.le_trans h3.size hb1.size) h2)
theorem hexAt (n : Nat) (hn : n < 16) (w : World) : (Instr.index 9 (.string ⟨#[48, 49, 50, 51, 52, 53, 54, 55, 56, 57, 97, 98, 99, 100, 101, 102]⟩) (.int .u8 (n : Int))).run Tryz.prog w = .ok (.int .u8 ((hxD n).toNat : Int)) w := by
  have key : ∀ i : Fin 16, ((⟨#[48, 49, 50, 51, 52, 53, 54, 55, 56, 57, 97, 98, 99, 100, 101, 102]⟩ : ByteArray)[i.val]'(by have := i.isLt; exact this)) = hxD i.val := by decide
  have hs : (⟨#[48, 49, 50, 51, 52, 53, 54, 55, 56, 57, 97, 98, 99, 100, 101, 102]⟩ : ByteArray).size = 16 := by decide
  simp only [Go.run_index_string (P := Tryz.prog) (h := Tryz.underlying9)]
  rw [dif_pos ⟨by omega, by omega⟩]
  have hk := key ⟨n, hn⟩
  simp only at hk
  rw [← hk]
  rfl
theorem step_append_gbs {ops : Array Oper} {o : Oper} {a : Act} {w w1 W : World} {K : Act → World → Prop} {Q : Exit → Act → World → Prop} {E : Prop}
    (hg : o.guard = none) (s x : Operand) (hop : o.op = Op.call { callee := Callee.builtin Builtin.append, args := #[s, x], argTypes := #[25, 25] }) (v xv : Value) (l ys : By)
    (hs : a.eval s = v) (hx : a.eval x = xv) (h : Gb W w v l) (hb1 : Below w.heap.size w w1) (hsrc : Src Tryz.prog 1 25 xv (nats ys).length (cellsOf (nats ys)) w1) (hlen : l.length + ys.length ≤ 140737488355000)
    (hK : ∀ v' w', Gb W w' v' (l ++ ys) → K (a.put o.dst v') w') :
    if Region.wanted o (yielded ops a.tmps) = true then Oper.wp Tryz.prog o a w1 K Q else E := by
  have hw : Region.wanted o (yielded ops a.tmps) = true := by simp [Region.wanted, hg]
  rw [if_pos hw]
  obtain ⟨r, h1, h2, h3⟩ := h
  obtain ⟨v', w', r', hrun, k1, k2, k3, k4⟩ := run_append_row w1 25 25 o.type Tryz.underlying25 v xv (nats l) (nats ys) r (h1.later hb1) (nats_lt ys) hsrc (by rw [nats_len, nats_len]; omega)
  unfold Oper.wp
  simp [execOp, hop, resolve, invoke, builtin, hs, hx, hrun, Result.andThen]
  refine hK v' w' ⟨r', by rw [nats_app]; exact k1, fun g e => ?_, ?_⟩
  · rcases k3 with k | k
    · exact h2 g (by rw [← k]; exact e)
    · rw [k] at e; cases e; exact Nat.le_trans h3.size hb1.size
  · exact (h3.trans (hb1.mono h3.size)).trans (grow_below k2 (Nat.le_trans h3.size hb1.size) h2)
theorem hex_lo (c : UInt8) : bits .and .u8 (c.toNat : Int) 15 = ((c.toNat % 16 : Nat) : Int) := by
  have : ∀ i : Fin 256, bits .and .u8 ((i.val : Nat) : Int) 15 = ((i.val % 16 : Nat) : Int) := by decide +kernel
  exact this ⟨c.toNat, c.toNat_lt⟩
set_option maxHeartbeats 4000000 in
set_option maxRecDepth 100000 in
theorem appByteOf (c : UInt8) (W w : World) (v : Value) (b : By) (h : Gb W w v b) (hl : b.length ≤ 140737488354000) :
    Calls Tryz.prog 94 #[v, .int .u8 (c.toNat : Int)] w fun e w' => ∃ v', e = .returned v' ∧ Gb W w' v' (b ++ hxB c) := by
  have hlt := c.toNat_lt
  obtain ⟨hi, hhi⟩ : ∃ n, c.toNat / 16 = n := ⟨_, rfl⟩
  obtain ⟨lo, hlo⟩ : ∃ n, c.toNat % 16 = n := ⟨_, rfl⟩
  have hib : hi < 16 := by omega
  have lob : lo < 16 := by omega
  have hx : hxB c = [hxD hi, hxD lo] := by unfold hxB; rw [hhi, hlo]
  have hhi' : (c.toNat : Int) / 16 = (hi : Int) := by omega
  have hlo' : bits .and .u8 (c.toNat : Int) 15 = (lo : Int) := by rw [hex_lo, hlo]
  rw [hx]
  go_enter Tryz.func94, Tryz.ntmps94
  go_wp2_with fail
  refine wp_region_noPanic ?_
  refine Till.start 9 (S := fun _ => True) (by kernel_rfl) trivial (fun hHeld => ?_)
  refine' Till.take 0 rfl (by kernel_rfl) (by kernel_rfl) (by kernel_rfl) (by kernel_rfl) (fun _ _ _ h => h) (Or.inl ⟨by rfl, ?_⟩) trivial ?_
  rotate_left
  · (intro w hSw; (try dsimp only at hSw); go_simp <;> with_reducible rfl)
  try simp only [Act.put, List.setIfInBounds_toArray, List.set_cons_zero, List.set_cons_succ]
  refine' Till.take 1 rfl (by kernel_rfl) (by kernel_rfl) (by kernel_rfl) (by kernel_rfl) (fun _ _ _ h => h) (Or.inl ⟨by rfl, ?_⟩) trivial ?_
  rotate_left
  · (intro w hSw; (try dsimp only at hSw); go_simp <;> with_reducible rfl)
  try simp only [Act.put, List.setIfInBounds_toArray, List.set_cons_zero, List.set_cons_succ]
  refine' Till.take 2 (v := .int .u8 (hi : Int)) rfl (by kernel_rfl) (by kernel_rfl) (by kernel_rfl) (by kernel_rfl) (fun _ _ _ h => h) (Or.inl ⟨by rfl, fun w hSw => by go_simp⟩) trivial ?_
  try simp only [Act.put, List.setIfInBounds_toArray, List.set_cons_zero, List.set_cons_succ]
  refine' Till.take 3 (v := .int .u8 ((hxD hi).toNat : Int)) rfl (by kernel_rfl) (by kernel_rfl) (by kernel_rfl) (by kernel_rfl) (fun _ _ _ h => h) (Or.inl ⟨by rfl, fun w hSw => by have hx := hexAt hi hib w; go_simp⟩) trivial ?_
  try simp only [Act.put, List.setIfInBounds_toArray, List.set_cons_zero, List.set_cons_succ]
  refine' Till.take 4 rfl (by kernel_rfl) (by kernel_rfl) (by kernel_rfl) (by kernel_rfl) (fun _ _ _ h => h) (Or.inl ⟨by rfl, ?_⟩) trivial ?_
  rotate_left
  · (intro w hSw; (try dsimp only at hSw); go_simp <;> with_reducible rfl)
  try simp only [Act.put, List.setIfInBounds_toArray, List.set_cons_zero, List.set_cons_succ]
  refine' Till.take 5 (v := .int .u8 (lo : Int)) rfl (by kernel_rfl) (by kernel_rfl) (by kernel_rfl) (by kernel_rfl) (fun _ _ _ h => h) (Or.inl ⟨by rfl, fun w hSw => by go_simp⟩) trivial ?_
  try simp only [Act.put, List.setIfInBounds_toArray, List.set_cons_zero, List.set_cons_succ]
  refine' Till.take 6 (v := .int .u8 ((hxD lo).toNat : Int)) rfl (by kernel_rfl) (by kernel_rfl) (by kernel_rfl) (by kernel_rfl) (fun _ _ _ h => h) (Or.inl ⟨by rfl, fun w hSw => by have hx := hexAt lo lob w; go_simp⟩) trivial ?_
  try simp only [Act.put, List.setIfInBounds_toArray, List.set_cons_zero, List.set_cons_succ]
  refine Till.one 7 (by kernel_rfl) rfl (fun K hK => ?_)
  go_simp
  refine hK.out _ _ ?_ (fun hHeld => ?_)
  · trivial
  clear hK K
  try simp only [Act.put, List.setIfInBounds_toArray, List.set_cons_zero, List.set_cons_succ]
  refine Till.one 8 (by kernel_rfl) rfl (fun K hK => ?_)
  refine step_append_gbs (W := W) (w := w) rfl (.tmp 5) (.tmp 12) rfl v (.slice (some ⟨w.heap.size, 0, none⟩) 2 2) b [hxD hi, hxD lo] (by first | rfl | simp [Act.eval, Act.put]) (by first | rfl | simp [Act.eval, Act.put]) h ((Below.refl _ w).drew.alloc (Nat.le_refl _) _) (src_bytes w.drew [hxD hi, hxD lo] 2 _ _ rfl rfl (by simp)) (by simp; omega) ?_
  intro v' w7 hg7
  refine hK.out _ _ trivial (fun hHeld => ?_)
  clear hK K
  try simp only [Act.put, List.setIfInBounds_toArray, List.set_cons_zero, List.set_cons_succ]
  refine Till.last (by kernel_rfl) (by kernel_rfl) rfl (fun K hK => ?_)
  go_simp
  refine hK.out _ _ ?_
  clear hK K
  try simp only [Act.put, List.setIfInBounds_toArray, List.set_cons_zero, List.set_cons_succ]
  refine NoPanic.normal ?_
  go_wp2
  go_ret
  exact ⟨_, rfl, hg7⟩
end Go.Proofs.YtlnppgjppfkocaaGreatDoor.Xs
