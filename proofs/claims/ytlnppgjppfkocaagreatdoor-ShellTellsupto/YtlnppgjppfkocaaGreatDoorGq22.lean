import Derived.Shelf.Strconv.ParseIntPublic10
import Derived.Shelf.Strconv.Clone
import Derived.Shelf.Strings.Prefix
import Derived.Shelf.Unicode.ValidAny
import Derived.Shelf.Unicode.DecodeAny
import Derived.Shelf.Utf8.AppendRune
import Derived.Shelf.Small.Utf8
import Derived.Shelf.Strings.Search1
import Derived.Ground.NamesProg
import Derived.Test.YtlnppgjppfkocaaGreatDoorProg
import Derived.Test.YtlnppgjppfkocaaGreatDoorGq20
import Derived.Test.YtlnppgjppfkocaaGreatDoorGq21
namespace Go.Proofs
open Go.Shelf
def Tryz.lParse_ren : Go.Shelf.Ren := ⟨fun | 174 => 117 | 247 => 132 | 245 => 133 | 287 => 137 | 279 => 144 | 280 => 145 | 281 => 146 | 282 => 147 | 321 => 153 | 322 => 154 | 316 => 135 | 171 => 58 | 205 => 156 | 243 => 86 | 246 => 85 | 283 => 109 | 284 => 110 | 285 => 111 | 286 => 112 | 129 => 125 | 317 => 124 | 318 => 126 | 319 => 127 | 320 => 128 | 337 => 138 | 338 => 139 | n => n, fun | 9 => 9 | 3 => 3 | 2 => 2 | 75 => 101 | 85 => 146 | 4 => 4 | 167 => 173 | 5 => 5 | 53 => 83 | 175 => 151 | 46 => 145 | 168 => 174 | 37 => 25 | 0 => 0 | 210 => 183 | 21 => 21 | 127 => 136 | 145 => 190 | 143 => 188 | 171 => 137 | 173 => 140 | 212 => 158 | 51 => 22 | 20 => 20 | 213 => 159 | 232 => 180 | 233 => 181 | 80 => 58 | n => n, fun | 15 => 2 | 16 => 8 | 17 => 1 | 18 => 6 | 19 => 7 | n => n⟩
theorem Tryz.lParse : Go.Proofs.LaysC.n174 Tryz.prog Tryz.lParse_ren := {
  mixed := by kernel_rfl
  f129 := Tryz.func125.trans (congrArg some (by kernel_rfl))
  f171 := Tryz.func58.trans (congrArg some (by kernel_rfl))
  f174 := Tryz.func117.trans (congrArg some (by kernel_rfl))
  f205 := Tryz.func156.trans (congrArg some (by kernel_rfl))
  f243 := Tryz.func86.trans (congrArg some (by kernel_rfl))
  f245 := Tryz.func133.trans (congrArg some (by kernel_rfl))
  f246 := Tryz.func85.trans (congrArg some (by kernel_rfl))
  f247 := Tryz.func132.trans (congrArg some (by kernel_rfl))
  f279 := Tryz.func144.trans (congrArg some (by kernel_rfl))
  f280 := Tryz.func145.trans (congrArg some (by kernel_rfl))
  f281 := Tryz.func146.trans (congrArg some (by kernel_rfl))
  f282 := Tryz.func147.trans (congrArg some (by kernel_rfl))
  f283 := Tryz.func109.trans (congrArg some (by kernel_rfl))
  f284 := Tryz.func110.trans (congrArg some (by kernel_rfl))
  f285 := Tryz.func111.trans (congrArg some (by kernel_rfl))
  f286 := Tryz.func112.trans (congrArg some (by kernel_rfl))
  f287 := Tryz.func137.trans (congrArg some (by kernel_rfl))
  f316 := Tryz.func135.trans (congrArg some (by kernel_rfl))
  f317 := Tryz.func124.trans (congrArg some (by kernel_rfl))
  f318 := Tryz.func126.trans (congrArg some (by kernel_rfl))
  f319 := Tryz.func127.trans (congrArg some (by kernel_rfl))
  f320 := Tryz.func128.trans (congrArg some (by kernel_rfl))
  f321 := Tryz.func153.trans (congrArg some (by kernel_rfl))
  f322 := Tryz.func154.trans (congrArg some (by kernel_rfl))
  f337 := Tryz.func138.trans (congrArg some (by kernel_rfl))
  f338 := Tryz.func139.trans (congrArg some (by kernel_rfl))
  t0 := Tryz.underlying0
  a0 := Tryz.isAgg0
  z0 := Tryz.sizeOf0
  v0 := Tryz.zeroValue0
  t2 := Tryz.underlying2
  a2 := Tryz.isAgg2
  z2 := Tryz.sizeOf2
  v2 := Tryz.zeroValue2
  t3 := Tryz.underlying3
  a3 := Tryz.isAgg3
  z3 := Tryz.sizeOf3
  v3 := Tryz.zeroValue3
  t4 := Tryz.underlying4
  a4 := Tryz.isAgg4
  z4 := Tryz.sizeOf4
  v4 := Tryz.zeroValue4
  t5 := Tryz.underlying5
  a5 := Tryz.isAgg5
  z5 := Tryz.sizeOf5
  v5 := Tryz.zeroValue5
  t9 := Tryz.underlying9
  a9 := Tryz.isAgg9
  z9 := Tryz.sizeOf9
  v9 := Tryz.zeroValue9
  t20 := Tryz.underlying20
  a20 := Tryz.isAgg20
  z20 := Tryz.sizeOf20
  v20 := Tryz.zeroValue20
  t21 := Tryz.underlying21
  a21 := Tryz.isAgg21
  z21 := Tryz.sizeOf21
  v21 := Tryz.zeroValue21
  t37 := Tryz.underlying25
  a37 := Tryz.isAgg25
  z37 := Tryz.sizeOf25
  v37 := Tryz.zeroValue25
  t46 := Tryz.underlying145
  a46 := Tryz.isAgg145
  z46 := Tryz.sizeOf145
  v46 := Tryz.zeroValue145
  t51 := Tryz.underlying22
  a51 := Tryz.isAgg22
  z51 := Tryz.sizeOf22
  v51 := Tryz.zeroValue22
  t53 := Tryz.underlying83
  a53 := Tryz.isAgg83
  z53 := Tryz.sizeOf83
  v53 := Tryz.zeroValue83
  t75 := Tryz.underlying101
  a75 := Tryz.isAgg101
  z75 := Tryz.sizeOf101
  v75 := Tryz.zeroValue101
  t85 := Tryz.underlying146
  a85 := Tryz.isAgg146
  z85 := Tryz.sizeOf146
  v85 := Tryz.zeroValue146
  t127 := Tryz.underlying136
  a127 := Tryz.isAgg136
  z127 := Tryz.sizeOf136
  v127 := Tryz.zeroValue136
  t143 := Tryz.underlying188
  a143 := Tryz.isAgg188
  z143 := Tryz.sizeOf188
  v143 := Tryz.zeroValue188
  t145 := Tryz.underlying190
  a145 := Tryz.isAgg190
  z145 := Tryz.sizeOf190
  v145 := Tryz.zeroValue190
  t167 := Tryz.underlying173
  a167 := Tryz.isAgg173
  z167 := Tryz.sizeOf173
  v167 := Tryz.zeroValue173
  t168 := Tryz.underlying174
  a168 := Tryz.isAgg174
  z168 := Tryz.sizeOf174
  v168 := Tryz.zeroValue174
  t171 := Tryz.underlying137
  a171 := Tryz.isAgg137
  z171 := Tryz.sizeOf137
  v171 := Tryz.zeroValue137
  t173 := Tryz.underlying140
  a173 := Tryz.isAgg140
  z173 := Tryz.sizeOf140
  v173 := Tryz.zeroValue140
  t175 := Tryz.underlying151
  a175 := Tryz.isAgg151
  z175 := Tryz.sizeOf151
  v175 := Tryz.zeroValue151
  t210 := Tryz.underlying183
  a210 := Tryz.isAgg183
  z210 := Tryz.sizeOf183
  v210 := Tryz.zeroValue183
  t212 := Tryz.underlying158
  a212 := Tryz.isAgg158
  z212 := Tryz.sizeOf158
  v212 := Tryz.zeroValue158
  t213 := Tryz.underlying159
  a213 := Tryz.isAgg159
  z213 := Tryz.sizeOf159
  t232 := Tryz.underlying180
  a232 := Tryz.isAgg180
  z232 := Tryz.sizeOf180
  v232 := Tryz.zeroValue180
  t233 := Tryz.underlying181
  a233 := Tryz.isAgg181
  z233 := Tryz.sizeOf181
  v233 := Tryz.zeroValue181
  g15 := by kernel_rfl
  g16 := by kernel_rfl
  g17 := by kernel_rfl
  g18 := by kernel_rfl
  g19 := by kernel_rfl
  t80 := Tryz.underlying58
  a80 := Tryz.isAgg58
  z80 := Tryz.sizeOf58
  v80 := Tryz.zeroValue58
  i0 := by kernel_rfl
  i2 := by kernel_rfl
  i3 := by kernel_rfl
  i4 := by kernel_rfl
  i5 := by kernel_rfl
  i9 := by kernel_rfl
  i20 := by kernel_rfl
  i21 := by kernel_rfl
  i37 := by kernel_rfl
  i46 := by kernel_rfl
  i51 := by kernel_rfl
  i53 := by kernel_rfl
  i75 := by kernel_rfl
  i80 := by kernel_rfl
  i85 := by kernel_rfl
  i127 := by kernel_rfl
  i143 := by kernel_rfl
  i145 := by kernel_rfl
  i167 := by kernel_rfl
  i168 := by kernel_rfl
  i171 := by kernel_rfl
  i173 := by kernel_rfl
  i175 := by kernel_rfl
  i210 := by kernel_rfl
  i212 := by kernel_rfl
  i232 := by kernel_rfl
  i233 := by kernel_rfl
  m15 := by kernel_rfl
  m16 := by kernel_rfl
  m17 := by kernel_rfl
  m18 := by kernel_rfl
  m19 := by kernel_rfl
  c0 := by kernel_rfl
  c2 := by kernel_rfl
  c3 := by kernel_rfl
  c4 := by kernel_rfl
  c5 := by kernel_rfl
  c9 := by kernel_rfl
  c20 := by kernel_rfl
  c21 := by kernel_rfl
  c37 := by kernel_rfl
  c46 := by kernel_rfl
  c51 := by kernel_rfl
  c53 := by kernel_rfl
  c75 := by kernel_rfl
  c80 := by kernel_rfl
  c85 := by kernel_rfl
  c127 := by kernel_rfl
  c143 := by kernel_rfl
  c145 := by kernel_rfl
  c167 := by kernel_rfl
  c168 := by kernel_rfl
  c171 := by kernel_rfl
  c173 := by kernel_rfl
  c175 := by kernel_rfl
  c210 := by kernel_rfl
  c212 := by kernel_rfl
  c213 := by kernel_rfl
  c232 := by kernel_rfl
  c233 := by kernel_rfl }
def Tryz.lPrefix_ren : Go.Shelf.Ren := ⟨fun | 99 => 118 | 206 => 134 | n => n, fun | 9 => 9 | 4 => 4 | 3 => 3 | n => n, fun | n => n⟩
theorem Tryz.lPrefix : Go.Proofs.Lays.n99 Tryz.prog Tryz.lPrefix_ren := {
  mixed := by kernel_rfl
  f99 := Tryz.func118.trans (congrArg some (by kernel_rfl))
  f206 := Tryz.func134.trans (congrArg some (by kernel_rfl))
  t3 := Tryz.underlying3
  a3 := Tryz.isAgg3
  z3 := Tryz.sizeOf3
  v3 := Tryz.zeroValue3
  t4 := Tryz.underlying4
  a4 := Tryz.isAgg4
  z4 := Tryz.sizeOf4
  v4 := Tryz.zeroValue4
  t9 := Tryz.underlying9
  a9 := Tryz.isAgg9
  z9 := Tryz.sizeOf9
  v9 := Tryz.zeroValue9 }
def Tryz.lClone_ren : Go.Shelf.Ren := ⟨fun | 316 => 135 | n => n, fun | 9 => 9 | 3 => 3 | 4 => 4 | 37 => 25 | 0 => 0 | 127 => 136 | 5 => 5 | n => n, fun | n => n⟩
theorem Tryz.lClone : Go.Proofs.LaysM.n316 Tryz.prog Tryz.lClone_ren := {
  mixed := by kernel_rfl
  f316 := Tryz.func135.trans (congrArg some (by kernel_rfl))
  t0 := Tryz.underlying0
  a0 := Tryz.isAgg0
  z0 := Tryz.sizeOf0
  v0 := Tryz.zeroValue0
  t3 := Tryz.underlying3
  a3 := Tryz.isAgg3
  z3 := Tryz.sizeOf3
  v3 := Tryz.zeroValue3
  t4 := Tryz.underlying4
  a4 := Tryz.isAgg4
  z4 := Tryz.sizeOf4
  v4 := Tryz.zeroValue4
  t9 := Tryz.underlying9
  a9 := Tryz.isAgg9
  z9 := Tryz.sizeOf9
  v9 := Tryz.zeroValue9
  t37 := Tryz.underlying25
  a37 := Tryz.isAgg25
  z37 := Tryz.sizeOf25
  v37 := Tryz.zeroValue25
  t127 := Tryz.underlying136
  a127 := Tryz.isAgg136
  z127 := Tryz.sizeOf136
  v127 := Tryz.zeroValue136
  t5 := Tryz.underlying5
  a5 := Tryz.isAgg5
  z5 := Tryz.sizeOf5
  v5 := Tryz.zeroValue5
  i0 := by kernel_rfl
  i3 := by kernel_rfl
  i4 := by kernel_rfl
  i5 := by kernel_rfl
  i9 := by kernel_rfl
  i37 := by kernel_rfl
  i127 := by kernel_rfl }
def Tryz.lValid_ren : Go.Shelf.Ren := ⟨fun | 196 => 150 | 259 => 158 | n => n, fun | 9 => 9 | 4 => 4 | 3 => 3 | 5 => 5 | 12 => 12 | 119 => 166 | 0 => 0 | 46 => 145 | 139 => 169 | 138 => 168 | 53 => 83 | n => n, fun | 3 => 4 | 4 => 5 | n => n⟩
theorem Tryz.lValid : Go.Proofs.Lays.n196 Tryz.prog Tryz.lValid_ren := {
  mixed := by kernel_rfl
  f196 := Tryz.func150.trans (congrArg some (by kernel_rfl))
  f259 := Tryz.func158.trans (congrArg some (by kernel_rfl))
  t0 := Tryz.underlying0
  a0 := Tryz.isAgg0
  z0 := Tryz.sizeOf0
  v0 := Tryz.zeroValue0
  t3 := Tryz.underlying3
  a3 := Tryz.isAgg3
  z3 := Tryz.sizeOf3
  v3 := Tryz.zeroValue3
  t4 := Tryz.underlying4
  a4 := Tryz.isAgg4
  z4 := Tryz.sizeOf4
  v4 := Tryz.zeroValue4
  t5 := Tryz.underlying5
  a5 := Tryz.isAgg5
  z5 := Tryz.sizeOf5
  v5 := Tryz.zeroValue5
  t9 := Tryz.underlying9
  a9 := Tryz.isAgg9
  z9 := Tryz.sizeOf9
  v9 := Tryz.zeroValue9
  t12 := Tryz.underlying12
  a12 := Tryz.isAgg12
  z12 := Tryz.sizeOf12
  v12 := Tryz.zeroValue12
  t46 := Tryz.underlying145
  a46 := Tryz.isAgg145
  z46 := Tryz.sizeOf145
  v46 := Tryz.zeroValue145
  t53 := Tryz.underlying83
  a53 := Tryz.isAgg83
  z53 := Tryz.sizeOf83
  v53 := Tryz.zeroValue83
  t119 := Tryz.underlying166
  a119 := Tryz.isAgg166
  z119 := Tryz.sizeOf166
  t138 := Tryz.underlying168
  a138 := Tryz.isAgg168
  z138 := Tryz.sizeOf168
  v138 := Tryz.zeroValue168
  t139 := Tryz.underlying169
  a139 := Tryz.isAgg169
  z139 := Tryz.sizeOf169
  v139 := Tryz.zeroValue169
  g3 := by kernel_rfl
  g4 := by kernel_rfl }
def Tryz.lDecode_ren : Go.Shelf.Ren := ⟨fun | 197 => 114 | 260 => 129 | n => n, fun | 9 => 9 | 21 => 21 | 3 => 3 | 4 => 4 | 5 => 5 | 105 => 142 | 119 => 166 | 0 => 0 | 46 => 145 | 139 => 169 | 138 => 168 | n => n, fun | 3 => 4 | 4 => 5 | n => n⟩
theorem Tryz.lDecode : Go.Proofs.Lays.n197 Tryz.prog Tryz.lDecode_ren := {
  mixed := by kernel_rfl
  f197 := Tryz.func114.trans (congrArg some (by kernel_rfl))
  f260 := Tryz.func129.trans (congrArg some (by kernel_rfl))
  t0 := Tryz.underlying0
  a0 := Tryz.isAgg0
  z0 := Tryz.sizeOf0
  v0 := Tryz.zeroValue0
  t3 := Tryz.underlying3
  a3 := Tryz.isAgg3
  z3 := Tryz.sizeOf3
  v3 := Tryz.zeroValue3
  t4 := Tryz.underlying4
  a4 := Tryz.isAgg4
  z4 := Tryz.sizeOf4
  v4 := Tryz.zeroValue4
  t5 := Tryz.underlying5
  a5 := Tryz.isAgg5
  z5 := Tryz.sizeOf5
  v5 := Tryz.zeroValue5
  t9 := Tryz.underlying9
  a9 := Tryz.isAgg9
  z9 := Tryz.sizeOf9
  v9 := Tryz.zeroValue9
  t21 := Tryz.underlying21
  a21 := Tryz.isAgg21
  z21 := Tryz.sizeOf21
  v21 := Tryz.zeroValue21
  t46 := Tryz.underlying145
  a46 := Tryz.isAgg145
  z46 := Tryz.sizeOf145
  v46 := Tryz.zeroValue145
  t105 := Tryz.underlying142
  a105 := Tryz.isAgg142
  z105 := Tryz.sizeOf142
  v105 := Tryz.zeroValue142
  t119 := Tryz.underlying166
  a119 := Tryz.isAgg166
  z119 := Tryz.sizeOf166
  t138 := Tryz.underlying168
  a138 := Tryz.isAgg168
  z138 := Tryz.sizeOf168
  v138 := Tryz.zeroValue168
  t139 := Tryz.underlying169
  a139 := Tryz.isAgg169
  z139 := Tryz.sizeOf169
  v139 := Tryz.zeroValue169
  g3 := by kernel_rfl
  g4 := by kernel_rfl }
def Tryz.lRune_ren : Go.Shelf.Ren := ⟨fun | 242 => 152 | 278 => 160 | n => n, fun | 37 => 25 | 21 => 21 | 51 => 22 | 4 => 4 | 5 => 5 | 46 => 145 | n => n, fun | n => n⟩
theorem Tryz.lRune : Go.Proofs.Lays.n242 Tryz.prog Tryz.lRune_ren := {
  mixed := by kernel_rfl
  f242 := Tryz.func152.trans (congrArg some (by kernel_rfl))
  f278 := Tryz.func160.trans (congrArg some (by kernel_rfl))
  t4 := Tryz.underlying4
  a4 := Tryz.isAgg4
  z4 := Tryz.sizeOf4
  v4 := Tryz.zeroValue4
  t5 := Tryz.underlying5
  a5 := Tryz.isAgg5
  z5 := Tryz.sizeOf5
  v5 := Tryz.zeroValue5
  t21 := Tryz.underlying21
  a21 := Tryz.isAgg21
  z21 := Tryz.sizeOf21
  v21 := Tryz.zeroValue21
  t37 := Tryz.underlying25
  a37 := Tryz.isAgg25
  z37 := Tryz.sizeOf25
  v37 := Tryz.zeroValue25
  t46 := Tryz.underlying145
  a46 := Tryz.isAgg145
  z46 := Tryz.sizeOf145
  v46 := Tryz.zeroValue145
  t51 := Tryz.underlying22
  a51 := Tryz.isAgg22
  z51 := Tryz.sizeOf22
  v51 := Tryz.zeroValue22 }
def Tryz.lValidR_ren : Go.Shelf.Ren := ⟨fun | 119 => 141 | n => n, fun | 21 => 21 | 4 => 4 | n => n, fun | n => n⟩
theorem Tryz.lValidR : Go.Proofs.Lays.n119 Tryz.prog Tryz.lValidR_ren := {
  mixed := by kernel_rfl
  f119 := Tryz.func141.trans (congrArg some (by kernel_rfl))
  t4 := Tryz.underlying4
  a4 := Tryz.isAgg4
  z4 := Tryz.sizeOf4
  v4 := Tryz.zeroValue4
  t21 := Tryz.underlying21
  a21 := Tryz.isAgg21
  z21 := Tryz.sizeOf21
  v21 := Tryz.zeroValue21 }
def Tryz.lIndexB_ren : Go.Shelf.Ren := ⟨fun | 217 => 155 | 266 => 157 | n => n, fun | 9 => 9 | 5 => 5 | 3 => 3 | n => n, fun | n => n⟩
theorem Tryz.lIndexB : Go.Proofs.Lays.n217 Tryz.prog Tryz.lIndexB_ren := {
  mixed := by kernel_rfl
  f217 := Tryz.func155.trans (congrArg some (by kernel_rfl))
  f266 := Tryz.func157.trans (congrArg some (by kernel_rfl))
  t3 := Tryz.underlying3
  a3 := Tryz.isAgg3
  z3 := Tryz.sizeOf3
  v3 := Tryz.zeroValue3
  t5 := Tryz.underlying5
  a5 := Tryz.isAgg5
  z5 := Tryz.sizeOf5
  v5 := Tryz.zeroValue5
  t9 := Tryz.underlying9
  a9 := Tryz.isAgg9
  z9 := Tryz.sizeOf9
  v9 := Tryz.zeroValue9 }
end Go.Proofs

/-! The program's reader: numbers. -/
namespace Go.Proofs.YtlnppgjppfkocaaGreatDoor.Xs
open Go.RowKit Plain
set_option linter.unusedVariables false
set_option linter.unusedSimpArgs false

/-- strconv's errors, as laid. -/
def ErrAt (w : World) : Prop := (∃ t p, w.cell? ⟨2, 0, none⟩ = some (.iface t p)) ∧ ∃ t p, w.cell? ⟨8, 0, none⟩ = some (.iface t p)
theorem ErrAt.later {w w' : World} (h : ErrAt w) (hb : Below w.heap.size w w') : ErrAt w' := by
  obtain ⟨⟨t, p, h1⟩, t', p', h2⟩ := h
  exact ⟨⟨t, p, (hb.cell (cell_lt h1)).trans h1⟩, t', p', (hb.cell (cell_lt h2)).trans h2⟩
/-- A reader that a call's own memory holds. -/
structure RdW (W w : World) (g b : Nat) (ps : List By) : Prop where
  rd : RdAt w g b ps
  bel : Below W.heap.size W w
  gW : W.heap.size ≤ g
  bW : W.heap.size ≤ b
  len : ∀ x ∈ ps, x.length ≤ 4096
theorem RdW.go {W w w' : World} {g b : Nat} {p : By} {ps : List By} (h : RdW W w g b (p :: ps)) (hr : RdAt w' g b ps) (hc : Ch (· = g) w w') : RdW W w' g b ps :=
  ⟨hr, Ch.on h.bel hc (fun k e => by rw [e]; exact h.gW), h.gW, h.bW, fun x hx => h.len x (by simp [hx])⟩
theorem RdW.ch {W w w' : World} {g b : Nat} {ps : List By} {S : Nat → Prop} (h : RdW W w g b ps) (hc : Ch S w w') (hS : ∀ k, S k → W.heap.size ≤ k) (h1 : ¬ S g) (h2 : ¬ S b) : RdW W w' g b ps :=
  ⟨h.rd.ch hc h1 h2, Ch.on h.bel hc hS, h.gW, h.bW, h.len⟩
theorem RdW.later {W w w' : World} {g b : Nat} {ps : List By} (h : RdW W w g b ps) (hb : Below w.heap.size w w') : RdW W w' g b ps :=
  ⟨h.rd.later hb, below_on h.bel hb, h.gW, h.bW, h.len⟩
/-- What number answers. -/
def NumP (w : World) (g b : Nat) (ps : List By) (e : Ending) (w' : World) : Prop :=
  (∃ p qs n, ps = p :: qs ∧ e = .returned (.int .i64 n) ∧ I64 n ∧ (∀ m, I64 m → p = Lib.itoa m → n = m) ∧ RdAt w' g b qs ∧ Ch (· = g) w w') ∨
  ((∀ p qs, ps = p :: qs → ∀ m, I64 m → p ≠ Lib.itoa m) ∧ e = .panicked [gaveE] ∧ Ch (· = g) w w')
/-- The same, by what ParseInt says. -/
def NumQ (w : World) (g b : Nat) (ps : List By) (e : Ending) (w' : World) : Prop :=
  (∃ p qs n, ps = p :: qs ∧ e = .returned (.int .i64 n) ∧ Lib.parseIntB 64 p = .ok n ∧ RdAt w' g b qs ∧ Ch (· = g) w w') ∨
  ((∀ p qs, ps = p :: qs → ∀ n, Lib.parseIntB 64 p ≠ .ok n) ∧ e = .panicked [gaveE] ∧ Ch (· = g) w w')
theorem ba_list2 (l : By) : (ba l).data.toList = l := by simp [ba]
/-- strconv.toError, where the text has no such form at all. -/
theorem run_eq2 (W : World) : (binOp .eql 101 (.iface 173 (.int .i64 2)) (.iface 173 (.int .i64 2))).run Tryz.prog W = .ok (.bool true) W :=
  Lib.run_eql_iface_int W 2 2 Tryz.lParse.t75 Tryz.lParse.c167 Tryz.lParse.t167
set_option maxHeartbeats 3200000 in
set_option maxRecDepth 100000 in
theorem toErrF (fn s : ByteArray) (base bits : Int) (ev : Value) (w : World) (hs : s.size ≤ 281474976710656) (hv : w.cell? ⟨2, 0, none⟩ = some ev) (he : ev = .nilIface ∨ ∃ te pe, ev = .iface te pe) :
    Calls Tryz.prog 133 #[.string fn, .string s, .int .i64 base, .int .i64 bits, .iface 173 (.int .i64 2)] w fun e w' => ∃ N, e = .returned (.iface 174 (.pointer (some ⟨N, 0, none⟩))) ∧ Below w.heap.size w w' := by
  have heq := run_eq2
  go_enter Tryz.func133, Tryz.ntmps133
  go_wp2_with (go_at_call 144; refine (Any.strconv_syntaxError { Tryz.lParse with } fn s ev _ hs ?_ he).mono ?_)
  · exact hv
  rintro e w2 ⟨N, rfl, h1, h2, h3⟩
  go_wp2
  go_ret
  exact ⟨N, rfl, h3⟩
set_option maxHeartbeats 3200000 in
set_option maxRecDepth 100000 in
/-- strconv.ParseInt, of what is no number and is not out of range either. -/
theorem pIntF (p : By) (hp : p.length ≤ 281474976710656) (hno : ∀ n, Lib.parseIntB 64 p ≠ .ok n) (hra : Lib.parseIntB 64 p ≠ .range) (ev : Value) (w : World) (hv : w.cell? ⟨2, 0, none⟩ = some ev) (he : ev = .nilIface ∨ ∃ te pe, ev = .iface te pe) :
    Calls Tryz.prog 117 #[.string (ba p), .int .i64 10, .int .i64 64] w fun e w' => ∃ z N, e = .returned (.tuple #[.int .i64 z, .iface 174 (.pointer (some ⟨N, 0, none⟩))]) ∧ Below w.heap.size w w' := by
  have hsz : (ba p).size = p.length := rfl
  have hI := Any.internal_strconv_ParseInt_10_all64 { Tryz.lParse with } (ba p) (by rw [hsz]; omega) w
  rw [ba_list2] at hI
  generalize Lib.intSat 64 p = sat at hI
  cases h : Lib.parseIntB 64 p with
  | ok n => exact absurd h (hno n)
  | range => exact absurd h hra
  | _ =>
    rw [h] at hI
    have hI : Calls Tryz.prog 132 #[.string (ba p), .int .i64 10, .int .i64 64] w fun e w' => e = .returned (.tuple #[.int .i64 0, .iface 173 (.int .i64 2)]) ∧ (w' = w ∨ ∃ t, w' = Lib.bytesWorld w 5 t) := hI
    clear h hno hra
    go_enter Tryz.func117, Tryz.ntmps117
    go_wp2_with (go_at_call 132; refine hI.mono ?_; rintro e w1 ⟨rfl, hw⟩)
    have hb1 : Below w.heap.size w w1 := by
      rcases hw with rfl | ⟨t, rfl⟩
      · exact Below.refl _ _
      · exact Lib.bytesWorld_below _ _ _
    have hv1 : w1.cell? ⟨2, 0, none⟩ = some ev := (hb1.cell (cell_lt hv)).trans hv
    clear hw hI
    go_wp2_with (go_at_call 133; refine (toErrF _ (ba p) 10 64 ev _ (by rw [hsz]; omega) hv1 he).mono ?_; rintro e w2 ⟨N, rfl, hb2⟩)
    go_wp2
    go_ret2
    exact ⟨_, N, rfl, below_on hb1 hb2⟩
set_option maxHeartbeats 3200000 in
theorem rNumQ (W w : World) (g b : Nat) (ps : List By) (hE : ErrAt W) (h : RdW W w g b ps) :
    Calls Tryz.prog 95 #[.pointer (some ⟨g, 0, none⟩)] w (NumQ w g b ps) := by
  have HR := mkW h
  have HE := mkW hE
  clear h hE
  go_enter Tryz.func95, Tryz.ntmps95
  go_wp2_with (go_at_call 45; refine (rWordOf _ g b ps HR.out.rd).mono ?_)
  rintro e w1 (⟨p, qs, rfl, rfl, hr1, hc1⟩ | ⟨rfl, rfl, rfl⟩)
  · have HR1 := mkW (HR.out.go hr1 hc1)
    have HC1 := mkW hc1
    have hpl : p.length ≤ 281474976710656 := Nat.le_trans (HR.out.len p (by simp)) (by decide)
    obtain ⟨⟨te, pe, hs⟩, tr, pr, hg⟩ := HE.out.later HR1.out.bel
    have hsz : (ba p).size = p.length := rfl
    clear hr1 hc1
    cases hp : Lib.parseIntB 64 p with
    | ok n =>
      have hn := parse_i64 hp
      have HP := mkW hp
      clear hp hs hg
      go_wp2_with (go_at_call 117; refine (Any.strconv_ParseInt_10_at64_ok Tryz.lParse (ba p) (by rw [hsz]; omega) n (by rw [ba_list2]; exact HP.out) _).mono ?_; rintro e w2 ⟨rfl, hw2⟩)
      have hb2 : Below w1.heap.size w1 w2 := by
        rcases hw2 with rfl | ⟨t, rfl⟩
        · exact Below.refl _ _
        · exact Lib.bytesWorld_below _ _ _
      clear hw2
      go_wp2
      go_ret
      exact Or.inl ⟨p, qs, n, rfl, rfl, HP.out, HR1.out.rd.later hb2, HC1.out.more hb2⟩
    | range =>
      have HN : Hid (∀ n, Lib.parseIntB 64 p ≠ .ok n) := fun n e => by rw [hp] at e; cases e
      go_wp2_with (go_at_call 117; refine (Any.strconv_ParseInt_10_at64_range Tryz.lParse (ba p) (by rw [hsz]; omega) (by rw [ba_list2]; exact hp) _ _ hg (.inr ⟨_, _, rfl⟩)).mono ?_; rintro e w2 ⟨N, rfl, hN, hx, hb2⟩)
      clear hp hs hg hx hN
      go_wp2_with (go_at_call 27; refine (gaveOf _).mono ?_; rintro e w3 ⟨rfl, rfl⟩)
      exact ⟨by trivial, Or.inr ⟨fun p' qs' e => by cases e; exact HN.out, rfl, HC1.out.more hb2⟩⟩
    | _ =>
      have HN : Hid (∀ n, Lib.parseIntB 64 p ≠ .ok n) := fun n e => by rw [hp] at e; cases e
      go_wp2_with (go_at_call 117; refine (pIntF p hpl HN.out (by rw [hp]; intro e; cases e) _ _ hs (.inr ⟨_, _, rfl⟩)).mono ?_; rintro e w2 ⟨z, N, rfl, hb2⟩)
      clear hp hs hg
      go_wp2_with (go_at_call 27; refine (gaveOf _).mono ?_; rintro e w3 ⟨rfl, rfl⟩)
      exact ⟨by trivial, Or.inr ⟨fun p' qs' e => by cases e; exact HN.out, rfl, HC1.out.more hb2⟩⟩
  · exact ⟨by trivial, Or.inr ⟨fun p qs e => (by cases e), rfl, Ch.refl _ _⟩⟩
theorem rNumOf (W w : World) (g b : Nat) (ps : List By) (hE : ErrAt W) (h : RdW W w g b ps) :
    Calls Tryz.prog 95 #[.pointer (some ⟨g, 0, none⟩)] w (NumP w g b ps) := by
  refine (rNumQ W w g b ps hE h).mono fun e w' hq => ?_
  rcases hq with ⟨p, qs, n, e1, e2, hp, hr, hc⟩ | ⟨hn, e2, hc⟩
  · exact Or.inl ⟨p, qs, n, e1, e2, parse_i64 hp, fun m hm e => (by
      rw [e, parse_itoa hm] at hp
      exact (Lib.NumEnd.ok.inj hp).symm), hr, hc⟩
  · exact Or.inr ⟨fun p qs e1 m hm e => hn p qs e1 m (by rw [e]; exact parse_itoa hm), e2, hc⟩
theorem NumQ.good {w w' : World} {g b : Nat} {p : By} {qs : List By} {e : Ending} {n : Int} (h : NumQ w g b (p :: qs) e w') (hp : Lib.parseIntB 64 p = .ok n) : e = .returned (.int .i64 n) ∧ RdAt w' g b qs ∧ Ch (· = g) w w' := by
  rcases h with ⟨p', qs', n', e1, e2, hp', hr, hc⟩ | ⟨hn, _⟩
  · obtain ⟨rfl, rfl⟩ := List.cons.inj e1
    have : n = n' := Lib.NumEnd.ok.inj (hp.symm.trans hp')
    subst this
    exact ⟨e2, hr, hc⟩
  · exact absurd hp (hn p qs rfl n)
theorem NumQ.bad {w w' : World} {g b : Nat} {p : By} {qs : List By} {e : Ending} (h : NumQ w g b (p :: qs) e w') (hp : ∀ n, Lib.parseIntB 64 p ≠ .ok n) : e = .panicked [gaveE] ∧ Ch (· = g) w w' := by
  rcases h with ⟨p', qs', n', e1, e2, hp', _⟩ | ⟨_, e2, hc⟩
  · obtain ⟨rfl, rfl⟩ := List.cons.inj e1
    exact absurd hp' (hp n')
  · exact ⟨e2, hc⟩
end Go.Proofs.YtlnppgjppfkocaaGreatDoor.Xs
