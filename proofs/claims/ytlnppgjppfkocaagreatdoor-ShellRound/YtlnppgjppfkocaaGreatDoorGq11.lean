import Derived.Test.YtlnppgjppfkocaaGreatDoorGq10
import Derived.Test.YtlnppgjppfkocaaGreatDoorGq05
import Derived.Test.YtlnppgjppfkocaaGreatDoorProg
import Derived.WalkKit
import Derived.WalkLawsBesides
import Derived.Deep.QuietTactic
import Derived.BigQuiet
import Derived.WalkSmall
import Derived.OpenShut
/-! The law's same: of commands that read alike. -/
namespace Go.Proofs.YtlnppgjppfkocaaGreatDoor.Xs
open Go.RowKit
set_option linter.unusedVariables false
set_option linter.unusedSimpArgs false

theorem drewN_below {B : Nat} {w u : World} (h : Below B w u) (n : Nat) : Below B w (u.drewN n) := ⟨h.os, h.tape, h.output, h.size, h.block⟩
theorem rqEq_self (r : Rq) : rqEq r r = true := (rqEq_iff r r).2 rfl

set_option maxHeartbeats 8000000 in
set_option maxRecDepth 100000 in
theorem lsameOf (c : Cm) (vr vp ur up : Value) (w : World) (h1 : BysAt w vr c.raw) (h2 : PksAt w vp c.picks) (k1 : BysAt w ur c.raw) (k2 : PksAt w up c.picks) :
    Calls Tryz.prog 11 #[cmV c vr vp, cmV c ur up] w fun e w' => e = .returned (.bool true) ∧ Below w.heap.size w w' := by
  obtain ⟨wa, hwa⟩ : ∃ w0, w.alloc (.cells (cmA c vr vp) 28) = w0 := ⟨_, rfl⟩
  obtain ⟨w0, hw0⟩ : ∃ w0, wa.alloc (.cells (cmA c ur up) 28) = w0 := ⟨_, rfl⟩
  have hsa : wa.heap.size = w.heap.size + 1 := by rw [← hwa]; simp
  have HBA : Hid (Below w.heap.size w wa) := by rw [← hwa]; exact (cmBox w c vr vp 28).1
  have HBB : Hid (Below wa.heap.size wa w0) := by rw [← hw0]; exact (cmBox wa c ur up 28).1
  have HB0 : Hid (Below w.heap.size w w0) := below_on HBA.out HBB.out
  have HX : Hid (∀ u, Below w0.heap.size w0 u → CmAt u w.heap.size c vr vp) := fun u hu => by
    have h := (cmBox w c vr vp 28).2
    rw [hwa] at h
    exact (h.later HBB.out).later hu
  have HY : Hid (∀ u, Below w0.heap.size w0 u → CmAt u (w.heap.size + 1) c ur up) := fun u hu => by
    have h := (cmBox wa c ur up 28).2
    rw [hw0, hsa] at h
    exact h.later hu
  have HNE : Hid (∀ u, (binOp .neq 24 (rqV c.req) (rqV c.req)).run Tryz.prog u = .ok (.bool false) u) := fun u => by rw [rq_neq, rqEq_self]; rfl
  obtain ⟨a1, c1, rfl, _, hl1, hc1⟩ := h1.later HB0.out
  obtain ⟨a2, c2, rfl, _, hl2, hc2⟩ := h2.later HB0.out
  obtain ⟨a3, c3, rfl, _, _, hc3⟩ := k1.later HB0.out
  obtain ⟨a4, c4, rfl, _, _, hc4⟩ := k2.later HB0.out
  obtain ⟨vb, cn, ⟨id, op, tp, ky, vl, fo, nu, pi, sq⟩, l, n, p⟩ := c
  simp only at *
  have HS : Hid (∀ u j, Below w0.heap.size w0 u → j < l.length → ∃ b o b' o', a1 = some ⟨b, o, none⟩ ∧ a3 = some ⟨b', o', none⟩ ∧ u.cell? ⟨b, o + j, none⟩ = some (.int .u8 ((l.getD j 0).toNat : Int)) ∧ u.cell? ⟨b', o' + j, none⟩ = some (.int .u8 ((l.getD j 0).toNat : Int))) := fun u j hu hj => by
    have hne : l ≠ [] := by intro e; rw [e] at hj; simp at hj
    obtain ⟨b, o, e, hc⟩ := hc1 hne
    obtain ⟨b', o', e', hc'⟩ := hc3 hne
    exact ⟨b, o, b', o', e, e', (hu.cell (p := ⟨b, o + j, none⟩) (cell_lt (hc j hj))).trans (hc j hj), (hu.cell (p := ⟨b', o' + j, none⟩) (cell_lt (hc' j hj))).trans (hc' j hj)⟩
  have HP : Hid (∀ u j, Below w0.heap.size w0 u → j < p.length → ∃ b o b' o', a2 = some ⟨b, o, none⟩ ∧ a4 = some ⟨b', o', none⟩ ∧ u.cell? ⟨b, o + j, none⟩ = some (.int .i64 (p.getD j 0)) ∧ u.cell? ⟨b', o' + j, none⟩ = some (.int .i64 (p.getD j 0))) := fun u j hu hj => by
    have hne : p ≠ [] := by intro e; rw [e] at hj; simp at hj
    obtain ⟨b, o, e, hc⟩ := hc2 hne
    obtain ⟨b', o', e', hc'⟩ := hc4 hne
    exact ⟨b, o, b', o', e, e', (hu.cell (p := ⟨b, o + j, none⟩) (cell_lt (hc j hj))).trans (hc j hj), (hu.cell (p := ⟨b', o' + j, none⟩) (cell_lt (hc' j hj))).trans (hc' j hj)⟩
  obtain ⟨m0, m1, m2, m3, m4, m5, m6, m7, m8, m9, m10, m11, m12, m13⟩ := HX.out w0 (Below.refl _ _)
  obtain ⟨n0, n1, n2, n3, n4, n5, n6, n7, n8, n9, n10, n11, n12, n13⟩ := HY.out w0 (Below.refl _ _)
  have hne' := HNE.out
  clear h1 h2 k1 k2 hc1 hc2 hc3 hc4
  go_enter Tryz.func11, Tryz.ntmps11
  go_wp2
  clear hne' m0 m1 m2 m3 m4 m5 m6 m7 m8 m9 m10 m11 m12 m13 n0 n1 n2 n3 n4 n5 n6 n7 n8 n9 n10 n11 n12 n13
  go_loopw [5] (fun i wr => ∃ k : Nat, k ≤ l.length ∧ i = .int .i64 k ∧ Hid (Below w0.heap.size w0 wr)) (fun i _ => l.length - (intOf i).toNat)
  case atStart => exact ⟨0, by omega, rfl, Below.refl _ _⟩
  case round =>
    obtain ⟨k, hk, rfl, HBW⟩ := hrel
    obtain ⟨m0, m1, m2, m3, m4, m5, m6, m7, m8, m9, m10, m11, m12, m13⟩ := HX.out wr HBW.out
    obtain ⟨n0, n1, n2, n3, n4, n5, n6, n7, n8, n9, n10, n11, n12, n13⟩ := HY.out wr HBW.out
    by_cases hlt : k < l.length
    · obtain ⟨b, o, b', o', rfl, rfl, e1, e2⟩ := HS.out wr k HBW.out hlt
      generalize l.getD k 0 = z at e1 e2
      have hki : (k : Int) < (l.length : Int) := by omega
      go_wp2
      go_quiet (fail)
      go_wp2
      go_roundw
      case rel => exact ⟨k + 1, by omega, by go_num, drewN_below HBW.out _⟩
      case measure => simp [intOf]; omega
    · have hki : ¬ (k : Int) < (l.length : Int) := by omega
      have HB2 : Hid (Below w0.heap.size w0 wr) := HBW.out
      go_wp2
      clear HBW m0 m1 m2 m3 m4 m5 m6 m7 m8 m9 m10 m11 m12 m13 n0 n1 n2 n3 n4 n5 n6 n7 n8 n9 n10 n11 n12 n13
      go_loopw [6] (fun i wr => ∃ k : Nat, k ≤ p.length ∧ i = .int .i64 k ∧ Hid (Below w0.heap.size w0 wr)) (fun i _ => p.length - (intOf i).toNat)
      case atStart => exact ⟨0, by omega, rfl, HB2.out⟩
      case round =>
        obtain ⟨q, hq, rfl, HBW⟩ := hrel
        obtain ⟨m0, m1, m2, m3, m4, m5, m6, m7, m8, m9, m10, m11, m12, m13⟩ := HX.out wr HBW.out
        obtain ⟨n0, n1, n2, n3, n4, n5, n6, n7, n8, n9, n10, n11, n12, n13⟩ := HY.out wr HBW.out
        by_cases hlt2 : q < p.length
        · obtain ⟨b, o, b', o', rfl, rfl, e1, e2⟩ := HP.out wr q HBW.out hlt2
          generalize p.getD q 0 = z at e1 e2
          have hqi : (q : Int) < (p.length : Int) := by omega
          go_wp2
          go_quiet (fail)
          go_wp2
          go_roundw
          case rel => exact ⟨q + 1, by omega, by go_num, drewN_below HBW.out _⟩
          case measure => simp [intOf]; omega
        · have hqi : ¬ (q : Int) < (p.length : Int) := by omega
          go_wp2
          go_ret
          exact ⟨rfl, below_on HB0.out HBW.out⟩
end Go.Proofs.YtlnppgjppfkocaaGreatDoor.Xs

/-! Lines: the document's digit, readNumber. -/
namespace Go.Proofs.YtlnppgjppfkocaaGreatDoor.Xs
open Go.RowKit
set_option linter.unusedVariables false
set_option linter.unusedSimpArgs false

theorem hxV_lt (c : UInt8) : hxV c < 16 := by
  unfold hxV
  split
  · omega
  · split <;> omega
set_option maxHeartbeats 2000000 in
set_option maxRecDepth 100000 in
theorem rdigitOf (c : UInt8) (w : World) :
    Calls Tryz.prog 56 #[.int .u8 (c.toNat : Int)] w fun e w' => e = .returned (.int .u8 (hxV c : Int)) ∧ w' = w := by
  have hc := c.toNat_lt
  have HH : Hid (hxV c = if 97 ≤ c.toNat ∧ c.toNat ≤ 102 then c.toNat - 87 else if 48 ≤ c.toNat ∧ c.toNat ≤ 57 then c.toNat - 48 else 0) := rfl
  generalize hxV c = V at *
  generalize c.toNat = n at *
  by_cases h1 : 97 ≤ n ∧ n ≤ 102
  · obtain ⟨a, b⟩ := h1
    have HV : Hid ((V : Int) = (n : Int) - 87) := by unfold Hid; rw [HH.out, if_pos ⟨a, b⟩]; omega
    have e1 : (n : Int) - 97 + 10 = (n : Int) - 87 := by omega
    have e2 : IntKind.u8.wrap ((n : Int) - 97) = (n : Int) - 97 := by rw [IntKind.wrap_u8]; omega
    have e3 : IntKind.u8.wrap ((n : Int) - 97 + 10) = (n : Int) - 97 + 10 := by rw [IntKind.wrap_u8]; omega
    go_enter Tryz.func56, Tryz.ntmps56
    go_wp2
    go_ret
    refine ⟨?_, rfl⟩
    rw [HV.out]
    first
      | rfl
      | (refine congrArg (fun z => Ending.returned (Value.int .u8 z)) ?_; omega)
  · by_cases h2 : 48 ≤ n ∧ n ≤ 57
    · obtain ⟨a, b⟩ := h2
      have HV : Hid ((V : Int) = (n : Int) - 48) := by unfold Hid; rw [HH.out, if_neg h1, if_pos ⟨a, b⟩]; omega
      have h97 : n < 97 := by omega
      have e2 : IntKind.u8.wrap ((n : Int) - 48) = (n : Int) - 48 := by rw [IntKind.wrap_u8]; omega
      clear h1
      go_enter Tryz.func56, Tryz.ntmps56
      go_wp2
      go_ret
      refine ⟨?_, rfl⟩
      rw [HV.out]
      rfl
    · have HV : Hid (V = 0) := by unfold Hid; rw [HH.out, if_neg h1, if_neg h2]
      have hcase : n < 48 ∨ (57 < n ∧ n < 97) ∨ 102 < n := by omega
      clear h1 h2
      rcases hcase with h | ⟨h, h'⟩ | h
      · have h' : n < 97 := by omega
        go_enter Tryz.func56, Tryz.ntmps56
        go_wp2
        go_ret
        exact ⟨by rw [HV.out]; rfl, rfl⟩
      · have h'' : 48 ≤ n := by omega
        go_enter Tryz.func56, Tryz.ntmps56
        go_wp2
        go_ret
        exact ⟨by rw [HV.out]; rfl, rfl⟩
      · have h' : 97 ≤ n := by omega
        have h'' : 48 ≤ n := by omega
        have h''' : 57 < n := by omega
        go_enter Tryz.func56, Tryz.ntmps56
        go_wp2
        go_ret
        exact ⟨by rw [HV.out]; rfl, rfl⟩

set_option maxHeartbeats 4000000 in
set_option maxRecDepth 100000 in
theorem rreadNumberOf (s : By) (hs : s.length ≤ 1125899906842624) (w : World) :
    Calls Tryz.prog 54 #[.string (ba s)] w fun e w' => (∃ v, e = .returned (.int .i64 v) ∧ I64 v ∧ ∀ n, I64 n → s = Lib.itoa n → v = n) ∧ w' = w := by
  have hsz : (ba s).size = s.length := rfl
  go_enter Tryz.func54, Tryz.ntmps54
  go_wp2
  go_loopw [3, 4, 5] (fun z m i wr => ∃ (k : Nat) (b : Bool) (y : Int), k ≤ s.length ∧ k ≤ 20 ∧ i = .int .i64 k ∧ m = .bool b ∧ z = .int .i64 y ∧ Hid (RdN s k b y) ∧ w = wr) (fun _ _ i _ => s.length - (intOf i).toNat)
  case atStart => exact ⟨0, false, 0, Nat.zero_le _, Nat.zero_le _, rfl, rfl, rfl, RdN.start s, rfl⟩
  case round =>
    obtain ⟨k, b, y, hk, hk20, rfl, rfl, rfl, HR, rfl⟩ := hrel
    have hy := HR.out.z64
    unfold I64 at hy
    by_cases hp : k < s.length
    · by_cases hq : k < 20
      · have hki : (k : Int) < (s.length : Int) := by omega
        have hkb : k < (ba s).size := hp
        have hbg := ba_get hkb
        have HMI : Hid (k = 0 → s.getD k 0 = 45 → RdN s (k + 1) true y) := fun e1 e2 => by subst e1; exact HR.out.minus hp e2
        have HDG : Hid (∀ z', I64 z' → ¬ (k = 0 ∧ s.getD k 0 = 45) → (48 ≤ (s.getD k 0).toNat → (s.getD k 0).toNat ≤ 57 → I64 (y * 10 - (((s.getD k 0).toNat : Int) - 48)) → -9223372036854775808 ≤ y * 10 → y * 10 ≤ 9223372036854775807 → z' = y * 10 - (((s.getD k 0).toNat : Int) - 48)) → RdN s (k + 1) b z') := fun z' a1 a2 a3 => HR.out.digit hp a1 a2 a3
        generalize s.getD k 0 = c at *
        have hcl := c.toNat_lt
        obtain ⟨d, hd⟩ : ∃ d : Int, (((ba s)[k]'hkb).toNat : Int) = d := ⟨_, rfl⟩
        have HDD : Hid (d = (c.toNat : Int)) := by unfold Hid; rw [← hd, hbg]
        have hd0 : 0 ≤ d := by rw [HDD.out]; omega
        have hd1 : d < 256 := by rw [HDD.out]; omega
        clear hbg
        by_cases h0 : k = 0 ∧ c = 45
        · obtain ⟨hk0, hc45⟩ := h0
          have hd45 : d = 45 := by rw [HDD.out, hc45]; rfl
          have HN : Hid (RdN s (k + 1) true y) := HMI.out hk0 hc45
          have hk0' : ((k : Int) == 0) = true := by simp; omega
          have hd45' : (d == 45) = true := by simpa using hd45
          clear hk0 hc45 hd45 HMI HDG
          go_wp2
          go_roundw
          case rel => exact ⟨k + 1, true, y, by omega, by omega, by go_num, rfl, rfl, HN, by first | rfl | trivial⟩
          case measure => simp [intOf]; omega
        · obtain ⟨e, he⟩ : ∃ e : Int, IntKind.u8.wrap (d - 48) = e := ⟨_, rfl⟩
          have he0 : 0 ≤ e ∧ e < 256 := by rw [← he, IntKind.wrap_u8]; omega
          have HEE : Hid (48 ≤ d → e = d - 48) := fun h => by rw [← he, IntKind.wrap_u8]; omega
          obtain ⟨m10, hm10⟩ : ∃ m : Int, IntKind.i64.wrap (y * 10) = m := ⟨_, rfl⟩
          have hmb : I64 m10 := by unfold I64; rw [← hm10, IntKind.wrap_i64]; omega
          have HM : Hid (-9223372036854775808 ≤ y * 10 → y * 10 ≤ 9223372036854775807 → m10 = y * 10) := fun a b => by rw [← hm10, IntKind.wrap_i64]; omega
          obtain ⟨z', hz'⟩ : ∃ z' : Int, IntKind.i64.wrap (m10 - e) = z' := ⟨_, rfl⟩
          have hzb : I64 z' := by unfold I64; rw [← hz', IntKind.wrap_i64]; omega
          have HN : Hid (RdN s (k + 1) b z') := HDG.out z' hzb h0 (fun a1 a2 a3 a4 a5 => by
            have hd48 : 48 ≤ d := by rw [HDD.out]; omega
            rw [← hz', HM.out a4 a5, HEE.out hd48, HDD.out, IntKind.wrap_i64]
            unfold I64 at a3
            omega)
          have hm10' : wrap64 (y * 10) = m10 := by rw [← hm10, IntKind.wrap_i64]; unfold wrap64; omega
          have hz'' : wrap64 (m10 - e) = z' := by rw [← hz', IntKind.wrap_i64]; unfold wrap64; omega
          by_cases hk0 : k = 0
          · have hk0' : ((k : Int) == 0) = true := by simp; omega
            have hd45' : (d == 45) = false := by
              rw [beq_eq_false_iff_ne]
              exact fun e => h0 ⟨hk0, UInt8.toNat_inj.1 (by have := HDD.out; rw [e] at this; show c.toNat = 45; omega)⟩
            clear hk0 h0 HMI HDG hmb hzb
            go_wp2
            go_roundw
            case rel => exact ⟨k + 1, b, z', by omega, by omega, by go_num, rfl, rfl, HN, by first | rfl | trivial⟩
            case measure => simp [intOf]; omega
          · have hk0' : ((k : Int) == 0) = false := by simp; omega
            clear h0 HMI HDG hmb hzb
            go_wp2
            go_roundw
            case rel => exact ⟨k + 1, b, z', by omega, by omega, by go_num, rfl, rfl, HN, by first | rfl | trivial⟩
            case measure => simp [intOf]; omega
      · have hki : (k : Int) < (s.length : Int) := by omega
        have hkq : ¬ (k : Int) < 20 := by omega
        have HE : Hid (∀ v, v = (if b = true then y else if y = -9223372036854775808 then y else -y) → ∀ n, I64 n → s = Lib.itoa n → v = n) := fun v hv => HR.out.done (Or.inr (by omega)) v hv
        cases b with
        | true =>
          go_wp2
          go_ret
          exact ⟨⟨y, rfl, hy, HE.out y (by simp)⟩, rfl⟩
        | false =>
          by_cases hmin : y = -9223372036854775808
          · have HF : Hid (∀ n, I64 n → s = Lib.itoa n → y = n) := HE.out y (by simp [hmin])
            have hwn : wrap64 (-y) = y := by unfold wrap64; omega
            clear hmin HE
            go_wp2
            go_ret
            exact ⟨⟨y, rfl, hy, HF.out⟩, rfl⟩
          · have HF : Hid (∀ n, I64 n → s = Lib.itoa n → -y = n) := HE.out (-y) (by simp [hmin])
            have hwn : wrap64 (-y) = -y := by unfold wrap64; omega
            go_wp2
            go_ret
            exact ⟨⟨-y, rfl, ⟨by omega, by omega⟩, HF.out⟩, rfl⟩
    · have hki : ¬ (k : Int) < (s.length : Int) := by omega
      have HE : Hid (∀ v, v = (if b = true then y else if y = -9223372036854775808 then y else -y) → ∀ n, I64 n → s = Lib.itoa n → v = n) := fun v hv => HR.out.done (Or.inl (by omega)) v hv
      cases b with
      | true =>
        go_wp2
        go_ret
        exact ⟨⟨y, rfl, hy, HE.out y (by simp)⟩, rfl⟩
      | false =>
        by_cases hmin : y = -9223372036854775808
        · have HF : Hid (∀ n, I64 n → s = Lib.itoa n → y = n) := HE.out y (by simp [hmin])
          have hwn : wrap64 (-y) = y := by unfold wrap64; omega
          clear hmin HE
          go_wp2
          go_ret
          exact ⟨⟨y, rfl, hy, HF.out⟩, rfl⟩
        · have HF : Hid (∀ n, I64 n → s = Lib.itoa n → -y = n) := HE.out (-y) (by simp [hmin])
          have hwn : wrap64 (-y) = -y := by unfold wrap64; omega
          go_wp2
          go_ret
          exact ⟨⟨-y, rfl, ⟨by omega, by omega⟩, HF.out⟩, rfl⟩
end Go.Proofs.YtlnppgjppfkocaaGreatDoor.Xs

/-! Plain facts on short numbers. -/
namespace Go.Proofs.YtlnppgjppfkocaaGreatDoor.Plain

def uvF : Nat → Nat → List Nat
  | 0, v => [v]
  | k + 1, v => if v < 128 then [v] else (v % 128 + 128) :: uvF k (v / 128)
theorem uvF_enough : ∀ (k m v : Nat), v ≤ k → v ≤ m → uvF k v = uvF m v
  | 0, 0, v, _, _ => rfl
  | 0, m + 1, v, h, _ => by
    obtain rfl : v = 0 := by omega
    rfl
  | k + 1, 0, v, _, h => by
    obtain rfl : v = 0 := by omega
    rfl
  | k + 1, m + 1, v, h, h' => by
    simp only [uvF]
    split
    · rfl
    · rw [uvF_enough k m (v / 128) (by omega) (by omega)]
def uv (v : Nat) : List Nat := uvF v v

theorem uv_lt {v : Nat} (h : v < 128) : uv v = [v] := by
  unfold uv
  cases v with
  | zero => rfl
  | succ v => simp only [uvF]; rw [if_pos h]
theorem uv_ge {v : Nat} (h : ¬ v < 128) : uv v = (v % 128 + 128) :: uv (v / 128) := by
  unfold uv
  cases v with
  | zero => omega
  | succ v =>
    simp only [uvF]
    rw [if_neg h, uvF_enough v ((v + 1) / 128) ((v + 1) / 128) (by omega) (Nat.le_refl _)]

/-- What bytes say that are read as a short number, i of them having been read, which came to acc. -/
def rdGo : List Nat → Nat → Nat → Nat × Nat × Nat
  | [], _, _ => (0, 0, 10)
  | c :: cs, i, acc =>
    if (0 < i ∧ c = 0) ∨ (i = 9 ∧ c ≠ 1) then (0, 0, 11)
    else if c < 128 then (acc + c % 128 * 2 ^ (7 * i), i + 1, 0)
    else rdGo cs (i + 1) (acc + c % 128 * 2 ^ (7 * i))

def rd (l : List Nat) : Nat × Nat × Nat := rdGo l 0 0

theorem uv_pos (v : Nat) : 1 ≤ (uv v).length := by
  by_cases h : v < 128
  · rw [uv_lt h]; simp
  · rw [uv_ge h]; simp

theorem uv_byte : ∀ (v : Nat), ∀ c ∈ uv v, c < 256 := by
  intro v
  induction v using Nat.strongRecOn with
  | ind v ih =>
    by_cases h : v < 128
    · rw [uv_lt h]; simp; omega
    · rw [uv_ge h]
      intro c hc
      rcases List.mem_cons.mp hc with rfl | hc
      · omega
      · exact ih (v / 128) (by omega) c hc

theorem pow_step (i : Nat) : 2 ^ (7 * (i + 1)) = 2 ^ (7 * i) * 128 := by rw [Nat.mul_add, Nat.pow_add]

theorem pow_le_of {u i : Nat} (hu : 0 < u) (h : u * 2 ^ (7 * i) < 2 ^ 64) : i ≤ 9 := by
  apply Classical.byContradiction
  intro hi
  have h1 : 2 ^ 70 ≤ 2 ^ (7 * i) := Nat.pow_le_pow_right (by decide) (by omega)
  have h2 : 1 * 2 ^ (7 * i) ≤ u * 2 ^ (7 * i) := Nat.mul_le_mul_right _ hu
  have h3 : (2 : Nat) ^ 64 < 2 ^ 70 := by decide
  omega

/-- What is written is read back, whatever stands behind. -/
theorem rd_uv : ∀ (v i acc : Nat) (t : List Nat), v * 2 ^ (7 * i) < 2 ^ 64 → (i = 0 ∨ 0 < v) → i ≤ 9 → rdGo (uv v ++ t) i acc = (acc + v * 2 ^ (7 * i), i + (uv v).length, 0) := by
  intro v
  induction v using Nat.strongRecOn with
  | ind v ih =>
    intro i acc t hlt hv hi
    by_cases h : v < 128
    · rw [uv_lt h]
      simp only [List.singleton_append, rdGo]
      rw [if_neg, if_pos h]
      · simp [Nat.mod_eq_of_lt h]
      · rintro (⟨h1, h2⟩ | ⟨h1, h2⟩)
        · omega
        · subst h1
          have : v * 2 ^ 63 < 2 ^ 64 := hlt
          omega
    · rw [uv_ge h]
      have hm : (v % 128 + 128) % 128 = v % 128 := by omega
      simp only [List.cons_append, rdGo]
      have hi8 : i ≤ 8 := by
        apply Classical.byContradiction
        intro h8
        have e : i = 9 := by omega
        subst e
        have : v * 2 ^ 63 < 2 ^ 64 := hlt
        omega
      rw [if_neg (by omega), if_neg (by omega), hm, ih (v / 128) (by omega) (i + 1) _ t ?_ (.inr (by omega)) (by omega)]
      · have e : v % 128 * 2 ^ (7 * i) + v / 128 * 2 ^ (7 * (i + 1)) = v * 2 ^ (7 * i) := by
          rw [pow_step, ← Nat.mul_assoc, Nat.mul_right_comm, ← Nat.add_mul]
          congr 1
          omega
        rw [Nat.add_assoc, e]
        simp
        omega
      · rw [pow_step]
        have : v / 128 * (2 ^ (7 * i) * 128) ≤ v * 2 ^ (7 * i) := by
          rw [Nat.mul_comm (2 ^ (7 * i)), ← Nat.mul_assoc]
          exact Nat.mul_le_mul_right _ (by omega)
        omega

/-- A part of it is too short. -/
theorem rd_part : ∀ (v i acc n : Nat), v * 2 ^ (7 * i) < 2 ^ 64 → i ≤ 9 → n < (uv v).length → rdGo ((uv v).take n) i acc = (0, 0, 10) := by
  intro v
  induction v using Nat.strongRecOn with
  | ind v ih =>
    intro i acc n hlt hi hn
    cases n with
    | zero => rfl
    | succ n =>
      by_cases h : v < 128
      · rw [uv_lt h] at hn; simp at hn
      · rw [uv_ge h] at hn ⊢
        simp only [List.take_succ_cons, rdGo]
        have hi8 : i ≤ 8 := by
          apply Classical.byContradiction
          intro h8
          have e : i = 9 := by omega
          subst e
          have : v * 2 ^ 63 < 2 ^ 64 := hlt
          omega
        rw [if_neg (by omega), if_neg (by omega)]
        refine ih (v / 128) (by omega) (i + 1) _ n ?_ (by omega) (by simpa using hn)
        rw [pow_step]
        have : v / 128 * (2 ^ (7 * i) * 128) ≤ v * 2 ^ (7 * i) := by
          rw [Nat.mul_comm (2 ^ (7 * i)), ← Nat.mul_assoc]
          exact Nat.mul_le_mul_right _ (by omega)
        omega

/-- Whatever is taken is what is written for it. -/
theorem rd_taken : ∀ (l : List Nat) (i acc : Nat), i ≤ 9 → (∀ c ∈ l, c < 256) → (rdGo l i acc).2.2 = 0 →
    ∃ u, (i = 0 ∨ 0 < u) ∧ (rdGo l i acc).1 = acc + u * 2 ^ (7 * i) ∧ u * 2 ^ (7 * i) < 2 ^ 64 ∧ (rdGo l i acc).2.1 = i + (uv u).length ∧ uv u <+: l
  | [], _, _, _, _, h => by simp [rdGo] at h
  | c :: cs, i, acc, hi, hb, h => by
    have hc := hb c (by simp)
    simp only [rdGo] at h ⊢
    by_cases h1 : (0 < i ∧ c = 0) ∨ (i = 9 ∧ c ≠ 1)
    · rw [if_pos h1] at h; simp at h
    · rw [if_neg h1] at h ⊢
      by_cases h2 : c < 128
      · rw [if_pos h2] at h ⊢
        refine ⟨c, by omega, by simp [Nat.mod_eq_of_lt h2], ?_, by simp [uv_lt h2], by rw [uv_lt h2]; exact ⟨cs, rfl⟩⟩
        by_cases h9 : i = 9
        · subst h9
          have : c = 1 := by omega
          subst this
          decide
        · have h3 : c * 2 ^ (7 * i) ≤ 127 * 2 ^ 56 := Nat.mul_le_mul (by omega) (Nat.pow_le_pow_right (by decide) (by omega))
          omega
      · rw [if_neg h2] at h ⊢
        obtain ⟨u, hu, e1, e2, e3, e4⟩ := rd_taken cs (i + 1) _ (by omega) (fun c hc => hb c (by simp [hc])) h
        have hu' : 0 < u := by omega
        have hge : ¬ (c % 128 + 128 * u) < 128 := by omega
        have hmod : (c % 128 + 128 * u) % 128 + 128 = c := by omega
        have hdiv : (c % 128 + 128 * u) / 128 = u := by omega
        have hval : (c % 128 + 128 * u) * 2 ^ (7 * i) = c % 128 * 2 ^ (7 * i) + u * 2 ^ (7 * (i + 1)) := by
          rw [pow_step, Nat.add_mul, Nat.mul_comm (2 ^ (7 * i)), ← Nat.mul_assoc u, Nat.mul_comm u]
        refine ⟨c % 128 + 128 * u, by omega, ?_, ?_, ?_, ?_⟩
        · rw [e1, hval]; omega
        · rw [hval]
          have hu2 : u * 2 ^ (7 * (i + 1)) + 2 ^ (7 * (i + 1)) ≤ 2 ^ 64 := by
            have hi9 := pow_le_of hu' e2
            by_cases h9 : i + 1 = 9
            · rw [h9] at e2 ⊢; omega
            · obtain ⟨k, hk⟩ : ∃ k, 2 ^ 64 = k * 2 ^ (7 * (i + 1)) := ⟨2 ^ (64 - 7 * (i + 1)), by rw [← Nat.pow_add]; congr 1; omega⟩
              rw [hk] at e2 ⊢
              have := Nat.lt_of_mul_lt_mul_right e2
              calc u * 2 ^ (7 * (i + 1)) + 2 ^ (7 * (i + 1)) = (u + 1) * 2 ^ (7 * (i + 1)) := by rw [Nat.add_mul, Nat.one_mul]
                _ ≤ k * 2 ^ (7 * (i + 1)) := Nat.mul_le_mul_right _ this
          have h4 : c % 128 * 2 ^ (7 * i) < 128 * 2 ^ (7 * i) := Nat.mul_lt_mul_of_pos_right (by omega) (Nat.pow_pos (by decide))
          rw [pow_step] at hu2 ⊢
          omega
        · rw [e3, uv_ge hge, hdiv]; simp; omega
        · rw [uv_ge hge, hmod, hdiv]; exact List.cons_prefix_cons.mpr ⟨rfl, e4⟩

/-- Where nothing is taken. -/
theorem rd_refused : ∀ (l : List Nat) (i acc : Nat), (rdGo l i acc).2.2 ≠ 0 → rdGo l i acc = (0, 0, 10) ∨ rdGo l i acc = (0, 0, 11)
  | [], _, _, _ => by simp [rdGo]
  | c :: cs, i, acc, h => by
    simp only [rdGo] at h ⊢
    by_cases h1 : (0 < i ∧ c = 0) ∨ (i = 9 ∧ c ≠ 1)
    · rw [if_pos h1]; simp
    · rw [if_neg h1] at h ⊢
      by_cases h2 : c < 128
      · rw [if_pos h2] at h; simp at h
      · rw [if_neg h2] at h ⊢
        exact rd_refused cs _ _ h

theorem uv_len : ∀ v i : Nat, v < 2 ^ (7 * (i + 1)) → (uv v).length ≤ i + 1 := by
  intro v
  induction v using Nat.strongRecOn with
  | ind v ih =>
    intro i h
    by_cases h1 : v < 128
    · rw [uv_lt h1]; simp
    · rw [uv_ge h1]
      cases i with
      | zero => simp at h; omega
      | succ i =>
        have := ih (v / 128) (by omega) i (by rw [pow_step] at h; omega)
        simp; omega

theorem uv_len10 {v : Nat} (h : v < 2 ^ 64) : (uv v).length ≤ 10 := uv_len v 9 (Nat.lt_of_lt_of_le h (by decide))

theorem uv_mono : ∀ v w : Nat, v ≤ w → (uv v).length ≤ (uv w).length := by
  intro v
  induction v using Nat.strongRecOn with
  | ind v ih =>
    intro w h
    by_cases h1 : v < 128
    · rw [uv_lt h1]; exact uv_pos w
    · rw [uv_ge h1, uv_ge (show ¬ w < 128 by omega)]
      have := ih (v / 128) (by omega) (w / 128) (by omega)
      simp; omega

/-- No short number begins another one. -/
theorem uv_apart : ∀ v w : Nat, uv v <+: uv w → v = w := by
  intro v
  induction v using Nat.strongRecOn with
  | ind v ih =>
    intro w h
    by_cases h1 : v < 128
    · by_cases h2 : w < 128
      · rw [uv_lt h1, uv_lt h2] at h
        have := List.cons_prefix_cons.mp h
        exact this.1
      · rw [uv_lt h1, uv_ge h2] at h
        have := (List.cons_prefix_cons.mp h).1
        omega
    · by_cases h2 : w < 128
      · rw [uv_ge h1, uv_lt h2] at h
        have := (List.cons_prefix_cons.mp h).1
        omega
      · rw [uv_ge h1, uv_ge h2] at h
        obtain ⟨e1, e2⟩ := List.cons_prefix_cons.mp h
        have := ih (v / 128) (by omega) (w / 128) e2
        omega
end Go.Proofs.YtlnppgjppfkocaaGreatDoor.Plain

/-! Slices of bytes in memory. -/
namespace Go.Proofs.YtlnppgjppfkocaaGreatDoor
open Go.RowKit Plain
set_option linter.unusedVariables false

/-- v is a slice of bytes that reads as l. -/
def BytesAt (w : World) (v : Value) (l : List Nat) : Prop :=
  ∃ a cap, v = .slice a l.length cap ∧ l.length ≤ cap ∧ cap ≤ maxLen ∧ (∀ c ∈ l, c < 256) ∧
    (l ≠ [] → ∃ b off, a = some ⟨b, off, none⟩ ∧ ∀ j, j < l.length → w.cell? ⟨b, off + j, none⟩ = some (.int .u8 ((l.getD j 0 : Nat) : Int)))

theorem cell_lt {w : World} {a : Addr} {v : Value} (h : w.cell? a = some v) : a.block < w.heap.size := by
  unfold World.cell? at h
  cases e : w.heap[a.block]? with
  | none => rw [e] at h; simp at h
  | some o => exact (Array.getElem?_eq_some_iff.mp e).1

theorem BytesAt.of_cells {w w' : World} {v : Value} {l : List Nat} (h : BytesAt w v l) (hc : ∀ b o u, w.cell? ⟨b, o, none⟩ = some u → w'.cell? ⟨b, o, none⟩ = some u) : BytesAt w' v l := by
  obtain ⟨a, cap, rfl, h1, h2, h3, h4⟩ := h
  refine ⟨a, cap, rfl, h1, h2, h3, fun hne => ?_⟩
  obtain ⟨b, off, rfl, h5⟩ := h4 hne
  exact ⟨b, off, rfl, fun j hj => hc _ _ _ (h5 j hj)⟩

theorem BytesAt.later {w w' : World} {v : Value} {l : List Nat} (h : BytesAt w v l) (hb : Below w.heap.size w w') : BytesAt w' v l :=
  h.of_cells fun b o u hu => by rw [hb.cell (cell_lt hu)]; exact hu

theorem BytesAt.drewN {w : World} {v : Value} {l : List Nat} (h : BytesAt w v l) (n : Nat) : BytesAt (w.drewN n) v l := h
theorem BytesAt.len {w : World} {v : Value} {l : List Nat} (h : BytesAt w v l) : l.length ≤ maxLen := by
  obtain ⟨a, cap, rfl, h1, h2, h3, h4⟩ := h
  omega
theorem BytesAt.byte {w : World} {v : Value} {l : List Nat} (h : BytesAt w v l) : ∀ c ∈ l, c < 256 := by
  obtain ⟨a, cap, rfl, h1, h2, h3, h4⟩ := h
  exact h3
theorem BytesAt.nil (w : World) : BytesAt w (.slice none 0 0) [] := ⟨none, 0, rfl, by simp, by simp, by simp, by simp⟩

theorem getD_take (l : List Nat) (n j : Nat) (h : j < n) : (l.take n).getD j 0 = l.getD j 0 := by
  simp [List.getD_eq_getElem?_getD, h]

theorem BytesAt.take {w : World} {a : Option Addr} {len cap : Nat} {l : List Nat} (h : BytesAt w (.slice a len cap) l) (n : Nat) (hn : n ≤ l.length) : BytesAt w (.slice a n cap) (l.take n) := by
  obtain ⟨a', cap', e, h1, h2, h3, h4⟩ := h
  simp only [Value.slice.injEq] at e
  obtain ⟨rfl, rfl, rfl⟩ := e
  have hl : (l.take n).length = n := by simp; omega
  refine ⟨a, cap, by rw [hl], by omega, h2, fun c hc => h3 c (List.mem_of_mem_take hc), fun hne => ?_⟩
  obtain ⟨b, off, rfl, h5⟩ := h4 (by rintro rfl; simp at hne)
  refine ⟨b, off, rfl, fun j hj => ?_⟩
  rw [getD_take l n j (by omega)]
  exact h5 j (by omega)

/-- The cells of a row of bytes. -/
def cellsOf (l : List Nat) : List Value := l.map fun c : Nat => Value.int .u8 (Int.ofNat c)

theorem BytesAt.of_owns {w : World} {base : Nat} {v : Value} {n : Nat} {l : List Nat} (h : w.ownsRow base 5 1 v n (cellsOf l)) (hb : ∀ c ∈ l, c < 256) : BytesAt w v l := by
  obtain ⟨h1, h2⟩ := h
  have hn : l.length = n := by simpa [cellsOf] using h1
  subst hn
  rcases h2 with ⟨rfl, h0⟩ | ⟨g, cap, cur, rfl, hg, hh, hle, hm, hs, ht⟩
  · have : l = [] := List.length_eq_zero_iff.mp h0
    subst this
    exact BytesAt.nil w
  · refine ⟨_, cap, rfl, hle, hm, hb, fun hne => ⟨g, 0, rfl, fun j hj => ?_⟩⟩
    have hj2 : (cellsOf l)[j]? = some (.int .u8 ((l.getD j 0 : Nat) : Int)) := by
      simp [cellsOf, List.getD_eq_getElem?_getD, List.getElem?_eq_getElem hj]
    rw [← ht, List.getElem?_take_of_lt (by omega)] at hj2
    simp only [World.cell?, hh, Nat.zero_add]
    simpa using hj2

theorem ownsRow_below {w w' : World} {base : Nat} {v : Value} {n : Nat} {xs : List Value} (h : w.ownsRow base 5 1 v n xs) (hb : Below w.heap.size w w') : w'.ownsRow base 5 1 v n xs := by
  refine ⟨h.1, ?_⟩
  rcases h.2 with h0 | ⟨g, cap, cur, rfl, hg, hh, hrest⟩
  · exact .inl h0
  · exact .inr ⟨g, cap, cur, rfl, hg, by rw [hb.block g (Array.getElem?_eq_some_iff.mp hh).1]; exact hh, hrest⟩

theorem below_on {w u v : World} (h : Below w.heap.size w u) (k : Below u.heap.size u v) : Below w.heap.size w v := h.trans (k.mono h.size)

/-- A row of numbers that came in, as bytes. -/
theorem bytes_of_row {w : World} {a : Option Addr} {len cap : Nat} {zs : List Int}
    (h : (a = none ∧ len = 0 ∧ cap = 0 ∧ zs = []) ∨ ∃ x, a = some x ∧ len ≤ cap ∧ cap ≤ maxLen ∧ zs.length = cap ∧ (∀ i, i < zs.length → w.cell? (x.add i) = some (.int .u8 (zs.getD i 0))) ∧ ∀ n ∈ zs, (Lit.int .u8 n).wf = true) :
    ∃ l : List Nat, l.length = len ∧ BytesAt w (.slice a len cap) l := by
  rcases h with ⟨rfl, rfl, rfl, rfl⟩ | ⟨x, rfl, h1, h2, h3, h4, h5⟩
  · exact ⟨[], rfl, BytesAt.nil w⟩
  · have hl : ((zs.take len).map Int.toNat).length = len := by simp; omega
    refine ⟨(zs.take len).map Int.toNat, hl, some x, cap, by rw [hl], by omega, h2, fun c hc => ?_, fun hne => ?_⟩
    · obtain ⟨n, hn, rfl⟩ := List.mem_map.mp hc
      have := bounds_u8 (h5 n (List.mem_of_mem_take hn))
      omega
    · have hz : 0 < zs.length := by
        have := List.length_pos_iff.mpr hne
        omega
      obtain ⟨b, off, rfl, hc⟩ := ints_at h4 hz
      refine ⟨b, off, rfl, fun j hj => ?_⟩
      rw [hl] at hj
      rw [hc j (by omega)]
      have hjz : j < zs.length := by omega
      have hb := bounds_u8 (h5 zs[j] (List.getElem_mem hjz))
      have e1 : zs.getD j 0 = zs[j] := by simp [List.getD_eq_getElem?_getD, hjz]
      have e2 : ((zs.take len).map Int.toNat).getD j 0 = zs[j].toNat := by
        simp [List.getD_eq_getElem?_getD, List.getElem?_take_of_lt hj, hjz]
      rw [e1, e2]
      congr 2
      omega

theorem Tryz.info5 : (Tryz.prog.info? 5).map (fun i => (i.zero, i.size, i.bytes)) = some (some (.int .u8 0), 1, 1) := by kernel_rfl
end Go.Proofs.YtlnppgjppfkocaaGreatDoor

namespace Go.Proofs.YtlnppgjppfkocaaGreatDoor
open Go.RowKit Plain
set_option linter.unusedVariables false

theorem mask127 {c : Int} (h₀ : 0 ≤ c) (h₁ : c ≤ 255) : bits .and .u8 c 127 = c % 128 := bits_mask .u8 8 (by decide) wraps_u8 7 (by decide) c h₀ (by omega)

/-- A group of seven bits is laid above those that are there. -/
theorem or_add (X c i : Nat) (hX : X < 2 ^ (7 * i)) (hi : i ≤ 9) (hc : c < 128) (h9 : i = 9 → c ≤ 1) :
    bits .or .u64 (X : Int) (IntKind.u64.wrap ((c : Int) * 2 ^ (7 * i))) = ((X + c * 2 ^ (7 * i) : Nat) : Int) := by
  have h1 : c * 2 ^ (7 * i) < 2 ^ 64 := by
    by_cases h : i = 9
    · have := h9 h
      subst h
      have : c * 2 ^ 63 ≤ 1 * 2 ^ 63 := Nat.mul_le_mul_right _ this
      show c * 2 ^ 63 < 2 ^ 64
      omega
    · have h3 : c * 2 ^ (7 * i) ≤ 127 * 2 ^ 56 := Nat.mul_le_mul (by omega) (Nat.pow_le_pow_right (by decide) (by omega))
      omega
  have h2 : X < 2 ^ 64 := Nat.lt_of_lt_of_le hX (Nat.pow_le_pow_right (by decide) (by omega))
  have e : ((c : Int) * 2 ^ (7 * i)) = ((c * 2 ^ (7 * i) : Nat) : Int) := by simp
  rw [e, IntWalk.u64_in _ ⟨by omega, by omega⟩, u64_or_nat X _ (by omega) (by omega)]
  rw [Nat.or_comm, ← Nat.shiftLeft_eq, ← Nat.shiftLeft_add_eq_or_of_lt hX, Nat.shiftLeft_eq, Nat.add_comm]

theorem drop_n {l : List Nat} {k : Nat} (h : k < l.length) : l.drop k = l.getD k 0 :: l.drop (k + 1) := by
  rw [List.drop_eq_getElem_cons h]
  simp [List.getD_eq_getElem?_getD, List.getElem?_eq_getElem h]

theorem take_snoc {l : List Nat} {k : Nat} (h : k < l.length) : l.take (k + 1) = l.take k ++ [l.getD k 0] := by
  rw [List.take_succ_eq_append_getElem h]
  simp [List.getD_eq_getElem?_getD, List.getElem?_eq_getElem h]

theorem dn2 (w : World) (a b : Nat) : ∃ n, (w.drewN a).drewN b = w.drewN n := ⟨a + b, World.drewN_drewN _ _ _⟩

theorem or_zero {X c : Nat} (h : bits .or .u64 (X : Int) (IntKind.u64.wrap ((c : Int) % 128 * 2 ^ (7 * 0))) = ((X + c % 128 * 2 ^ (7 * 0) : Nat) : Int)) : bits .or .u64 (X : Int) ((c : Int) % 128) = ((X + c % 128 * 2 ^ (7 * 0) : Nat) : Int) := by
  rw [show ((c : Int) % 128 * 2 ^ (7 * 0)) = (c : Int) % 128 by simp, IntWalk.u64_in _ ⟨by omega, by omega⟩] at h
  exact h

theorem acc_lt (X c k : Nat) (hX : X < 2 ^ (7 * k)) : X + c % 128 * 2 ^ (7 * k) < 2 ^ (7 * (k + 1)) := by
  rw [pow_step]
  have : c % 128 * 2 ^ (7 * k) ≤ 127 * 2 ^ (7 * k) := Nat.mul_le_mul_right _ (by omega)
  omega

theorem ret3 {a a' b b' c c' : Int} (h1 : a = a') (h2 : b = b') (h3 : c = c') : Ending.returned (.tuple #[.int .u64 a, .int .i64 b, .int .i64 c]) = .returned (.tuple #[.int .u64 a', .int .i64 b', .int .i64 c']) := by rw [h1, h2, h3]




end Go.Proofs.YtlnppgjppfkocaaGreatDoor
