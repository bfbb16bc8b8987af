import Derived.Test.YteekmmgopnnioaaDoorMnE
import Derived.Deep.LoopGhost
/-! Names of files: digits, numbers, kinds. -/
namespace Go.Proofs.YteekmmgopnnioaaDoor.Mn
open Go.RowKit
set_option linter.unusedVariables false
set_option linter.unusedSimpArgs false

theorem sget (s : ByteArray) (i : Nat) (h : i < s.size) : s.data.toList[i]? = some s[i] := by
  have h' : i < s.data.size := h
  have e : s.data.toList[i]? = s.data[i]? := by simp
  rw [e, Array.getElem?_eq_getElem h']
  rfl
theorem sdrop (s : ByteArray) (i : Nat) (h : i < s.size) : s.data.toList.drop i = s[i] :: s.data.toList.drop (i + 1) := by
  have hl : s.data.toList.length = s.size := by simp
  rw [List.drop_eq_getElem_cons (by omega)]
  rfl
theorem sdrop_nil (s : ByteArray) (i : Nat) (h : ¬ i < s.size) : s.data.toList.drop i = [] := by
  have hl : s.data.toList.length = s.size := by simp
  exact List.drop_eq_nil_of_le (by omega)
theorem u8lt (c : UInt8) : c.toNat < 256 := c.toNat_lt

/-- Behind j digits. -/
structure DgI (l : By) (a p v : Nat) : Prop where
  val : dgv 0 (l.drop a) = dgv v (l.drop p)
  len : a + dgn (l.drop a) = p + dgn (l.drop p)
  small : v ≤ 1073741824

set_option maxHeartbeats 2000000 in
set_option maxRecDepth 100000 in
theorem digitsOf (s : ByteArray) (a : Nat) (hs : s.size ≤ maxLen) (ha : a ≤ s.size) (w : World) :
    Calls Tryd.prog 26 #[.string s, .int .i64 a] w fun e w' => e = .returned (.tuple #[.int .i64 (dgv 0 (s.data.toList.drop a) : Nat), .int .i64 (a + dgn (s.data.toList.drop a) : Nat)]) ∧ w' = w := by
  unfold maxLen at hs
  go_enter Tryd.func26, Tryd.ntmps26
  go_wp2
  go_loopg [1, 6] (s.size - a) (fun gk s1 s6 wx => ∃ (p v : Nat), p + gk = s.size ∧ s1 = .int .i64 p ∧ s6 = .int .i64 v ∧ Hid (DgI s.data.toList a p v) ∧ wx = w)
  case atStart => exact ⟨a, 0, by omega, rfl, rfl, ⟨rfl, rfl, by omega⟩, rfl⟩
  case round =>
    obtain ⟨p, v, hpg, rfl, rfl, HV, rfl⟩ := hrel
    have hsm := HV.out.small
    cases gk with
    | zero =>
      have hlt : decide ((p : Int) < (s.size : Int)) = false := decide_eq_false (by omega)
      have HD : Hid (dgv 0 (s.data.toList.drop a) = v ∧ a + dgn (s.data.toList.drop a) = p) := by
        have e := sdrop_nil s p (by omega)
        have h1 := HV.out.val
        have h2 := HV.out.len
        rw [e] at h1 h2
        exact ⟨h1, by simpa [dgn] using h2⟩
      go_wp2
      go_ret2
      exact ⟨by rw [HD.out.1, HD.out.2]; rfl, rfl⟩
    | succ gk1 =>
      have hp : p < s.size := by omega
      have hpi : (p : Int) < (s.size : Int) := by omega
      have hcc := sdrop s p hp
      have hc := u8lt (s[p]'hp)
      have hsg : (48 ≤ (s[p]'hp).toNat ∧ (s[p]'hp).toNat ≤ 57) ∨ (¬ (48 ≤ (s[p]'hp).toNat ∧ (s[p]'hp).toNat ≤ 57)) := by omega
      rcases hsg with ⟨g1, g2⟩ | g
      · have hnx : DgI s.data.toList a (p + 1) (min (v * 10 + ((s[p]'hp).toNat - 48)) 1073741824) := by
          have hd : isD (s[p]'hp) = true := by unfold isD; simp [g1, g2]
          have h1 := HV.out.val
          have h2 := HV.out.len
          rw [hcc] at h1 h2
          rw [dgv, if_pos hd] at h1
          rw [dgn, if_pos hd] at h2
          exact ⟨h1, by omega, by omega⟩
        generalize hcd : (s[p]'hp).toNat = c at *
        have HN : Hid (DgI s.data.toList a (p + 1) (min (v * 10 + (c - 48)) 1073741824)) := hnx
        have q1 : (48 : Int) ≤ (c : Int) := by omega
        have q2 : (c : Int) ≤ 57 := by omega
        have w1 : IntKind.u8.wrap ((c : Int) - 48) = ((c - 48 : Nat) : Int) := by rw [IntKind.wrap_u8]; omega
        have w2 : IntKind.i64.wrap ((v : Int) * 10) = ((v * 10 : Nat) : Int) := by rw [IntKind.wrap_i64]; omega
        clear hnx hcc HV
        go_wp2
        go_roundg gk1
        case measure => omega
        case rel => exact ⟨p + 1, min (v * 10 + (c - 48)) 1073741824, by omega, by go_num, by go_num, HN.out, rfl⟩
      · have HD : Hid (dgv 0 (s.data.toList.drop a) = v ∧ a + dgn (s.data.toList.drop a) = p) := by
          have hd : isD (s[p]'hp) = false := by unfold isD; simp; omega
          have h1 := HV.out.val
          have h2 := HV.out.len
          rw [hcc] at h1 h2
          rw [dgv, if_neg (by rw [hd]; simp)] at h1
          rw [dgn, if_neg (by rw [hd]; simp)] at h2
          exact ⟨h1, by omega⟩
        generalize hcd : (s[p]'hp).toNat = c at *
        clear hcc HV
        by_cases g1 : 48 ≤ c
        · have q1 : (48 : Int) ≤ (c : Int) := by omega
          have q2 : decide ((c : Int) ≤ 57) = false := decide_eq_false (by omega)
          go_wp2
          go_ret2
          exact ⟨by rw [HD.out.1, HD.out.2]; rfl, rfl⟩
        · have q1 : decide ((48 : Int) ≤ (c : Int)) = false := decide_eq_false (by omega)
          go_wp2
          go_ret2
          exact ⟨by rw [HD.out.1, HD.out.2]; rfl, rfl⟩
end Go.Proofs.YteekmmgopnnioaaDoor.Mn
