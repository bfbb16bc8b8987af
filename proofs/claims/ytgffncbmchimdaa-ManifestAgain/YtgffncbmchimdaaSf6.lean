import Derived.Test.YtgffncbmchimdaaSf5
/-! Names. -/
namespace Go.Proofs.Ytgffncbmchimdaa
open Go.RowKit Go.Maps Plain
set_option linter.unusedVariables false
set_option linter.unusedSimpArgs false

def alnum (c : Nat) : Bool := (decide (97 ≤ c) && decide (c ≤ 122)) || (decide (48 ≤ c) && decide (c ≤ 57))
def okc (c : Nat) : Bool := alnum c || c == 46 || c == 45 || c == 95
theorem retBo {a b : Bool} (h : a = b) : Ending.returned (.bool a) = .returned (.bool b) := by rw [h]
set_option maxRecDepth 100000 in
theorem isAlnumOf (c : Nat) (w : World) (hc : c < 256) : Calls Try.prog 60 #[.int .u8 (c : Int)] w fun e w' => e = .returned (.bool (alnum c)) ∧ w' = w := by
  go_enter Try.func60, Try.ntmps60
  go_wp2
  all_goals
    go_ret
    exact ⟨retBo (by unfold alnum; first | rfl | (rw [Bool.eq_iff_iff]; simp; omega) | (simp; omega)), rfl⟩
def nmL (l : Nm) : Bool := decide (0 < l.length) && decide (l.length ≤ 32) && alnum (l.headD 0).toNat && l.all (fun c => okc c.toNat)
theorem sget (s : ByteArray) (i : Nat) (h : i < s.size) : s.data.toList[i]? = some s[i] := by
  have h' : i < s.data.size := h
  have e : s.data.toList[i]? = s.data[i]? := by simp
  rw [e, Array.getElem?_eq_getElem h']
  rfl
theorem nm_first {s : ByteArray} (h : 0 < s.size) (hn : alnum (s[0]'h).toNat = false) : nmL s.data.toList = false := by
  have h1 := sget s 0 h
  unfold nmL
  have h2 : s.data.toList.headD 0 = s[0]'h := by
    cases e : s.data.toList with
    | nil => rw [e] at h1; simp at h1
    | cons a l => rw [e] at h1; simp at h1; simp [h1]
  rw [h2, hn]
  simp
theorem nm_bad {s : ByteArray} {i : Nat} (h : i < s.size) (hn : okc (s[i]'h).toNat = false) : nmL s.data.toList = false := by
  have h1 := sget s i h
  have h2 : s.data.toList.all (fun c => okc c.toNat) = false := by
    rw [List.all_eq_false]
    exact ⟨s[i]'h, List.mem_of_getElem? h1, by simp [hn]⟩
  unfold nmL
  rw [h2]
  simp
theorem nm_good {s : ByteArray} (h0 : 0 < s.size) (h32 : s.size ≤ 32) (ha : alnum (s[0]'h0).toNat = true) (hall : ∀ i (h : i < s.size), okc (s[i]'h).toNat = true) : nmL s.data.toList = true := by
  have h1 := sget s 0 h0
  have hl : s.data.toList.length = s.size := by simp
  have h2 : s.data.toList.headD 0 = s[0]'h0 := by
    cases e : s.data.toList with
    | nil => rw [e] at h1; simp at h1
    | cons a l => rw [e] at h1; simp at h1; simp [h1]
  have h3 : s.data.toList.all (fun c => okc c.toNat) = true := by
    rw [List.all_eq_true]
    intro c hc
    obtain ⟨i, hi, e⟩ := List.getElem_of_mem hc
    have hi' : i < s.size := by rw [← hl]; exact hi
    have h4 := sget s i hi'
    rw [List.getElem?_eq_getElem hi, e] at h4
    simp only [Option.some.injEq] at h4
    rw [h4]
    exact hall i hi'
  unfold nmL
  rw [h2, ha, h3, hl]
  simp
  omega
theorem nm_size {s : ByteArray} (h : s.size = 0 ∨ 32 < s.size) : nmL s.data.toList = false := by
  have hl : s.data.toList.length = s.size := by simp
  unfold nmL
  rw [hl]
  rcases h with h | h
  · simp [h]
  · simp; omega
theorem u8lt (c : UInt8) : c.toNat < 256 := UInt8.toNat_lt c

set_option maxHeartbeats 1000000 in
set_option maxRecDepth 100000 in
theorem isNameOf (s : ByteArray) (w : World) (hs : s.size ≤ maxLen) : Calls Try.prog 52 #[.string s] w fun e w' => e = .returned (.bool (nmL s.data.toList)) ∧ w' = w := by
  unfold maxLen at hs
  by_cases h0 : s.size = 0
  · rw [nm_size (.inl h0)]
    have h1 : ((s.size : Int) == 0) = true := by rw [h0]; rfl
    clear h0
    go_enter Try.func52, Try.ntmps52
    go_wp2
    go_ret
    exact ⟨rfl, rfl⟩
  have h1 : ((s.size : Int) == 0) = false := beq_eq_false_iff_ne.mpr (by omega)
  by_cases h32 : 32 < s.size
  · rw [nm_size (.inr h32)]
    go_enter Try.func52, Try.ntmps52
    go_wp2
    go_ret
    exact ⟨rfl, rfl⟩
  have h2 : ¬ ((s.size : Int) > 32) := by omega
  have hp : 0 < s.size := by omega
  go_enter Try.func52, Try.ntmps52
  go_wp2_with fail
  refine (isAlnumOf _ w (u8lt _)).mono ?_
  rintro e w1 ⟨rfl, rfl⟩
  cases hal : alnum (s[0]'hp).toNat with
  | false =>
    have HN : Hid (nmL s.data.toList = false) := nm_first hp hal
    clear hal
    go_wp2
    go_ret
    exact ⟨retBo HN.out.symm, rfl⟩
  | true =>
    have HAL : Hid (alnum (s[0]'hp).toNat = true) := hal
    clear hal
    go_wp2
    go_loopw [20] (fun s20 wx => ∃ k : Nat, k ≤ s.size ∧ s20 = .int .i64 k ∧ wx = w1 ∧ Hid (∀ i (h : i < s.size), i < k → okc (s[i]'h).toNat = true)) (fun s _ => 100 - (intOf s).toNat)
    case atStart => exact ⟨0, by omega, rfl, rfl, fun i h hi => by omega⟩
    case round =>
      obtain ⟨k, hk, rfl, rfl, HK⟩ := hrel
      by_cases hlt : k < s.size
      · go_wp2_with fail
        refine (isAlnumOf _ wr (u8lt _)).mono ?_
        rintro e w2 ⟨rfl, rfl⟩
        have HNX : Hid (okc (s[k]'hlt).toNat = true → ∀ i (h : i < s.size), i < k + 1 → okc (s[i]'h).toNat = true) := fun ho i h hi => by
          by_cases e : i = k
          · subst e; exact ho
          · exact HK.out i h (by omega)
        have HBD : Hid (okc (s[k]'hlt).toNat = false → nmL s.data.toList = false) := nm_bad hlt
        have hc := u8lt (s[k]'hlt)
        cases hal : alnum (s[k]'hlt).toNat with
        | true =>
          have HO : Hid (okc (s[k]'hlt).toNat = true) := by unfold Hid okc; rw [hal]; rfl
          clear hal
          go_wp2
          go_roundw
          case rel => exact ⟨k + 1, by omega, by go_num, by trivial, HNX.out HO.out⟩
          case measure => simp [intOf]; omega
        | false =>
          have HAF : Hid (alnum (s[k]'hlt).toNat = false) := hal
          clear hal
          by_cases e1 : (s[k]'hlt).toNat = 46
          · have HO : Hid (okc (s[k]'hlt).toNat = true) := by unfold Hid okc; rw [e1]; rfl
            have q1 : (((s[k]'hlt).toNat : Int) != 46) = false := by rw [e1]; rfl
            clear e1
            go_wp2
            go_roundw
            case rel => exact ⟨k + 1, by omega, by go_num, by trivial, HNX.out HO.out⟩
            case measure => simp [intOf]; omega
          have q1 : (((s[k]'hlt).toNat : Int) != 46) = true := by simp only [bne_iff_ne, ne_eq]; omega
          by_cases e2 : (s[k]'hlt).toNat = 45
          · have HO : Hid (okc (s[k]'hlt).toNat = true) := by unfold Hid okc; rw [e2]; rfl
            have q2 : (((s[k]'hlt).toNat : Int) != 45) = false := by rw [e2]; rfl
            clear e2 e1
            go_wp2
            go_roundw
            case rel => exact ⟨k + 1, by omega, by go_num, by trivial, HNX.out HO.out⟩
            case measure => simp [intOf]; omega
          have q2 : (((s[k]'hlt).toNat : Int) != 45) = true := by simp only [bne_iff_ne, ne_eq]; omega
          by_cases e3 : (s[k]'hlt).toNat = 95
          · have HO : Hid (okc (s[k]'hlt).toNat = true) := by unfold Hid okc; rw [e3]; rfl
            have q3 : (((s[k]'hlt).toNat : Int) != 95) = false := by rw [e3]; rfl
            clear e3 e2 e1
            go_wp2
            go_roundw
            case rel => exact ⟨k + 1, by omega, by go_num, by trivial, HNX.out HO.out⟩
            case measure => simp [intOf]; omega
          have q3 : (((s[k]'hlt).toNat : Int) != 95) = true := by simp only [bne_iff_ne, ne_eq]; omega
          have HN : Hid (nmL s.data.toList = false) := HBD.out (by unfold okc; rw [HAF.out]; simp [e1, e2, e3])
          clear e1 e2 e3
          go_wp2
          go_ret
          exact ⟨retBo HN.out.symm, rfl⟩
      · have HG : Hid (nmL s.data.toList = true) := nm_good hp (by omega) HAL.out (fun i h => HK.out i h (by omega))
        go_wp2
        go_ret
        exact ⟨retBo HG.out.symm, rfl⟩
end Go.Proofs.Ytgffncbmchimdaa
