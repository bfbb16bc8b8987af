import Derived.Test.YtgffncbmchimdaaMem
namespace Go.Proofs.Ytgffncbmchimdaa
open Go.RowKit Plain
set_option linter.unusedVariables false

theorem mask127 {c : Int} (h₀ : 0 ≤ c) (h₁ : c ≤ 255) : bits .and .u8 c 127 = c % 128 := bits_mask .u8 8 (by decide) wraps_u8 7 (by decide) c h₀ (by omega)

/-- A group of seven bits is laid above those that are there. -/
theorem or_add (X c i : Nat) (hX : X < 2 ^ (7 * i)) (hi : i ≤ 9) (hc : c < 128) (h9 : i = 9 → c ≤ 1) :
    bits .or .u64 (X : Int) (IntKind.u64.wrap ((c : Int) * 2 ^ (7 * i))) = ((X + c * 2 ^ (7 * i) : Nat) : Int) := by
  have h1 : c * 2 ^ (7 * i) < 2 ^ 64 := by
    by_cases h : i = 9
    · have := h9 h
      subst h
      have : c * 2 ^ 63 ≤ 1 * 2 ^ 63 := Nat.mul_le_mul_right _ this
      show c * 2 ^ 63 < 2 ^ 64
      omega
    · have h3 : c * 2 ^ (7 * i) ≤ 127 * 2 ^ 56 := Nat.mul_le_mul (by omega) (Nat.pow_le_pow_right (by decide) (by omega))
      omega
  have h2 : X < 2 ^ 64 := Nat.lt_of_lt_of_le hX (Nat.pow_le_pow_right (by decide) (by omega))
  have e : ((c : Int) * 2 ^ (7 * i)) = ((c * 2 ^ (7 * i) : Nat) : Int) := by simp
  rw [e, IntWalk.u64_in _ ⟨by omega, by omega⟩, u64_or_nat X _ (by omega) (by omega)]
  rw [Nat.or_comm, ← Nat.shiftLeft_eq, ← Nat.shiftLeft_add_eq_or_of_lt hX, Nat.shiftLeft_eq, Nat.add_comm]

theorem drop_n {l : List Nat} {k : Nat} (h : k < l.length) : l.drop k = l.getD k 0 :: l.drop (k + 1) := by
  rw [List.drop_eq_getElem_cons h]
  simp [List.getD_eq_getElem?_getD, List.getElem?_eq_getElem h]

theorem take_snoc {l : List Nat} {k : Nat} (h : k < l.length) : l.take (k + 1) = l.take k ++ [l.getD k 0] := by
  rw [List.take_succ_eq_append_getElem h]
  simp [List.getD_eq_getElem?_getD, List.getElem?_eq_getElem h]

theorem dn2 (w : World) (a b : Nat) : ∃ n, (w.drewN a).drewN b = w.drewN n := ⟨a + b, World.drewN_drewN _ _ _⟩

theorem or_zero {X c : Nat} (h : bits .or .u64 (X : Int) (IntKind.u64.wrap ((c : Int) % 128 * 2 ^ (7 * 0))) = ((X + c % 128 * 2 ^ (7 * 0) : Nat) : Int)) : bits .or .u64 (X : Int) ((c : Int) % 128) = ((X + c % 128 * 2 ^ (7 * 0) : Nat) : Int) := by
  rw [show ((c : Int) % 128 * 2 ^ (7 * 0)) = (c : Int) % 128 by simp, IntWalk.u64_in _ ⟨by omega, by omega⟩] at h
  exact h

theorem acc_lt (X c k : Nat) (hX : X < 2 ^ (7 * k)) : X + c % 128 * 2 ^ (7 * k) < 2 ^ (7 * (k + 1)) := by
  rw [pow_step]
  have : c % 128 * 2 ^ (7 * k) ≤ 127 * 2 ^ (7 * k) := Nat.mul_le_mul_right _ (by omega)
  omega

theorem ret3 {a a' b b' c c' : Int} (h1 : a = a') (h2 : b = b') (h3 : c = c') : Ending.returned (.tuple #[.int .u64 a, .int .i64 b, .int .i64 c]) = .returned (.tuple #[.int .u64 a', .int .i64 b', .int .i64 c']) := by rw [h1, h2, h3]

set_option maxHeartbeats 400000 in
theorem sameBytes (va vb : Value) (la lb : List Nat) (w : World) (ha : BytesAt w va la) (hb : BytesAt w vb lb) :
    Calls Try.prog 38 #[va, vb] w fun e w' => e = .returned (.bool (decide (la = lb))) ∧ ∃ n, w' = w.drewN n := by
  obtain ⟨a, cap, rfl, hlc, hcm, hby, hcells⟩ := ha
  obtain ⟨a', cap', rfl, hlc', hcm', hby', hcells'⟩ := hb
  unfold maxLen at hcm hcm'
  clear hby hby'
  by_cases hlen : la.length = lb.length
  · by_cases hnil : la = []
    · subst hnil
      have : lb = [] := List.length_eq_zero_iff.mp hlen.symm
      subst this
      clear hcells hcells' hlen
      go_enter Try.func38, Try.ntmps38
      go_wp2
      refine wp_loop_rounds 1 ?_
      rw [rounds_succ]
      go_wp2
      go_ret
      exact ⟨rfl, 0, rfl⟩
    · obtain ⟨b, off, rfl, hc⟩ := hcells hnil
      obtain ⟨b', off', rfl, hc'⟩ := hcells' (by rintro rfl; simp at hlen; exact hnil hlen)
      clear hcells hcells' hnil
      have hne : ((la.length : Int) != (lb.length : Int)) = false := by simp; omega
      have HL : Hid (la.length = lb.length) := hlen
      clear hlen
      go_enter Try.func38, Try.ntmps38
      go_wp2
      go_loopw [5] (fun i w' => ∃ k n : Nat, w' = w.drewN n ∧ k ≤ la.length ∧ i = .int .i64 k ∧ la.take k = lb.take k) (fun i _ => la.length - (intOf i).toNat)
      case atStart => exact ⟨0, 0, rfl, by omega, rfl, rfl⟩
      case round =>
        obtain ⟨k, n, rfl, hk, rfl, ht⟩ := hrel
        have HT : Hid (la.take k = lb.take k) := ht
        clear ht
        by_cases hlt : k < la.length
        · have hcell := hc k hlt
          have hcell' := hc' k (by rw [← HL.out]; exact hlt)
          have hlt' : k < lb.length := by rw [← HL.out]; exact hlt
          obtain ⟨x, hx⟩ : ∃ x, la.getD k 0 = x := ⟨_, rfl⟩
          obtain ⟨y, hy⟩ : ∃ y, lb.getD k 0 = y := ⟨_, rfl⟩
          rw [hx] at hcell
          rw [hy] at hcell'
          have HS : Hid (x = y → la.take (k + 1) = lb.take (k + 1)) := fun e => by
            rw [take_snoc hlt, take_snoc hlt', HT.out, hx, hy, e]
          have HN : Hid (x ≠ y → la ≠ lb) := fun e h => by subst h; exact e (by rw [← hx, ← hy])
          clear hx hy hc hc' HT
          by_cases hxy : x = y
          · have h2 : ((x : Int) != (y : Int)) = false := by simp; omega
            have HS2 := HS.out hxy
            have HS3 : Hid (la.take (k + 1) = lb.take (k + 1)) := HS2
            clear HS HS2 HN hxy
            go_wp2
            go_quiet (fail)
            go_wp2
            go_roundw
            case rel => exact ⟨k + 1, _, rfl, by omega, by go_num, HS3.out⟩
            case measure => simp [intOf]; omega
          · have h2 : ((x : Int) != (y : Int)) = true := by simp; omega
            have HN2 : Hid (la ≠ lb) := HN.out hxy
            clear HS HN hxy
            go_wp2
            go_quiet (fail)
            go_wp2
            go_ret
            exact ⟨by rw [decide_eq_false HN2.out]; rfl, dn2 _ _ _⟩
        · have HE : Hid (la = lb) := by
            have := HT.out
            rw [List.take_of_length_le (by omega), List.take_of_length_le (by rw [← HL.out]; omega)] at this
            exact this
          clear hc hc' HT
          go_wp2
          go_ret
          exact ⟨by rw [decide_eq_true HE.out]; rfl, _, rfl⟩
  · have hne : ((la.length : Int) != (lb.length : Int)) = true := by simp; omega
    have HN : Hid (la ≠ lb) := fun h => hlen (by rw [h])
    clear hcells hcells' hlen
    go_enter Try.func38, Try.ntmps38
    go_wp2
    go_ret
    exact ⟨by rw [decide_eq_false HN.out]; rfl, 0, rfl⟩
end Go.Proofs.Ytgffncbmchimdaa
