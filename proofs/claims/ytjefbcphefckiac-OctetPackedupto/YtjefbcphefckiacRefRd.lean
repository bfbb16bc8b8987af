import Derived.Test.YtjefbcphefckiacRd
namespace Go.Proofs.Ytjefbcphefckiac
open Go.RowKit Plain
set_option linter.unusedVariables false

theorem mul_lt (c k : Nat) (hk : k ≤ 9) (hc : c < 128) (h9 : k = 9 → c ≤ 1) : c * 2 ^ (7 * k) < 18446744073709551616 := by
  by_cases h : k = 9
  · have := h9 h
    subst h
    have h2 : c * 2 ^ 63 ≤ 1 * 2 ^ 63 := Nat.mul_le_mul_right _ this
    show c * 2 ^ 63 < _
    omega
  · have h3 : c * 2 ^ (7 * k) ≤ 127 * 2 ^ 56 := Nat.mul_le_mul (by omega) (Nat.pow_le_pow_right (by decide) (by omega))
    omega

theorem pow_lt (k : Nat) (hk : k ≤ 9) : 2 ^ (7 * k) ≤ 9223372036854775808 := by
  have : 2 ^ (7 * k) ≤ 2 ^ 63 := Nat.pow_le_pow_right (by decide) (by omega)
  omega
theorem pow_lt8 (k : Nat) (hk : k ≤ 8) : 2 ^ (7 * k) ≤ 72057594037927936 := by
  have : 2 ^ (7 * k) ≤ 2 ^ 56 := Nat.pow_le_pow_right (by decide) (by omega)
  omega

set_option maxHeartbeats 400000 in
set_option maxRecDepth 1000000 in
theorem refReadUvarint (v : Value) (l : List Nat) (w : World) (h : BytesAt w v l) :
    Calls Try.prog 49 #[v] w fun e w' => e = .returned (.tuple #[.int .u64 (rd l).1, .int .i64 (rd l).2.1, .int .i64 (rd l).2.2]) ∧ w' = w := by
  obtain ⟨a, cap, rfl, hlc, hcm, hby, hcells⟩ := h
  unfold maxLen at hcm
  by_cases hnil : l = []
  · subst hnil
    clear hcells
    go_enter Try.func49, Try.ntmps49
    go_wp2
    refine wp_loop_rounds 1 ?_
    rw [rounds_succ]
    go_wp2
    go_ret3
    exact ⟨ret3 rfl rfl rfl, rfl⟩
  · obtain ⟨b, off, rfl, hc⟩ := hcells hnil
    clear hcells
    go_enter Try.func49, Try.ntmps49
    go_wp2
    go_loop [5, 6, 7] (fun x un i => ∃ k X U : Nat, k ≤ l.length ∧ k ≤ 9 ∧ i = .int .i64 k ∧ x = .int .u64 X ∧ un = .int .u64 U ∧ U = 2 ^ (7 * k) ∧ X < 2 ^ (7 * k) ∧ rd l = rdGo (l.drop k) k X) (fun _ _ i => l.length - (intOf i).toNat)
    case atStart => exact ⟨0, 0, 1, by omega, by omega, rfl, rfl, rfl, rfl, by decide, rfl⟩
    case round =>
      obtain ⟨k, X, U, hk, hk9, rfl, rfl, rfl, hU, hX, hd⟩ := hrel
      have HD : Hid (rd l = rdGo (l.drop k) k X) := hd
      have HB : Hid (∀ c ∈ l, c < 256) := hby
      have HU : Hid (U = 2 ^ (7 * k)) := hU
      have hUl : U ≤ 9223372036854775808 := by rw [hU]; exact pow_lt k hk9
      have hXU : X < U := by rw [hU]; exact hX
      clear hd hby hnil hU hX
      by_cases hlt : k < l.length
      · have hcell := hc k hlt
        obtain ⟨c, hcv⟩ : ∃ c, l.getD k 0 = c := ⟨_, rfl⟩
        have hc256 : c < 256 := HB.out c (by rw [← hcv, List.getD_eq_getElem?_getD, List.getElem?_eq_getElem hlt]; simp)
        rw [hcv] at hcell
        have HD2 : Hid (rd l = if (0 < k ∧ c = 0) ∨ (k = 9 ∧ c ≠ 1) then (0, 0, 11) else if c < 128 then (X + c % 128 * U, k + 1, 0) else rdGo (l.drop (k + 1)) (k + 1) (X + c % 128 * U)) := by
          unfold Hid; rw [HD.out, drop_n hlt, hcv, HU.out]; rfl
        have HM : Hid ((k = 9 → c % 128 ≤ 1) → c % 128 * U < 18446744073709551616 ∧ X + c % 128 * U < U * 128 ∧ X + c % 128 * U < 18446744073709551616) := fun h9 => by
          have h1 := mul_lt (c % 128) k hk9 (by omega) h9
          rw [HU.out] at hXU ⊢
          have h2 : c % 128 * 2 ^ (7 * k) ≤ 127 * 2 ^ (7 * k) := Nat.mul_le_mul_right _ (by omega)
          refine ⟨h1, by omega, ?_⟩
          by_cases hk : k = 9
          · have h3 : c % 128 * 2 ^ (7 * k) ≤ 1 * 2 ^ (7 * k) := Nat.mul_le_mul_right _ (h9 hk)
            have := pow_lt k hk9
            omega
          · have := pow_lt8 k (by omega)
            omega
        clear hcv hc HD HB
        by_cases h1 : (0 < k ∧ c = 0) ∨ (k = 9 ∧ c ≠ 1)
        · have HE : Hid (rd l = (0, 0, 11)) := by unfold Hid; rw [HD2.out, if_pos h1]
          clear HD2 HM
          by_cases h0 : c = 0
          · subst h0
            have hk0 : 0 < k := by omega
            by_cases hk9' : k = 9
            · subst hk9'
              go_wp2
              go_ret3
              exact ⟨ret3 (by rw [HE.out]; rfl) (by rw [HE.out]; rfl) (by rw [HE.out]; rfl), rfl⟩
            · have h9f : ((k : Int) == 9) = false := by simp; omega
              go_wp2
              go_ret3
              exact ⟨ret3 (by rw [HE.out]; rfl) (by rw [HE.out]; rfl) (by rw [HE.out]; rfl), rfl⟩
          · obtain ⟨rfl, hc1⟩ : k = 9 ∧ c ≠ 1 := by omega
            have hc2 : 1 < c := by omega
            clear h1 h0
            go_wp2
            go_ret3
            exact ⟨ret3 (by rw [HE.out]; rfl) (by rw [HE.out]; rfl) (by rw [HE.out]; rfl), rfl⟩
        · have HD3 : Hid (rd l = if c < 128 then (X + c % 128 * U, k + 1, 0) else rdGo (l.drop (k + 1)) (k + 1) (X + c % 128 * U)) := by
            unfold Hid; rw [HD2.out, if_neg h1]
          clear HD2
          obtain ⟨hm1, hm2, hm3⟩ := HM.out (by omega)
          obtain ⟨G, hG⟩ : ∃ G : Nat, c % 128 * U = G := ⟨_, rfl⟩
          have hmul : ((c : Int) % 128) * (U : Int) = (G : Int) := by rw [← hG]; simp
          rw [hG] at hm1 hm2 hm3 HD3
          clear HM hG
          by_cases h9 : k = 9
          · obtain rfl : c = 1 := by omega
            subst h9
            have HE : Hid (rd l = (X + G, 10, 0)) := by unfold Hid; rw [HD3.out, if_pos (by decide)]
            have hmul' : (U : Int) = (G : Int) := by simpa using hmul
            clear HD3 h1 hm2 hmul HU
            go_wp2
            go_ret3
            exact ⟨ret3 (by rw [HE.out]; omega) (by rw [HE.out]; rfl) (by rw [HE.out]; rfl), rfl⟩
          · have hU8 : U ≤ 72057594037927936 := by rw [HU.out]; exact pow_lt8 k (by omega)
            have HUS : Hid (U * 128 = 2 ^ (7 * (k + 1))) := by unfold Hid; rw [HU.out, pow_step]
            have h2 : ((k : Int) == 9) = false := by simp; omega
            clear HU
            by_cases hk0 : k = 0
            · subst hk0
              rw [Nat.add_zero] at hcell
              clear h2 h1 h9
              by_cases h128 : c < 128
              · have HE : Hid (rd l = (X + G, 1, 0)) := by unfold Hid; rw [HD3.out, if_pos h128]
                clear HD3 HUS
                go_wp2
                go_ret3
                exact ⟨ret3 (by rw [HE.out]; omega) (by rw [HE.out]; rfl) (by rw [HE.out]; rfl), rfl⟩
              · have HE : Hid (rd l = rdGo (l.drop 1) 1 (X + G)) := by unfold Hid; rw [HD3.out, if_neg h128]
                clear HD3
                go_wp2
                go_round
                case rel => exact ⟨1, X + G, U * 128, by omega, by omega, rfl, by go_num, by go_num, HUS.out, by rw [← HUS.out]; exact hm2, HE.out⟩
                case measure => simp [intOf]; omega
            · have h3 : ((c : Int) == 0) = false := by simp; omega
              have hk1 : 0 < k := by omega
              have hk8 : k ≤ 8 := by omega
              clear h1 h9 hk0
              by_cases h128 : c < 128
              · have HE : Hid (rd l = (X + G, k + 1, 0)) := by unfold Hid; rw [HD3.out, if_pos h128]
                clear HD3 HUS
                go_wp2
                go_ret3
                exact ⟨ret3 (by rw [HE.out]; omega) (by rw [HE.out]; simp) (by rw [HE.out]; rfl), rfl⟩
              · have HE : Hid (rd l = rdGo (l.drop (k + 1)) (k + 1) (X + G)) := by unfold Hid; rw [HD3.out, if_neg h128]
                clear HD3
                go_wp2
                go_round
                case rel => exact ⟨k + 1, X + G, U * 128, by omega, by omega, by go_num, by go_num, by go_num, HUS.out, by rw [← HUS.out]; exact hm2, HE.out⟩
                case measure => simp [intOf]; omega
      · have HE : Hid (rd l = (0, 0, 10)) := by unfold Hid; rw [HD.out, List.drop_eq_nil_of_le (by omega)]; rfl
        clear HD HB hc
        go_wp2
        go_ret3
        exact ⟨ret3 (by rw [HE.out]; rfl) (by rw [HE.out]; rfl) (by rw [HE.out]; rfl), rfl⟩
end Go.Proofs.Ytjefbcphefckiac
