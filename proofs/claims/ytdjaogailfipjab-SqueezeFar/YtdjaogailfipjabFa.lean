import Derived.Test.YtdjaogailfipjabHd
namespace Go.Proofs.Ytdjaogailfipjab.Plain
set_option linter.unusedVariables false
set_option linter.unusedSimpArgs false

/-- A word, other bytes, the word. -/
def gap (i : Nat) : Nat := if i % 2 = 0 then i / 2 % 256 else 100 + i / 512
def fw (n i : Nat) : Nat := if i < 6 then 250 + i else if i < 6 + n then gap (i - 6) else 250 + (i - (6 + n))
def ftext (n : Nat) : List Nat := (List.range (n + 12)).map (fw n)
theorem ftext_len (n : Nat) : (ftext n).length = n + 12 := by simp [ftext]
theorem ftext_get (n j : Nat) (h : j < n + 12) : (ftext n).getD j 0 = fw n j := by simp [ftext, List.getD_eq_getElem?_getD, h]
theorem fw_w (n i : Nat) (h : i < 6) : fw n i = 250 + i := by unfold fw; rw [if_pos h]
theorem fw_e (n i : Nat) (h : 6 ≤ i) (h2 : i < 6 + n) (h3 : i % 2 = 0) : fw n i = (i - 6) / 2 % 256 := by unfold fw gap; rw [if_neg (by omega), if_pos h2, if_pos (by omega)]
theorem fw_o (n i : Nat) (h : 6 ≤ i) (h2 : i < 6 + n) (h3 : i % 2 = 1) : fw n i = 100 + (i - 6) / 512 := by unfold fw gap; rw [if_neg (by omega), if_pos h2, if_neg (by omega)]
theorem fw_x (n i : Nat) (h : 6 + n ≤ i) : fw n i = 250 + (i - (6 + n)) := by unfold fw; rw [if_neg (by omega), if_neg (by omega)]
theorem fw_lt (n i : Nat) (hn : n ≤ 4000) (h : i < n + 12) : fw n i < 256 := by
  by_cases h1 : i < 6
  · rw [fw_w n i h1]; omega
  · by_cases h2 : i < 6 + n
    · rcases Nat.mod_two_eq_zero_or_one i with e | e
      · rw [fw_e n i (by omega) h2 e]; omega
      · rw [fw_o n i (by omega) h2 e]; omega
    · rw [fw_x n i (by omega)]; omega

/-- The word's bytes stand nowhere side by side but in the words. -/
theorem fw_pair (n q c : Nat) (hn : n ≤ 4000) (h6 : 6 ≤ q) (hq : q < 6 + n) (h0 : fw n q = 250 + c) (h1 : fw n (q + 1) = 251 + c) : False := by
  by_cases h2 : q + 1 < 6 + n
  · rcases Nat.mod_two_eq_zero_or_one q with e | e
    · rw [fw_o n (q + 1) (by omega) h2 (by omega)] at h1; omega
    · rw [fw_o n q h6 hq e] at h0; omega
  · rw [fw_x n (q + 1) (by omega)] at h1
    rcases Nat.mod_two_eq_zero_or_one q with e | e
    · rw [fw_e n q h6 hq e] at h0; omega
    · rw [fw_o n q h6 hq e] at h0; omega

theorem far_unlike (n j q : Nat) (hn : n ≤ 4000) (hq : q < j) (hj : j < n + 6) (h : ∀ k, k < 5 → fw n (j + k) = fw n (q + k)) : False := by
  have h0 := h 0 (by omega)
  have h1 := h 1 (by omega)
  have h2 := h 2 (by omega)
  have h3 := h 3 (by omega)
  have h4 := h 4 (by omega)
  simp only [Nat.add_zero] at h0
  by_cases j6 : j < 6
  · rw [fw_w n j j6, fw_w n q (by omega)] at h0; omega
  · by_cases q6 : q < 6
    · by_cases hj1 : j + 1 < 6 + n
      · rcases Nat.mod_two_eq_zero_or_one j with e | e
        · rw [fw_o n (j + 1) (by omega) hj1 (by omega)] at h1
          by_cases q5 : q + 1 < 6
          · rw [fw_w n (q + 1) q5] at h1; omega
          · obtain rfl : q = 5 := by omega
            rw [fw_e n (5 + 1) (by omega) (by omega) (by omega)] at h1; omega
        · rw [fw_o n j (by omega) (by omega) e, fw_w n q q6] at h0; omega
      · rw [fw_x n (j + 1) (by omega)] at h1
        by_cases q5 : q + 1 < 6
        · rw [fw_w n (q + 1) q5] at h1; omega
        · obtain rfl : q = 5 := by omega
          rw [fw_e n (5 + 1) (by omega) (by omega) (by omega)] at h1; omega
    · by_cases hj3 : j + 3 < 6 + n
      · -- four bytes of the gap
        rcases Nat.mod_two_eq_zero_or_one j with ej | ej <;> rcases Nat.mod_two_eq_zero_or_one q with eq | eq
        · rw [fw_e n j (by omega) (by omega) ej, fw_e n q (by omega) (by omega) eq] at h0
          rw [fw_o n (j + 1) (by omega) (by omega) (by omega), fw_o n (q + 1) (by omega) (by omega) (by omega)] at h1
          omega
        · rw [fw_e n j (by omega) (by omega) ej, fw_o n q (by omega) (by omega) eq] at h0
          rw [fw_e n (j + 2) (by omega) (by omega) (by omega), fw_o n (q + 2) (by omega) (by omega) (by omega)] at h2
          rw [fw_o n (q + 4) (by omega) (by omega) (by omega)] at h4
          clear h h1 h3
          by_cases hx : j + 4 < 6 + n
          · rw [fw_e n (j + 4) (by omega) hx (by omega)] at h4
            omega
          · rw [fw_x n (j + 4) (by omega)] at h4
            omega
        · rw [fw_o n j (by omega) (by omega) ej, fw_e n q (by omega) (by omega) eq] at h0
          rw [fw_o n (j + 2) (by omega) (by omega) (by omega), fw_e n (q + 2) (by omega) (by omega) (by omega)] at h2
          rw [fw_e n (q + 4) (by omega) (by omega) (by omega)] at h4
          clear h h1 h3
          by_cases hx : j + 4 < 6 + n
          · rw [fw_o n (j + 4) (by omega) hx (by omega)] at h4
            omega
          · rw [fw_x n (j + 4) (by omega)] at h4
            omega
        · rw [fw_o n j (by omega) (by omega) ej, fw_o n q (by omega) (by omega) eq] at h0
          rw [fw_e n (j + 1) (by omega) (by omega) (by omega), fw_e n (q + 1) (by omega) (by omega) (by omega)] at h1
          omega
      · -- the word begins within
        have hm : j + 1 = 6 + n ∨ j + 2 = 6 + n ∨ j + 3 = 6 + n := by omega
        rcases hm with e | e | e
        · rw [fw_x n (j + 1) (by omega)] at h1
          rw [fw_x n (j + 2) (by omega)] at h2
          exact fw_pair n (q + 1) 0 hn (by omega) (by omega) (by omega) (by rw [show q + 1 + 1 = q + 2 by omega]; omega)
        · rw [fw_x n (j + 2) (by omega)] at h2
          rw [fw_x n (j + 3) (by omega)] at h3
          exact fw_pair n (q + 2) 0 hn (by omega) (by omega) (by omega) (by rw [show q + 2 + 1 = q + 3 by omega]; omega)
        · rw [fw_x n (j + 3) (by omega)] at h3
          rw [fw_x n (j + 4) (by omega)] at h4
          exact fw_pair n (q + 3) 0 hn (by omega) (by omega) (by omega) (by rw [show q + 3 + 1 = q + 4 by omega]; omega)

/-- Nothing but the word itself begins as the word does. -/
theorem far_word (n q c : Nat) (hn : n ≤ 4000) (hc : c ≤ 1) (hq : q < n + 6 + c) (h : ∀ k, k < 2 → fw n (n + 6 + c + k) = fw n (q + k)) : q = c := by
  have h0 := h 0 (by omega)
  have h1 := h 1 (by omega)
  simp only [Nat.add_zero] at h0
  rw [fw_x n _ (by omega)] at h0 h1
  by_cases q6 : q < 6
  · rw [fw_w n q q6] at h0; omega
  · exfalso
    by_cases hq2 : q < 6 + n
    · exact fw_pair n q c hn (by omega) hq2 (by omega) (by omega)
    · rw [fw_x n q (by omega)] at h0; omega

theorem far_eqv {n j d k : Nat} (hk : j + k < n + 12) (h : Eqv (ftext n) j d k) : fw n (j + k) = fw n (j + k - d) := by
  unfold Eqv at h
  rwa [ftext_get n _ hk, ftext_get n _ (by omega)] at h

theorem far_none (n j : Nat) (hn : n ≤ 4000) (hj : j < n + 6) : Best (ftext n) j 0 0 := by
  refine .inl ⟨rfl, rfl, fun d m h1 h2 h3 h4 => ?_⟩
  apply Classical.byContradiction
  intro hm
  have hmo := h4.1
  have hle : m ≤ n + 12 - j := by have : most (ftext n) j ≤ n + 12 - j := by unfold most; rw [ftext_len]; omega
                                  omega
  refine far_unlike n j (j - d) hn (by omega) hj fun k hk => ?_
  rw [far_eqv (by omega) (h4.2.1 k (by omega))]
  congr 1; omega

theorem far_most (n c : Nat) (hc : c ≤ 6) : most (ftext n) (n + 6 + c) = 6 - c := by unfold most; rw [ftext_len]; omega

theorem far_match (n : Nat) (hn : n + 6 ≤ 2048) : Best (ftext n) (n + 6) (n + 6) 6 := by
  have hmost := far_most n 0 (by omega)
  rw [Nat.add_zero] at hmost
  have hlen : IsLen (ftext n) (n + 6) (n + 6) (most (ftext n) (n + 6)) 6 := by
    refine ⟨by omega, fun k hk => ?_, .inl (by omega)⟩
    unfold Eqv
    rw [ftext_get n _ (by omega), ftext_get n _ (by omega), fw_x n _ (by omega), fw_w n _ (by omega)]
    omega
  refine .inr ⟨by omega, by omega, by rw [ftext_len]; omega, by omega, by omega, hn, hlen, fun d m h1 h2 h3 h4 => ?_⟩
  have := h4.1
  by_cases hm : m = 6
  · right
    refine ⟨hm, ?_⟩
    have := far_word n (n + 6 - d) 0 (by omega) (by omega) (by omega) (fun k hk => by
      rw [Nat.add_zero, far_eqv (by omega) (h4.2.1 k (by omega))]
      congr 1; omega)
    omega
  · left; omega

theorem far_out (n j : Nat) (hn : n ≤ 4000) (hf : 2048 < n + 6) (hj : j < n + 12) : Best (ftext n) j 0 0 := by
  by_cases h6 : j < n + 6
  · exact far_none n j hn h6
  · refine .inl ⟨rfl, rfl, fun d m h1 h2 h3 h4 => ?_⟩
    apply Classical.byContradiction
    intro hm
    have hmo := h4.1
    obtain ⟨c, rfl⟩ : ∃ c, j = n + 6 + c := ⟨j - (n + 6), by omega⟩
    rw [far_most n c (by omega)] at hmo
    have := far_word n (n + 6 + c - d) c hn (by omega) (by omega) (fun k hk => by
      rw [far_eqv (by omega) (h4.2.1 k (by omega))]
      congr 1; omega)
    omega
end Go.Proofs.Ytdjaogailfipjab.Plain
namespace Go.Proofs.Ytdjaogailfipjab
open Go.RowKit Plain
set_option linter.unusedVariables false

theorem far_pre_in (n : Nat) (hn : n + 6 ≤ 2048) : PreP (ftext n) [.lit 0 ((ftext n).take (n + 6)), .mat (n + 6) 6] (ftext n).length := by
  have hl : ((ftext n).take (n + 6)).length = n + 6 := by rw [List.length_take, ftext_len]; omega
  have h1 : PreP (ftext n) ([] ++ [.lit 0 ((ftext n).take (n + 6))]) (0 + ((ftext n).take (n + 6)).length) :=
    .lit .nil (by simp) (List.length_pos_iff.mp (by omega)) (by rw [hl, ftext_len]; omega) (by rw [hl, List.drop_zero]) (fun j _ h2 => far_none n j (by omega) (by omega))
  have h2 := PreP.mat h1 (d := n + 6) (n := 6) (by omega) (by rw [hl, Nat.zero_add]; exact far_match n hn)
  rw [hl] at h2
  rw [ftext_len, show n + 12 = 0 + (n + 6) + 6 by omega]
  exact h2
theorem far_pre_out (n : Nat) (hn : n ≤ 4000) (hf : 2048 < n + 6) : PreP (ftext n) [.lit 0 (ftext n)] (ftext n).length := by
  have h1 : PreP (ftext n) ([] ++ [.lit 0 (ftext n)]) (0 + (ftext n).length) :=
    .lit .nil (by simp) (List.length_pos_iff.mp (by rw [ftext_len]; omega)) (by omega) (by simp) (fun j _ h2 => far_out n j hn hf (by rw [ftext_len] at h2; omega))
  rw [Nat.zero_add] at h1
  exact h1
end Go.Proofs.Ytdjaogailfipjab
