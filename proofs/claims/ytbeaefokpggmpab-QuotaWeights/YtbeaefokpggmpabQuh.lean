import Derived.Test.YtbeaefokpggmpabQug
/-! quota: shares by weights, plainly. -/
namespace Go.Proofs.Ytbeaefokpggmpab
open Go.RowKit
set_option linter.unusedVariables false

theorem nodup_bound : ∀ (n : Nat) (xs : List Nat), xs.Nodup → (∀ x ∈ xs, x < n) → xs.length ≤ n
  | 0, xs, _, h => by
    cases xs with
    | nil => simp
    | cons x xs => have := h x (List.mem_cons_self ..); omega
  | n + 1, xs, hd, h => by
    by_cases hm : n ∈ xs
    · have h1 := nodup_bound n (xs.erase n) (hd.erase n) (fun x hx => by
        have h2 := (hd.mem_erase_iff).1 hx
        have := h x h2.2
        omega)
      rw [List.length_erase_of_mem hm] at h1
      omega
    · have h1 := nodup_bound n xs hd (fun x hx => by
        have := h x hx
        have : x ≠ n := fun e => hm (e ▸ hx)
        omega)
      omega
theorem nodup_count : ∀ (n : Nat) (xs : List Nat), xs.Nodup → (∀ x ∈ xs, x < n) → xs.length = n → ∀ t, t ≤ n → (xs.filter (fun x => decide (x < t))).length = t
  | 0, xs, _, _, hl, t, ht => by
    have : xs = [] := List.eq_nil_of_length_eq_zero hl
    subst this
    simp; omega
  | n + 1, xs, hd, h, hl, t, ht => by
    have hm : n ∈ xs := by
      by_cases hm : n ∈ xs
      · exact hm
      · have h1 := nodup_bound n xs hd (fun x hx => by
          have := h x hx
          have : x ≠ n := fun e => hm (e ▸ hx)
          omega)
        omega
    by_cases e : t = n + 1
    · subst e
      rw [List.filter_eq_self.2 (fun x hx => by simpa using h x hx)]
      exact hl
    · have h1 := nodup_count n (xs.erase n) (hd.erase n) (fun x hx => by
        have h2 := (hd.mem_erase_iff).1 hx
        have := h x h2.2
        omega) (by rw [List.length_erase_of_mem hm]; omega) t (by omega)
      have hp : xs.Perm (n :: xs.erase n) := List.perm_cons_erase hm
      have h3 := (hp.filter (fun x => decide (x < t))).length_eq
      rw [h3, List.filter_cons_of_neg (by simp; omega)]
      exact h1
/-- Just so many get one more. -/
theorem rank_count (r : List Int) (n t : Nat) (ht : t ≤ n) : cntB (fun i => decide (aheadN r i n < t)) n = t := by
  have hnd : ((List.range n).map fun i => aheadN r i n).Nodup := by
    rw [List.nodup_iff_pairwise_ne, List.pairwise_map]
    have hr : (List.range n).Pairwise (fun a b => a ≠ b) := List.nodup_iff_pairwise_ne.1 List.nodup_range
    refine List.Pairwise.imp_of_mem ?_ hr
    intro a b ha hb hab e
    have ha' := List.mem_range.1 ha
    have hb' := List.mem_range.1 hb
    rcases comes_total r hab with h | h
    · have := ahead_of hb' h; omega
    · have := ahead_of ha' h; omega
  have h := nodup_count n _ hnd (fun x hx => by
    obtain ⟨i, hi, rfl⟩ := List.mem_map.1 hx
    exact ahead_lt (List.mem_range.1 hi)) (by simp) t ht
  rw [List.filter_map, List.length_map] at h
  exact h

theorem spread_sum (Q : List Int) (c : Nat → Bool) : ∀ k, k ≤ Q.length → ((List.range k).map fun i => Q.getD i 0 + (if c i = true then (1 : Int) else 0)).sum = (Q.take k).sum + ((cntB c k : Nat) : Int)
  | 0, _ => by simp [cntB]
  | k + 1, hk => by
    have h1 := spread_sum Q c k (by omega)
    rw [List.range_succ, List.map_append, List.sum_append, h1, sum_snoc Q k (by omega), cntB_succ]
    simp only [List.map_cons, List.map_nil, List.sum_cons, List.sum_nil]
    split <;> simp <;> omega
structure WeightP (total : Int) (l S : List Int) : Prop where
  len : S.length = l.length
  n64 : l.length ≤ 64
  pos : 0 < l.sum
  small : l.sum ≤ 67108864
  tot : 0 ≤ total ∧ total ≤ 1099511627776
  each : ∀ i, i < l.length → 0 ≤ S.getD i 0 ∧ S.getD i 0 ≤ 1099511627777 ∧ 0 ≤ l.getD i 0 ∧ l.getD i 0 ≤ 1048576 ∧ -l.sum < S.getD i 0 * l.sum - total * l.getD i 0 ∧ S.getD i 0 * l.sum - total * l.getD i 0 < l.sum ∧ (l.getD i 0 = 0 → S.getD i 0 = 0)
  mono : ∀ i k, i < l.length → k < l.length → l.getD k 0 < l.getD i 0 → S.getD k 0 ≤ S.getD i 0
  alike : ∀ i k, i < l.length → k < l.length → l.getD i 0 = l.getD k 0 → S.getD i 0 ≤ S.getD k 0 + 1
  sum : S.sum = total
theorem weight_of {total : Int} {l : List Int} (h : SpOk total l) : WeightP total l (spreadL total l.sum l) := by
  have hw : WOk l := h.ws
  have hs0 := sum_small (l := l) l.length (Nat.le_refl _) (by rw [List.take_length]; exact hw)
  rw [List.take_length] at hs0
  have hne := h.all
  have hn := h.len
  obtain ⟨W, hWe⟩ : ∃ W, l.sum = W := ⟨_, rfl⟩
  rw [hWe] at hs0 hne ⊢
  have hWp : 0 < W := by omega
  have hqr := quo_rem_sum total W l
  rw [hWe] at hqr
  have hrg : ∀ i, i < l.length → 0 ≤ (remL total W l).getD i 0 ∧ (remL total W l).getD i 0 < W := fun i hi => by
    rw [rem_get _ _ _ hi]
    exact ⟨Int.emod_nonneg _ (by omega), Int.emod_lt_of_pos _ hWp⟩
  have hrl := remL_len total W l
  have hql := quoL_len total W l
  have hrs := rem_sum_le (R := remL total W l) hWp (by rw [hrl]; exact hrg) l.length (by omega)
  rw [show (remL total W l).take l.length = remL total W l by rw [← hrl, List.take_length]] at hrs
  obtain ⟨left, hleft⟩ : ∃ z, total - (quoL total W l).sum = z := ⟨_, rfl⟩
  have hWl : W * left = (remL total W l).sum := by rw [← hleft, Int.mul_sub, Int.mul_comm W total]; omega
  have hl0 : 0 ≤ left := by
    by_cases hneg : left < 0
    · have : W * left ≤ W * (-1) := Int.mul_le_mul_of_nonneg_left (by omega) (by omega)
      omega
    · omega
  obtain ⟨cp, hcp⟩ : ∃ c, cntB (fun j => decide (0 < (remL total W l).getD j 0)) l.length = c := ⟨_, rfl⟩
  rw [hcp] at hrs
  have hlcp : left ≤ (cp : Int) := by
    by_cases hgt : (cp : Int) < left
    · have h1 : W * ((cp : Int) + 1) ≤ W * left := Int.mul_le_mul_of_nonneg_left (by omega) (by omega)
      rw [Int.mul_add] at h1
      rw [Int.sub_mul] at hrs
      omega
    · omega
  have hcn : cp ≤ l.length := by
    rw [← hcp]
    have := cntB_le (fun j => decide (0 < (remL total W l).getD j 0)) (fun _ => true) l.length (fun _ _ _ => rfl)
    have e : cntB (fun _ => true) l.length = l.length := by unfold cntB; rw [List.filter_eq_self.2 (by simp)]; simp
    omega
  obtain ⟨t, rfl⟩ : ∃ t : Nat, left = (t : Int) := ⟨left.toNat, by omega⟩
  have htn : t ≤ l.length := by omega
  have hget : ∀ i, i < l.length → (spreadL total W l).getD i 0 = total * l.getD i 0 / W + (if aheadN (remL total W l) i l.length < t then 1 else 0) := fun i hi => by
    unfold spreadL
    rw [hleft]
    simp only [List.getD_eq_getElem?_getD, List.getElem?_map, List.getElem?_range hi, Option.map_some, Option.getD_some]
    have := quo_get total W l hi
    simp only [List.getD_eq_getElem?_getD] at this
    rw [this]
    congr 1
    by_cases hh : aheadN (remL total W l) i l.length < t
    · rw [if_pos hh, if_pos (by omega)]
    · rw [if_neg hh, if_neg (by omega)]
  have hz : ∀ i, i < l.length → (remL total W l).getD i 0 = 0 → ¬ aheadN (remL total W l) i l.length < t := fun i hi h0 => by
    have h1 : cp ≤ aheadN (remL total W l) i l.length := by
      rw [← hcp, ahead_eq]
      refine cntB_le _ _ _ (fun j _ hj => ?_)
      simp only [decide_eq_true_eq] at hj
      simp only [comes, decide_eq_true_eq]
      omega
    omega
  have heach : ∀ i, i < l.length → 0 ≤ l.getD i 0 ∧ l.getD i 0 ≤ 1048576 ∧ l.getD i 0 ≤ W := fun i hi => by
    have h1 := hw _ (getD_mem hi)
    have h2 := mem_le_sum hw (getD_mem hi)
    omega
  refine ⟨spreadL_len _ _ _, hn, by omega, by omega, ⟨h.t0, h.t1⟩, fun i hi => ?_, fun i k hi hk hlt => ?_, fun i k hi hk he => ?_, ?_⟩
  · have hb := heach i hi
    have hq := quo_bound h.t0 h.t1 hb.1 hb.2.1 hWp
    have hqq := quo_le h.t0 hb.2.2 hWp
    have ht1 := h.t1
    have ht0 := h.t0
    have hd := Int.mul_ediv_add_emod (total * l.getD i 0) W
    have hr := rem_get total W l hi
    rw [hget i hi, hWe]
    have hzi := hz i hi
    by_cases hh : aheadN (remL total W l) i l.length < t
    · rw [if_pos hh]
      have hne0 : (remL total W l).getD i 0 ≠ 0 := fun e => hzi e hh
      rw [Int.add_mul, Int.mul_comm (total * l.getD i 0 / W) W]
      refine ⟨by omega, by omega, hb.1, hb.2.1, by omega, by omega, fun e => ?_⟩
      exfalso
      rw [hr, e] at hne0
      simp at hne0
    · rw [if_neg hh, Int.add_mul, Int.mul_comm (total * l.getD i 0 / W) W]
      refine ⟨by omega, by omega, hb.1, hb.2.1, by omega, by omega, fun e => ?_⟩
      rw [e]; simp
  · have hbi := heach i hi
    have hbk := heach k hk
    have hri := rem_get total W l hi
    have hrk := rem_get total W l hk
    have hgi := hrg i hi
    have hgk := hrg k hk
    have hdi := Int.mul_ediv_add_emod (total * l.getD i 0) W
    have hdk := Int.mul_ediv_add_emod (total * l.getD k 0) W
    have hmul : total * l.getD k 0 + total ≤ total * l.getD i 0 := by
      have h1 : total * (l.getD k 0 + 1) ≤ total * l.getD i 0 := Int.mul_le_mul_of_nonneg_left (by omega) h.t0
      rw [Int.mul_add] at h1
      omega
    have ht0 := h.t0
    have hB0 : total = 0 → total * l.getD k 0 = 0 := fun e => by rw [e]; simp
    rw [hget i hi, hget k hk]
    generalize total * l.getD i 0 = A at *
    generalize total * l.getD k 0 = B at *
    rw [← hri] at hdi
    rw [← hrk] at hdk
    have hqle : B / W ≤ A / W := Int.ediv_le_ediv hWp (by omega)
    by_cases heq : A / W = B / W
    · rw [heq] at hdi ⊢
      by_cases hrr : (remL total W l).getD k 0 < (remL total W l).getD i 0
      · have hcm : comes (remL total W l) k i = true := by simp only [comes, decide_eq_true_eq]; omega
        have := ahead_of hi hcm
        split <;> split <;> omega
      · have htz : total = 0 := by omega
        have hn1 := hz k hk (by rw [hrk, hB0 htz]; simp)
        rw [if_neg hn1]
        split <;> omega
    · split <;> split <;> omega
  · rw [hget i hi, hget k hk, he]
    split <;> split <;> omega
  · unfold spreadL
    rw [hleft]
    have h1 := spread_sum (quoL total W l) (fun i => decide (aheadN (remL total W l) i l.length < t)) l.length (by omega)
    rw [rank_count _ _ _ htn, show (quoL total W l).take l.length = quoL total W l by rw [← hql, List.take_length]] at h1
    have e : (List.range l.length).map (fun i => (quoL total W l).getD i 0 + (if (aheadN (remL total W l) i l.length : Int) < (t : Int) then (1 : Int) else 0)) = (List.range l.length).map (fun i => (quoL total W l).getD i 0 + (if decide (aheadN (remL total W l) i l.length < t) = true then (1 : Int) else 0)) := by
      refine List.map_congr_left (fun i _ => ?_)
      congr 1
      by_cases hh : aheadN (remL total W l) i l.length < t
      · rw [if_pos (by omega), if_pos (by simpa using hh)]
      · rw [if_neg (by omega), if_neg (by simpa using hh)]
    rw [e, h1]
    omega
end Go.Proofs.Ytbeaefokpggmpab
