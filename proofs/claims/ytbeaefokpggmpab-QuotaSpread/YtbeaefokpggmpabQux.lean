import Derived.Test.YtbeaefokpggmpabQud
import Derived.Test.YtbeaefokpggmpabQvb
/-! quota: how many come ahead; the remainders' sum; who gets one more, by a row of places. -/
namespace Go.Proofs.Ytbeaefokpggmpab
open Go.RowKit
set_option linter.unusedVariables false

/-- How many of the first n. -/
def cntB (p : Nat → Bool) (n : Nat) : Nat := ((List.range n).filter p).length
theorem cntB_succ (p : Nat → Bool) (n : Nat) : cntB p (n + 1) = cntB p n + (if p n = true then 1 else 0) := by
  unfold cntB
  rw [List.range_succ, List.filter_append, List.length_append]
  simp only [List.filter_cons, List.filter_nil]
  split <;> simp
theorem cntB_le (p q : Nat → Bool) : ∀ n, (∀ j, j < n → p j = true → q j = true) → cntB p n ≤ cntB q n
  | 0, _ => by simp [cntB]
  | n + 1, h => by
    have h1 := cntB_le p q n (fun j hj => h j (by omega))
    have h2 := h n (by omega)
    rw [cntB_succ, cntB_succ]
    split
    · rw [if_pos (h2 (by assumption))]; omega
    · omega
theorem cntB_lt (p q : Nat → Bool) (j0 : Nat) (hp : p j0 = false) (hq : q j0 = true) : ∀ n, j0 < n → (∀ j, j < n → p j = true → q j = true) → cntB p n < cntB q n
  | 0, h, _ => by omega
  | n + 1, hj, h => by
    rw [cntB_succ, cntB_succ]
    by_cases e : j0 = n
    · subst e
      have h1 := cntB_le p q j0 (fun j hj => h j (by omega))
      rw [hp, hq]
      simp
      omega
    · have h1 := cntB_lt p q j0 hp hq n (by omega) (fun j hj => h j (by omega))
      have h2 := h n (by omega)
      split
      · rw [if_pos (h2 (by assumption))]; omega
      · omega
theorem ahead_eq (r : List Int) (i n : Nat) : aheadN r i n = cntB (comes r i) n := rfl
theorem comes_irr (r : List Int) (i : Nat) : comes r i i = false := by simp [comes]
theorem comes_trans {r : List Int} {i j k : Nat} (h1 : comes r i j = true) (h2 : comes r j k = true) : comes r i k = true := by
  simp only [comes, decide_eq_true_eq] at h1 h2 ⊢
  omega
theorem comes_total (r : List Int) {i k : Nat} (h : i ≠ k) : comes r i k = true ∨ comes r k i = true := by
  simp only [comes, decide_eq_true_eq]
  omega
theorem ahead_of {r : List Int} {i k n : Nat} (hk : k < n) (h : comes r i k = true) : aheadN r k n < aheadN r i n := by
  rw [ahead_eq, ahead_eq]
  exact cntB_lt _ _ k (comes_irr r k) h n hk (fun j _ hj => comes_trans h hj)
theorem ahead_lt {r : List Int} {i n : Nat} (hi : i < n) : aheadN r i n < n := by
  have h := cntB_lt (comes r i) (fun _ => true) i (comes_irr r i) rfl n hi (fun _ _ _ => rfl)
  have e : cntB (fun _ => true) n = n := by unfold cntB; rw [List.filter_eq_self.2 (by simp)]; simp
  rw [ahead_eq]; omega
theorem quo_rem_sum (total W : Int) : ∀ l : List Int, W * (quoL total W l).sum + (remL total W l).sum = total * l.sum
  | [] => by simp [quoL, remL]
  | a :: l => by
    have h := quo_rem_sum total W l
    have e := Int.mul_ediv_add_emod (total * a) W
    simp only [quoL, remL, List.map_cons, List.sum_cons, Int.mul_add] at h ⊢
    omega
theorem rem_get (total W : Int) (l : List Int) {i : Nat} (h : i < l.length) : (remL total W l).getD i 0 = total * l.getD i 0 % W := by simp [remL, List.getD_eq_getElem?_getD, h]
theorem quo_get (total W : Int) (l : List Int) {i : Nat} (h : i < l.length) : (quoL total W l).getD i 0 = total * l.getD i 0 / W := by simp [quoL, List.getD_eq_getElem?_getD, h]
/-- The remainders' sum, by how many are not 0. -/
theorem rem_sum_le {R : List Int} {W : Int} (hW : 0 < W) (h : ∀ i, i < R.length → 0 ≤ R.getD i 0 ∧ R.getD i 0 < W) : ∀ k, k ≤ R.length → 0 ≤ (R.take k).sum ∧ (R.take k).sum ≤ (W - 1) * ((cntB (fun j => decide (0 < R.getD j 0)) k : Nat) : Int)
  | 0, _ => by simp [cntB]
  | k + 1, hk => by
    have h1 := rem_sum_le hW h k (by omega)
    have h2 := h k (by omega)
    rw [sum_snoc R k (by omega), cntB_succ]
    by_cases hp : 0 < R.getD k 0
    · rw [if_pos (by simpa using hp)]
      have : (W - 1) * ((cntB (fun j => decide (0 < R.getD j 0)) k + 1 : Nat) : Int) = (W - 1) * ((cntB (fun j => decide (0 < R.getD j 0)) k : Nat) : Int) + (W - 1) := by rw [Int.natCast_add, Int.mul_add]; simp
      omega
    · rw [if_neg (by simpa using hp)]
      simp only [Nat.add_zero]
      omega
theorem left_in {total : Int} {l : List Int} (h : SpOk total l) : 0 < l.sum ∧ l.sum ≤ 67108864 ∧ 0 ≤ total - (quoL total l.sum l).sum ∧ total - (quoL total l.sum l).sum ≤ (l.length : Int) := by
  have hw : WOk l := h.ws
  have hs0 := sum_small (l := l) l.length (Nat.le_refl _) (by rw [List.take_length]; exact hw)
  rw [List.take_length] at hs0
  have hne := h.all
  have hn := h.len
  obtain ⟨W, hWe⟩ : ∃ W, l.sum = W := ⟨_, rfl⟩
  rw [hWe] at hs0 hne ⊢
  have hWp : 0 < W := by omega
  have hqr := quo_rem_sum total W l
  rw [hWe] at hqr
  have hrg : ∀ i, i < l.length → 0 ≤ (remL total W l).getD i 0 ∧ (remL total W l).getD i 0 < W := fun i hi => by
    rw [rem_get _ _ _ hi]
    exact ⟨Int.emod_nonneg _ (by omega), Int.emod_lt_of_pos _ hWp⟩
  have hrl := remL_len total W l
  have hrs := rem_sum_le (R := remL total W l) hWp (by rw [hrl]; exact hrg) l.length (by omega)
  rw [show (remL total W l).take l.length = remL total W l by rw [← hrl, List.take_length]] at hrs
  obtain ⟨left, hleft⟩ : ∃ z, total - (quoL total W l).sum = z := ⟨_, rfl⟩
  have hWl : W * left = (remL total W l).sum := by rw [← hleft, Int.mul_sub, Int.mul_comm W total]; omega
  rw [hleft]
  have hc : cntB (fun j => decide (0 < (remL total W l).getD j 0)) l.length ≤ l.length := by
    have := cntB_le (fun j => decide (0 < (remL total W l).getD j 0)) (fun _ => true) l.length (fun _ _ _ => rfl)
    have e : cntB (fun _ => true) l.length = l.length := by unfold cntB; rw [List.filter_eq_self.2 (by simp)]; simp
    omega
  have hc2 : (W - 1) * ((cntB (fun j => decide (0 < (remL total W l).getD j 0)) l.length : Nat) : Int) ≤ (W - 1) * (l.length : Int) := Int.mul_le_mul_of_nonneg_left (by omega) (by omega)
  refine ⟨hWp, by omega, ?_, ?_⟩
  · refine Int.not_lt.mp fun hlt => ?_
    have : W * left ≤ W * (-1) := Int.mul_le_mul_of_nonneg_left (by omega) (by omega)
    omega
  · refine Int.not_lt.mp fun hlt => ?_
    have h9 : W * ((l.length : Int) + 1) ≤ W * left := Int.mul_le_mul_of_nonneg_left (by omega) (by omega)
    rw [Int.mul_add] at h9
    have e3 : (W - 1) * (l.length : Int) = W * (l.length : Int) - l.length := by rw [Int.sub_mul]; omega
    omega
/-- In a row of places that is in order each place has just as many ahead of it as stand ahead of it. -/
theorem rank_of {r : List Int} {n : Nat} {f : Nat → Nat} (hp : PermOn 0 n id f) (hs : Srt (fun j => r.getD j 0) 0 n f) : ∀ p, p < n → aheadN r (f p) n = p := by
  have hv : ∀ k, k < n → f k < n := fun k hk => hp.all (Q := fun z => z < n) (fun k _ hk => hk) (Nat.zero_le _) hk
  have hst : ∀ p q, p < q → q < n → aheadN r (f p) n < aheadN r (f q) n := fun p q h1 h2 => by
    refine ahead_of (hv p (by omega)) ?_
    have := hs p q (Nat.zero_le _) h1 h2
    unfold Ahd at this
    simp only [comes, decide_eq_true_eq]
    omega
  have hge : ∀ p, p < n → p ≤ aheadN r (f p) n := by
    intro p
    induction p with
    | zero => intro _; exact Nat.zero_le _
    | succ p ih => intro h; have := ih (by omega); have := hst p (p + 1) (by omega) h; omega
  have hle : ∀ d p, d + p + 1 = n → aheadN r (f p) n ≤ p := by
    intro d
    induction d with
    | zero => intro p h; have := ahead_lt (r := r) (hv p (by omega)); omega
    | succ d ih => intro p h; have := ih (p + 1) (by omega); have := hst p (p + 1) (by omega) (by omega); omega
  intro p h
  have := hge p h
  have := hle (n - 1 - p) p (by omega)
  omega
/-- The shares, one more for the first k places. -/
def upTo (Q r : List Int) (n k : Nat) : List Int := (List.range n).map fun i => Q.getD i 0 + (if aheadN r i n < k then 1 else 0)
theorem upTo_len (Q r : List Int) (n k : Nat) : (upTo Q r n k).length = n := by simp [upTo]
theorem upTo_get (Q r : List Int) {n k i : Nat} (h : i < n) : (upTo Q r n k).getD i 0 = Q.getD i 0 + (if aheadN r i n < k then 1 else 0) := by simp [upTo, List.getD_eq_getElem?_getD, h]
theorem upTo_start (Q r : List Int) : upTo Q r Q.length 0 = Q := by
  apply List.ext_getElem?
  intro i
  by_cases h : i < Q.length
  · simp [upTo, h, List.getD_eq_getElem?_getD]
  · simp [upTo, h]
theorem upTo_step {Q r : List Int} {n k : Nat} {f : Nat → Nat} (hp : PermOn 0 n id f) (hs : Srt (fun j => r.getD j 0) 0 n f) (hk : k < n) : (upTo Q r n k).set (f k) ((upTo Q r n k).getD (f k) 0 + 1) = upTo Q r n (k + 1) := by
  have hv : f k < n := hp.all (Q := fun z => z < n) (fun k _ hk => hk) (Nat.zero_le _) hk
  have hr := rank_of hp hs k hk
  apply List.ext_getElem?
  intro i
  by_cases hi : i < n
  · have e1 : (upTo Q r n (k + 1))[i]? = some (Q.getD i 0 + (if aheadN r i n < k + 1 then 1 else 0)) := by simp [upTo, hi]
    have e2 : (upTo Q r n k)[i]? = some (Q.getD i 0 + (if aheadN r i n < k then 1 else 0)) := by simp [upTo, hi]
    rw [e1, List.getElem?_set]
    by_cases he : f k = i
    · rw [if_pos he, if_pos (by rw [upTo_len]; exact hv), upTo_get Q r hv, ← he, hr, if_neg (by omega), if_pos (by omega)]; simp
    · rw [if_neg he, e2]
      have hne : aheadN r i n ≠ k := by
        intro e
        rcases comes_total r he with h | h
        · have := ahead_of hi h; omega
        · have := ahead_of hv h; omega
      by_cases hlt : aheadN r i n < k
      · rw [if_pos hlt, if_pos (by omega)]
      · rw [if_neg hlt, if_neg (by omega)]
  · rw [List.getElem?_eq_none (by rw [List.length_set, upTo_len]; omega), List.getElem?_eq_none (by rw [upTo_len]; omega)]
theorem upTo_end {total W : Int} {l : List Int} {k : Nat} (h : (k : Int) = total - (quoL total W l).sum) : upTo (quoL total W l) (remL total W l) l.length k = spreadL total W l := by
  unfold upTo spreadL
  rw [← h]
  apply List.map_congr_left
  intro i hi
  by_cases hlt : aheadN (remL total W l) i l.length < k
  · rw [if_pos hlt, if_pos (by omega)]
  · rw [if_neg hlt, if_neg (by omega)]
end Go.Proofs.Ytbeaefokpggmpab
