import Derived.Test.YtdjaogailfipjabBk
namespace Go.Proofs.Ytdjaogailfipjab
open Go.RowKit Plain
set_option linter.unusedVariables false
set_option linter.unusedSimpArgs false

/-- The tokens of left bytes that repeat the one ahead. -/
def rtF (c : Nat) : Nat → Nat → List Tk
  | 0, _ => []
  | f + 1, left => if left = 0 then [] else if left < 5 then [.lit 0 (List.replicate left c)] else .mat 1 (min left 258) :: rtF c f (left - min left 258)
theorem rtF_enough (c : Nat) : ∀ (k m left : Nat), left ≤ k → left ≤ m → rtF c k left = rtF c m left
  | 0, 0, _, _, _ => rfl
  | 0, m + 1, left, h, _ => by
    obtain rfl : left = 0 := by omega
    rfl
  | k + 1, 0, left, _, h => by
    obtain rfl : left = 0 := by omega
    rfl
  | k + 1, m + 1, left, h, h' => by
    simp only [rtF]
    split
    · rfl
    · split
      · rfl
      · rw [rtF_enough c k m (left - min left 258) (by omega) (by omega)]
def rt (c left : Nat) : List Tk := rtF c left left

theorem rt_zero (c : Nat) : rt c 0 = [] := rfl
theorem rt_few {c left : Nat} (h0 : left ≠ 0) (h5 : left < 5) : rt c left = [.lit 0 (List.replicate left c)] := by
  unfold rt
  cases left with
  | zero => omega
  | succ f => simp only [rtF]; rw [if_neg h0, if_pos h5]
theorem rt_more {c left : Nat} (h5 : 5 ≤ left) : rt c left = .mat 1 (min left 258) :: rt c (left - min left 258) := by
  unfold rt
  cases left with
  | zero => omega
  | succ f =>
    simp only [rtF]
    rw [if_neg (by omega), if_neg (by omega), rtF_enough c f _ _ (by omega) (Nat.le_refl _)]
theorem rt_nil {c left : Nat} (h : rt c left = []) : left = 0 := by
  apply Classical.byContradiction
  intro h0
  by_cases h5 : left < 5
  · rw [rt_few h0 h5] at h; simp at h
  · rw [rt_more (by omega)] at h; simp at h

theorem rep_eqv (n c i d k : Nat) (h : i + k < n) : Eqv (List.replicate n c) i d k := by
  unfold Eqv
  rw [List.getD_eq_getElem?_getD, List.getD_eq_getElem?_getD, List.getElem?_replicate, List.getElem?_replicate, if_pos h, if_pos (by omega)]
theorem rep_best (n c i : Nat) (h1 : 1 ≤ i) (h5 : i + 5 ≤ n) : Best (List.replicate n c) i 1 (min (n - i) 258) := by
  have hm : most (List.replicate n c) i = min (n - i) 258 := by unfold most; rw [List.length_replicate, Nat.min_comm]
  refine .inr ⟨by omega, by omega, by rw [List.length_replicate]; omega, by omega, h1, by omega, ⟨by omega, fun k hk => rep_eqv n c i 1 k (by omega), .inl hm.symm⟩, fun d' n' a b e f => ?_⟩
  have := f.1
  omega
theorem rep_none (n c i : Nat) (h : i = 0 ∨ n < i + 5) : Best (List.replicate n c) i 0 0 := by
  refine .inl ⟨rfl, rfl, fun d' n' a b e f => ?_⟩
  rcases h with rfl | h
  · omega
  · have := f.1
    have hm : most (List.replicate n c) i ≤ n - i := by unfold most; rw [List.length_replicate]; omega
    omega

theorem rep_pre (n c : Nat) : ∀ (left i : Nat) (ts : List Tk), i + left = n → 1 ≤ i → PreP (List.replicate n c) ts i → (left < 5 → ∀ g b, ts.getLast? ≠ some (.lit g b)) → PreP (List.replicate n c) (ts ++ rt c left) n := by
  intro left
  induction left using Nat.strongRecOn with
  | ind left ih =>
    intro i ts hi h1 hp hl
    by_cases h0 : left = 0
    · subst h0
      rw [rt_zero, List.append_nil]
      have e : i = n := by omega
      rw [e] at hp
      exact hp
    · by_cases h5 : left < 5
      · rw [rt_few h0 h5]
        have hlen : (List.replicate left c).length = left := List.length_replicate
        have := PreP.lit (g := 0) (b := List.replicate left c) hp (hl h5) (List.length_pos_iff.mp (by omega)) (by rw [hlen, List.length_replicate]; omega) (by rw [List.length_replicate, List.drop_replicate, List.take_replicate, Nat.min_eq_left (by omega)]) (fun j a b => rep_none n c j (.inr (by omega)))
        rw [hlen] at this
        rw [hi] at this
        exact this
      · rw [rt_more (by omega)]
        have hb := rep_best n c i h1 (by omega)
        rw [show n - i = left by omega] at hb
        have hm := PreP.mat hp (by omega) hb
        have := ih (left - min left 258) (by omega) (i + min left 258) _ (by omega) (by omega) hm (by simp)
        rwa [List.append_assoc] at this

theorem rep_whole (n c : Nat) (h : 6 ≤ n) : PreP (List.replicate n c) (.lit 0 [c] :: rt c (n - 1)) n := by
  have h1 : PreP (List.replicate n c) ([] ++ [.lit 0 [c]]) (0 + [c].length) :=
    .lit .nil (by simp) (by simp) (by simp; omega) (by simp [List.take_replicate, Nat.min_eq_left (show 1 ≤ n by omega)]) (fun j a b => rep_none n c j (.inl (by simp at b; omega)))
  exact rep_pre n c (n - 1) 1 [.lit 0 [c]] (by omega) (by omega) h1 (by omega)
theorem rep_few (n c : Nat) (h0 : 0 < n) (h : n < 6) : PreP (List.replicate n c) [.lit 0 (List.replicate n c)] n := by
  have h1 : PreP (List.replicate n c) ([] ++ [.lit 0 (List.replicate n c)]) (0 + (List.replicate n c).length) :=
    .lit .nil (by simp) (List.length_pos_iff.mp (by simp; omega)) (by simp) (by simp) (fun j a b => rep_none n c j (by rw [List.length_replicate] at b; omega))
  rw [List.length_replicate, Nat.zero_add] at h1
  exact h1
end Go.Proofs.Ytdjaogailfipjab
