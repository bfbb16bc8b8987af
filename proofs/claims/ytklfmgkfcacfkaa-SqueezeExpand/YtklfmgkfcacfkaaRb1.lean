import Derived.Test.YtklfmgkfcacfkaaUn
/-! The document's search: every distance, the nearest first. -/
namespace Go.Proofs.Ytklfmgkfcacfkaa
open Go.RowKit Plain
set_option linter.unusedVariables false

/-- The distances up to D have been looked at. -/
structure RB (l : List Nat) (i D m a : Nat) : Prop where
  is : (m = 0 ∧ a = 0) ∨ (1 ≤ m ∧ 1 ≤ a ∧ a ≤ D ∧ IsLen l i a (most l i) m)
  al : ∀ d n, 1 ≤ d → d ≤ D → IsLen l i d (most l i) n → n ≤ m ∧ (n = m → 1 ≤ m → a ≤ d)
theorem RB.zero (l : List Nat) (i : Nat) : RB l i 0 0 0 := ⟨.inl ⟨rfl, rfl⟩, fun d n h1 h2 => by omega⟩
theorem RB.le {l : List Nat} {i D m a : Nat} (h : RB l i D m a) : m ≤ most l i := by
  rcases h.is with ⟨h1, _⟩ | ⟨_, _, _, h1⟩
  · omega
  · exact h1.1
theorem RB.more {l : List Nat} {i D m a n : Nat} (h : RB l i D m a) (hl : IsLen l i (D + 1) (most l i) n) (hn : m < n) : RB l i (D + 1) n (D + 1) := by
  refine ⟨.inr ⟨by omega, by omega, by omega, hl⟩, fun d n' h1 h2 h3 => ?_⟩
  by_cases e : d = D + 1
  · subst e
    exact ⟨Nat.le_of_eq (hl.unique h3).symm, fun _ _ => Nat.le_refl _⟩
  · have := h.al d n' h1 (by omega) h3
    exact ⟨by omega, fun e => by omega⟩
theorem RB.same {l : List Nat} {i D m a n : Nat} (h : RB l i D m a) (hl : IsLen l i (D + 1) (most l i) n) (hn : ¬ m < n) : RB l i (D + 1) m a := by
  refine ⟨?_, fun d n' h1 h2 h3 => ?_⟩
  · rcases h.is with h1 | ⟨h1, h2, h3, h4⟩
    · exact .inl h1
    · exact .inr ⟨h1, h2, by omega, h4⟩
  · by_cases e : d = D + 1
    · subst e
      have e2 := hl.unique h3
      refine ⟨by omega, fun _ hm => ?_⟩
      rcases h.is with h1 | ⟨_, _, h1, _⟩
      · omega
      · omega
    · exact h.al d n' h1 (by omega) h3

theorem RB.best {l : List Nat} {i D m a : Nat} (h : RB l i D m a) (hi : i < l.length) (hD : D ≤ i ∧ D ≤ 2048) (hf : (∀ d, d ≤ i → d ≤ 2048 → d ≤ D) ∨ m = most l i) : if m < 5 then Best l i 0 0 else Best l i a m := by
  have hm : most l i ≤ 258 ∧ most l i ≤ l.length - i := by unfold most; omega
  have hle := h.le
  have key : ∀ d n, 1 ≤ d → d ≤ i → d ≤ 2048 → IsLen l i d (most l i) n → n ≤ m ∧ (n = m → 1 ≤ m → a ≤ d) := fun d n h1 h2 h3 h4 => by
    by_cases e : d ≤ D
    · exact h.al d n h1 e h4
    · rcases hf with hf | hf
      · exact absurd (hf d h2 h3) e
      · refine ⟨by have := h4.1; omega, fun _ h5 => ?_⟩
        rcases h.is with h6 | ⟨_, _, h6, _⟩
        · omega
        · omega
  split
  · exact .inl ⟨rfl, rfl, fun d n h1 h2 h3 h4 => by have := (key d n h1 h2 h3 h4).1; omega⟩
  · rcases h.is with h6 | ⟨h6, h7, h8, h9⟩
    · omega
    · refine .inr ⟨by omega, by omega, by omega, h7, by omega, by omega, h9, fun d n h1 h2 h3 h4 => ?_⟩
      have := key d n h1 h2 h3 h4
      by_cases e : n = m
      · exact .inr ⟨e, this.2 e (by omega)⟩
      · exact .inl (by omega)
end Go.Proofs.Ytklfmgkfcacfkaa
