import Derived.Test.YtelhjdplghpnbaaProg
/-! Classes of work, plainly: none is passed by too often. -/
namespace Go.Proofs.Ytelhjdplghpnbaa
set_option linter.unusedVariables false
set_option linter.unusedSimpArgs false

def clampW (z : Int) : Int := max 0 (min z 16)
def anyL (w : Nat → Bool) : Nat → Bool
  | 0 => false
  | n + 1 => anyL w n || w n
/-- The one that is most overdue of the first n, or -1. -/
def bestL (f : Nat → Int) (w : Nat → Bool) : Nat → Int
  | 0 => -1
  | n + 1 => if w n = true ∧ 13 ≤ f n ∧ (bestL f w n < 0 ∨ f (bestL f w n).toNat < f n) then n else bestL f w n
/-- The first class with work from s on, at most n places on. -/
def fromL (w : Nat → Bool) : Nat → Nat → Nat
  | 0, s => s
  | n + 1, s => if w s = true then s else fromL w n ((s + 1) % 4)
/-- Which class is served. -/
def pickL (f : Nat → Int) (w : Nat → Bool) (pick : Int) : Nat := if bestL f w 4 < 0 then fromL w 4 (pick % 4).toNat else (bestL f w 4).toNat
def waitL (f : Nat → Int) (w : Nat → Bool) (k : Nat) (i : Nat) : Int := if i = k ∨ w i = false then 0 else f i + 1
/-- What Class answers: the waits, the class (or -1). -/
def classL (c : Nat → Int) (w : Nat → Bool) (pick : Int) : (Nat → Int) × Int :=
  if anyL w 4 = true then (waitL (fun i => clampW (c i)) w (pickL (fun i => clampW (c i)) w pick), pickL (fun i => clampW (c i)) w pick) else (fun _ => 0, -1)
theorem bestL_is (f : Nat → Int) (w : Nat → Bool) : ∀ n, (bestL f w n = -1 ∧ ∀ i, i < n → w i = true → f i < 13) ∨ ∃ k : Nat, bestL f w n = k ∧ k < n ∧ w k = true ∧ 13 ≤ f k ∧ ∀ i, i < n → w i = true → f i ≤ f k ∨ f i < 13
  | 0 => .inl ⟨rfl, fun i hi => by omega⟩
  | n + 1 => by
    have ih := bestL_is f w n
    unfold bestL
    split
    · rename_i h
      obtain ⟨h1, h2, h3⟩ := h
      refine .inr ⟨n, rfl, by omega, h1, h2, fun i hi hw => ?_⟩
      by_cases e : i = n
      · subst e; exact .inl (Int.le_refl _)
      · rcases ih with ⟨e1, e2⟩ | ⟨k, e1, e2, e3, e4, e5⟩
        · exact .inr (e2 i (by omega) hw)
        · rcases e5 i (by omega) hw with e6 | e6
          · refine .inl ?_
            rw [e1] at h3
            simp at h3
            omega
          · exact .inr e6
    · rename_i h
      rcases ih with ⟨e1, e2⟩ | ⟨k, e1, e2, e3, e4, e5⟩
      · refine .inl ⟨e1, fun i hi hw => ?_⟩
        by_cases e : i = n
        · subst e
          rw [e1] at h
          simp at h
          exact h hw
        · exact e2 i (by omega) hw
      · refine .inr ⟨k, e1, by omega, e3, e4, fun i hi hw => ?_⟩
        by_cases e : i = n
        · subst e
          rw [e1] at h
          simp at h
          by_cases e6 : f i < 13
          · exact .inr e6
          · exact .inl (by have := h hw (by omega); omega)
        · exact e5 i (by omega) hw
theorem anyL_is (w : Nat → Bool) : anyL w 4 = (w 0 || w 1 || w 2 || w 3) := by simp [anyL]
theorem fromL_is (w : Nat → Bool) (s : Nat) (hs : s < 4) (h : anyL w 4 = true) : fromL w 4 s < 4 ∧ w (fromL w 4 s) = true ∧ (w s = true → fromL w 4 s = s) := by
  rw [anyL_is] at h
  have hc : s = 0 ∨ s = 1 ∨ s = 2 ∨ s = 3 := by omega
  rcases hc with rfl | rfl | rfl | rfl <;> simp only [fromL] <;>
    cases h0 : w 0 <;> cases h1 : w 1 <;> cases h2 : w 2 <;> cases h3 : w 3 <;> simp_all
theorem pickL_is (f : Nat → Int) (w : Nat → Bool) (pick : Int) (h : anyL w 4 = true) : pickL f w pick < 4 ∧ w (pickL f w pick) = true ∧
    ((∀ i, i < 4 → w i = true → f i < 13) → w (pick % 4).toNat = true → pickL f w pick = (pick % 4).toNat) ∧
    ((∀ i, i < 4 → w i = true → f i < 13) ∨ (13 ≤ f (pickL f w pick) ∧ ∀ i, i < 4 → w i = true → f i ≤ f (pickL f w pick) ∨ f i < 13)) := by
  have hp : (pick % 4).toNat < 4 := by have := Int.emod_lt_of_pos pick (show (0 : Int) < 4 by omega); have := Int.emod_nonneg pick (show (4 : Int) ≠ 0 by omega); omega
  obtain ⟨a1, a2, a3⟩ := fromL_is w _ hp h
  unfold pickL
  rcases bestL_is f w 4 with ⟨e1, e2⟩ | ⟨k, e1, e2, e3, e4, e5⟩
  · rw [e1, if_pos (by omega)]
    exact ⟨a1, a2, fun _ => a3, .inl e2⟩
  · rw [e1, if_neg (by omega)]
    simp only [Int.toNat_natCast]
    refine ⟨e2, e3, fun hh => ?_, .inr ⟨e4, e5⟩⟩
    have := hh k e2 e3
    omega
/-- What is kept of the waits: there are few that are long overdue. -/
structure Pat (f : Nat → Int) : Prop where
  lo : ∀ i, i < 4 → 0 ≤ f i
  one : ∀ i, i < 4 → f i ≤ 16
  two : ∀ i j, i < j → j < 4 → f i ≤ 15 ∨ f j ≤ 15
  three : ∀ i j k, i < j → j < k → k < 4 → f i ≤ 14 ∨ f j ≤ 14 ∨ f k ≤ 14
  four : f 0 ≤ 13 ∨ f 1 ≤ 13 ∨ f 2 ≤ 13 ∨ f 3 ≤ 13
theorem Pat.zero : Pat (fun _ => 0) := ⟨fun _ _ => by omega, fun _ _ => by omega, fun _ _ _ _ => .inl (by omega), fun _ _ _ _ _ _ => .inl (by omega), .inl (by omega)⟩
theorem Pat.clamp {f : Nat → Int} (h : Pat f) {i : Nat} (hi : i < 4) : clampW (f i) = f i := by
  have := h.lo i hi
  have := h.one i hi
  unfold clampW
  omega
theorem Pat.two' {f : Nat → Int} (h : Pat f) {i j : Nat} (hi : i < 4) (hj : j < 4) (e : i ≠ j) : f i ≤ 15 ∨ f j ≤ 15 := by
  rcases Nat.lt_or_gt_of_ne e with e1 | e1
  · exact h.two i j e1 hj
  · exact (h.two j i e1 hi).symm
theorem Pat.three' {f : Nat → Int} (h : Pat f) {i j k : Nat} (hi : i < 4) (hj : j < 4) (hk : k < 4) (e1 : i ≠ j) (e2 : i ≠ k) (e3 : j ≠ k) : f i ≤ 14 ∨ f j ≤ 14 ∨ f k ≤ 14 := by
  have hc : (i < j ∧ j < k) ∨ (i < k ∧ k < j) ∨ (j < i ∧ i < k) ∨ (j < k ∧ k < i) ∨ (k < i ∧ i < j) ∨ (k < j ∧ j < i) := by omega
  rcases hc with ⟨a, b⟩ | ⟨a, b⟩ | ⟨a, b⟩ | ⟨a, b⟩ | ⟨a, b⟩ | ⟨a, b⟩
  · exact h.three i j k a b hk
  · have := h.three i k j a b hj; omega
  · have := h.three j i k a b hk; omega
  · have := h.three j k i a b hi; omega
  · have := h.three k i j a b hj; omega
  · have := h.three k j i a b hi; omega
theorem Pat.four' {f : Nat → Int} (h : Pat f) {i j l k : Nat} (hk : k < 4) (e1 : i < j) (e2 : j < l) (e3 : l < 4) (n1 : i ≠ k) (n2 : j ≠ k) (n3 : l ≠ k) : f i ≤ 13 ∨ f j ≤ 13 ∨ f l ≤ 13 ∨ f k ≤ 13 := by
  have hf := h.four
  have hc : (k = 0 ∧ i = 1 ∧ j = 2 ∧ l = 3) ∨ (k = 1 ∧ i = 0 ∧ j = 2 ∧ l = 3) ∨ (k = 2 ∧ i = 0 ∧ j = 1 ∧ l = 3) ∨ (k = 3 ∧ i = 0 ∧ j = 1 ∧ l = 2) := by omega
  rcases hc with ⟨rfl, rfl, rfl, rfl⟩ | ⟨rfl, rfl, rfl, rfl⟩ | ⟨rfl, rfl, rfl, rfl⟩ | ⟨rfl, rfl, rfl, rfl⟩ <;> omega
/-- NO CLASS STARVES. -/
theorem Pat.step {f : Nat → Int} {w : Nat → Bool} {k : Nat} (h : Pat f) (hk : k < 4) (hs : (∀ i, i < 4 → w i = true → f i < 13) ∨ (13 ≤ f k ∧ ∀ i, i < 4 → w i = true → f i ≤ f k ∨ f i < 13)) : Pat (waitL f w k) := by
  have m : ∀ i, i < 4 → waitL f w k i = 0 ∨ (waitL f w k i = f i + 1 ∧ i ≠ k ∧ (f i < 13 ∨ (13 ≤ f k ∧ f i ≤ f k))) := fun i hi => by
    unfold waitL
    by_cases e : i = k ∨ w i = false
    · rw [if_pos e]; exact .inl rfl
    · rw [if_neg e]
      have hw : w i = true := by
        cases hw : w i with
        | true => rfl
        | false => exact absurd (.inr hw) e
      refine .inr ⟨rfl, fun e2 => e (.inl e2), ?_⟩
      rcases hs with hs | ⟨e1, e2⟩
      · exact .inl (hs i hi hw)
      · rcases e2 i hi hw with e3 | e3
        · exact .inr ⟨e1, e3⟩
        · exact .inl e3
  have mk : waitL f w k k = 0 := by unfold waitL; rw [if_pos (.inl rfl)]
  refine ⟨fun i hi => ?_, fun i hi => ?_, fun i j hij hj => ?_, fun i j l hij hjl hl => ?_, ?_⟩
  · have := m i hi; have := h.lo i hi; omega
  · rcases m i hi with e | ⟨e1, e2, e3⟩
    · omega
    · have := h.two' hi hk e2; omega
  · have hi : i < 4 := by omega
    rcases m i hi with e | ⟨e1, e2, e3⟩
    · omega
    · rcases m j hj with e | ⟨g1, g2, g3⟩
      · omega
      · have := h.three' hi hj hk (by omega) e2 g2; omega
  · have hi : i < 4 := by omega
    have hj : j < 4 := by omega
    rcases m i hi with e | ⟨e1, e2, e3⟩
    · omega
    · rcases m j hj with e | ⟨g1, g2, g3⟩
      · omega
      · rcases m l hl with e | ⟨k1, k2, k3⟩
        · omega
        · have := h.four' hk hij hjl hl e2 g2 k2; omega
  · have hc : k = 0 ∨ k = 1 ∨ k = 2 ∨ k = 3 := by omega
    rcases hc with rfl | rfl | rfl | rfl
    · exact .inl (by omega)
    · exact .inr (.inl (by omega))
    · exact .inr (.inr (.inl (by omega)))
    · exact .inr (.inr (.inr (by omega)))
end Go.Proofs.Ytelhjdplghpnbaa
