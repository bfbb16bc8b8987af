import Derived.Test.YtbeaefokpggmpabQtk
/-! quota: a stable sort, plainly: rows as functions. -/
namespace Go.Proofs.Ytbeaefokpggmpab
open Go.RowKit
set_option linter.unusedVariables false

/-- f' is f with the places from a to b in another order. -/
def PermOn (a b : Nat) (f f' : Nat → Nat) : Prop :=
  ∃ σ : Nat → Nat, (∀ k, f' k = f (σ k)) ∧ (∀ k, a ≤ k → k < b → a ≤ σ k ∧ σ k < b) ∧ (∀ k, ¬ (a ≤ k ∧ k < b) → σ k = k) ∧ ∀ i j, σ i = σ j → i = j
theorem PermOn.refl (a b : Nat) (f : Nat → Nat) : PermOn a b f f := ⟨id, fun _ => rfl, fun _ h1 h2 => ⟨h1, h2⟩, fun _ _ => rfl, fun _ _ h => h⟩
theorem PermOn.trans {a b : Nat} {f g h : Nat → Nat} (p : PermOn a b f g) (q : PermOn a b g h) : PermOn a b f h := by
  obtain ⟨σ, s1, s2, s3, s4⟩ := p
  obtain ⟨τ, t1, t2, t3, t4⟩ := q
  refine ⟨fun k => σ (τ k), fun k => by rw [t1, s1], fun k h1 h2 => ?_, fun k hk => ?_, fun i j h => t4 _ _ (s4 _ _ h)⟩
  · have := t2 k h1 h2; exact s2 _ this.1 this.2
  · show σ (τ k) = k
    rw [t3 k hk]; exact s3 k hk
theorem PermOn.mono {a b a' b' : Nat} {f g : Nat → Nat} (p : PermOn a b f g) (h1 : a' ≤ a) (h2 : b ≤ b') : PermOn a' b' f g := by
  obtain ⟨σ, s1, s2, s3, s4⟩ := p
  refine ⟨σ, s1, fun k k1 k2 => ?_, fun k hk => s3 k (by omega), s4⟩
  by_cases hk : a ≤ k ∧ k < b
  · have := s2 k hk.1 hk.2; omega
  · rw [s3 k hk]; omega
theorem PermOn.out {a b : Nat} {f g : Nat → Nat} (p : PermOn a b f g) {k : Nat} (h : ¬ (a ≤ k ∧ k < b)) : g k = f k := by
  obtain ⟨σ, s1, s2, s3, s4⟩ := p
  rw [s1, s3 k h]
theorem PermOn.all {a b : Nat} {f g : Nat → Nat} (p : PermOn a b f g) {Q : Nat → Prop} (h : ∀ k, a ≤ k → k < b → Q (f k)) {k : Nat} (h1 : a ≤ k) (h2 : k < b) : Q (g k) := by
  obtain ⟨σ, s1, s2, s3, s4⟩ := p
  rw [s1]
  exact h _ (s2 k h1 h2).1 (s2 k h1 h2).2
def swpF (f : Nat → Nat) (i j : Nat) : Nat → Nat := fun k => if k = i then f j else if k = j then f i else f k
theorem swpF_key (i j x : Nat) : (x = i ∧ swpF id i j x = j) ∨ (x ≠ i ∧ x = j ∧ swpF id i j x = i) ∨ (x ≠ i ∧ x ≠ j ∧ swpF id i j x = x) := by
  unfold swpF
  by_cases h1 : x = i
  · exact .inl ⟨h1, by rw [if_pos h1]; rfl⟩
  · by_cases h2 : x = j
    · exact .inr (.inl ⟨h1, h2, by rw [if_neg h1, if_pos h2]; rfl⟩)
    · exact .inr (.inr ⟨h1, h2, by rw [if_neg h1, if_neg h2]; rfl⟩)
theorem PermOn.swap {a b i j : Nat} (f : Nat → Nat) (h1 : a ≤ i) (h2 : i < b) (h3 : a ≤ j) (h4 : j < b) : PermOn a b f (swpF f i j) := by
  refine ⟨swpF id i j, fun k => ?_, fun k k1 k2 => ?_, fun k hk => ?_, fun x y h => ?_⟩
  · unfold swpF
    by_cases h1 : k = i
    · rw [if_pos h1, if_pos h1]; rfl
    · by_cases h2 : k = j
      · rw [if_neg h1, if_pos h2, if_neg h1, if_pos h2]; rfl
      · rw [if_neg h1, if_neg h2, if_neg h1, if_neg h2]; rfl
  · have := swpF_key i j k; omega
  · have := swpF_key i j k; omega
  · have := swpF_key i j x; have := swpF_key i j y; omega

variable (rem : Nat → Int)
/-- Whose remainder is greater goes ahead; of equal ones the first. -/
def Ahd (x y : Nat) : Prop := rem y < rem x ∨ (rem x = rem y ∧ x < y)
theorem Ahd.trans {rem : Nat → Int} {x y z : Nat} (h : Ahd rem x y) (k : Ahd rem y z) : Ahd rem x z := by unfold Ahd at *; omega
theorem Ahd.of_lt {rem : Nat → Int} {x y : Nat} (h : rem x < rem y) : Ahd rem y x := .inl h
theorem Ahd.of_not {rem : Nat → Int} {x y : Nat} (h : ¬ rem x < rem y) (hn : x < y) : Ahd rem x y := by unfold Ahd; omega
def Srt (a b : Nat) (f : Nat → Nat) : Prop := ∀ i j, a ≤ i → i < j → j < b → Ahd rem (f i) (f j)
def Sep (a m b : Nat) (f : Nat → Nat) : Prop := ∀ i j, a ≤ i → i < m → m ≤ j → j < b → f i < f j
theorem Srt.le {rem : Nat → Int} {a b a' b' : Nat} {f : Nat → Nat} (h : Srt rem a b f) (h1 : a ≤ a') (h2 : b' ≤ b) : Srt rem a' b' f := fun i j x y z => h i j (by omega) y (by omega)
theorem Srt.congr {rem : Nat → Int} {a b : Nat} {f g : Nat → Nat} (h : Srt rem a b f) (e : ∀ k, a ≤ k → k < b → g k = f k) : Srt rem a b g := fun i j x y z => by
  rw [e i x (by omega), e j (by omega) z]; exact h i j x y z

/-- Insertion: the place j holds what is put in; all others rise. -/
structure Ins (a i j : Nat) (f0 f : Nat → Nat) : Prop where
  rise : ∀ p q, a ≤ p → p < q → q ≤ i → p ≠ j → q ≠ j → Ahd rem (f p) (f q)
  behind : ∀ q, j < q → q ≤ i → Ahd rem (f j) (f q)
  perm : PermOn a (i + 1) f0 f
  big : ∀ p, a ≤ p → p ≤ i → p ≠ j → f p < f j
  aj : a ≤ j
  ji : j ≤ i
theorem Ins.start {rem : Nat → Int} {a i : Nat} {f0 f : Nat → Nat} (hp : PermOn a i f0 f) (hs : Srt rem a i f) (hi : a ≤ i) (hinc : ∀ p q, a ≤ p → p < q → q ≤ i → f0 p < f0 q) : Ins rem a i i f0 f :=
  ⟨fun p q h1 h2 h3 h4 h5 => hs p q h1 h2 (by omega), fun q h1 h2 => by omega, hp.mono (Nat.le_refl _) (by omega), fun p h1 h2 h3 => by
    have h9 := hp.out (k := i) (by omega)
    rw [h9]
    exact hp.all (Q := fun z => z < f0 i) (fun k k1 k2 => hinc k i k1 k2 (Nat.le_refl _)) h1 (by omega), hi, Nat.le_refl _⟩
theorem Ins.step {rem : Nat → Int} {a i j : Nat} {f0 f : Nat → Nat} (h : Ins rem a i j f0 f) (hj : a < j) (hlt : rem (f (j - 1)) < rem (f j)) : Ins rem a i (j - 1) f0 (swpF f j (j - 1)) := by
  have haj := h.aj
  have hji := h.ji
  have e1 : swpF f j (j - 1) j = f (j - 1) := by unfold swpF; rw [if_pos rfl]
  have e2 : swpF f j (j - 1) (j - 1) = f j := by unfold swpF; rw [if_neg (by omega), if_pos rfl]
  have e3 : ∀ k, k ≠ j → k ≠ j - 1 → swpF f j (j - 1) k = f k := fun k k1 k2 => by unfold swpF; rw [if_neg k1, if_neg k2]
  refine ⟨fun p q h1 h2 h3 h4 h5 => ?_, fun q h1 h2 => ?_, h.perm.trans (PermOn.swap f (by omega) (by omega) (by omega) (by omega)), fun p h1 h2 h3 => ?_, by omega, by omega⟩
  · by_cases hp : p = j
    · subst hp
      rw [e1, e3 q (by omega) (by omega)]
      exact h.rise _ _ (by omega) (by omega) h3 (by omega) (by omega)
    · by_cases hq : q = j
      · subst hq
        rw [e1, e3 p (by omega) (by omega)]
        exact h.rise _ _ h1 (by omega) (by omega) (by omega) (by omega)
      · rw [e3 p hp h4, e3 q hq h5]
        exact h.rise _ _ h1 h2 h3 hp hq
  · rw [e2]
    by_cases hq : q = j
    · subst hq; rw [e1]; exact .inl hlt
    · rw [e3 q hq (by omega)]; exact h.behind q (by omega) h2
  · rw [e2]
    by_cases hp : p = j
    · subst hp; rw [e1]; exact h.big _ (by omega) (by omega) (by omega)
    · rw [e3 p hp h3]; exact h.big p h1 h2 hp
theorem Ins.done {rem : Nat → Int} {a i j : Nat} {f0 f : Nat → Nat} (h : Ins rem a i j f0 f) (hs : j = a ∨ ¬ rem (f (j - 1)) < rem (f j)) : Srt rem a (i + 1) f := by
  have haj := h.aj
  have hji := h.ji
  intro p q h1 h2 h3
  by_cases hp : p = j
  · subst hp; exact h.behind q h2 (by omega)
  · by_cases hq : q = j
    · subst hq
      rcases hs with hs | hs
      · omega
      · have k1 : Ahd rem (f (q - 1)) (f q) := Ahd.of_not hs (h.big _ (by omega) (by omega) (by omega))
        by_cases hpq : p = q - 1
        · rw [hpq]; exact k1
        · exact (h.rise p (q - 1) h1 (by omega) (by omega) hp (by omega)).trans k1
    · exact h.rise p q h1 h2 (by omega) hp hq

/-- The first one is moved behind some of the others. -/
def shL (f : Nat → Nat) (a k : Nat) : Nat → Nat := fun x => if a ≤ x ∧ x < k then f (x + 1) else if x = k then f a else f x
theorem shL_start (f : Nat → Nat) (a : Nat) : shL f a a = f := by
  funext x; unfold shL; rw [if_neg (by omega)]; split
  · rename_i h; rw [h]
  · rfl
theorem shL_step (f : Nat → Nat) {a k : Nat} (h : a ≤ k) : swpF (shL f a k) k (k + 1) = shL f a (k + 1) := by
  funext x
  unfold swpF
  by_cases h1 : x = k
  · subst h1; rw [if_pos rfl]; unfold shL; rw [if_neg (by omega), if_neg (by omega), if_pos (by omega)]
  · rw [if_neg h1]
    by_cases h2 : x = k + 1
    · subst h2; rw [if_pos rfl]; unfold shL; rw [if_neg (by omega), if_pos rfl, if_neg (by omega), if_pos rfl]
    · rw [if_neg h2]; unfold shL
      by_cases h3 : a ≤ x ∧ x < k
      · rw [if_pos h3, if_pos (by omega)]
      · rw [if_neg h3, if_neg h1, if_neg (by omega), if_neg h2]
/-- The last one is moved ahead of some of the others. -/
def shR (f : Nat → Nat) (m k : Nat) : Nat → Nat := fun x => if k < x ∧ x ≤ m then f (x - 1) else if x = k then f m else f x
theorem shR_start (f : Nat → Nat) (m : Nat) : shR f m m = f := by
  funext x; unfold shR; rw [if_neg (by omega)]; split
  · rename_i h; rw [h]
  · rfl
theorem shR_step (f : Nat → Nat) {m k : Nat} (h : k + 1 ≤ m) : swpF (shR f m (k + 1)) (k + 1) k = shR f m k := by
  funext x
  unfold swpF
  by_cases h1 : x = k + 1
  · subst h1; rw [if_pos rfl]; unfold shR; rw [if_neg (by omega), if_neg (by omega), if_pos (by omega)]; rfl
  · rw [if_neg h1]
    by_cases h2 : x = k
    · subst h2; rw [if_pos rfl]; unfold shR; rw [if_neg (by omega), if_pos rfl, if_neg (by omega), if_pos rfl]
    · rw [if_neg h2]; unfold shR
      by_cases h3 : k + 1 < x ∧ x ≤ m
      · rw [if_pos h3, if_pos (by omega)]
      · rw [if_neg h3, if_neg h1, if_neg (by omega), if_neg h2]
/-- Two pieces change their places. -/
def swR (f : Nat → Nat) (a b n : Nat) : Nat → Nat := fun x => if a ≤ x ∧ x < a + n then f (x - a + b) else if b ≤ x ∧ x < b + n then f (x - b + a) else f x
theorem swR_start (f : Nat → Nat) (a b : Nat) : swR f a b 0 = f := by funext x; unfold swR; rw [if_neg (by omega), if_neg (by omega)]
theorem swR_step (f : Nat → Nat) {a b n : Nat} (h : a + n < b) : swpF (swR f a b n) (a + n) (b + n) = swR f a b (n + 1) := by
  funext x
  unfold swpF
  by_cases h1 : x = a + n
  · subst h1; rw [if_pos rfl]; unfold swR; rw [if_neg (by omega), if_neg (by omega), if_pos (by omega)]; congr 1; omega
  · rw [if_neg h1]
    by_cases h2 : x = b + n
    · subst h2; rw [if_pos rfl]; unfold swR; rw [if_neg (by omega), if_neg (by omega), if_neg (by omega), if_pos (by omega)]; congr 1; omega
    · rw [if_neg h2]; unfold swR
      by_cases h3 : a ≤ x ∧ x < a + n
      · rw [if_pos h3, if_pos (by omega)]
      · rw [if_neg h3, if_neg (by omega : ¬ (a ≤ x ∧ x < a + (n + 1)))]
        by_cases h4 : b ≤ x ∧ x < b + n
        · rw [if_pos h4, if_pos (by omega)]
        · rw [if_neg h4, if_neg (by omega)]
/-- Two pieces side by side, turned. -/
def rotF (f : Nat → Nat) (s m e : Nat) : Nat → Nat := fun x => if s ≤ x ∧ x < s + (e - m) then f (x + (m - s)) else if s + (e - m) ≤ x ∧ x < e then f (x - (e - m)) else f x
theorem rotF_one {f : Nat → Nat} {s m e x : Nat} (h : s ≤ x ∧ x < s + (e - m)) : rotF f s m e x = f (x + (m - s)) := by unfold rotF; rw [if_pos h]
theorem rotF_two {f : Nat → Nat} {s m e x : Nat} (h : s + (e - m) ≤ x ∧ x < e) : rotF f s m e x = f (x - (e - m)) := by unfold rotF; rw [if_neg (by omega), if_pos h]
theorem rotF_out {f : Nat → Nat} {s m e x : Nat} (h : x < s ∨ e ≤ x) (hm : s ≤ m) (hme : m ≤ e) : rotF f s m e x = f x := by unfold rotF; rw [if_neg (by omega), if_neg (by omega)]
theorem rotF_none {f : Nat → Nat} {s m e : Nat} (h : s = m ∨ m = e) (hm : s ≤ m) (hme : m ≤ e) : rotF f s m e = f := by
  funext x
  by_cases h1 : x < s ∨ e ≤ x
  · exact rotF_out h1 hm hme
  · by_cases h2 : x < s + (e - m)
    · rw [rotF_one (by omega)]; congr 1; omega
    · rw [rotF_two (by omega)]; congr 1; omega
theorem rotF_key {s m e : Nat} (hm : s ≤ m) (hme : m ≤ e) (x : Nat) : (s ≤ x ∧ x < s + (e - m) ∧ rotF id s m e x = x + (m - s)) ∨ (s + (e - m) ≤ x ∧ x < e ∧ rotF id s m e x = x - (e - m)) ∨ ((x < s ∨ e ≤ x) ∧ rotF id s m e x = x) := by
  by_cases h1 : x < s ∨ e ≤ x
  · exact .inr (.inr ⟨h1, rotF_out h1 hm hme⟩)
  · by_cases h2 : x < s + (e - m)
    · exact .inl ⟨by omega, h2, rotF_one ⟨by omega, h2⟩⟩
    · exact .inr (.inl ⟨by omega, by omega, rotF_two ⟨by omega, by omega⟩⟩)
theorem rotF_perm {f : Nat → Nat} {s m e : Nat} (hm : s ≤ m) (hme : m ≤ e) : PermOn s e f (rotF f s m e) := by
  refine ⟨rotF id s m e, fun k => ?_, fun k k1 k2 => ?_, fun k hk => ?_, fun i j h => ?_⟩
  · by_cases h1 : k < s ∨ e ≤ k
    · rw [rotF_out h1 hm hme, rotF_out h1 hm hme]; rfl
    · by_cases h2 : k < s + (e - m)
      · rw [rotF_one ⟨by omega, h2⟩, rotF_one ⟨by omega, h2⟩]; rfl
      · rw [rotF_two ⟨by omega, by omega⟩, rotF_two ⟨by omega, by omega⟩]; rfl
  · have := rotF_key hm hme k; omega
  · have := rotF_key hm hme k; omega
  · have := rotF_key hm hme i; have := rotF_key hm hme j; omega
/-- A turn's step: the left piece is longer. -/
theorem rot_left {f : Nat → Nat} {m i j : Nat} (hij : j < i) (hi : i ≤ m) : rotF (swR f (m - i) m j) (m - (i - j)) m (m + j) = rotF f (m - i) m (m + j) := by
  funext x
  by_cases h0 : x < m - i ∨ m + j ≤ x
  · rw [rotF_out (by omega) (by omega) (by omega), rotF_out h0 (by omega) (by omega)]
    unfold swR; rw [if_neg (by omega), if_neg (by omega)]
  · by_cases h1 : x < m - i + j
    · rw [rotF_out (by omega) (by omega) (by omega), rotF_one (by omega)]
      unfold swR; rw [if_pos (by omega)]; congr 1; omega
    · by_cases h2 : x < m - (i - j) + j
      · rw [rotF_one (by omega), rotF_two (by omega)]
        unfold swR; rw [if_neg (by omega), if_pos (by omega)]; congr 1; omega
      · rw [rotF_two (by omega), rotF_two (by omega)]
        unfold swR; rw [if_neg (by omega), if_neg (by omega)]
theorem rot_right {f : Nat → Nat} {m i j : Nat} (hij : i < j) (hi : i ≤ m) : rotF (swR f (m - i) (m + j - i) i) (m - i) m (m + (j - i)) = rotF f (m - i) m (m + j) := by
  funext x
  by_cases h0 : x < m - i ∨ m + j ≤ x
  · rw [rotF_out (by omega) (by omega) (by omega), rotF_out h0 (by omega) (by omega)]
    unfold swR; rw [if_neg (by omega), if_neg (by omega)]
  · by_cases h1 : x < m - i + (j - i)
    · rw [rotF_one (by omega), rotF_one (by omega)]
      unfold swR; rw [if_neg (by omega), if_neg (by omega)]
    · by_cases h2 : x < m + (j - i)
      · rw [rotF_two (by omega), rotF_one (by omega)]
        unfold swR; rw [if_pos (by omega)]; congr 1; omega
      · rw [rotF_out (by omega) (by omega) (by omega), rotF_two (by omega)]
        unfold swR; rw [if_neg (by omega), if_pos (by omega)]; congr 1; omega
theorem rot_same {f : Nat → Nat} {m i : Nat} (hi : i ≤ m) : swR f (m - i) m i = rotF f (m - i) m (m + i) := by
  funext x
  by_cases h0 : x < m - i ∨ m + i ≤ x
  · rw [rotF_out h0 (by omega) (by omega)]; unfold swR; rw [if_neg (by omega), if_neg (by omega)]
  · by_cases h1 : x < m
    · rw [rotF_one (by omega)]; unfold swR; rw [if_pos (by omega)]; congr 1; omega
    · rw [rotF_two (by omega)]; unfold swR; rw [if_neg (by omega), if_pos (by omega)]; congr 1; omega
end Go.Proofs.Ytbeaefokpggmpab
