import Derived.Test.YtbeaefokpggmpabQvh
/-! quota: a stable sort: pieces, plainly. -/
namespace Go.Proofs.Ytbeaefokpggmpab
open Go.RowKit Plain
set_option linter.unusedVariables false

/-- Each piece of t places holds just these places, in order. -/
structure Part (rem : Nat → Int) (t lo hi : Nat) (f : Nat → Nat) : Prop where
  loc : ∀ k, lo ≤ k → k < hi → f k / t = k / t
  srt : ∀ i j, lo ≤ i → i < j → j < hi → i / t = j / t → Ahd rem (f i) (f j)
theorem Part.le {rem : Nat → Int} {t lo hi lo' hi' : Nat} {f : Nat → Nat} (h : Part rem t lo hi f) (h1 : lo ≤ lo') (h2 : hi' ≤ hi) : Part rem t lo' hi' f :=
  ⟨fun k k1 k2 => h.loc k (by omega) (by omega), fun i j k1 k2 k3 k4 => h.srt i j (by omega) k2 (by omega) k4⟩
theorem Part.congr {rem : Nat → Int} {t lo hi : Nat} {f g : Nat → Nat} (h : Part rem t lo hi f) (e : ∀ k, lo ≤ k → k < hi → g k = f k) : Part rem t lo hi g :=
  ⟨fun k k1 k2 => by rw [e k k1 k2]; exact h.loc k k1 k2, fun i j k1 k2 k3 k4 => by rw [e i k1 (by omega), e j (by omega) k3]; exact h.srt i j k1 k2 k3 k4⟩
theorem Part.one {rem : Nat → Int} {t lo hi q : Nat} {f : Nat → Nat} (hq : ∀ x, lo ≤ x → x < hi → x / t = q) (hl : ∀ k, lo ≤ k → k < hi → lo ≤ f k ∧ f k < hi) (hs : Srt rem lo hi f) : Part rem t lo hi f :=
  ⟨fun k k1 k2 => by rw [hq k k1 k2]; have := hl k k1 k2; exact hq _ this.1 this.2, fun i j k1 k2 k3 _ => hs i j k1 k2 k3⟩
theorem Part.join {rem : Nat → Int} {t a m b : Nat} {f : Nat → Nat} (p : Part rem t a m f) (q : Part rem t m b f) (h : ∀ i j, i < m → m ≤ j → i / t ≠ j / t) : Part rem t a b f := by
  refine ⟨fun k k1 k2 => ?_, fun i j k1 k2 k3 k4 => ?_⟩
  · by_cases hk : k < m
    · exact p.loc k k1 hk
    · exact q.loc k (by omega) k2
  · by_cases hj : j < m
    · exact p.srt i j k1 k2 hj k4
    · by_cases hi : i < m
      · exact absurd k4 (h i j hi (by omega))
      · exact q.srt i j (by omega) k2 k3 k4
theorem Part.none (rem : Nat → Int) (t a b : Nat) (f : Nat → Nat) (h : b ≤ a) : Part rem t a b f := ⟨fun k k1 k2 => by omega, fun i j k1 k2 k3 => by omega⟩
/-- The pieces of twenty. -/
theorem part_ins {rem : Nat → Int} {a b n : Nat} {f g : Nat → Nat} (ha : a % 20 = 0) (hab : a ≤ b) (hb : b ≤ a + 20) (hbn : b = a + 20 ∨ b = n) (p : Part rem 20 0 a f) (hid : ∀ k, a ≤ k → f k = k) (hp : PermOn a b f g) (hs : Srt rem a b g) : Part rem 20 0 b g ∧ ∀ k, b ≤ k → g k = k := by
  refine ⟨(p.congr fun k k1 k2 => hp.out (by omega)).join (Part.one (q := a / 20) (fun x x1 x2 => by omega) (fun k k1 k2 => ?_) hs) (fun i j h1 h2 => by omega), fun k hk => ?_⟩
  · exact hp.all (Q := fun z => a ≤ z ∧ z < b) (fun k k1 k2 => by rw [hid k k1]; exact ⟨k1, k2⟩) k1 k2
  · rw [hp.out (by omega)]; exact hid k (by omega)
/-- What a merge of two pieces wants. -/
theorem part_pre {rem : Nat → Int} {s a b n : Nat} {f : Nat → Nat} (hs : s = 20 ∨ s = 40) (ha : a = 0 ∨ a = 2 * s) (h1 : a + s < b) (h2 : b ≤ a + 2 * s) (h3 : b ≤ n) (p : Part rem s a n f) : Srt rem a (a + s) f ∧ Srt rem (a + s) b f ∧ Sep a (a + s) b f := by
  refine ⟨fun i j k1 k2 k3 => p.srt i j k1 k2 (by omega) ?_, fun i j k1 k2 k3 => p.srt i j (by omega) k2 (by omega) ?_, fun i j k1 k2 k3 k4 => ?_⟩
  · rcases hs with rfl | rfl <;> omega
  · rcases hs with rfl | rfl <;> omega
  · have e1 := p.loc i k1 (by omega)
    have e2 := p.loc j (by omega) (by omega)
    rcases hs with rfl | rfl <;> omega
theorem part_in {rem : Nat → Int} {s a b n : Nat} {f : Nat → Nat} (hs : s = 20 ∨ s = 40) (ha : a = 0 ∨ a = 2 * s) (hb : b = a + 2 * s ∨ b = n) (h2 : b ≤ a + 2 * s) (h3 : b ≤ n) (p : Part rem s a n f) (hv : ∀ k, k < n → f k < n) : ∀ k, a ≤ k → k < b → a ≤ f k ∧ f k < b := by
  intro k k1 k2
  have e1 := p.loc k k1 (by omega)
  have e2 := hv k (by omega)
  rcases hs with rfl | rfl <;> omega
theorem part_post {rem : Nat → Int} {s a b n : Nat} {f g : Nat → Nat} (hs : s = 20 ∨ s = 40) (ha : a = 0 ∨ a = 2 * s) (hb : b = a + 2 * s ∨ b = n) (h1 : a ≤ b) (h2 : b ≤ a + 2 * s) (h3 : b ≤ n) (p : Part rem (2 * s) 0 a f) (q : Part rem s a n f) (hv : ∀ k, k < n → f k < n) (hp : PermOn a b f g) (hsg : Srt rem a b g) : Part rem (2 * s) 0 b g ∧ Part rem s b n g := by
  have hin := part_in hs ha hb h2 h3 q hv
  refine ⟨(p.congr fun k k1 k2 => hp.out (by omega)).join (Part.one (q := a / (2 * s)) (fun x x1 x2 => ?_) (fun k k1 k2 => hp.all (Q := fun z => a ≤ z ∧ z < b) hin k1 k2) hsg) (fun i j k1 k2 => ?_), (q.le h1 (Nat.le_refl _)).congr fun k k1 k2 => hp.out (by omega)⟩
  · rcases hs with rfl | rfl <;> omega
  · rcases hs with rfl | rfl <;> omega
/-- The last piece is alone. -/
theorem part_skip {rem : Nat → Int} {s a n : Nat} {f : Nat → Nat} (hs : s = 20 ∨ s = 40) (ha : a = 0 ∨ a = 2 * s) (han : a ≤ n) (h : n ≤ a + s) (p : Part rem (2 * s) 0 a f) (q : Part rem s a n f) (hv : ∀ k, k < n → f k < n) : Part rem (2 * s) 0 n f := by
  have hsr : Srt rem a n f := fun i j k1 k2 k3 => q.srt i j k1 k2 k3 (by rcases hs with rfl | rfl <;> omega)
  exact (part_post hs ha (.inr rfl) han (by omega) (Nat.le_refl _) p q hv (PermOn.refl _ _ _) hsr).1
theorem part_all {rem : Nat → Int} {s n : Nat} {f : Nat → Nat} (h : n ≤ s) (p : Part rem s 0 n f) : Srt rem 0 n f := fun i j k1 k2 k3 => p.srt i j k1 k2 k3 (by rw [Nat.div_eq_of_lt (by omega), Nat.div_eq_of_lt (by omega)])
theorem perm_id {n : Nat} {f : Nat → Nat} (p : PermOn 0 n id f) : ∀ k, k < n → f k < n := p.small (Nat.le_refl _) (fun k hk => hk)
end Go.Proofs.Ytbeaefokpggmpab
