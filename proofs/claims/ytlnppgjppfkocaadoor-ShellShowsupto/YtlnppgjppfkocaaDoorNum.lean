import Derived.Test.YtlnppgjppfkocaaDoorProg
import Derived.WalkKit
/-! Plain facts on short numbers. -/
namespace Go.Proofs.YtlnppgjppfkocaaDoor.Plain

def uvF : Nat → Nat → List Nat
  | 0, v => [v]
  | k + 1, v => if v < 128 then [v] else (v % 128 + 128) :: uvF k (v / 128)
theorem uvF_enough : ∀ (k m v : Nat), v ≤ k → v ≤ m → uvF k v = uvF m v
  | 0, 0, v, _, _ => rfl
  | 0, m + 1, v, h, _ => by
    obtain rfl : v = 0 := by omega
    rfl
  | k + 1, 0, v, _, h => by
    obtain rfl : v = 0 := by omega
    rfl
  | k + 1, m + 1, v, h, h' => by
    simp only [uvF]
    split
    · rfl
    · rw [uvF_enough k m (v / 128) (by omega) (by omega)]
def uv (v : Nat) : List Nat := uvF v v

theorem uv_lt {v : Nat} (h : v < 128) : uv v = [v] := by
  unfold uv
  cases v with
  | zero => rfl
  | succ v => simp only [uvF]; rw [if_pos h]
theorem uv_ge {v : Nat} (h : ¬ v < 128) : uv v = (v % 128 + 128) :: uv (v / 128) := by
  unfold uv
  cases v with
  | zero => omega
  | succ v =>
    simp only [uvF]
    rw [if_neg h, uvF_enough v ((v + 1) / 128) ((v + 1) / 128) (by omega) (Nat.le_refl _)]

/-- What bytes say that are read as a short number, i of them having been read, which came to acc. -/
def rdGo : List Nat → Nat → Nat → Nat × Nat × Nat
  | [], _, _ => (0, 0, 10)
  | c :: cs, i, acc =>
    if (0 < i ∧ c = 0) ∨ (i = 9 ∧ c ≠ 1) then (0, 0, 11)
    else if c < 128 then (acc + c % 128 * 2 ^ (7 * i), i + 1, 0)
    else rdGo cs (i + 1) (acc + c % 128 * 2 ^ (7 * i))

def rd (l : List Nat) : Nat × Nat × Nat := rdGo l 0 0

theorem uv_pos (v : Nat) : 1 ≤ (uv v).length := by
  by_cases h : v < 128
  · rw [uv_lt h]; simp
  · rw [uv_ge h]; simp

theorem uv_byte : ∀ (v : Nat), ∀ c ∈ uv v, c < 256 := by
  intro v
  induction v using Nat.strongRecOn with
  | ind v ih =>
    by_cases h : v < 128
    · rw [uv_lt h]; simp; omega
    · rw [uv_ge h]
      intro c hc
      rcases List.mem_cons.mp hc with rfl | hc
      · omega
      · exact ih (v / 128) (by omega) c hc

theorem pow_step (i : Nat) : 2 ^ (7 * (i + 1)) = 2 ^ (7 * i) * 128 := by rw [Nat.mul_add, Nat.pow_add]

theorem pow_le_of {u i : Nat} (hu : 0 < u) (h : u * 2 ^ (7 * i) < 2 ^ 64) : i ≤ 9 := by
  apply Classical.byContradiction
  intro hi
  have h1 : 2 ^ 70 ≤ 2 ^ (7 * i) := Nat.pow_le_pow_right (by decide) (by omega)
  have h2 : 1 * 2 ^ (7 * i) ≤ u * 2 ^ (7 * i) := Nat.mul_le_mul_right _ hu
  have h3 : (2 : Nat) ^ 64 < 2 ^ 70 := by decide
  omega

/-- What is written is read back, whatever stands behind. -/
theorem rd_uv : ∀ (v i acc : Nat) (t : List Nat), v * 2 ^ (7 * i) < 2 ^ 64 → (i = 0 ∨ 0 < v) → i ≤ 9 → rdGo (uv v ++ t) i acc = (acc + v * 2 ^ (7 * i), i + (uv v).length, 0) := by
  intro v
  induction v using Nat.strongRecOn with
  | ind v ih =>
    intro i acc t hlt hv hi
    by_cases h : v < 128
    · rw [uv_lt h]
      simp only [List.singleton_append, rdGo]
      rw [if_neg, if_pos h]
      · simp [Nat.mod_eq_of_lt h]
      · rintro (⟨h1, h2⟩ | ⟨h1, h2⟩)
        · omega
        · subst h1
          have : v * 2 ^ 63 < 2 ^ 64 := hlt
          omega
    · rw [uv_ge h]
      have hm : (v % 128 + 128) % 128 = v % 128 := by omega
      simp only [List.cons_append, rdGo]
      have hi8 : i ≤ 8 := by
        apply Classical.byContradiction
        intro h8
        have e : i = 9 := by omega
        subst e
        have : v * 2 ^ 63 < 2 ^ 64 := hlt
        omega
      rw [if_neg (by omega), if_neg (by omega), hm, ih (v / 128) (by omega) (i + 1) _ t ?_ (.inr (by omega)) (by omega)]
      · have e : v % 128 * 2 ^ (7 * i) + v / 128 * 2 ^ (7 * (i + 1)) = v * 2 ^ (7 * i) := by
          rw [pow_step, ← Nat.mul_assoc, Nat.mul_right_comm, ← Nat.add_mul]
          congr 1
          omega
        rw [Nat.add_assoc, e]
        simp
        omega
      · rw [pow_step]
        have : v / 128 * (2 ^ (7 * i) * 128) ≤ v * 2 ^ (7 * i) := by
          rw [Nat.mul_comm (2 ^ (7 * i)), ← Nat.mul_assoc]
          exact Nat.mul_le_mul_right _ (by omega)
        omega

/-- A part of it is too short. -/
theorem rd_part : ∀ (v i acc n : Nat), v * 2 ^ (7 * i) < 2 ^ 64 → i ≤ 9 → n < (uv v).length → rdGo ((uv v).take n) i acc = (0, 0, 10) := by
  intro v
  induction v using Nat.strongRecOn with
  | ind v ih =>
    intro i acc n hlt hi hn
    cases n with
    | zero => rfl
    | succ n =>
      by_cases h : v < 128
      · rw [uv_lt h] at hn; simp at hn
      · rw [uv_ge h] at hn ⊢
        simp only [List.take_succ_cons, rdGo]
        have hi8 : i ≤ 8 := by
          apply Classical.byContradiction
          intro h8
          have e : i = 9 := by omega
          subst e
          have : v * 2 ^ 63 < 2 ^ 64 := hlt
          omega
        rw [if_neg (by omega), if_neg (by omega)]
        refine ih (v / 128) (by omega) (i + 1) _ n ?_ (by omega) (by simpa using hn)
        rw [pow_step]
        have : v / 128 * (2 ^ (7 * i) * 128) ≤ v * 2 ^ (7 * i) := by
          rw [Nat.mul_comm (2 ^ (7 * i)), ← Nat.mul_assoc]
          exact Nat.mul_le_mul_right _ (by omega)
        omega

/-- Whatever is taken is what is written for it. -/
theorem rd_taken : ∀ (l : List Nat) (i acc : Nat), i ≤ 9 → (∀ c ∈ l, c < 256) → (rdGo l i acc).2.2 = 0 →
    ∃ u, (i = 0 ∨ 0 < u) ∧ (rdGo l i acc).1 = acc + u * 2 ^ (7 * i) ∧ u * 2 ^ (7 * i) < 2 ^ 64 ∧ (rdGo l i acc).2.1 = i + (uv u).length ∧ uv u <+: l
  | [], _, _, _, _, h => by simp [rdGo] at h
  | c :: cs, i, acc, hi, hb, h => by
    have hc := hb c (by simp)
    simp only [rdGo] at h ⊢
    by_cases h1 : (0 < i ∧ c = 0) ∨ (i = 9 ∧ c ≠ 1)
    · rw [if_pos h1] at h; simp at h
    · rw [if_neg h1] at h ⊢
      by_cases h2 : c < 128
      · rw [if_pos h2] at h ⊢
        refine ⟨c, by omega, by simp [Nat.mod_eq_of_lt h2], ?_, by simp [uv_lt h2], by rw [uv_lt h2]; exact ⟨cs, rfl⟩⟩
        by_cases h9 : i = 9
        · subst h9
          have : c = 1 := by omega
          subst this
          decide
        · have h3 : c * 2 ^ (7 * i) ≤ 127 * 2 ^ 56 := Nat.mul_le_mul (by omega) (Nat.pow_le_pow_right (by decide) (by omega))
          omega
      · rw [if_neg h2] at h ⊢
        obtain ⟨u, hu, e1, e2, e3, e4⟩ := rd_taken cs (i + 1) _ (by omega) (fun c hc => hb c (by simp [hc])) h
        have hu' : 0 < u := by omega
        have hge : ¬ (c % 128 + 128 * u) < 128 := by omega
        have hmod : (c % 128 + 128 * u) % 128 + 128 = c := by omega
        have hdiv : (c % 128 + 128 * u) / 128 = u := by omega
        have hval : (c % 128 + 128 * u) * 2 ^ (7 * i) = c % 128 * 2 ^ (7 * i) + u * 2 ^ (7 * (i + 1)) := by
          rw [pow_step, Nat.add_mul, Nat.mul_comm (2 ^ (7 * i)), ← Nat.mul_assoc u, Nat.mul_comm u]
        refine ⟨c % 128 + 128 * u, by omega, ?_, ?_, ?_, ?_⟩
        · rw [e1, hval]; omega
        · rw [hval]
          have hu2 : u * 2 ^ (7 * (i + 1)) + 2 ^ (7 * (i + 1)) ≤ 2 ^ 64 := by
            have hi9 := pow_le_of hu' e2
            by_cases h9 : i + 1 = 9
            · rw [h9] at e2 ⊢; omega
            · obtain ⟨k, hk⟩ : ∃ k, 2 ^ 64 = k * 2 ^ (7 * (i + 1)) := ⟨2 ^ (64 - 7 * (i + 1)), by rw [← Nat.pow_add]; congr 1; omega⟩
              rw [hk] at e2 ⊢
              have := Nat.lt_of_mul_lt_mul_right e2
              calc u * 2 ^ (7 * (i + 1)) + 2 ^ (7 * (i + 1)) = (u + 1) * 2 ^ (7 * (i + 1)) := by rw [Nat.add_mul, Nat.one_mul]
                _ ≤ k * 2 ^ (7 * (i + 1)) := Nat.mul_le_mul_right _ this
          have h4 : c % 128 * 2 ^ (7 * i) < 128 * 2 ^ (7 * i) := Nat.mul_lt_mul_of_pos_right (by omega) (Nat.pow_pos (by decide))
          rw [pow_step] at hu2 ⊢
          omega
        · rw [e3, uv_ge hge, hdiv]; simp; omega
        · rw [uv_ge hge, hmod, hdiv]; exact List.cons_prefix_cons.mpr ⟨rfl, e4⟩

/-- Where nothing is taken. -/
theorem rd_refused : ∀ (l : List Nat) (i acc : Nat), (rdGo l i acc).2.2 ≠ 0 → rdGo l i acc = (0, 0, 10) ∨ rdGo l i acc = (0, 0, 11)
  | [], _, _, _ => by simp [rdGo]
  | c :: cs, i, acc, h => by
    simp only [rdGo] at h ⊢
    by_cases h1 : (0 < i ∧ c = 0) ∨ (i = 9 ∧ c ≠ 1)
    · rw [if_pos h1]; simp
    · rw [if_neg h1] at h ⊢
      by_cases h2 : c < 128
      · rw [if_pos h2] at h; simp at h
      · rw [if_neg h2] at h ⊢
        exact rd_refused cs _ _ h

theorem uv_len : ∀ v i : Nat, v < 2 ^ (7 * (i + 1)) → (uv v).length ≤ i + 1 := by
  intro v
  induction v using Nat.strongRecOn with
  | ind v ih =>
    intro i h
    by_cases h1 : v < 128
    · rw [uv_lt h1]; simp
    · rw [uv_ge h1]
      cases i with
      | zero => simp at h; omega
      | succ i =>
        have := ih (v / 128) (by omega) i (by rw [pow_step] at h; omega)
        simp; omega

theorem uv_len10 {v : Nat} (h : v < 2 ^ 64) : (uv v).length ≤ 10 := uv_len v 9 (Nat.lt_of_lt_of_le h (by decide))

theorem uv_mono : ∀ v w : Nat, v ≤ w → (uv v).length ≤ (uv w).length := by
  intro v
  induction v using Nat.strongRecOn with
  | ind v ih =>
    intro w h
    by_cases h1 : v < 128
    · rw [uv_lt h1]; exact uv_pos w
    · rw [uv_ge h1, uv_ge (show ¬ w < 128 by omega)]
      have := ih (v / 128) (by omega) (w / 128) (by omega)
      simp; omega

/-- No short number begins another one. -/
theorem uv_apart : ∀ v w : Nat, uv v <+: uv w → v = w := by
  intro v
  induction v using Nat.strongRecOn with
  | ind v ih =>
    intro w h
    by_cases h1 : v < 128
    · by_cases h2 : w < 128
      · rw [uv_lt h1, uv_lt h2] at h
        have := List.cons_prefix_cons.mp h
        exact this.1
      · rw [uv_lt h1, uv_ge h2] at h
        have := (List.cons_prefix_cons.mp h).1
        omega
    · by_cases h2 : w < 128
      · rw [uv_ge h1, uv_lt h2] at h
        have := (List.cons_prefix_cons.mp h).1
        omega
      · rw [uv_ge h1, uv_ge h2] at h
        obtain ⟨e1, e2⟩ := List.cons_prefix_cons.mp h
        have := ih (v / 128) (by omega) (w / 128) e2
        omega
end Go.Proofs.YtlnppgjppfkocaaDoor.Plain
