import Derived.Test.YtpclicimakgpdaaCCmp
/-! Plain facts on the order of texts, and on what stands above a prefix. -/
namespace Go.Proofs.Ytpclicimakgpdaa.Plain

theorem u8_of_toNat {x y : UInt8} (h : x.toNat = y.toNat) : x = y := UInt8.toNat_inj.mp h

theorem cmpL_less : ∀ xs ys : List UInt8, Op.bytesLess xs ys = decide (cmpL xs ys < 0)
  | [], [] => rfl
  | [], _ :: _ => rfl
  | _ :: _, [] => rfl
  | x :: xs, y :: ys => by
    simp only [Op.bytesLess, cmpL, cmpL_less xs ys]
    by_cases h1 : x.toNat < y.toNat
    · have : x < y := UInt8.lt_iff_toNat_lt.mpr h1
      simp [h1, this]
    · have n1 : ¬ x < y := fun h => h1 (UInt8.lt_iff_toNat_lt.mp h)
      by_cases h2 : y.toNat < x.toNat
      · have n2 : x ≠ y := fun h => by subst h; omega
        simp [h1, h2, n1, n2]
      · have e := u8_eq h1 h2
        subst e
        simp

theorem cmpL_eq (xs ys : List UInt8) : (xs == ys) = decide (cmpL xs ys = 0) := by
  by_cases h : cmpL xs ys = 0
  · rw [cmpL_zero xs ys h]; simp [cmpL_self]
  · have : xs ≠ ys := fun e => h (by rw [e]; exact cmpL_self ys)
    simp [h, this]

theorem cmpL_trans : ∀ xs ys zs : List UInt8, cmpL xs ys ≤ 0 → cmpL ys zs ≤ 0 → cmpL xs zs ≤ 0
  | [], _, [], _, _ => by simp [cmpL]
  | [], _, _ :: _, _, _ => by simp [cmpL]
  | _ :: _, [], _, h, _ => by simp [cmpL] at h
  | _ :: _, _ :: _, [], _, h => by simp [cmpL] at h
  | x :: xs, y :: ys, z :: zs, h1, h2 => by
    simp only [cmpL] at h1 h2 ⊢
    by_cases a1 : x.toNat < y.toNat
    · by_cases b1 : y.toNat < z.toNat
      · rw [if_pos (by omega)]; omega
      · rw [if_neg b1] at h2
        by_cases b2 : z.toNat < y.toNat
        · rw [if_pos b2] at h2; omega
        · rw [if_pos (by omega)]; omega
    · rw [if_neg a1] at h1
      by_cases a2 : y.toNat < x.toNat
      · rw [if_pos a2] at h1; omega
      · rw [if_neg a2] at h1
        by_cases b1 : y.toNat < z.toNat
        · rw [if_pos (by omega)]; omega
        · rw [if_neg b1] at h2
          by_cases b2 : z.toNat < y.toNat
          · rw [if_pos b2] at h2; omega
          · rw [if_neg b2] at h2
            rw [if_neg (by omega), if_neg (by omega)]
            exact cmpL_trans xs ys zs h1 h2

theorem aft_none : ∀ p : List UInt8, aft p = none → ∀ c ∈ p, c.toNat = 255
  | [], _, c, hc => by simp at hc
  | y :: p, h, c, hc => by
    unfold aft at h
    cases e : aft p with
    | some q => rw [e] at h; simp at h
    | none =>
      rw [e] at h
      by_cases hy : y.toNat = 255
      · rcases List.mem_cons.mp hc with rfl | hc
        · exact hy
        · exact aft_none p e c hc
      · simp [hy] at h

theorem pre_none : ∀ p a : List UInt8, (∀ c ∈ p, c.toNat = 255) → (0 ≤ cmpL a p ↔ p <+: a)
  | [], [], _ => by simp [cmpL]
  | [], _ :: _, _ => by simp [cmpL]
  | y :: p, [], _ => by simp [cmpL]
  | y :: p, z :: a, h => by
    have hy := h y (by simp)
    have hz := z.toNat_lt
    have ih := pre_none p a (fun c hc => h c (by simp [hc]))
    simp only [cmpL]
    rw [List.cons_prefix_cons]
    by_cases e : z.toNat = y.toNat
    · rw [if_neg (by omega), if_neg (by omega), ih]
      have := u8_of_toNat e
      simp [this]
    · rw [if_pos (by omega)]
      have : y ≠ z := fun h => e (by rw [h])
      simp [this]

theorem pre_some : ∀ p a q : List UInt8, aft p = some q → ((0 ≤ cmpL a p ∧ cmpL a q < 0) ↔ p <+: a)
  | [], _, _, h => by simp [aft] at h
  | y :: p, a, q, h => by
    unfold aft at h
    cases e : aft p with
    | some q' =>
      rw [e] at h
      simp only [Option.some.injEq] at h
      subst h
      cases a with
      | nil => simp [cmpL]
      | cons z a =>
        have ih := pre_some p a q' e
        simp only [cmpL]
        rw [List.cons_prefix_cons]
        by_cases h1 : z.toNat < y.toNat
        · have : y ≠ z := fun h => by subst h; omega
          simp [h1, this]
        · by_cases h2 : y.toNat < z.toNat
          · have : y ≠ z := fun h => by subst h; omega
            simp [h1, h2, this]
          · have := u8_eq h1 h2
            subst this
            simpa using ih
    | none =>
      rw [e] at h
      have hall := aft_none p e
      by_cases hy : y.toNat = 255
      · simp [hy] at h
      · simp only [hy, if_false, Option.some.injEq] at h
        subst h
        have hyl := y.toNat_lt
        have hy1 : (y + 1).toNat = y.toNat + 1 := by rw [UInt8.toNat_add]; simp; omega
        cases a with
        | nil => simp [cmpL]
        | cons z a =>
          have ih := pre_none p a hall
          simp only [cmpL, hy1]
          rw [List.cons_prefix_cons]
          by_cases h1 : z.toNat < y.toNat
          · have : y ≠ z := fun h => by subst h; omega
            simp [h1, this]
          · by_cases h2 : y.toNat < z.toNat
            · have : y ≠ z := fun h => by subst h; omega
              rw [if_neg (show ¬ z.toNat < y.toNat + 1 by omega)]
              by_cases h3 : y.toNat + 1 < z.toNat
              · simp [this, h3]
              · have h4 : ¬ cmpL a [] < 0 := by cases a <;> simp [cmpL]
                simp [this, h3, h4]
            · have := u8_eq h1 h2
              subst this
              simpa using ih

theorem aft_len : ∀ p q : List UInt8, aft p = some q → q.length ≤ p.length
  | [], _, h => by simp [aft] at h
  | y :: p, q, h => by
    unfold aft at h
    cases e : aft p with
    | some q' =>
      rw [e] at h
      simp only [Option.some.injEq] at h
      subst h
      have := aft_len p q' e
      simp; omega
    | none =>
      rw [e] at h
      by_cases hy : y.toNat = 255
      · simp [hy] at h
      · simp only [hy, if_false, Option.some.injEq] at h
        subst h
        simp

theorem pre_len {p a : List UInt8} (h : p <+: a) : p.length ≤ a.length := h.length_le
theorem pre_take {p a : List UInt8} : p <+: a ↔ p.length ≤ a.length ∧ a.take p.length = p :=
  ⟨fun h => ⟨h.length_le, (List.prefix_iff_eq_take.mp h).symm⟩, fun h => List.prefix_iff_eq_take.mpr h.2.symm⟩

theorem pre_cmp (p a : List UInt8) (h : p <+: a) : 0 ≤ cmpL a p := by
  obtain ⟨t, rfl⟩ := h
  induction p with
  | nil => cases t <;> simp [cmpL]
  | cons y p ih => simpa [cmpL] using ih
end Go.Proofs.Ytpclicimakgpdaa.Plain
