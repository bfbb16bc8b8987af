import Derived.Test.YtlnppgjppfkocaaDoorXsC
/-! What is read out of a part, plainly: right wherever the part was written. -/
namespace Go.Proofs.YtlnppgjppfkocaaDoor.Xs
set_option linter.unusedVariables false
set_option linter.unusedSimpArgs false

/-! ### Numbers -/
/-- What the digits so far say, below 0. -/
def accN (l : By) : Int := -((dvL (l.filter (fun c => !(c == 45))) : Nat) : Int)
theorem dv_snoc (l : By) (c : UInt8) : dvL (l ++ [c]) = dvL l * 10 + (c.toNat - 48) := by
  unfold dvL; rw [List.foldl_append]; rfl
theorem acc_nil : accN [] = 0 := rfl
theorem acc_minus (l : By) : accN (l ++ [45]) = accN l := by
  unfold accN; rw [List.filter_append]; simp
theorem acc_digit (l : By) (c : UInt8) (h1 : 48 ≤ c.toNat) (h2 : c.toNat ≤ 57) : accN (l ++ [c]) = accN l * 10 - ((c.toNat : Int) - 48) := by
  have hc : (!(c == 45)) = true := by
    rw [Bool.not_eq_true', beq_eq_false_iff_ne]
    intro e; subst e; simp at h1
  unfold accN
  rw [List.filter_append, List.filter_cons_of_pos (p := fun c => !(c == 45)) hc, List.filter_nil, dv_snoc]
  omega
theorem dec_filter (n : Nat) : (Lib.decDigits n).filter (fun c => !(c == 45)) = Lib.decDigits n := by
  rw [List.filter_eq_self]
  intro c hc
  rw [Bool.not_eq_true', beq_eq_false_iff_ne]
  intro e; subst e
  have := dec_dig n 45 hc
  simp at this
theorem acc_itoa (n : Int) : accN (Lib.itoa n) = if n < 0 then n else -n := by
  unfold accN Lib.itoa
  by_cases h : n < 0
  · rw [if_pos h, if_pos h, List.filter_cons_of_neg (p := fun c => !(c == 45)) (by simp), dec_filter, dv_dec]; omega
  · rw [if_neg h, if_neg h, dec_filter, dv_dec]; omega
theorem dv_app_le : ∀ (b a : By), dvL a ≤ dvL (a ++ b)
  | [], a => by simp
  | c :: b, a => by
    have := dv_app_le b (a ++ [c])
    rw [dv_snoc, List.append_assoc] at this
    exact Nat.le_trans (by omega) this
theorem acc_pre {n : Int} (h1 : -9223372036854775808 ≤ n) (h2 : n ≤ 9223372036854775807) {a b : By} (e : Lib.itoa n = a ++ b) : -9223372036854775808 ≤ accN a ∧ accN a ≤ 0 := by
  have h := acc_itoa n
  rw [e] at h
  unfold accN at *
  rw [List.filter_append] at h
  have := dv_app_le (b.filter (fun c => !(c == 45))) (a.filter (fun c => !(c == 45)))
  split at h <;> omega
theorem nDigits_le : ∀ (k u : Nat), u < 10 ^ (k + 1) → Lib.nDigits u ≤ k + 1
  | 0, u, h => by rw [Lib.nDigits_small (by simpa using h)]; omega
  | k + 1, u, h => by
    by_cases hu : u < 10
    · rw [Lib.nDigits_small hu]; omega
    · rw [Lib.nDigits_big hu]
      have := nDigits_le k (u / 10) (by rw [Nat.pow_succ] at h; omega)
      omega
theorem itoa_len {n : Int} (h1 : -9223372036854775808 ≤ n) (h2 : n ≤ 9223372036854775807) : (Lib.itoa n).length ≤ 20 := by
  unfold Lib.itoa
  split
  · rw [List.length_cons, Lib.decDigits_length]
    have := nDigits_le 18 n.natAbs (by omega)
    omega
  · rw [Lib.decDigits_length]
    have := nDigits_le 18 n.toNat (by omega)
    omega
theorem itoa_at {n : Int} {a b : By} {c : UInt8} (e : Lib.itoa n = a ++ c :: b) : (a = [] ∧ c = 45 ∧ n < 0) ∨ (48 ≤ c.toNat ∧ c.toNat ≤ 57 ∧ (a = [] → 0 ≤ n)) := by
  unfold Lib.itoa at e
  by_cases h : n < 0
  · rw [if_pos h] at e
    cases a with
    | nil => left; rw [List.nil_append] at e; exact ⟨rfl, (List.cons.inj e).1.symm, h⟩
    | cons x a =>
      right
      have := dec_dig n.natAbs c (by rw [(List.cons.inj e).2]; simp)
      exact ⟨this.1, this.2, fun h => by cases h⟩
  · rw [if_neg h] at e
    right
    have := dec_dig n.toNat c (by rw [e]; simp)
    exact ⟨this.1, this.2, fun _ => by omega⟩
def I64 (z : Int) : Prop := -9223372036854775808 ≤ z ∧ z ≤ 9223372036854775807
/-- Within readNumber: i signs have been looked at. -/
structure RdN (s : By) (i : Nat) (m : Bool) (z : Int) : Prop where
  z64 : I64 z
  is : ∀ n, I64 n → s = Lib.itoa n → m = (decide (n < 0) && decide (0 < i)) ∧ z = accN (s.take i)
theorem RdN.start (s : By) : RdN s 0 false 0 := ⟨⟨by omega, by omega⟩, fun n _ _ => ⟨by simp, by rw [List.take_zero]; rfl⟩⟩
theorem take_at {s : By} {i : Nat} (h : i < s.length) : s.take (i + 1) = s.take i ++ [s.getD i 0] := by
  rw [List.take_succ_eq_append_getElem h, List.getD_eq_getElem?_getD, List.getElem?_eq_getElem h]; rfl
theorem split_at {s : By} {i : Nat} (h : i < s.length) : s = s.take i ++ s.getD i 0 :: s.drop (i + 1) := by
  conv => lhs; rw [← List.take_append_drop i s, List.drop_eq_getElem_cons h]
  rw [List.getD_eq_getElem?_getD, List.getElem?_eq_getElem h]; rfl
/-- The first sign is a minus. -/
theorem RdN.minus {s : By} {m : Bool} {z : Int} (h : RdN s 0 m z) (h0 : 0 < s.length) (e : s.getD 0 0 = 45) : RdN s 1 true z := by
  refine ⟨h.z64, fun n hn es => ?_⟩
  obtain ⟨_, h2⟩ := h.is n hn es
  have e1 := split_at h0
  rw [List.take_zero, e] at e1
  have := itoa_at (a := []) (b := s.drop (0 + 1)) (c := 45) (es.symm.trans e1)
  rcases this with ⟨_, _, hneg⟩ | ⟨h48, _⟩
  · refine ⟨by simp [hneg], ?_⟩
    rw [h2, take_at h0, e, List.take_zero, List.nil_append]
    exact (acc_minus []).symm
  · simp at h48
/-- Another sign: d is what it is worth (a byte's difference), z' the number behind it. -/
theorem RdN.digit {s : By} {i : Nat} {m : Bool} {z z' : Int} (h : RdN s i m z) (hi : i < s.length) (hz' : I64 z')
    (hm : ¬ (i = 0 ∧ s.getD i 0 = 45)) (hd : 48 ≤ (s.getD i 0).toNat → (s.getD i 0).toNat ≤ 57 → I64 (z * 10 - (((s.getD i 0).toNat : Int) - 48)) → -9223372036854775808 ≤ z * 10 → z * 10 ≤ 9223372036854775807 → z' = z * 10 - (((s.getD i 0).toNat : Int) - 48)) : RdN s (i + 1) m z' := by
  refine ⟨hz', fun n hn es => ?_⟩
  obtain ⟨h1, h2⟩ := h.is n hn es
  have e1 := split_at hi
  have hat := itoa_at (es.symm.trans e1)
  rcases hat with ⟨ha, hc, _⟩ | ⟨h48, h57, hnn⟩
  · exfalso
    refine hm ⟨?_, hc⟩
    rcases Nat.eq_zero_or_pos i with h | h
    · exact h
    · have := congrArg List.length ha
      rw [List.length_take, List.length_nil] at this
      omega
  · have hacc : accN (s.take (i + 1)) = z * 10 - (((s.getD i 0).toNat : Int) - 48) := by
      rw [take_at hi, acc_digit _ _ h48 h57, ← h2]
    have hb := acc_pre hn.1 hn.2 (a := s.take (i + 1)) (b := s.drop (i + 1)) (by rw [List.take_append_drop]; exact es.symm)
    rw [hacc] at hb
    refine ⟨?_, ?_⟩
    · rw [h1]
      by_cases hn0 : n < 0
      · have : 0 < i := by
          rcases Nat.eq_zero_or_pos i with h | h
          · exact absurd (hnn (by rw [h]; rfl)) (by omega)
          · exact h
        simp [hn0, this]
      · simp [hn0]
    · rw [hacc]
      exact hd h48 h57 ⟨by omega, by omega⟩ (by omega) (by omega)
/-- At the end. -/
theorem RdN.done {s : By} {i : Nat} {m : Bool} {z : Int} (h : RdN s i m z) (hi : i = s.length ∨ 20 ≤ i) (v : Int) (hv : v = if m = true then z else if z = -9223372036854775808 then z else -z) : ∀ n, I64 n → s = Lib.itoa n → v = n := by
  intro n hn es
  obtain ⟨h1, h2⟩ := h.is n hn es
  have hl := itoa_len hn.1 hn.2
  have hle : s.length ≤ i := by
    rcases hi with e | e
    · omega
    · rw [es]; omega
  rw [List.take_of_length_le hle] at h2
  rw [es, acc_itoa] at h2
  have hpos : 0 < i := by
    rcases hi with e | e
    · rw [e, es]; exact List.length_pos_iff.2 (itoa_nonempty n)
    · omega
  unfold I64 at hn
  by_cases hn0 : n < 0
  · rw [if_pos hn0] at h2
    rw [hv, h1, if_pos (by simp [hn0, hpos]), h2]
  · rw [if_neg hn0] at h2
    rw [hv, h1, if_neg (by simp [hn0]), if_neg (by omega), h2]; omega

/-! ### Texts -/
theorem txt_forms (x : By) : (x ≠ [] ∧ x.all plB = true ∧ txt x = x) ∨ (txt x = 34 :: (x.flatMap esc ++ [34])) := by
  unfold txt
  by_cases h : x ≠ [] ∧ x.all plB = true
  · left; exact ⟨h.1, h.2, if_pos h⟩
  · right; exact if_neg h
theorem esc_forms (c : UInt8) : (esc c = [92, c] ∧ c ≠ 120) ∨ (esc c = [c] ∧ c ≠ 92) ∨ (∃ a b, esc c = [92, 120, a, b] ∧ UInt8.ofNat (hxV a * 16 + hxV b) = c) := by
  unfold esc
  by_cases h1 : c = 34
  · left; rw [if_pos h1, h1]; exact ⟨rfl, by decide⟩
  · rw [if_neg h1]
    by_cases h2 : c = 92
    · left; rw [if_pos h2, h2]; exact ⟨rfl, by decide⟩
    · rw [if_neg h2]
      by_cases h3 : 32 ≤ c.toNat ∧ c.toNat ≤ 126
      · right; left; rw [if_pos h3]; exact ⟨rfl, h2⟩
      · right; right; rw [if_neg h3]
        exact ⟨_, _, rfl, hx_back c⟩
/-- Within readText: the signs ahead of i have been looked at; b is what they say. -/
def RdT (s : By) (i : Nat) (b : By) : Prop := ∀ x, s = 34 :: (x.flatMap esc ++ [34]) → ∃ p q, x = p ++ q ∧ b = p ∧ i = 1 + (p.flatMap esc).length
theorem RdT.start (s : By) : RdT s 1 [] := fun x hx => ⟨[], x, rfl, rfl, rfl⟩
theorem quo_at {p q : By} {c : UInt8} {e r : By} (he : esc c = e) (k : Nat) (hk : k < e.length) : (34 :: ((p ++ c :: q).flatMap esc ++ [34])).getD (1 + (p.flatMap esc).length + k) 0 = e.getD k 0 := by
  rw [List.flatMap_append, List.flatMap_cons, he, Nat.add_assoc, Nat.add_comm 1, List.getD_cons_succ, List.append_assoc, getD_right, List.append_assoc, getD_left _ _ _ _ hk]
theorem quo_len {p q : By} {c : UInt8} : (34 :: ((p ++ c :: q).flatMap esc ++ [34])).length = 1 + (p.flatMap esc).length + (esc c).length + (q.flatMap esc).length + 1 := by
  rw [List.flatMap_append, List.flatMap_cons, List.length_cons, List.length_append, List.length_append, List.length_append]
  simp only [List.length_cons, List.length_nil]; omega
theorem rdt_more {s : By} {i : Nat} {b x p q : By} (hi : i + 1 < s.length) (hx : s = 34 :: (x.flatMap esc ++ [34])) (e1 : x = p ++ q) (e3 : i = 1 + (p.flatMap esc).length) : ∃ c r, q = c :: r := by
  cases q with
  | nil =>
    exfalso
    rw [hx, e1, List.append_nil] at hi
    simp only [List.length_cons, List.length_append, List.length_nil] at hi
    omega
  | cons c r => exact ⟨c, r, rfl⟩
theorem RdT.hex {s : By} {i : Nat} {b : By} (h : RdT s i b) (hi : i + 1 < s.length) (h1 : s.getD i 0 = 92) (h2 : s.getD (i + 1) 0 = 120) (h3 : i + 3 < s.length) :
    RdT s (i + 4) (b ++ [UInt8.ofNat (hxV (s.getD (i + 2) 0) * 16 + hxV (s.getD (i + 3) 0))]) := by
  intro x hx
  obtain ⟨p, q, e1, e2, e3⟩ := h x hx
  obtain ⟨c, r, rfl⟩ := rdt_more (b := b) hi hx e1 e3
  have ha : ∀ (e : By), esc c = e → ∀ k, k < e.length → s.getD (i + k) 0 = e.getD k 0 := fun e he k hk => by
    rw [hx, e1, e3]; exact quo_at (r := []) he k hk
  rcases esc_forms c with ⟨he, hc⟩ | ⟨he, hc⟩ | ⟨u, v, he, hc⟩
  · have := ha _ he 1 (by simp); rw [h2] at this; exact absurd this.symm hc
  · have := ha _ he 0 (by simp); rw [Nat.add_zero, h1] at this; exact absurd this.symm hc
  · have k2 := ha _ he 2 (by simp)
    have k3 := ha _ he 3 (by simp)
    rw [k2, k3]
    refine ⟨p ++ [c], r, by rw [e1]; simp, ?_, ?_⟩
    · rw [e2]
      show p ++ [UInt8.ofNat (hxV u * 16 + hxV v)] = _
      rw [hc]
    · rw [List.flatMap_append, List.length_append, e3]
      simp [he]; omega
theorem RdT.esc2 {s : By} {i : Nat} {b : By} (h : RdT s i b) (hi : i + 1 < s.length) (h1 : s.getD i 0 = 92) (h2 : ¬ (s.getD (i + 1) 0 = 120 ∧ i + 3 < s.length)) :
    RdT s (i + 2) (b ++ [s.getD (i + 1) 0]) := by
  intro x hx
  obtain ⟨p, q, e1, e2, e3⟩ := h x hx
  obtain ⟨c, r, rfl⟩ := rdt_more (b := b) hi hx e1 e3
  have ha : ∀ (e : By), esc c = e → ∀ k, k < e.length → s.getD (i + k) 0 = e.getD k 0 := fun e he k hk => by
    rw [hx, e1, e3]; exact quo_at (r := []) he k hk
  have hlen : s.length = 1 + (p.flatMap esc).length + (esc c).length + (r.flatMap esc).length + 1 := by rw [hx, e1]; exact quo_len
  rcases esc_forms c with ⟨he, hc⟩ | ⟨he, hc⟩ | ⟨u, v, he, hc⟩
  · have k1 := ha _ he 1 (by simp)
    rw [k1]
    refine ⟨p ++ [c], r, by rw [e1]; simp, by rw [e2]; rfl, ?_⟩
    rw [List.flatMap_append, List.length_append, e3]
    simp [he]; omega
  · have := ha _ he 0 (by simp); rw [Nat.add_zero, h1] at this; exact absurd this.symm hc
  · exfalso
    refine h2 ⟨by have := ha _ he 1 (by simp); rw [this]; rfl, ?_⟩
    rw [hlen, he, e3]; simp only [List.length_cons, List.length_nil]; omega
theorem RdT.plain {s : By} {i : Nat} {b : By} (h : RdT s i b) (hi : i + 1 < s.length) (h1 : s.getD i 0 ≠ 92) : RdT s (i + 1) (b ++ [s.getD i 0]) := by
  intro x hx
  obtain ⟨p, q, e1, e2, e3⟩ := h x hx
  obtain ⟨c, r, rfl⟩ := rdt_more (b := b) hi hx e1 e3
  have ha : ∀ (e : By), esc c = e → ∀ k, k < e.length → s.getD (i + k) 0 = e.getD k 0 := fun e he k hk => by
    rw [hx, e1, e3]; exact quo_at (r := []) he k hk
  rcases esc_forms c with ⟨he, hc⟩ | ⟨he, hc⟩ | ⟨u, v, he, hc⟩
  · have := ha _ he 0 (by simp); rw [Nat.add_zero] at this; exact absurd this h1
  · have k0 := ha _ he 0 (by simp)
    rw [Nat.add_zero] at k0
    rw [k0]
    refine ⟨p ++ [c], r, by rw [e1]; simp, by rw [e2]; rfl, ?_⟩
    rw [List.flatMap_append, List.length_append, e3]
    simp [he]; omega
  · have := ha _ he 0 (by simp); rw [Nat.add_zero] at this; exact absurd this h1
theorem RdT.done {s : By} {i : Nat} {b : By} (h : RdT s i b) (hi : ¬ i + 1 < s.length) (h0 : s.getD 0 0 = 34) : ∀ x, s = txt x → b = x := by
  intro x hx
  rcases txt_forms x with ⟨hne, hall, e⟩ | e
  · exfalso
    rw [e] at hx
    cases x with
    | nil => exact hne rfl
    | cons c x =>
      rw [hx] at h0
      have hc : c = 34 := h0
      have := pl_ne c (List.all_eq_true.1 hall c (by simp))
      exact this.1 hc
  · obtain ⟨p, q, e1, e2, e3⟩ := h x (hx.trans e)
    cases q with
    | nil => rw [e2, e1, List.append_nil]
    | cons c q =>
      exfalso
      have : s.length = 1 + (p.flatMap esc).length + (esc c).length + (q.flatMap esc).length + 1 := by rw [hx, e, e1]; exact quo_len
      have h1 : 0 < (esc c).length := List.length_pos_iff.2 (esc_ne c)
      omega
/-- A text that does not begin with a quote, or is too short for two, is its own. -/
theorem txt_bare {s : By} (h : s.length < 2 ∨ s.getD 0 0 ≠ 34) : ∀ x, s = txt x → s = x := by
  intro x hx
  rcases txt_forms x with ⟨_, _, e⟩ | e
  · rw [← e]; exact hx
  · exfalso
    rw [hx, e] at h
    rcases h with h | h
    · simp only [List.length_cons, List.length_append, List.length_nil] at h; omega
    · exact h rfl

/-! ### Bytes -/
/-- Within the loop over a part of bytes: i signs (an even number) have been looked at. -/
def RdB (s : By) (i : Nat) (b : By) : Prop := ∀ x, s = rawT x → i = 2 * b.length ∧ (x = [] → b = []) ∧ ∃ q, x = b ++ q
theorem RdB.start (s : By) : RdB s 0 [] := fun x hx => ⟨rfl, fun _ => rfl, x, rfl⟩
theorem hxs_len : ∀ (x : By), (x.flatMap hxB).length = 2 * x.length
  | [] => rfl
  | c :: x => by rw [List.flatMap_cons, List.length_append, hxs_len x]; simp [hxB]; omega
theorem RdB.next {s : By} {i : Nat} {b : By} (h : RdB s i b) (hi : i + 1 < s.length) : RdB s (i + 2) (b ++ [UInt8.ofNat (hxV (s.getD i 0) * 16 + hxV (s.getD (i + 1) 0))]) := by
  intro x hx
  obtain ⟨h1, h2, q, h3⟩ := h x hx
  by_cases hx0 : x = []
  · exfalso
    rw [hx, hx0] at hi
    simp [rawT] at hi
  · have hx' : s = x.flatMap hxB := by rw [hx]; unfold rawT; rw [if_neg hx0]
    cases q with
    | nil =>
      exfalso
      rw [hx', hxs_len, h3, List.append_nil] at hi
      omega
    | cons c q =>
      have e0 : s = b.flatMap hxB ++ (hxB c ++ q.flatMap hxB) := by rw [hx', h3, List.flatMap_append, List.flatMap_cons]
      have hb := hxs_len b
      have k0 : s.getD i 0 = hxD (c.toNat / 16) := by
        rw [e0, h1, ← hb]
        have := getD_right (b.flatMap hxB) (hxB c ++ q.flatMap hxB) 0 0
        rw [Nat.add_zero] at this
        rw [this]; rfl
      have k1 : s.getD (i + 1) 0 = hxD (c.toNat % 16) := by
        rw [e0, h1, ← hb, getD_right]; rfl
      rw [k0, k1, hx_back]
      refine ⟨by rw [List.length_append]; simp; omega, fun e => absurd e hx0, q, by rw [h3]; simp⟩
theorem RdB.done {s : By} {i : Nat} {b : By} (h : RdB s i b) (hi : ¬ i + 1 < s.length) : ∀ x, s = rawT x → b = x := by
  intro x hx
  obtain ⟨h1, h2, q, h3⟩ := h x hx
  by_cases hx0 : x = []
  · rw [h2 hx0, hx0]
  · have hx' : s = x.flatMap hxB := by rw [hx]; unfold rawT; rw [if_neg hx0]
    cases q with
    | nil => rw [h3, List.append_nil]
    | cons c q =>
      exfalso
      rw [hx', hxs_len, h3, List.length_append, List.length_cons] at hi
      omega
end Go.Proofs.YtlnppgjppfkocaaDoor.Xs
