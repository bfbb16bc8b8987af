import Derived.Test.YtlnppgjppfkocaaGreatDoorGq01
import Derived.Test.YtlnppgjppfkocaaGreatDoorRows
import Derived.WalkKit
import Derived.ProofKit
import Derived.OpenShut
import Derived.Below
import Derived.Deep.QuietTactic
import Derived.BigQuiet
import Derived.Deep.RegionWith
import Derived.Laws.IdiomStrings
import Derived.ChangeMaps5
/-! What is read out of a part, plainly: right wherever the part was written. -/
namespace Go.Proofs.YtlnppgjppfkocaaGreatDoor.Xs
set_option linter.unusedVariables false
set_option linter.unusedSimpArgs false

/-! ### Numbers -/
/-- What the digits so far say, below 0. -/
def accN (l : By) : Int := -((dvL (l.filter (fun c => !(c == 45))) : Nat) : Int)
theorem dv_snoc (l : By) (c : UInt8) : dvL (l ++ [c]) = dvL l * 10 + (c.toNat - 48) := by
  unfold dvL; rw [List.foldl_append]; rfl
theorem acc_nil : accN [] = 0 := rfl
theorem acc_minus (l : By) : accN (l ++ [45]) = accN l := by
  unfold accN; rw [List.filter_append]; simp
theorem acc_digit (l : By) (c : UInt8) (h1 : 48 ≤ c.toNat) (h2 : c.toNat ≤ 57) : accN (l ++ [c]) = accN l * 10 - ((c.toNat : Int) - 48) := by
  have hc : (!(c == 45)) = true := by
    rw [Bool.not_eq_true', beq_eq_false_iff_ne]
    intro e; subst e; simp at h1
  unfold accN
  rw [List.filter_append, List.filter_cons_of_pos (p := fun c => !(c == 45)) hc, List.filter_nil, dv_snoc]
  omega
theorem dec_filter (n : Nat) : (Lib.decDigits n).filter (fun c => !(c == 45)) = Lib.decDigits n := by
  rw [List.filter_eq_self]
  intro c hc
  rw [Bool.not_eq_true', beq_eq_false_iff_ne]
  intro e; subst e
  have := dec_dig n 45 hc
  simp at this
theorem acc_itoa (n : Int) : accN (Lib.itoa n) = if n < 0 then n else -n := by
  unfold accN Lib.itoa
  by_cases h : n < 0
  · rw [if_pos h, if_pos h, List.filter_cons_of_neg (p := fun c => !(c == 45)) (by simp), dec_filter, dv_dec]; omega
  · rw [if_neg h, if_neg h, dec_filter, dv_dec]; omega
theorem dv_app_le : ∀ (b a : By), dvL a ≤ dvL (a ++ b)
  | [], a => by simp
  | c :: b, a => by
    have := dv_app_le b (a ++ [c])
    rw [dv_snoc, List.append_assoc] at this
    exact Nat.le_trans (by omega) this
theorem acc_pre {n : Int} (h1 : -9223372036854775808 ≤ n) (h2 : n ≤ 9223372036854775807) {a b : By} (e : Lib.itoa n = a ++ b) : -9223372036854775808 ≤ accN a ∧ accN a ≤ 0 := by
  have h := acc_itoa n
  rw [e] at h
  unfold accN at *
  rw [List.filter_append] at h
  have := dv_app_le (b.filter (fun c => !(c == 45))) (a.filter (fun c => !(c == 45)))
  split at h <;> omega
theorem nDigits_le : ∀ (k u : Nat), u < 10 ^ (k + 1) → Lib.nDigits u ≤ k + 1
  | 0, u, h => by rw [Lib.nDigits_small (by simpa using h)]; omega
  | k + 1, u, h => by
    by_cases hu : u < 10
    · rw [Lib.nDigits_small hu]; omega
    · rw [Lib.nDigits_big hu]
      have := nDigits_le k (u / 10) (by rw [Nat.pow_succ] at h; omega)
      omega
theorem itoa_len {n : Int} (h1 : -9223372036854775808 ≤ n) (h2 : n ≤ 9223372036854775807) : (Lib.itoa n).length ≤ 20 := by
  unfold Lib.itoa
  split
  · rw [List.length_cons, Lib.decDigits_length]
    have := nDigits_le 18 n.natAbs (by omega)
    omega
  · rw [Lib.decDigits_length]
    have := nDigits_le 18 n.toNat (by omega)
    omega
theorem itoa_at {n : Int} {a b : By} {c : UInt8} (e : Lib.itoa n = a ++ c :: b) : (a = [] ∧ c = 45 ∧ n < 0) ∨ (48 ≤ c.toNat ∧ c.toNat ≤ 57 ∧ (a = [] → 0 ≤ n)) := by
  unfold Lib.itoa at e
  by_cases h : n < 0
  · rw [if_pos h] at e
    cases a with
    | nil => left; rw [List.nil_append] at e; exact ⟨rfl, (List.cons.inj e).1.symm, h⟩
    | cons x a =>
      right
      have := dec_dig n.natAbs c (by rw [(List.cons.inj e).2]; simp)
      exact ⟨this.1, this.2, fun h => by cases h⟩
  · rw [if_neg h] at e
    right
    have := dec_dig n.toNat c (by rw [e]; simp)
    exact ⟨this.1, this.2, fun _ => by omega⟩
def I64 (z : Int) : Prop := -9223372036854775808 ≤ z ∧ z ≤ 9223372036854775807
/-- Within readNumber: i signs have been looked at. -/
structure RdN (s : By) (i : Nat) (m : Bool) (z : Int) : Prop where
  z64 : I64 z
  is : ∀ n, I64 n → s = Lib.itoa n → m = (decide (n < 0) && decide (0 < i)) ∧ z = accN (s.take i)
theorem RdN.start (s : By) : RdN s 0 false 0 := ⟨⟨by omega, by omega⟩, fun n _ _ => ⟨by simp, by rw [List.take_zero]; rfl⟩⟩
theorem take_at {s : By} {i : Nat} (h : i < s.length) : s.take (i + 1) = s.take i ++ [s.getD i 0] := by
  rw [List.take_succ_eq_append_getElem h, List.getD_eq_getElem?_getD, List.getElem?_eq_getElem h]; rfl
theorem split_at {s : By} {i : Nat} (h : i < s.length) : s = s.take i ++ s.getD i 0 :: s.drop (i + 1) := by
  conv => lhs; rw [← List.take_append_drop i s, List.drop_eq_getElem_cons h]
  rw [List.getD_eq_getElem?_getD, List.getElem?_eq_getElem h]; rfl
/-- The first sign is a minus. -/
theorem RdN.minus {s : By} {m : Bool} {z : Int} (h : RdN s 0 m z) (h0 : 0 < s.length) (e : s.getD 0 0 = 45) : RdN s 1 true z := by
  refine ⟨h.z64, fun n hn es => ?_⟩
  obtain ⟨_, h2⟩ := h.is n hn es
  have e1 := split_at h0
  rw [List.take_zero, e] at e1
  have := itoa_at (a := []) (b := s.drop (0 + 1)) (c := 45) (es.symm.trans e1)
  rcases this with ⟨_, _, hneg⟩ | ⟨h48, _⟩
  · refine ⟨by simp [hneg], ?_⟩
    rw [h2, take_at h0, e, List.take_zero, List.nil_append]
    exact (acc_minus []).symm
  · simp at h48
/-- Another sign: d is what it is worth (a byte's difference), z' the number behind it. -/
theorem RdN.digit {s : By} {i : Nat} {m : Bool} {z z' : Int} (h : RdN s i m z) (hi : i < s.length) (hz' : I64 z')
    (hm : ¬ (i = 0 ∧ s.getD i 0 = 45)) (hd : 48 ≤ (s.getD i 0).toNat → (s.getD i 0).toNat ≤ 57 → I64 (z * 10 - (((s.getD i 0).toNat : Int) - 48)) → -9223372036854775808 ≤ z * 10 → z * 10 ≤ 9223372036854775807 → z' = z * 10 - (((s.getD i 0).toNat : Int) - 48)) : RdN s (i + 1) m z' := by
  refine ⟨hz', fun n hn es => ?_⟩
  obtain ⟨h1, h2⟩ := h.is n hn es
  have e1 := split_at hi
  have hat := itoa_at (es.symm.trans e1)
  rcases hat with ⟨ha, hc, _⟩ | ⟨h48, h57, hnn⟩
  · exfalso
    refine hm ⟨?_, hc⟩
    rcases Nat.eq_zero_or_pos i with h | h
    · exact h
    · have := congrArg List.length ha
      rw [List.length_take, List.length_nil] at this
      omega
  · have hacc : accN (s.take (i + 1)) = z * 10 - (((s.getD i 0).toNat : Int) - 48) := by
      rw [take_at hi, acc_digit _ _ h48 h57, ← h2]
    have hb := acc_pre hn.1 hn.2 (a := s.take (i + 1)) (b := s.drop (i + 1)) (by rw [List.take_append_drop]; exact es.symm)
    rw [hacc] at hb
    refine ⟨?_, ?_⟩
    · rw [h1]
      by_cases hn0 : n < 0
      · have : 0 < i := by
          rcases Nat.eq_zero_or_pos i with h | h
          · exact absurd (hnn (by rw [h]; rfl)) (by omega)
          · exact h
        simp [hn0, this]
      · simp [hn0]
    · rw [hacc]
      exact hd h48 h57 ⟨by omega, by omega⟩ (by omega) (by omega)
/-- At the end. -/
theorem RdN.done {s : By} {i : Nat} {m : Bool} {z : Int} (h : RdN s i m z) (hi : i = s.length ∨ 20 ≤ i) (v : Int) (hv : v = if m = true then z else if z = -9223372036854775808 then z else -z) : ∀ n, I64 n → s = Lib.itoa n → v = n := by
  intro n hn es
  obtain ⟨h1, h2⟩ := h.is n hn es
  have hl := itoa_len hn.1 hn.2
  have hle : s.length ≤ i := by
    rcases hi with e | e
    · omega
    · rw [es]; omega
  rw [List.take_of_length_le hle] at h2
  rw [es, acc_itoa] at h2
  have hpos : 0 < i := by
    rcases hi with e | e
    · rw [e, es]; exact List.length_pos_iff.2 (itoa_nonempty n)
    · omega
  unfold I64 at hn
  by_cases hn0 : n < 0
  · rw [if_pos hn0] at h2
    rw [hv, h1, if_pos (by simp [hn0, hpos]), h2]
  · rw [if_neg hn0] at h2
    rw [hv, h1, if_neg (by simp [hn0]), if_neg (by omega), h2]; omega

/-! ### Texts -/
theorem txt_forms (x : By) : (x ≠ [] ∧ x.all plB = true ∧ txt x = x) ∨ (txt x = 34 :: (x.flatMap esc ++ [34])) := by
  unfold txt
  by_cases h : x ≠ [] ∧ x.all plB = true
  · left; exact ⟨h.1, h.2, if_pos h⟩
  · right; exact if_neg h
theorem esc_forms (c : UInt8) : (esc c = [92, c] ∧ c ≠ 120) ∨ (esc c = [c] ∧ c ≠ 92) ∨ (∃ a b, esc c = [92, 120, a, b] ∧ UInt8.ofNat (hxV a * 16 + hxV b) = c) := by
  unfold esc
  by_cases h1 : c = 34
  · left; rw [if_pos h1, h1]; exact ⟨rfl, by decide⟩
  · rw [if_neg h1]
    by_cases h2 : c = 92
    · left; rw [if_pos h2, h2]; exact ⟨rfl, by decide⟩
    · rw [if_neg h2]
      by_cases h3 : 32 ≤ c.toNat ∧ c.toNat ≤ 126
      · right; left; rw [if_pos h3]; exact ⟨rfl, h2⟩
      · right; right; rw [if_neg h3]
        exact ⟨_, _, rfl, hx_back c⟩
/-- Within readText: the signs ahead of i have been looked at; b is what they say. -/
def RdT (s : By) (i : Nat) (b : By) : Prop := ∀ x, s = 34 :: (x.flatMap esc ++ [34]) → ∃ p q, x = p ++ q ∧ b = p ∧ i = 1 + (p.flatMap esc).length
theorem RdT.start (s : By) : RdT s 1 [] := fun x hx => ⟨[], x, rfl, rfl, rfl⟩
theorem quo_at {p q : By} {c : UInt8} {e r : By} (he : esc c = e) (k : Nat) (hk : k < e.length) : (34 :: ((p ++ c :: q).flatMap esc ++ [34])).getD (1 + (p.flatMap esc).length + k) 0 = e.getD k 0 := by
  rw [List.flatMap_append, List.flatMap_cons, he, Nat.add_assoc, Nat.add_comm 1, List.getD_cons_succ, List.append_assoc, getD_right, List.append_assoc, getD_left _ _ _ _ hk]
theorem quo_len {p q : By} {c : UInt8} : (34 :: ((p ++ c :: q).flatMap esc ++ [34])).length = 1 + (p.flatMap esc).length + (esc c).length + (q.flatMap esc).length + 1 := by
  rw [List.flatMap_append, List.flatMap_cons, List.length_cons, List.length_append, List.length_append, List.length_append]
  simp only [List.length_cons, List.length_nil]; omega
theorem rdt_more {s : By} {i : Nat} {b x p q : By} (hi : i + 1 < s.length) (hx : s = 34 :: (x.flatMap esc ++ [34])) (e1 : x = p ++ q) (e3 : i = 1 + (p.flatMap esc).length) : ∃ c r, q = c :: r := by
  cases q with
  | nil =>
    exfalso
    rw [hx, e1, List.append_nil] at hi
    simp only [List.length_cons, List.length_append, List.length_nil] at hi
    omega
  | cons c r => exact ⟨c, r, rfl⟩
theorem RdT.hex {s : By} {i : Nat} {b : By} (h : RdT s i b) (hi : i + 1 < s.length) (h1 : s.getD i 0 = 92) (h2 : s.getD (i + 1) 0 = 120) (h3 : i + 3 < s.length) :
    RdT s (i + 4) (b ++ [UInt8.ofNat (hxV (s.getD (i + 2) 0) * 16 + hxV (s.getD (i + 3) 0))]) := by
  intro x hx
  obtain ⟨p, q, e1, e2, e3⟩ := h x hx
  obtain ⟨c, r, rfl⟩ := rdt_more (b := b) hi hx e1 e3
  have ha : ∀ (e : By), esc c = e → ∀ k, k < e.length → s.getD (i + k) 0 = e.getD k 0 := fun e he k hk => by
    rw [hx, e1, e3]; exact quo_at (r := []) he k hk
  rcases esc_forms c with ⟨he, hc⟩ | ⟨he, hc⟩ | ⟨u, v, he, hc⟩
  · have := ha _ he 1 (by simp); rw [h2] at this; exact absurd this.symm hc
  · have := ha _ he 0 (by simp); rw [Nat.add_zero, h1] at this; exact absurd this.symm hc
  · have k2 := ha _ he 2 (by simp)
    have k3 := ha _ he 3 (by simp)
    rw [k2, k3]
    refine ⟨p ++ [c], r, by rw [e1]; simp, ?_, ?_⟩
    · rw [e2]
      show p ++ [UInt8.ofNat (hxV u * 16 + hxV v)] = _
      rw [hc]
    · rw [List.flatMap_append, List.length_append, e3]
      simp [he]; omega
theorem RdT.esc2 {s : By} {i : Nat} {b : By} (h : RdT s i b) (hi : i + 1 < s.length) (h1 : s.getD i 0 = 92) (h2 : ¬ (s.getD (i + 1) 0 = 120 ∧ i + 3 < s.length)) :
    RdT s (i + 2) (b ++ [s.getD (i + 1) 0]) := by
  intro x hx
  obtain ⟨p, q, e1, e2, e3⟩ := h x hx
  obtain ⟨c, r, rfl⟩ := rdt_more (b := b) hi hx e1 e3
  have ha : ∀ (e : By), esc c = e → ∀ k, k < e.length → s.getD (i + k) 0 = e.getD k 0 := fun e he k hk => by
    rw [hx, e1, e3]; exact quo_at (r := []) he k hk
  have hlen : s.length = 1 + (p.flatMap esc).length + (esc c).length + (r.flatMap esc).length + 1 := by rw [hx, e1]; exact quo_len
  rcases esc_forms c with ⟨he, hc⟩ | ⟨he, hc⟩ | ⟨u, v, he, hc⟩
  · have k1 := ha _ he 1 (by simp)
    rw [k1]
    refine ⟨p ++ [c], r, by rw [e1]; simp, by rw [e2]; rfl, ?_⟩
    rw [List.flatMap_append, List.length_append, e3]
    simp [he]; omega
  · have := ha _ he 0 (by simp); rw [Nat.add_zero, h1] at this; exact absurd this.symm hc
  · exfalso
    refine h2 ⟨by have := ha _ he 1 (by simp); rw [this]; rfl, ?_⟩
    rw [hlen, he, e3]; simp only [List.length_cons, List.length_nil]; omega
theorem RdT.plain {s : By} {i : Nat} {b : By} (h : RdT s i b) (hi : i + 1 < s.length) (h1 : s.getD i 0 ≠ 92) : RdT s (i + 1) (b ++ [s.getD i 0]) := by
  intro x hx
  obtain ⟨p, q, e1, e2, e3⟩ := h x hx
  obtain ⟨c, r, rfl⟩ := rdt_more (b := b) hi hx e1 e3
  have ha : ∀ (e : By), esc c = e → ∀ k, k < e.length → s.getD (i + k) 0 = e.getD k 0 := fun e he k hk => by
    rw [hx, e1, e3]; exact quo_at (r := []) he k hk
  rcases esc_forms c with ⟨he, hc⟩ | ⟨he, hc⟩ | ⟨u, v, he, hc⟩
  · have := ha _ he 0 (by simp); rw [Nat.add_zero] at this; exact absurd this h1
  · have k0 := ha _ he 0 (by simp)
    rw [Nat.add_zero] at k0
    rw [k0]
    refine ⟨p ++ [c], r, by rw [e1]; simp, by rw [e2]; rfl, ?_⟩
    rw [List.flatMap_append, List.length_append, e3]
    simp [he]; omega
  · have := ha _ he 0 (by simp); rw [Nat.add_zero] at this; exact absurd this h1
theorem RdT.done {s : By} {i : Nat} {b : By} (h : RdT s i b) (hi : ¬ i + 1 < s.length) (h0 : s.getD 0 0 = 34) : ∀ x, s = txt x → b = x := by
  intro x hx
  rcases txt_forms x with ⟨hne, hall, e⟩ | e
  · exfalso
    rw [e] at hx
    cases x with
    | nil => exact hne rfl
    | cons c x =>
      rw [hx] at h0
      have hc : c = 34 := h0
      have := pl_ne c (List.all_eq_true.1 hall c (by simp))
      exact this.1 hc
  · obtain ⟨p, q, e1, e2, e3⟩ := h x (hx.trans e)
    cases q with
    | nil => rw [e2, e1, List.append_nil]
    | cons c q =>
      exfalso
      have : s.length = 1 + (p.flatMap esc).length + (esc c).length + (q.flatMap esc).length + 1 := by rw [hx, e, e1]; exact quo_len
      have h1 : 0 < (esc c).length := List.length_pos_iff.2 (esc_ne c)
      omega
/-- A text that does not begin with a quote, or is too short for two, is its own. -/
theorem txt_bare {s : By} (h : s.length < 2 ∨ s.getD 0 0 ≠ 34) : ∀ x, s = txt x → s = x := by
  intro x hx
  rcases txt_forms x with ⟨_, _, e⟩ | e
  · rw [← e]; exact hx
  · exfalso
    rw [hx, e] at h
    rcases h with h | h
    · simp only [List.length_cons, List.length_append, List.length_nil] at h; omega
    · exact h rfl

/-! ### Bytes -/
/-- Within the loop over a part of bytes: i signs (an even number) have been looked at. -/
def RdB (s : By) (i : Nat) (b : By) : Prop := ∀ x, s = rawT x → i = 2 * b.length ∧ (x = [] → b = []) ∧ ∃ q, x = b ++ q
theorem RdB.start (s : By) : RdB s 0 [] := fun x hx => ⟨rfl, fun _ => rfl, x, rfl⟩
theorem hxs_len : ∀ (x : By), (x.flatMap hxB).length = 2 * x.length
  | [] => rfl
  | c :: x => by rw [List.flatMap_cons, List.length_append, hxs_len x]; simp [hxB]; omega
theorem RdB.next {s : By} {i : Nat} {b : By} (h : RdB s i b) (hi : i + 1 < s.length) : RdB s (i + 2) (b ++ [UInt8.ofNat (hxV (s.getD i 0) * 16 + hxV (s.getD (i + 1) 0))]) := by
  intro x hx
  obtain ⟨h1, h2, q, h3⟩ := h x hx
  by_cases hx0 : x = []
  · exfalso
    rw [hx, hx0] at hi
    simp [rawT] at hi
  · have hx' : s = x.flatMap hxB := by rw [hx]; unfold rawT; rw [if_neg hx0]
    cases q with
    | nil =>
      exfalso
      rw [hx', hxs_len, h3, List.append_nil] at hi
      omega
    | cons c q =>
      have e0 : s = b.flatMap hxB ++ (hxB c ++ q.flatMap hxB) := by rw [hx', h3, List.flatMap_append, List.flatMap_cons]
      have hb := hxs_len b
      have k0 : s.getD i 0 = hxD (c.toNat / 16) := by
        rw [e0, h1, ← hb]
        have := getD_right (b.flatMap hxB) (hxB c ++ q.flatMap hxB) 0 0
        rw [Nat.add_zero] at this
        rw [this]; rfl
      have k1 : s.getD (i + 1) 0 = hxD (c.toNat % 16) := by
        rw [e0, h1, ← hb, getD_right]; rfl
      rw [k0, k1, hx_back]
      refine ⟨by rw [List.length_append]; simp; omega, fun e => absurd e hx0, q, by rw [h3]; simp⟩
theorem RdB.done {s : By} {i : Nat} {b : By} (h : RdB s i b) (hi : ¬ i + 1 < s.length) : ∀ x, s = rawT x → b = x := by
  intro x hx
  obtain ⟨h1, h2, q, h3⟩ := h x hx
  by_cases hx0 : x = []
  · rw [h2 hx0, hx0]
  · have hx' : s = x.flatMap hxB := by rw [hx]; unfold rawT; rw [if_neg hx0]
    cases q with
    | nil => rw [h3, List.append_nil]
    | cons c q =>
      exfalso
      rw [hx', hxs_len, h3, List.length_append, List.length_cons] at hi
      omega
end Go.Proofs.YtlnppgjppfkocaaGreatDoor.Xs

/-! What is read out of a line's parts, plainly: a request, a command. -/
namespace Go.Proofs.YtlnppgjppfkocaaGreatDoor.Xs
set_option linter.unusedVariables false
set_option linter.unusedSimpArgs false

/-- The field of the letter c says what the part s says. -/
structure FIs (r : Rq) (c : UInt8) (s : By) : Prop where
  T : c = 84 → ∀ x, s = txt x → r.topic = x
  K : c = 75 → ∀ x, s = txt x → r.key = x
  V : c = 86 → ∀ x, s = txt x → r.value = x
  O : c = 79 → ∀ n, I64 n → s = Lib.itoa n → r.offset = n
  N : c = 78 → ∀ n, I64 n → s = Lib.itoa n → r.number = n
  P : c = 80 → ∀ n, I64 n → s = Lib.itoa n → r.pid = n
  S : c = 83 → ∀ n, I64 n → s = Lib.itoa n → r.seq = n
/-- The field of the letter c is zero. -/
structure FZ (r : Rq) (c : UInt8) : Prop where
  T : c = 84 → r.topic = []
  K : c = 75 → r.key = []
  V : c = 86 → r.value = []
  O : c = 79 → r.offset = 0
  N : c = 78 → r.number = 0
  P : c = 80 → r.pid = 0
  S : c = 83 → r.seq = 0
/-- Two requests have the same in the field of the letter c. -/
structure FEq (r s : Rq) (c : UInt8) : Prop where
  T : c = 84 → r.topic = s.topic
  K : c = 75 → r.key = s.key
  V : c = 86 → r.value = s.value
  O : c = 79 → r.offset = s.offset
  N : c = 78 → r.number = s.number
  P : c = 80 → r.pid = s.pid
  S : c = 83 → r.seq = s.seq
theorem FIs.eq {r s : Rq} {c : UInt8} {p : By} (h : FIs r c p) (e : FEq s r c) : FIs s c p :=
  ⟨fun k x hx => (e.T k).trans (h.T k x hx), fun k x hx => (e.K k).trans (h.K k x hx), fun k x hx => (e.V k).trans (h.V k x hx), fun k x a b => (e.O k).trans (h.O k x a b), fun k x a b => (e.N k).trans (h.N k x a b), fun k x a b => (e.P k).trans (h.P k x a b), fun k x a b => (e.S k).trans (h.S k x a b)⟩
theorem FZ.eq {r s : Rq} {c : UInt8} (h : FZ r c) (e : FEq s r c) : FZ s c :=
  ⟨fun k => (e.T k).trans (h.T k), fun k => (e.K k).trans (h.K k), fun k => (e.V k).trans (h.V k), fun k => (e.O k).trans (h.O k), fun k => (e.N k).trans (h.N k), fun k => (e.P k).trans (h.P k), fun k => (e.S k).trans (h.S k)⟩
/-- Within readRequest: i of the fields have been read. -/
structure RdQ (u : By) (l : List By) (i : Nat) (r0 r : Rq) : Prop where
  id : r.id = r0.id
  op : r.op = r0.op
  did : ∀ j, j < i → FIs r (u.getD j 0) (l.getD (j + 1) [])
  zero : ∀ c, c ∉ u.take i → FZ r c
theorem RdQ.start (u : By) (l : List By) (i o : Int) : RdQ u l 0 ⟨i, o, [], [], [], 0, 0, 0, 0⟩ ⟨i, o, [], [], [], 0, 0, 0, 0⟩ :=
  ⟨rfl, rfl, fun j hj => absurd hj (Nat.not_lt_zero _), fun c _ => ⟨fun _ => rfl, fun _ => rfl, fun _ => rfl, fun _ => rfl, fun _ => rfl, fun _ => rfl, fun _ => rfl⟩⟩
theorem nodup_at {u : By} (h : u.Nodup) {i j : Nat} (hj : j < i) (hi : i < u.length) : u.getD j 0 ≠ u.getD i 0 := by
  rw [List.getD_eq_getElem?_getD, List.getD_eq_getElem?_getD, List.getElem?_eq_getElem hi, List.getElem?_eq_getElem (by omega)]
  show u[j] ≠ u[i]
  exact List.pairwise_iff_getElem.1 h j i (by omega) hi hj
/-- One field more: nothing but the field of the i-th letter has turned, and that one says what the part says. -/
theorem RdQ.next {u : By} {l : List By} {i : Nat} {r0 r r' : Rq} (h : RdQ u l i r0 r) (hn : u.Nodup) (hi : i < u.length) (hid : r'.id = r.id) (hop : r'.op = r.op)
    (he : ∀ c, c ≠ u.getD i 0 → FEq r' r c) (hf : FIs r' (u.getD i 0) (l.getD (i + 1) [])) : RdQ u l (i + 1) r0 r' := by
  refine ⟨hid.trans h.id, hop.trans h.op, fun j hj => ?_, fun c hc => ?_⟩
  · by_cases e : j = i
    · rw [e]; exact hf
    · exact (h.did j (by omega)).eq (he _ (nodup_at hn (by omega) hi))
  · rw [take_at hi] at hc
    have h1 : c ∉ u.take i := fun k => hc (List.mem_append_left _ k)
    have h2 : c ≠ u.getD i 0 := fun k => hc (by rw [k]; simp)
    exact (h.zero c h1).eq (he c h2)
theorem fld_nodup (op : Int) : (fldL op).Nodup := by
  unfold fldL
  split
  · decide
  · split
    · decide
    · split
      · decide
      · split
        · decide
        · split
          · decide
          · split
            · decide
            · split
              · decide
              · split
                · decide
                · split
                  · decide
                  · exact List.nodup_nil
theorem fld_letters (op : Int) : ∀ u ∈ fldL op, u = 84 ∨ u = 75 ∨ u = 86 ∨ u = 79 ∨ u = 78 ∨ u = 80 ∨ u = 83 := by
  unfold fldL
  split
  · decide
  · split
    · decide
    · split
      · decide
      · split
        · decide
        · split
          · decide
          · split
            · decide
            · split
              · decide
              · split
                · decide
                · split
                  · decide
                  · intro u hu; cases hu
/-- Numbers of a request that the machine can hold. -/
structure WfR (r : Rq) : Prop where
  id1 : 0 ≤ r.id
  id2 : r.id ≤ 4294967295
  op : I64 r.op
  offset : I64 r.offset
  number : I64 r.number
  pid : I64 r.pid
  seq : I64 r.seq
structure WfC (c : Cm) : Prop where
  verb : I64 c.verb
  conn : I64 c.conn
  req : WfR c.req
  n : I64 c.n
  picks : ∀ x ∈ c.picks, I64 x
theorem RdQ.done {r0 r s : Rq} {l : List By} {i : Nat} (h : RdQ (fldL r0.op) l i r0 r) (hi : ¬ (i < (fldL r0.op).length ∧ i + 1 < l.length)) (hil : i ≤ (fldL r0.op).length)
    (hs : OkR s) (hw : WfR s) (hid : s.id = r0.id) (hop : s.op = r0.op) (hl : l = opT s.op :: (fldL s.op).map (fldT s)) : r = s := by
  have hlen : l.length = (fldL r0.op).length + 1 := by rw [hl, hop]; simp
  have hi' : i = (fldL r0.op).length := by omega
  have key : ∀ c, usesB s.op c = true → FIs r c (fldT s c) := fun c hc => by
    unfold usesB at hc
    rw [hop] at hc
    have hm : c ∈ fldL r0.op := by simpa using hc
    obtain ⟨j, hj, e⟩ := List.mem_iff_getElem.1 hm
    have hg : (fldL r0.op).getD j 0 = c := by rw [List.getD_eq_getElem?_getD, List.getElem?_eq_getElem hj, ← e]; rfl
    have := h.did j (by omega)
    rw [hg] at this
    have hp : l.getD (j + 1) [] = fldT s c := by
      rw [hl, List.getD_cons_succ, hop, List.getD_eq_getElem?_getD, List.getElem?_map, List.getElem?_eq_getElem hj, e]; rfl
    rwa [hp] at this
  have zero : ∀ c, usesB s.op c ≠ true → FZ r c := fun c hc => h.zero c fun hm => hc (by
    unfold usesB
    rw [hop]
    simpa using List.mem_of_mem_take hm)
  obtain ⟨i1, o1, t1, k1, v1, f1, n1, p1, q1⟩ := r
  obtain ⟨i2, o2, t2, k2, v2, f2, n2, p2, q2⟩ := s
  obtain ⟨b1, b2, b3, b4, b5, b6, b7, b8, b9, bT, bK, bV, bO, bN, bP, bS⟩ := hs
  obtain ⟨w1, w2, w3, w4, w5, w6, w7⟩ := hw
  have e1 := h.id
  have e2 := h.op
  simp only at *
  have eT : t1 = t2 := by
    by_cases hu : usesB o2 84 = true
    · exact (key 84 hu).T rfl t2 rfl
    · exact ((zero 84 hu).T rfl).trans (bT.resolve_right hu).symm
  have eK : k1 = k2 := by
    by_cases hu : usesB o2 75 = true
    · exact (key 75 hu).K rfl k2 rfl
    · exact ((zero 75 hu).K rfl).trans (bK.resolve_right hu).symm
  have eV : v1 = v2 := by
    by_cases hu : usesB o2 86 = true
    · exact (key 86 hu).V rfl v2 rfl
    · exact ((zero 86 hu).V rfl).trans (bV.resolve_right hu).symm
  have eO : f1 = f2 := by
    by_cases hu : usesB o2 79 = true
    · exact (key 79 hu).O rfl f2 w4 rfl
    · exact ((zero 79 hu).O rfl).trans (bO.resolve_right hu).symm
  have eN : n1 = n2 := by
    by_cases hu : usesB o2 78 = true
    · exact (key 78 hu).N rfl n2 w5 rfl
    · exact ((zero 78 hu).N rfl).trans (bN.resolve_right hu).symm
  have eP : p1 = p2 := by
    by_cases hu : usesB o2 80 = true
    · exact (key 80 hu).P rfl p2 w6 rfl
    · exact ((zero 80 hu).P rfl).trans (bP.resolve_right hu).symm
  have eS : q1 = q2 := by
    by_cases hu : usesB o2 83 = true
    · exact (key 83 hu).S rfl q2 w7 rfl
    · exact ((zero 83 hu).S rfl).trans (bS.resolve_right hu).symm
  rw [eT, eK, eV, eO, eN, eP, eS, e1, e2, ← hid, ← hop]
/-- What Parse tells of a line: its command, or that there is none. -/
def ParA (l : By) (c : Cm) (e : Int) : Prop := (IsLine c l ∧ e = 0) ∨ ((∀ d, WfC d → ¬ IsLine d l) ∧ c = Cm.zero ∧ e = 230)
theorem ParA.one {l : By} {c d : Cm} {e f : Int} (h : ParA l c e) (hc : WfC c) (k : ParA l d f) (hd : WfC d) : c = d ∧ e = f := by
  rcases h with ⟨h1, h2⟩ | ⟨h1, h2, h3⟩
  · rcases k with ⟨k1, k2⟩ | ⟨k1, k2, k3⟩
    · exact ⟨h1.one k1, by rw [h2, k2]⟩
    · exact (k1 c hc h1).elim
  · rcases k with ⟨k1, k2⟩ | ⟨k1, k2, k3⟩
    · exact (h1 d hd k1).elim
    · exact ⟨by rw [h2, k2], by rw [h3, k3]⟩
/-- What Print tells of a command: its line, or that there is none. -/
def PriA (c : Cm) (l : By) (e : Int) : Prop := (IsLine c l ∧ e = 0) ∨ ((∀ k, ¬ IsLine c k) ∧ l = [] ∧ e = 230)
theorem PriA.one {c : Cm} {l k : By} {e f : Int} (h : PriA c l e) (g : PriA c k f) : l = k ∧ e = f := by
  rcases h with ⟨h1, h2⟩ | ⟨h1, h2, h3⟩
  · rcases g with ⟨k1, k2⟩ | ⟨k1, k2, k3⟩
    · exact ⟨h1.2.1.symm.trans k1.2.1, by rw [h2, k2]⟩
    · exact (k1 l h1).elim
  · rcases g with ⟨k1, k2⟩ | ⟨k1, k2, k3⟩
    · exact (h1 k k1).elim
    · exact ⟨by rw [h2, k2], by rw [h3, k3]⟩
end Go.Proofs.YtlnppgjppfkocaaGreatDoor.Xs

/-! Lines: the document's digits, number, hex, plain. -/
namespace Go.Proofs.YtlnppgjppfkocaaGreatDoor.Xs
open Go.RowKit
set_option linter.unusedVariables false
set_option linter.unusedSimpArgs false

/-- A text as the machine has it. -/
abbrev ba (l : By) : ByteArray := ⟨l.toArray⟩
theorem ba_size (l : By) : (ba l).size = l.length := rfl
theorem ba_app (a b : By) : ba a ++ ba b = ba (a ++ b) := by
  apply ByteArray.ext; simp
theorem str_eq {a : ByteArray} {l : List UInt8} (h : a.data.toList = l) : Value.string a = .string ⟨l.toArray⟩ := by
  subst h
  cases a
  simp
theorem below_on {w w1 w2 : World} (h : Below w.heap.size w w1) (k : Below w1.heap.size w1 w2) : Below w.heap.size w w2 := h.trans (k.mono h.size)
theorem chr_of (m : Nat) (hm : m < 10) : (UInt8.ofNat (48 + m)).toNat = 48 + m := by
  rw [UInt8.toNat_ofNat_of_lt' (by show 48 + m < 256; omega)]
theorem dec_lt {n : Nat} (h : n < 10) : Lib.decDigits n = [UInt8.ofNat (48 + n)] := by rw [Lib.decDigits, dif_pos h]
theorem dec_ge {n : Nat} (h : ¬ n < 10) : Lib.decDigits n = Lib.decDigits (n / 10) ++ [UInt8.ofNat (48 + n % 10)] := by rw [Lib.decDigits, dif_neg h]
theorem dec_len {n : Nat} (h : n < 18446744073709551616) : (Lib.decDigits n).length ≤ 20 := by
  rw [Lib.decDigits_length]
  exact nDigits_le 19 n (by omega)
theorem conv_in (c : UInt8) (z : Int) (hc : (c.toNat : Int) = z) (W : World) (b : Nat) (h : W.cell? ⟨b, 0, none⟩ = some (.int .u8 z)) : (convert 25 9 (.slice (some ⟨b, 0, none⟩) 1 1)).run Tryz.prog W = .ok (.string ⟨#[c]⟩) W := by
  have := run_convert_bytes_back (P := Tryz.prog) W 25 9 5 ⟨b, 0, none⟩ 1 [c] Tryz.underlying25 Tryz.underlying5 Tryz.underlying9 (fun j hj => by
    simp at hj
    subst hj
    rw [WideShapes.add_plain, h]
    simp [hc])
  exact this
theorem conv_one (c : UInt8) (z : Int) (hc : (c.toNat : Int) = z) (W : World) (t : TypeId) : (convert 25 9 (.slice (some ⟨W.heap.size, 0, none⟩) 1 1)).run Tryz.prog (W.alloc (.cells #[.int .u8 z] t)) = .ok (.string ⟨#[c]⟩) (W.alloc (.cells #[.int .u8 z] t)) := by
  refine conv_in c z hc _ _ ?_
  rw [World.cell?_alloc_at _ _ _ _ rfl]
  simp
theorem conv_later (c : UInt8) (z : Int) (hc : (c.toNat : Int) = z) (W w1 : World) (t : TypeId) (h : Below (W.alloc (.cells #[.int .u8 z] t)).heap.size (W.alloc (.cells #[.int .u8 z] t)) w1) : (convert 25 9 (.slice (some ⟨W.heap.size, 0, none⟩) 1 1)).run Tryz.prog w1 = .ok (.string ⟨#[c]⟩) w1 := by
  refine conv_in c z hc w1 W.heap.size ?_
  have e : (W.alloc (.cells #[.int .u8 z] t)).cell? ⟨W.heap.size, 0, none⟩ = some (.int .u8 z) := by
    rw [World.cell?_alloc_at _ _ _ _ rfl]
    simp
  rw [h.cell (by simp)]
  exact e

set_option maxHeartbeats 2000000 in
set_option maxRecDepth 100000 in
theorem rdigitsOf : ∀ (f n : Nat), n < f → n < 18446744073709551616 → ∀ (w : World),
    Calls Tryz.prog 49 #[.int .u64 n] w fun e w' => e = .returned (.string (ba (Lib.decDigits n))) ∧ Below w.heap.size w w' := by
  intro f
  induction f with
  | zero => intro n h; omega
  | succ f ih =>
    intro n hf hn w
    by_cases hlt : n < 10
    · have hch := chr_of n hlt
      have HDL : Hid (Lib.decDigits n = [UInt8.ofNat (48 + n)]) := dec_lt hlt
      generalize UInt8.ofNat (48 + n) = c at hch HDL
      have hcv := conv_one c (48 + (n : Int)) (by omega) w 5
      clear hch
      go_enter Tryz.func49, Tryz.ntmps49
      go_wp2
      go_ret
      exact ⟨by rw [HDL.out]; rfl, (Below.refl _ _).alloc (Nat.le_refl _) _⟩
    · obtain ⟨m, hm⟩ : ∃ m, n % 10 = m := ⟨_, rfl⟩
      obtain ⟨q, hq⟩ : ∃ q, n / 10 = q := ⟨_, rfl⟩
      have hmi : (n : Int) % 10 = (m : Int) := by omega
      have hqi : (n : Int) / 10 = (q : Int) := by omega
      have hm10 : m < 10 := by omega
      have hq64 : q < 18446744073709551616 := by omega
      have IH : Hid (∀ (w : World), Calls Tryz.prog 49 #[.int .u64 q] w fun e w' => e = .returned (.string (ba (Lib.decDigits q))) ∧ Below w.heap.size w w') := ih q (by omega) (by omega)
      have HD : Hid (Lib.decDigits n = Lib.decDigits q ++ [UInt8.ofNat (48 + m)]) := by unfold Hid; rw [dec_ge hlt, hq, hm]
      have hl := dec_len hq64
      have hch := chr_of m hm10
      generalize UInt8.ofNat (48 + m) = c at hch HD
      have HCH : Hid ((c.toNat : Int) = 48 + (m : Int)) := by unfold Hid; omega
      clear hch
      have hs2 : (⟨#[c]⟩ : ByteArray).size = 1 := rfl
      clear hm hq ih
      generalize Lib.decDigits q = dq at *
      have hs1 : (⟨dq.toArray⟩ : ByteArray).size = dq.length := rfl
      go_enter Tryz.func49, Tryz.ntmps49
      have hwq : IntKind.u64.wrap (q : Int) = (q : Int) := by rw [IntKind.wrap_u64]; omega
      have htm : (n : Int).tmod 10 = (m : Int) := by rw [Int.tmod_eq_emod_of_nonneg (by omega)]; omega
      have htd : (n : Int).tdiv 10 = (q : Int) := by rw [Int.tdiv_eq_ediv_of_nonneg (by omega)]; omega
      have hw1 : IntKind.u64.wrap (48 + (m : Int)) = 48 + (m : Int) := by rw [IntKind.wrap_u64]; omega
      have hw2 : IntKind.u8.wrap (48 + (m : Int)) = 48 + (m : Int) := by rw [IntKind.wrap_u8]; omega
      have hcv0 : (convert 25 9 (.slice (some ⟨w.heap.size, 0, none⟩) 1 1)).run Tryz.prog (w.alloc (.cells #[.int .u8 (48 + (m : Int))] 5)).drew = .ok (.string ⟨#[c]⟩) (w.alloc (.cells #[.int .u8 (48 + (m : Int))] 5)).drew := conv_in c _ HCH.out _ _ (by
        show (w.alloc (.cells #[.int .u8 (48 + (m : Int))] 5)).cell? ⟨w.heap.size, 0, none⟩ = _
        rw [World.cell?_alloc_at _ _ _ _ rfl]
        simp)
      have hcv := conv_one c _ HCH.out
      go_wp2
      go_region_with (first
        | (go_at_call 49
           try rw [hwq]
           refine (IH.out _).mono ?_
           rintro e w1 ⟨rfl, hb⟩
           try have hcv1 : (convert 25 9 (.slice (some ⟨w.heap.size, 0, none⟩) 1 1)).run Tryz.prog w1 = .ok (.string ⟨#[c]⟩) w1 := conv_later c _ HCH.out w.drew w1 5 hb
           have HB : Hid (Below w.heap.size w w1) := by
             unfold Hid
             first
               | exact ((Below.refl _ w).drew).trans hb
               | exact (((Below.refl _ w).drew).alloc (Nat.le_refl _) _).trans (hb.mono (by simp))
           clear hb))
      all_goals
        go_wp2
        go_ret
        refine ⟨congrArg Ending.returned (str_eq ?_), ?_⟩
        · rw [HD.out]
          simp
        · first
            | exact HB.out
            | exact HB.out.alloc HB.out.size _

set_option maxHeartbeats 2000000 in
set_option maxRecDepth 100000 in
theorem rnumberOf (n : Int) (h1 : -9223372036854775808 ≤ n) (h2 : n ≤ 9223372036854775807) (w : World) :
    Calls Tryz.prog 30 #[.int .i64 n] w fun e w' => e = .returned (.string (ba (Lib.itoa n))) ∧ Below w.heap.size w w' := by
  by_cases hn : n < 0
  · obtain ⟨m, hm⟩ : ∃ m : Nat, -(n + 1) = (m : Int) := ⟨(-n - 1).toNat, by omega⟩
    have HI : Hid (Lib.itoa n = 45 :: Lib.decDigits (m + 1)) := by
      unfold Hid Lib.itoa
      rw [if_pos hn, show n.natAbs = m + 1 by omega]
    have HC : Hid (∀ u, Calls Tryz.prog 49 #[.int .u64 ((m : Int) + 1)] u fun e w' => e = .returned (.string (ba (Lib.decDigits (m + 1)))) ∧ Below u.heap.size u w') := rdigitsOf (m + 2) (m + 1) (by omega) (by omega)
    have hl := dec_len (n := m + 1) (by omega)
    generalize Lib.decDigits (m + 1) = d at *
    have hs1 : (⟨d.toArray⟩ : ByteArray).size = d.length := rfl
    have hm2 : m < 9223372036854775808 := by omega
    go_enter Tryz.func30, Tryz.ntmps30
    go_wp2_with fail
    refine (HC.out _).mono ?_
    rintro e w1 ⟨rfl, hb⟩
    go_wp2
    go_ret
    refine ⟨congrArg Ending.returned (str_eq ?_), hb⟩
    rw [HI.out]
    simp
  · obtain ⟨m, rfl⟩ : ∃ m : Nat, n = (m : Int) := ⟨n.toNat, by omega⟩
    have HI : Hid (Lib.itoa (m : Int) = Lib.decDigits m) := by
      unfold Hid Lib.itoa
      rw [if_neg hn]
      congr 1
    have HC : Hid (∀ u, Calls Tryz.prog 49 #[.int .u64 (m : Int)] u fun e w' => e = .returned (.string (ba (Lib.decDigits m))) ∧ Below u.heap.size u w') := rdigitsOf (m + 1) m (by omega) (by omega)
    have hl := dec_len (n := m) (by omega)
    generalize Lib.decDigits m = d at *
    go_enter Tryz.func30, Tryz.ntmps30
    go_wp2_with fail
    refine (HC.out _).mono ?_
    rintro e w1 ⟨rfl, hb⟩
    go_wp2
    go_ret
    refine ⟨?_, hb⟩
    rw [HI.out]
    rfl
end Go.Proofs.YtlnppgjppfkocaaGreatDoor.Xs

/-! Lines: the document's hex, plain. -/
namespace Go.Proofs.YtlnppgjppfkocaaGreatDoor.Xs
open Go.RowKit
set_option linter.unusedVariables false
set_option linter.unusedSimpArgs false

theorem drewN_bel (w : World) (n : Nat) : Below w.heap.size w (w.drewN n) := ⟨rfl, rfl, rfl, Nat.le_refl _, fun _ _ => rfl⟩
def hexAll : By := [48, 49, 50, 51, 52, 53, 54, 55, 56, 57, 97, 98, 99, 100, 101, 102]
theorem hex_at : ∀ k : Fin 16, (ba hexAll).extract k.val (k.val + 1) = ba [hxD k.val] := by decide +kernel

set_option maxHeartbeats 2000000 in
set_option maxRecDepth 100000 in
theorem rhexOf (c : UInt8) (w : World) :
    Calls Tryz.prog 32 #[.int .u8 (c.toNat : Int)] w fun e w' => e = .returned (.string (ba (hxB c))) ∧ Below w.heap.size w w' := by
  have hc := c.toNat_lt
  have e1 := hex_at ⟨c.toNat / 16, by omega⟩
  have e2 := hex_at ⟨c.toNat % 16, by omega⟩
  have HB : Hid (hxB c = [hxD (c.toNat / 16), hxD (c.toNat % 16)]) := rfl
  simp only at e1 e2
  generalize hxB c = H at HB ⊢
  generalize hxD (c.toNat / 16) = d1 at *
  generalize hxD (c.toNat % 16) = d2 at *
  generalize c.toNat = n at *
  obtain ⟨a, ha⟩ : ∃ a, n / 16 = a := ⟨_, rfl⟩
  obtain ⟨b, hb⟩ : ∃ b, n % 16 = b := ⟨_, rfl⟩
  rw [ha] at e1
  rw [hb] at e2
  have hai : (n : Int) / 16 = (a : Int) := by omega
  have hbi : (n : Int) % 16 = (b : Int) := by omega
  have ha16 : a < 16 := by omega
  have hb16 : b < 16 := by omega
  clear ha hb
  go_enter Tryz.func32, Tryz.ntmps32
  have hwa : IntKind.u8.wrap (a : Int) = (a : Int) := by rw [IntKind.wrap_u8]; omega
  have hwb : IntKind.u8.wrap (b : Int) = (b : Int) := by rw [IntKind.wrap_u8]; omega
  have hwa1 : IntKind.u8.wrap ((a : Int) + 1) = (a : Int) + 1 := by rw [IntKind.wrap_u8]; omega
  have hwb1 : IntKind.u8.wrap ((b : Int) + 1) = (b : Int) + 1 := by rw [IntKind.wrap_u8]; omega
  have hta : (n : Int).tdiv 16 = (a : Int) := by rw [Int.tdiv_eq_ediv_of_nonneg (by omega)]; omega
  have htb : (n : Int).tmod 16 = (b : Int) := by rw [Int.tmod_eq_emod_of_nonneg (by omega)]; omega
  have hS : ∀ (k : Nat) (d : UInt8), k < 16 → (ba hexAll).extract k (k + 1) = ba [d] → ∀ u, (Instr.slice 9 (.string (ba hexAll)) (some (.int .u8 (k : Int))) (some (.int .u8 ((k : Int) + 1))) none).run Tryz.prog u = .ok (.string (ba [d])) u := fun k d hk e u => by
    rw [run_slice_string u 9 (ba hexAll) .u8 .u8 (k : Int) ((k : Int) + 1) Tryz.underlying9 (by omega) (by omega) (by rw [ba_size]; show _ ≤ ((16 : Nat) : Int); omega)]
    rw [show ((k : Int)).toNat = k by omega, show ((k : Int) + 1).toNat = k + 1 by omega, e]
  have s1 := hS a d1 ha16 e1
  have s2 := hS b d2 hb16 e2
  have z1 : (⟨#[d1]⟩ : ByteArray).size = 1 := rfl
  have z2 : (⟨#[d2]⟩ : ByteArray).size = 1 := rfl
  simp only [ba, hexAll] at s1 s2
  clear hS e1 e2
  go_wp2
  go_quiet (fail)
  go_wp2
  go_ret
  rw [HB.out]
  exact ⟨congrArg Ending.returned (str_eq (by simp)), drewN_bel _ _⟩

set_option maxHeartbeats 4000000 in
set_option maxRecDepth 100000 in
theorem rplainOf (c : UInt8) (w : World) :
    Calls Tryz.prog 83 #[.int .u8 (c.toNat : Int)] w fun e w' => e = .returned (.bool (plB c)) ∧ w' = w := by
  have hc := c.toNat_lt
  have HP : Hid (plB c = ((decide (97 ≤ c.toNat) && decide (c.toNat ≤ 122)) || (decide (65 ≤ c.toNat) && decide (c.toNat ≤ 90)) || (decide (48 ≤ c.toNat) && decide (c.toNat ≤ 57)) || decide (c.toNat = 46) || decide (c.toNat = 95) || decide (c.toNat = 45))) := rfl
  generalize plB c = b at *
  generalize c.toNat = n at *
  go_enter Tryz.func83, Tryz.ntmps83
  go_wp2
  all_goals
    go_ret
    refine ⟨?_, rfl⟩
    rw [HP.out]
    refine congrArg (fun b => Ending.returned (Value.bool b)) ?_
    rw [Bool.eq_iff_iff]
    simp <;> omega
end Go.Proofs.YtlnppgjppfkocaaGreatDoor.Xs
