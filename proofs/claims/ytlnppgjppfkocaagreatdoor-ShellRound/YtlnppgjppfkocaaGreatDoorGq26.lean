import Derived.Test.YtlnppgjppfkocaaGreatDoorGq25
import Derived.Lib.IndexLaws
import Derived.Lib.BufSteps
import Derived.Lib.RuneBytes
import Derived.Lib.UnsafeStr
/-! strconv's Unquote, right on all that quoting writes: plainly. -/
namespace Go.Proofs.YtlnppgjppfkocaaGreatDoor.Xs
open Go.RowKit Plain
set_option linter.unusedVariables false
set_option linter.unusedSimpArgs false

def quo (x : By) : By := 34 :: (x.flatMap esc ++ [34])
theorem idx_lt {l : By} {c : UInt8} {o : Nat} (h : Lib.indexByte l c = o) : o < l.length := by
  have := (Lib.indexByte_some h).1
  exact (List.getElem?_eq_some_iff.1 this).1
theorem idx_not {l : By} {c : UInt8} (h : Lib.indexByte l c = -1) : c ∉ l := fun hc => by
  obtain ⟨k, hk, e⟩ := List.mem_iff_getElem.1 hc
  exact Lib.indexByte_none h k (by rw [List.getElem?_eq_getElem hk, e])
/-- No backslash up to the first quote: the text stands there as it is. -/
theorem fast_is : ∀ (x : By) (o : Nat), Lib.indexByte (x.flatMap esc ++ [34]) 34 = o → (92 : UInt8) ∉ (x.flatMap esc ++ [34]).take (o + 1) → (x.flatMap esc ++ [34]).take o = x ∧ (x.flatMap esc ++ [34]).drop (o + 1) = []
  | [], o, h, _ => by
    have := idx_lt h
    have h0 : o = 0 := by simpa using this
    subst h0
    exact ⟨rfl, rfl⟩
  | c :: x, o, h, hn => by
    obtain ⟨h1, h2⟩ := Lib.indexByte_some h
    rcases (show ∃ d r, (c :: x).flatMap esc ++ [34] = d :: r by rw [List.flatMap_cons, List.append_assoc]; cases he : esc c with
      | nil => exact absurd he (esc_ne c)
      | cons d r => exact ⟨d, _, rfl⟩) with ⟨d, r, hdr⟩
    have hd92 : d ≠ 92 := fun e => hn (by rw [hdr, e, List.take_succ_cons]; simp)
    have hd34 : d ≠ 34 := fun e => by
      have := esc_head c
      apply this
      rw [List.flatMap_cons, List.append_assoc] at hdr
      cases he : esc c with
      | nil => exact absurd he (esc_ne c)
      | cons a b =>
        rw [he] at hdr
        rw [← e, ← (List.cons.inj hdr).1]; rfl
    have he : esc c = [c] := by
      rcases esc_if (t := (c :: x).flatMap esc ++ [34]) (c := c) (rest := x.flatMap esc ++ [34]) (by rw [List.flatMap_cons, List.append_assoc]) with k | k | k
      · have k0 := k.2.2.1
        cases hec : esc c with
        | nil => exact absurd hec (esc_ne c)
        | cons a b =>
          rw [hec] at k0
          have hb0 : b = [] := List.length_eq_zero_iff.1 (by simpa using k0)
          have := k.2.1
          rw [List.flatMap_cons, hec, hb0] at this
          rw [hb0]
          have h3 : a = c := this
          rw [h3]
      · exact absurd (by have := k.1; rw [hdr] at this; exact this) hd92
      · exact absurd (by have := k.1; rw [hdr] at this; exact this) hd92
    have e1 : (c :: x).flatMap esc ++ [34] = c :: (x.flatMap esc ++ [34]) := by rw [List.flatMap_cons, he]; rfl
    have hc : c = d := by rw [e1] at hdr; exact (List.cons.inj hdr).1
    rw [e1] at h hn h1 ⊢
    have ho : o ≠ 0 := fun e => by subst e; simp at h1; exact hd34 (hc.symm.trans h1)
    obtain ⟨o', rfl⟩ : ∃ o', o = o' + 1 := ⟨o - 1, by omega⟩
    have h' : Lib.indexByte (x.flatMap esc ++ [34]) 34 = o' := by
      rw [Lib.indexByte] at h
      rw [if_neg (by rw [beq_iff_eq]; exact fun e => hd34 (hc.symm.trans e))] at h
      split at h
      · omega
      · omega
    have ih := fast_is x o' h' (fun e => hn (by rw [List.take_succ_cons]; simp [e]))
    exact ⟨by rw [List.take_succ_cons, ih.1], by rw [List.drop_succ_cons]; exact ih.2⟩
theorem quo_fast {s x : By} {o : Nat} (h : s = quo x) (ho : Lib.indexByte (s.drop 1) 34 = o) (hn : (92 : UInt8) ∉ s.take (o + 2)) : ((s.take (o + 2)).take (o + 1)).drop 1 = x ∧ s.drop (o + 2) = [] := by
  unfold quo at h
  subst h
  have hn' : (92 : UInt8) ∉ (x.flatMap esc ++ [34]).take (o + 1) := fun e => hn (by rw [List.take_succ_cons]; simp [e])
  obtain ⟨h1, h2⟩ := fast_is x o ho hn'
  refine ⟨?_, by rw [List.drop_succ_cons]; exact h2⟩
  rw [List.take_take, Nat.min_eq_left (by omega), List.take_succ_cons, List.drop_succ_cons, List.drop_zero, h1]
theorem quo_has (x : By) : Lib.indexByte ((quo x).drop 1) 34 ≠ -1 := fun h => idx_not h (by unfold quo; simp)
theorem quo_len2 (x : By) : 2 ≤ (quo x).length := by unfold quo; simp
/-- What is left to read. -/
theorem rdt_left {s x : By} {i : Nat} {b : By} (h : RdT s i b) (hx : s = quo x) : ∃ q, x = b ++ q ∧ s.drop i = q.flatMap esc ++ [34] := by
  obtain ⟨p, q, e1, e2, e3⟩ := h x hx
  refine ⟨q, by rw [e1, e2], ?_⟩
  have e : s = (34 :: p.flatMap esc) ++ (q.flatMap esc ++ [34]) := by rw [hx]; unfold quo; rw [e1, List.flatMap_append]; simp
  rw [e, e3, List.drop_append_of_le_length (by simp; omega), List.drop_of_length_le (by simp; omega)]; rfl
theorem rdt_one {s x : By} {i : Nat} {b : By} (h : RdT s i b) (hx : s = quo x) (h34 : (s.drop i).getD 0 0 ≠ 34) : ∃ c q, x = b ++ c :: q ∧ s.drop i = esc c ++ (q.flatMap esc ++ [34]) := by
  obtain ⟨q, e1, e2⟩ := rdt_left h hx
  cases q with
  | nil => rw [e2] at h34; exact absurd rfl h34
  | cons c q => exact ⟨c, q, e1, by rw [e2, List.flatMap_cons, List.append_assoc]⟩
theorem rdt_next {s : By} {i k : Nat} {b : By} {r : UInt8} (h : RdT s i b) (h34 : (s.drop i).getD 0 0 ≠ 34) (hr : ∀ c rest, s.drop i = esc c ++ rest → r = c ∧ k = (esc c).length) : RdT s (i + k) (b ++ [r]) := by
  intro x hx
  obtain ⟨c, q, e1, e2⟩ := rdt_one h (by unfold quo; exact hx) h34
  obtain ⟨e3, e4⟩ := hr c _ e2
  obtain ⟨p, q', k1, k2, k3⟩ := h x hx
  refine ⟨b ++ [c], q, by rw [e1]; simp, by rw [e3], ?_⟩
  rw [List.flatMap_append, List.length_append, k2, k3, e4]
  simp; omega
theorem rdt_end {s x : By} {i : Nat} {b : By} (h : RdT s i b) (hx : s = quo x) (h34 : (s.drop i).getD 0 0 = 34) : b = x ∧ s.drop (i + 1) = [] := by
  obtain ⟨q, e1, e2⟩ := rdt_left h hx
  cases q with
  | nil =>
    refine ⟨by rw [e1]; simp, ?_⟩
    rw [← List.drop_drop, e2]; rfl
  | cons c q =>
    exfalso
    have := esc_head c
    apply this
    rw [e2, List.flatMap_cons, List.append_assoc] at h34
    cases he : esc c with
    | nil => exact absurd he (esc_ne c)
    | cons a r => rw [he] at h34; rw [← h34]; rfl
theorem rdt_ne {s x : By} {i : Nat} {b : By} (h : RdT s i b) (hx : s = quo x) : s.drop i ≠ [] := by
  obtain ⟨q, e1, e2⟩ := rdt_left h hx
  rw [e2]; simp
theorem esc_no10 {t rest : By} {c : UInt8} (h : t = esc c ++ rest) : t.getD 0 0 ≠ 10 := fun e => by
  rcases esc_if h with k | k | k
  · rw [k.2.1] at e; subst e; have := k.2.2.2.1; simp at this
  · rw [k.1] at e; simp at e
  · rw [k.1] at e; simp at e
end Go.Proofs.YtlnppgjppfkocaaGreatDoor.Xs
