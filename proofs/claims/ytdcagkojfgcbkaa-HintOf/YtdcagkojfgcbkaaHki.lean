import Derived.Test.YtdcagkojfgcbkaaHkg
/-! hint: the document's Of. -/
namespace Go.Proofs.Ytdcagkojfgcbkaa
open Go.RowKit Plain Go.WideMaps Go.Maps
set_option linter.unusedVariables false
set_option linter.unusedSimpArgs false

theorem keys_ne {a b : ByteArray} (h : ¬ a = b) : (a.toList == b.toList) = false := by
  rw [beq_eq_false_iff_ne, ByteArray.toList_eq, ByteArray.toList_eq]
  exact fun e => h (WideShapes.bytes_inj e)
def lastG (st : List Pl) (i : Nat) : Nat → Bool
  | 0 => true
  | m + 1 => lastG st i m && decide (¬ pk st (i + 1 + m) = pk st i)
theorem lastG_iff (st : List Pl) (i : Nat) : ∀ m, lastG st i m = true ↔ LastP st (i + 1 + m) i
  | 0 => ⟨fun _ => ⟨by omega, fun m a b => by omega⟩, fun _ => rfl⟩
  | m + 1 => by
    have ih := lastG_iff st i m
    unfold lastG
    rw [Bool.and_eq_true, ih, decide_eq_true_iff]
    constructor
    · rintro ⟨h1, h2⟩
      exact h1.up h2
    · intro h
      have h' : LastP st ((i + 1 + m) + 1) i := h
      exact h'.more (by omega)
def lps (st : List Pl) : Nat → List Nat
  | 0 => []
  | i + 1 => if lastG st i (st.length - (i + 1)) = true then lps st i ++ [i] else lps st i
theorem lps_mem (st : List Pl) : ∀ i, i ≤ st.length → ∀ j, j ∈ lps st i ↔ j < i ∧ LastP st st.length j
  | 0, _, j => by simp [lps]
  | i + 1, hi, j => by
    have ih := lps_mem st i (by omega) j
    have hl := lastG_iff st i (st.length - (i + 1))
    rw [show i + 1 + (st.length - (i + 1)) = st.length by omega] at hl
    unfold lps
    split
    · next h =>
      rw [List.mem_append, ih, List.mem_singleton]
      constructor
      · rintro (⟨h1, h2⟩ | rfl)
        · exact ⟨by omega, h2⟩
        · exact ⟨by omega, hl.mp h⟩
      · rintro ⟨h1, h2⟩
        by_cases e : j = i
        · exact .inr e
        · exact .inl ⟨by omega, h2⟩
    · next h =>
      rw [ih]
      constructor
      · rintro ⟨h1, h2⟩
        exact ⟨by omega, h2⟩
      · rintro ⟨h1, h2⟩
        by_cases e : j = i
        · subst e; exact absurd (hl.mpr h2) h
        · exact ⟨by omega, h2⟩
theorem lps_up (st : List Pl) : ∀ i, i ≤ st.length → (lps st i).Pairwise (· < ·)
  | 0, _ => List.Pairwise.nil
  | i + 1, hi => by
    have ih := lps_up st i (by omega)
    unfold lps
    split
    · rw [List.pairwise_append]
      refine ⟨ih, List.pairwise_singleton _ _, fun a ha b hb => ?_⟩
      have := ((lps_mem st i (by omega) a).mp ha).1
      rw [List.mem_singleton] at hb
      omega
    · exact ih
theorem lps_len (st : List Pl) : ∀ i, (lps st i).length ≤ i
  | 0 => by simp [lps]
  | i + 1 => by
    have ih := lps_len st i
    unfold lps
    split
    · rw [List.length_append, List.length_singleton]; omega
    · omega
theorem lps_ok (st : List Pl) : PlacesOk st (lps st st.length) :=
  ⟨fun j hj => ((lps_mem st _ (Nat.le_refl _) j).mp hj).2, fun j hj => (lps_mem st _ (Nat.le_refl _) j).mpr ⟨hj.1, hj⟩, lps_up st _ (Nat.le_refl _)⟩
theorem OfI.later {w3 : World} {Z : Nat} {s z : Int} {es : List He} {w w' : World} (h : OfI w3 Z s z es w) (k : Below w.heap.size w w') : OfI w3 Z s z es w' := by
  obtain ⟨hb, a, n, c, r, h1, h2, h3⟩ := h
  have := hb.size
  have := k.size
  exact ⟨⟨k.os.trans hb.os, k.tape.trans hb.tape, k.output.trans hb.output, by omega, fun x hx hne => (k.block x (by omega)).trans (hb.block x hx hne)⟩, a, n, c, r, h1.block (k.block _ h1.lt), h2.later k, h3⟩
theorem hres6 : Try.f6.results = #[.cell 6 25] := by kernel_rfl
end Go.Proofs.Ytdcagkojfgcbkaa
