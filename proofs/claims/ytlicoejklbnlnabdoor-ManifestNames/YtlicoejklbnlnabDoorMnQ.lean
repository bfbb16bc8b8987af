import Derived.Test.YtlicoejklbnlnabDoorMnF1
import Derived.Test.YtlicoejklbnlnabDoorMnN
/-! Names of files: the document's Parse. -/
namespace Go.Proofs.YtlicoejklbnlnabDoor
open Go.RowKit
set_option linter.unusedVariables false
set_option linter.unusedSimpArgs false

theorem hres8 : Tryd.f8.results = #[.cell 2 23] := by kernel_rfl
theorem cand_ok (l : By) (k : Int) (t : Bool) (h0 : 0 ≤ k) (h4 : k ≤ 4) : (cand l k t).Ok := by
  have h1 : idL l ≤ 1073741824 := by
    unfold idL
    split
    · exact dgv_le _ _ (by omega)
    · omega
  have h2 : segL l ≤ 1073741824 := by
    unfold segL
    split
    · exact dgv_le _ _ (by omega)
    · omega
  unfold cand
  constructor <;> simp only
  · omega
  · omega
  · split <;> omega
  · split <;> omega
  · split <;> omega
  · split <;> omega
/-- No candidate ahead of (k, t) hit. -/
def Miss (l : By) (k t : Nat) : Prop := ∀ (k' : Nat) (t' : Bool), 1 ≤ k' → k' ≤ 4 → (k' < k ∨ (k' = k ∧ (if t' = true then 1 else 0) < t)) → ¬ hit l (cand l (k' : Int) t')
theorem Miss.start (l : By) : Miss l 1 0 := fun k' t' h1 h4 h => by
  rcases h with h | ⟨_, h⟩
  · omega
  · omega
theorem Miss.next {l : By} {k : Nat} {t : Bool} (h : Miss l k (if t = true then 1 else 0)) (hn : ¬ hit l (cand l (k : Int) t)) : Miss l k ((if t = true then 1 else 0) + 1) := fun k' t' h1 h4 hh => by
  rcases hh with hh | ⟨e, hh⟩
  · exact h k' t' h1 h4 (.inl hh)
  · subst e
    by_cases e : t' = t
    · subst e; exact hn
    · refine h k' t' h1 h4 (.inr ⟨rfl, ?_⟩)
      cases t <;> cases t' <;> simp at e hh ⊢
theorem Miss.row {l : By} {k : Nat} (h : Miss l k 2) : Miss l (k + 1) 0 := fun k' t' h1 h4 hh => by
  rcases hh with hh | ⟨_, hh⟩
  · rcases Nat.lt_or_ge k' k with h5 | h5
    · exact h k' t' h1 h4 (.inl h5)
    · refine h k' t' h1 h4 (.inr ⟨by omega, ?_⟩)
      cases t' <;> simp
  · omega
theorem Miss.all {l : By} (h : Miss l 5 0) : parseL l = FN.zero := miss_parse fun k t hk => by
  obtain ⟨k', rfl, h1, h4⟩ : ∃ k' : Nat, k = (k' : Int) ∧ 1 ≤ k' ∧ k' ≤ 4 := ⟨k.toNat, by omega, by omega, by omega⟩
  exact h k' t h1 h4 (.inl (by omega))
end Go.Proofs.YtlicoejklbnlnabDoor
