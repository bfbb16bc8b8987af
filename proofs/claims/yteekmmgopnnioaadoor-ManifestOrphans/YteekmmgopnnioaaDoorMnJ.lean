import Derived.Test.YteekmmgopnnioaaDoorMnI
/-! Names of files: the parts between dots. -/
namespace Go.Proofs.YteekmmgopnnioaaDoor.Mn
open Go.RowKit
set_option linter.unusedVariables false
set_option linter.unusedSimpArgs false

def SpPost (l : By) (w : World) (e : Ending) (w' : World) : Prop :=
  ∃ c, e = .returned (.slice (some ⟨w.heap.size, 0, none⟩) (parts l).length c) ∧ (parts l).length ≤ c ∧ c ≤ 3 ∧ Below w.heap.size w w' ∧ ∀ j p, (parts l)[j]? = some p → w'.cell? ⟨w.heap.size, j, none⟩ = some (.string ⟨p.toArray⟩)
/-- A row of N strings of the call's own. -/
structure RowN (w : World) (N : Nat) (wx : World) : Prop where
  below : Below w.heap.size w wx
  lt : w.heap.size < wx.heap.size
  soft : ∀ j, j < N → wx.frozen? ⟨w.heap.size, j, none⟩ = false
  cell : ∀ j, j < N → ∃ v, wx.cell? ⟨w.heap.size, j, none⟩ = some v
theorem RowN.set {w wx : World} {N j : Nat} {v : Value} (h : RowN w N wx) (hj : j < N) : RowN w N (wx.setCell ⟨w.heap.size, j, none⟩ v) := by
  refine ⟨Below.setCell h.below (show w.heap.size ≤ (⟨w.heap.size, j, none⟩ : Addr).block from Nat.le_refl _) v, ?_, fun k hk => ?_, fun k hk => ?_⟩
  · have := h.lt; simpa using this
  · rw [World.frozen?_setCell]; exact h.soft k hk
  · by_cases e : k = j
    · subst e
      obtain ⟨u, hu⟩ := h.cell k hk
      exact ⟨_, World.cell?_setCell_same _ _ _ hu⟩
    · obtain ⟨u, hu⟩ := h.cell k hk
      exact ⟨u, by rw [World.cell?_setCell_other _ _ _ _ (by intro h; simp only [Addr.mk.injEq] at h; omega)]; exact hu⟩
theorem soft_alloc (w : World) (cs : Array Value) (t : TypeId) (j : Nat) : (w.alloc (.cells cs t)).frozen? ⟨w.heap.size, j, none⟩ = false := World.frozen?_alloc_at _ _ _ _ rfl
theorem makeN (w : World) (N : Nat) (hN : N = 1 ∨ N = 2 ∨ N = 3) : ∃ W1, (Instr.makeSlice 27 (.int .i64 (N : Int)) (.int .i64 (N : Int))).run Tryd.prog w = .ok (.slice (some ⟨w.heap.size, 0, none⟩) N N) W1 ∧ RowN w N W1 := by
  rcases hN with rfl | rfl | rfl
  · refine ⟨w.alloc (.cells #[.string ⟨#[]⟩] 9), by kernel_rfl, (Below.refl _ _).alloc (Nat.le_refl _) _, by simp, fun j hj => ?_, fun j hj => ?_⟩
    · exact soft_alloc w _ _ j
    · obtain rfl : j = 0 := by omega
      exact ⟨_, by rw [World.cell?_alloc_at _ _ _ _ rfl]; rfl⟩
  · refine ⟨w.alloc (.cells #[.string ⟨#[]⟩, .string ⟨#[]⟩] 9), by kernel_rfl, (Below.refl _ _).alloc (Nat.le_refl _) _, by simp, fun j hj => ?_, fun j hj => ?_⟩
    · exact soft_alloc w _ _ j
    · have : j = 0 ∨ j = 1 := by omega
      rcases this with rfl | rfl <;> exact ⟨_, by rw [World.cell?_alloc_at _ _ _ _ rfl]; rfl⟩
  · refine ⟨w.alloc (.cells #[.string ⟨#[]⟩, .string ⟨#[]⟩, .string ⟨#[]⟩] 9), by kernel_rfl, (Below.refl _ _).alloc (Nat.le_refl _) _, by simp, fun j hj => ?_, fun j hj => ?_⟩
    · exact soft_alloc w _ _ j
    · have : j = 0 ∨ j = 1 ∨ j = 2 := by omega
      rcases this with rfl | rfl | rfl <;> exact ⟨_, by rw [World.cell?_alloc_at _ _ _ _ rfl]; rfl⟩
theorem indexOf (s : ByteArray) (w : World) : Calls Tryd.prog 52 #[.string s, .string ⟨#[46]⟩] w fun e w' => e = .returned (.int .i64 (ix s.data.toList)) ∧ w' = w := Any.strings_Index_one Tryd.laysIndex s 46 w
theorem ix_bounds : ∀ (l : By), ix l = -1 ∨ (0 ≤ ix l ∧ ix l < l.length)
  | [] => .inl rfl
  | c :: l => by
    have ih := ix_bounds l
    unfold ix at *
    rw [Lib.indexByte]
    by_cases hc : (c == 46) = true
    · rw [if_pos hc]; right; simp
    · rw [if_neg hc]
      by_cases h1 : (Lib.indexByte l 46 == -1) = true
      · rw [if_pos h1]; exact .inl rfl
      · rw [if_neg h1]
        have : Lib.indexByte l 46 ≠ -1 := by simpa using h1
        right
        rcases ih with ih | ih
        · exact absurd ih this
        · simp; omega
end Go.Proofs.YteekmmgopnnioaaDoor.Mn
