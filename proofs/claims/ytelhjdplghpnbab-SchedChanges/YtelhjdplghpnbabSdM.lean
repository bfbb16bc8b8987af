import Derived.Test.YtelhjdplghpnbabSdL
/-! Turns of the call's own; the document's Copied. -/
namespace Go.Proofs.Ytelhjdplghpnbab
open Go.RowKit Plain
set_option linter.unusedVariables false
set_option linter.unusedSimpArgs false

/-- Queues of the call's own, all their blocks from base on: the first of the row have rows of costs of their own, no two in one block. -/
structure QMem (base : Nat) (w : World) (v : Value) (vs : List Qv) (r : Option Nat) (fl : List (List Int)) (rs : List (Option Nat)) : Prop where
  row : OwnQv w v vs r
  len : rs.length = fl.length
  le : fl.length ≤ vs.length
  cost : ∀ j, j < fl.length → RowO w (.slice (vs.getD j Qv.zero).sl.1 (fl.getD j []).length (vs.getD j Qv.zero).sl.2.2) (fl.getD j []) (rs.getD j none)
  new : ∀ g, r = some g → base ≤ g
  newc : ∀ j, j < fl.length → ∀ g, rs.getD j none = some g → base ≤ g
  ap : ∀ j, j < fl.length → ∀ g, rs.getD j none = some g → r ≠ some g
  apc : ∀ i j, i < fl.length → j < fl.length → i ≠ j → ∀ g, rs.getD i none = some g → rs.getD j none ≠ some g
theorem QMem.nil (base : Nat) (w : World) : QMem base w (.slice none 0 0) [] none [] [] := ⟨OwnQv.nil w, rfl, by simp, by simp, by simp, by simp, by simp, by simp⟩
theorem QMem.blocks {base : Nat} {w w' : World} {v : Value} {vs : List Qv} {r : Option Nat} {fl : List (List Int)} {rs : List (Option Nat)} (h : QMem base w v vs r fl rs) (k : w.grownBy w' none) : QMem base w' v vs r fl rs :=
  ⟨h.row.kept k (by cases r with | none => exact .inl rfl | some g => exact .inr (by simp)), h.len, h.le, fun j hj => (h.cost j hj).kept k (fun g e => by simp), h.new, h.newc, h.ap, h.apc⟩
theorem QMem.later {base : Nat} {w w' : World} {v : Value} {vs : List Qv} {r : Option Nat} {fl : List (List Int)} {rs : List (Option Nat)} (h : QMem base w v vs r fl rs) (k : Below w.heap.size w w') : QMem base w' v vs r fl rs := h.blocks (below_grow k none)
/-- A change elsewhere. -/
theorem QMem.kept {base : Nat} {w w' : World} {v : Value} {vs : List Qv} {r r' : Option Nat} {fl : List (List Int)} {rs : List (Option Nat)} (h : QMem base w v vs r fl rs) (k : w.grownBy w' r') (h1 : ∀ g, r = some g → r' ≠ some g) (h2 : ∀ j, j < fl.length → ∀ g, rs.getD j none = some g → r' ≠ some g) : QMem base w' v vs r fl rs :=
  ⟨h.row.kept k (by cases e : r with | none => exact .inl rfl | some g => exact .inr (fun e2 => h1 g e e2.symm)), h.len, h.le, fun j hj => (h.cost j hj).kept k (h2 j hj), h.new, h.newc, h.ap, h.apc⟩
theorem QMem.lts {base : Nat} {w : World} {v : Value} {vs : List Qv} {r : Option Nat} {fl : List (List Int)} {rs : List (Option Nat)} (h : QMem base w v vs r fl rs) : (∀ g, r = some g → g < w.heap.size) ∧ ∀ j, j < fl.length → ∀ g, rs.getD j none = some g → g < w.heap.size :=
  ⟨fun g e => by have := h.row; rw [e] at this; exact this.lt, fun j hj g e => by have := h.cost j hj; rw [e] at this; exact this.lt⟩
theorem getD_snoc {α : Type} (l : List α) (x d : α) (j : Nat) : (l ++ [x]).getD j d = if j < l.length then l.getD j d else if j = l.length then x else d := by
  by_cases h : j < l.length
  · rw [if_pos h]; simp [List.getD_eq_getElem?_getD, List.getElem?_append_left h]
  · rw [if_neg h]
    by_cases e : j = l.length
    · rw [if_pos e, e]; simp [List.getD_eq_getElem?_getD]
    · rw [if_neg e, List.getD_eq_getElem?_getD, List.getElem?_eq_none (by simp; omega)]; rfl
/-- A queue more, its costs in a row of its own that came later than all. -/
theorem QMem.push {base : Nat} {w w' : World} {v v' : Value} {vs : List Qv} {r : Option Nat} {fl : List (List Int)} {rs : List (Option Nat)} {x : Qv} {c : List Int} {rc : Option Nat} {g : Nat} (h : QMem base w v vs r fl rs) (hn : fl.length = vs.length)
    (hc : RowO w (.slice x.sl.1 c.length x.sl.2.2) c rc) (hcn : ∀ g, rc = some g → base ≤ g ∧ r ≠ some g ∧ ∀ j, j < fl.length → rs.getD j none ≠ some g)
    (ho : OwnQv w' v' (vs ++ [x]) (some g)) (hg : w.grownBy w' r) (hr : some g = r ∨ g = w.heap.size) (hb : base ≤ w.heap.size) : QMem base w' v' (vs ++ [x]) (some g) (fl ++ [c]) (rs ++ [rc]) := by
  obtain ⟨l1, l2⟩ := h.lts
  have lc : ∀ g, rc = some g → g < w.heap.size := fun g e => by have := hc; rw [e] at this; exact this.lt
  refine ⟨ho, by simp [h.len], by simp; exact h.le, fun j hj => ?_, fun g' e => ?_, fun j hj g' e => ?_, fun j hj g' e => ?_, fun i j hi hj hij g' e => ?_⟩
  · simp only [List.length_append, List.length_cons, List.length_nil] at hj
    rw [getD_snoc, getD_snoc, getD_snoc]
    by_cases hj1 : j < fl.length
    · rw [if_pos hj1, if_pos (by omega), if_pos (by rw [h.len]; exact hj1)]
      exact (h.cost j hj1).kept hg (fun g e => h.ap j hj1 g e)
    · have e : j = fl.length := by omega
      rw [if_neg hj1, if_pos e, if_neg (by omega), if_pos (by omega), if_neg (by rw [h.len]; exact hj1), if_pos (by rw [h.len]; exact e)]
      exact hc.kept hg (fun g e => (hcn g e).2.1)
  · simp only [Option.some.injEq] at e
    subst e
    rcases hr with e | e
    · exact h.new _ e.symm
    · omega
  · simp only [List.length_append, List.length_cons, List.length_nil] at hj
    rw [getD_snoc] at e
    by_cases hj1 : j < fl.length
    · rw [if_pos (by rw [h.len]; exact hj1)] at e; exact h.newc j hj1 g' e
    · rw [if_neg (by rw [h.len]; exact hj1), if_pos (by rw [h.len]; omega)] at e; exact (hcn g' e).1
  · simp only [List.length_append, List.length_cons, List.length_nil] at hj
    rw [getD_snoc] at e
    intro e2
    simp only [Option.some.injEq] at e2
    subst e2
    by_cases hj1 : j < fl.length
    · rw [if_pos (by rw [h.len]; exact hj1)] at e
      rcases hr with e3 | e3
      · exact h.ap j hj1 _ e e3.symm
      · have := l2 j hj1 _ e; omega
    · rw [if_neg (by rw [h.len]; exact hj1), if_pos (by rw [h.len]; omega)] at e
      rcases hr with e3 | e3
      · exact (hcn _ e).2.1 e3.symm
      · have := lc _ e; omega
  · simp only [List.length_append, List.length_cons, List.length_nil] at hi hj
    rw [getD_snoc] at e ⊢
    intro e2
    by_cases hi1 : i < fl.length
    · rw [if_pos (by rw [h.len]; exact hi1)] at e
      by_cases hj1 : j < fl.length
      · rw [if_pos (by rw [h.len]; exact hj1)] at e2; exact h.apc i j hi1 hj1 hij g' e e2
      · rw [if_neg (by rw [h.len]; exact hj1), if_pos (by rw [h.len]; omega)] at e2; exact (hcn g' e2).2.2 i hi1 e
    · rw [if_neg (by rw [h.len]; exact hi1), if_pos (by rw [h.len]; omega)] at e
      by_cases hj1 : j < fl.length
      · rw [if_pos (by rw [h.len]; exact hj1)] at e2; exact (hcn g' e).2.2 j hj1 e2
      · omega
/-- The queues that stand there, as far as their rows of costs go. -/
def quL (vs : List Qv) (fl : List (List Int)) : List Qu := List.zipWith (fun x c => ⟨x.id, x.quantum, x.deficit, c⟩) vs fl
theorem quL_len {vs : List Qv} {fl : List (List Int)} (h : fl.length = vs.length) : (quL vs fl).length = vs.length := by simp [quL, h]
theorem quL_get {vs : List Qv} {fl : List (List Int)} (h : fl.length = vs.length) {j : Nat} (hj : j < vs.length) : (quL vs fl).getD j Qu.zero = ⟨(vs.getD j Qv.zero).id, (vs.getD j Qv.zero).quantum, (vs.getD j Qv.zero).deficit, fl.getD j []⟩ := by
  have hj2 : j < fl.length := by omega
  simp [quL, List.getD_eq_getElem?_getD, List.getElem?_zipWith, hj, hj2]
/-- They are read. -/
theorem QMem.reads {base : Nat} {w : World} {v : Value} {vs : List Qv} {r : Option Nat} {fl : List (List Int)} {rs : List (Option Nat)} (h : QMem base w v vs r fl rs) (hn : fl.length = vs.length) (hsl : ∀ j, j < vs.length → (vs.getD j Qv.zero).sl.2.1 = (fl.getD j []).length) (hb : vs.length ≤ 2932031007400) (hok : ∀ x ∈ vs, x.Ok) (hcl : ∀ j, j < fl.length → (fl.getD j []).length ≤ 17592186044000 ∧ ∀ z ∈ fl.getD j [], I64 z) : QsAt w v (quL vs fl) := by
  refine ⟨vs, h.row.recs hb hok, (quL_len hn).symm, fun j hj => ?_⟩
  rw [quL_len hn] at hj
  rw [quL_get hn hj]
  have hc := h.cost j (by omega)
  rw [← hsl j hj] at hc
  exact ⟨rfl, rfl, rfl, hsl j hj, hc.reads (hcl j (by omega)).1 (hcl j (by omega)).2⟩
end Go.Proofs.Ytelhjdplghpnbab
