import Derived.Test.YtlnppgjppfkocaaDoorXsJ
import Derived.Test.YtlnppgjppfkocaaDoorOwn
/-! Boxes of a call's own. -/
namespace Go.Proofs.YtlnppgjppfkocaaDoor.Xs
open Go.RowKit Plain
set_option linter.unusedVariables false
set_option linter.unusedSimpArgs false

/-- A box of the call's own that holds the values of l. -/
structure Bx (W u : World) (X : Nat) (l : List Value) : Prop where
  c : ∀ i, i < l.length → u.cell? ⟨X, i, none⟩ = some (l.getD i (.bool false))
  fz : ∀ i, i < l.length → u.frozen? ⟨X, i, none⟩ = false
  ge : W.heap.size ≤ X
  lt : X < u.heap.size
theorem Bx.set {W u : World} {X : Nat} {l l' : List Value} (h : Bx W u X l) {i : Nat} (hi : i < l.length) (v : Value) (e : l' = l.set i v) : Bx W (u.setCell ⟨X, i, none⟩ v) X l' := by
  subst e
  refine ⟨fun j hj => ?_, fun j hj => ?_, h.ge, ?_⟩
  · rw [List.length_set] at hj
    by_cases e : j = i
    · subst e
      rw [World.cell?_setCell_same _ _ _ (h.c j hj), List.getD_eq_getElem?_getD, List.getElem?_set_self hj]; rfl
    · rw [World.cell?_setCell_other _ _ _ _ (by simp only [ne_eq, Addr.mk.injEq]; omega), h.c j hj, List.getD_eq_getElem?_getD, List.getD_eq_getElem?_getD, List.getElem?_set_ne (by omega)]
  · rw [List.length_set] at hj
    rw [World.frozen?_setCell]; exact h.fz j hj
  · have hg : u.grownBy (u.setCell ⟨X, i, none⟩ v) (some X) := grow_setCells u X i [v]
    have := hg.size
    have := h.lt
    omega
theorem Bx.other {W u : World} {X Y : Nat} {l : List Value} (h : Bx W u X l) (hne : X ≠ Y) (i : Nat) (v : Value) : Bx W (u.setCell ⟨Y, i, none⟩ v) X l := by
  have hg : u.grownBy (u.setCell ⟨Y, i, none⟩ v) (some Y) := grow_setCells u Y i [v]
  refine ⟨fun j hj => ?_, fun j hj => ?_, h.ge, by have := hg.size; have := h.lt; omega⟩
  · rw [World.cell?_setCell_other _ _ _ _ (by simp only [ne_eq, Addr.mk.injEq]; omega)]; exact h.c j hj
  · rw [World.frozen?_setCell]; exact h.fz j hj
theorem Bx.later {W u u' : World} {X : Nat} {l : List Value} (h : Bx W u X l) (hb : Below u.heap.size u u') : Bx W u' X l :=
  ⟨fun j hj => (hb.cell (p := ⟨X, j, none⟩) h.lt).trans (h.c j hj), fun j hj => by rw [World.frozen?_of_block (w := u) (a := ⟨X, j, none⟩) (hb.block _ h.lt)]; exact h.fz j hj, h.ge, by have := hb.size; have := h.lt; omega⟩
theorem Bx.new {W u : World} (hW : W.heap.size ≤ u.heap.size) (l : List Value) (T : TypeId) : Bx W (u.alloc (.cells l.toArray T)) u.heap.size l := by
  refine ⟨fun i hi => ?_, fun i hi => ?_, hW, by simp⟩
  · rw [World.cell?_alloc_at _ _ _ _ rfl, List.getD_eq_getElem?_getD]
    simp [hi]
  · exact World.frozen?_alloc_at _ _ _ _ rfl
theorem below_set {W u : World} (hb : Below W.heap.size W u) {X : Nat} (hX : W.heap.size ≤ X) (i : Nat) (v : Value) : Below W.heap.size W (u.setCell ⟨X, i, none⟩ v) := by
  have hg : u.grownBy (u.setCell ⟨X, i, none⟩ v) (some X) := grow_setCells u X i [v]
  exact hb.trans (grow_below hg hb.size (fun g e => by cases e; exact hX))
theorem NmsAt.put {W u : World} {v : Value} {l : List By} {X : Nat} (h : NmsAt u v l) (hb : NmsAt W v l) (hW : Below W.heap.size W u) (hX : W.heap.size ≤ X) (i : Nat) (y : Value) : NmsAt (u.setCell ⟨X, i, none⟩ y) v l := hb.later (below_set hW hX i y)
end Go.Proofs.YtlnppgjppfkocaaDoor.Xs
