import Derived.Test.YtelhjdplghpnbabSdW
import Derived.Test.YtelhjdplghpnbabSdX
/-! A law's own turns, in a box that is written over. -/
namespace Go.Proofs.Ytelhjdplghpnbab
open Go.RowKit Plain
set_option linter.unusedVariables false
set_option linter.unusedSimpArgs false

structure BoxT (u : World) (B : Nat) (v : Value) (t : Tr) : Prop where
  b0 : u.cell? ⟨B, 0, none⟩ = some v
  b1 : u.cell? ⟨B, 1, none⟩ = some (.int .i64 t.at')
  b2 : u.cell? ⟨B, 2, none⟩ = some (.bool t.fresh)
  bf : ∀ i, i < 3 → u.frozen? ⟨B, i, none⟩ = false
  lt : B < u.heap.size
theorem BoxT.block {u u' : World} {B : Nat} {v : Value} {t : Tr} (h : BoxT u B v t) (e : u'.heap[B]? = u.heap[B]?) (hs : u.heap.size ≤ u'.heap.size) : BoxT u' B v t := by
  have cc : ∀ j, u'.cell? ⟨B, j, none⟩ = u.cell? ⟨B, j, none⟩ := fun j => World.cell?_of_block (w := u) (a := ⟨B, j, none⟩) e
  have ff : ∀ j, u'.frozen? ⟨B, j, none⟩ = u.frozen? ⟨B, j, none⟩ := fun j => World.frozen?_of_block (w := u) (a := ⟨B, j, none⟩) e
  exact ⟨by rw [cc]; exact h.b0, by rw [cc]; exact h.b1, by rw [cc]; exact h.b2, fun i hi => by rw [ff]; exact h.bf i hi, Nat.lt_of_lt_of_le h.lt hs⟩
theorem BoxT.later {u u' : World} {B : Nat} {v : Value} {t : Tr} (h : BoxT u B v t) (k : Below u.heap.size u u') : BoxT u' B v t := h.block (k.block B h.lt) k.size
theorem BoxT.new (w : World) (v : Value) (t : Tr) (z : Int) (f : Bool) (hz : t.at' = z) (hf : t.fresh = f) : BoxT (w.alloc (.cells #[v, .int .i64 z, .bool f] 24)) w.heap.size v t := by
  subst hz hf
  have h := (turBox w v t.at' t.fresh).2 _ (Below.refl _ _)
  refine ⟨h.1, h.2.1, h.2.2, fun i hi => World.frozen?_alloc_at _ _ _ _ rfl, by simp⟩
/-- The box is written over. -/
abbrev storeT (u : World) (B : Nat) (v : Value) (z : Int) (f : Bool) : World := ((u.setCell ⟨B, 0, none⟩ v).setCell ⟨B, 1, none⟩ (.int .i64 z)).setCell ⟨B, 2, none⟩ (.bool f)
theorem BoxT.store {u : World} {B : Nat} {v : Value} {t : Tr} (h : BoxT u B v t) (v' : Value) (t' : Tr) : BoxT (storeT u B v' t'.at' t'.fresh) B v' t' ∧ u.grownBy (storeT u B v' t'.at' t'.fresh) (some B) := by
  have ot : ∀ (x : World) (i j : Nat) (v : Value), i ≠ j → (x.setCell ⟨B, i, none⟩ v).cell? ⟨B, j, none⟩ = x.cell? ⟨B, j, none⟩ := fun x i j v e => World.cell?_setCell_other _ _ _ _ (by simp only [ne_eq, Addr.mk.injEq]; omega)
  have kk : u.grownBy (storeT u B v' t'.at' t'.fresh) (some B) := grow_setCells u B 0 [v', .int .i64 t'.at', .bool t'.fresh]
  have hs := kk.size
  have hl := h.lt
  refine ⟨⟨?_, ?_, ?_, fun i hi => ?_, by omega⟩, kk⟩
  · rw [ot _ 2 0 _ (by omega), ot _ 1 0 _ (by omega), World.cell?_setCell_same _ _ _ h.b0]
  · rw [ot _ 2 1 _ (by omega), World.cell?_setCell_same (h := by rw [ot _ 0 1 _ (by omega)]; exact h.b1)]
  · rw [World.cell?_setCell_same (h := by rw [ot _ 1 2 _ (by omega), ot _ 0 2 _ (by omega)]; exact h.b2)]
  · rw [World.frozen?_setCell, World.frozen?_setCell, World.frozen?_setCell]; exact h.bf i hi
theorem TurN.kept {base B : Nat} {w w' : World} {v : Value} {t : Tr} {vs : List Qv} {r : Option Nat} {rs : List (Option Nat)} (h : TurN base w v t vs r rs) (k : w.grownBy w' (some B)) (hB : B < base) : TurN base w' v t vs r rs :=
  ⟨h.mem.kept k (fun g e e2 => by have := h.mem.new g e; simp at e2; omega) (fun j hj g e e2 => by have := h.mem.newc j hj g e; simp at e2; omega), h.len, h.same, h.ok, h.few, h.at_⟩
theorem TurNew.kept {base B : Nat} {w w' : World} {v : Value} {t : Tr} (h : TurNew base w v t) (k : w.grownBy w' (some B)) (hB : B < base) : TurNew base w' v t := by
  obtain ⟨vs, r, rs, h⟩ := h
  exact ⟨vs, r, rs, h.kept k hB⟩
/-- A law's turns: in the box B, newer than w. -/
structure LtS (w u : World) (B : Nat) (v : Value) (t : Tr) : Prop where
  box : BoxT u B v t
  rd : TrAt u v t
  below : Below w.heap.size w u
  ge : w.heap.size ≤ B
theorem LtS.later {w u u' : World} {B : Nat} {v : Value} {t : Tr} (h : LtS w u B v t) (k : Below u.heap.size u u') : LtS w u' B v t := ⟨h.box.later k, h.rd.later k, below_of h.below k, h.ge⟩
theorem LtS.store {w u : World} {B base : Nat} {v v' : Value} {t t' : Tr} (h : LtS w u B v t) (hn : TurNew base u v' t') (hB : B < base) : LtS w (storeT u B v' t'.at' t'.fresh) B v' t' := by
  obtain ⟨b, k⟩ := h.box.store v' t'
  have hs := h.below.size
  have hg := h.ge
  exact ⟨b, (hn.kept k hB).reads, h.below.grown k h.below.size (fun g e => by simp at e; omega), hg⟩
/-- A call on them, and its answer stored. -/
theorem LtS.next {w u u' : World} {B : Nat} {v v' : Value} {t t' : Tr} (h : LtS w u B v t) (k : Below u.heap.size u u') (hn : TurNew u.heap.size u' v' t') : LtS w (storeT u' B v' t'.at' t'.fresh) B v' t' := (h.later k).store hn h.box.lt
end Go.Proofs.Ytelhjdplghpnbab
