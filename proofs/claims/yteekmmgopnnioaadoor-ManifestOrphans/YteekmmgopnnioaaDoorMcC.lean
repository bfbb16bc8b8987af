import Derived.Test.YteekmmgopnnioaaDoorMcB
/-! manifest: segments and producers that may be. -/
namespace Go.Proofs.YteekmmgopnnioaaDoor
open Go.RowKit Plain
set_option linter.unusedVariables false
set_option linter.unusedSimpArgs false

def goodS (l : List Int) (next : Int) (i : Nat) : Bool := inW (l.getD i 0) 1 (next - 1) && !((l.take i).contains (l.getD i 0))
def okSegs (l : List Int) (next : Int) : Bool := inW l.length 1 64 && allB l.length (goodS l next)
/-- A manifest. -/
structure Mf where
  id : Int
  nseg : Int
  next : Int
  mark : Int
  clk : Int
  segs : List Int
  prods : List Pr
abbrev Mf.agg (m : Mf) (vs vp : Value) : Value := .agg #[.int .i64 m.id, .int .i64 m.nseg, .int .i64 m.next, .int .i64 m.mark, .int .i64 m.clk, vs, vp]
abbrev Mf.obj (m : Mf) (vs vp : Value) : Obj := .cells #[.int .i64 m.id, .int .i64 m.nseg, .int .i64 m.next, .int .i64 m.mark, .int .i64 m.clk, vs, vp] 31
theorem mobj_cells (w : World) (m : Mf) (vs vp : Value) {w0 : World} (h : w.alloc (m.obj vs vp) = w0) : w0.cell? ⟨w.heap.size, 0, none⟩ = some (.int .i64 m.id) ∧ w0.cell? ⟨w.heap.size, 1, none⟩ = some (.int .i64 m.nseg) ∧ w0.cell? ⟨w.heap.size, 2, none⟩ = some (.int .i64 m.next) ∧ w0.cell? ⟨w.heap.size, 3, none⟩ = some (.int .i64 m.mark) ∧ w0.cell? ⟨w.heap.size, 4, none⟩ = some (.int .i64 m.clk) ∧ w0.cell? ⟨w.heap.size, 5, none⟩ = some vs ∧ w0.cell? ⟨w.heap.size, 6, none⟩ = some vp := by
  subst h
  exact ⟨World.cell?_alloc_at _ _ _ _ rfl, World.cell?_alloc_at _ _ _ _ rfl, World.cell?_alloc_at _ _ _ _ rfl, World.cell?_alloc_at _ _ _ _ rfl, World.cell?_alloc_at _ _ _ _ rfl, World.cell?_alloc_at _ _ _ _ rfl, World.cell?_alloc_at _ _ _ _ rfl⟩
theorem goodS_eq (l : List Int) (next : Int) (i : Nat) : goodS l next i = (!(decide (l.getD i 0 < 1)) && !(decide (next ≤ l.getD i 0)) && !((l.take i).contains (l.getD i 0))) := by
  unfold goodS inW
  have e1 : decide (1 ≤ l.getD i 0) = !(decide (l.getD i 0 < 1)) := by rw [← decide_not]; exact decide_eq_decide.mpr (by omega)
  have e2 : decide (l.getD i 0 ≤ next - 1) = !(decide (next ≤ l.getD i 0)) := by rw [← decide_not]; exact decide_eq_decide.mpr (by omega)
  rw [e1, e2]
end Go.Proofs.YteekmmgopnnioaaDoor
