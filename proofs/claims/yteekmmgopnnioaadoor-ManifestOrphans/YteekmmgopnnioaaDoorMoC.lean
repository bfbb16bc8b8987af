import Derived.Test.YteekmmgopnnioaaDoorMoB
import Derived.Maps.OwnSet
import Derived.Maps.OwnOps
import Derived.Maps.Views
/-! manifest: a set of numbers; the questions. -/
namespace Go.Proofs.YteekmmgopnnioaaDoor
open Go.RowKit Go.Maps Plain
open Mn (FN parseL ofT lastI leftP orphP strP thoseL)
set_option linter.unusedVariables false
set_option linter.unusedSimpArgs false

/-- How nothing reads. -/
def Re (v : Value) : Option (DataW Unit × List MemPlace) := match v with
  | .agg ⟨[]⟩ => some (.agg [], [])
  | _ => none
theorem Re_inv {v : Value} {y : DataW Unit × List MemPlace} (h : Re v = some y) : v = .agg #[] := by
  unfold Re at h
  split at h
  · rfl
  · simp at h
/-- Block b is a map whose keys are L. -/
def SetI (w : World) (b : Nat) (L : List Int) : Prop := ∃ D : DataW Unit, w.ownsMap Tryd.prog 3 Re b L.length D ∧ ∀ z, Maps.has D (.int .i64 z) = L.contains z
theorem keyed3 : Keyed Tryd.prog 3 := int_keyed Tryd.underlying3
theorem key3 {z : Int} (h : I64 z) : keyOf Tryd.prog 3 (.int .i64 z) = some (.int .i64 z) := Maps.keyOf_int_mk Tryd.underlying3 (WalkArith.wf_i64 (by unfold I64 at h; omega))
theorem SetI.lt {w : World} {b : Nat} {L : List Int} (h : SetI w b L) : b < w.heap.size := by
  obtain ⟨D, h, _⟩ := h
  exact World.ownsMap.lt h
theorem SetI.of_block {w w' : World} {b : Nat} {L : List Int} (h : SetI w b L) (hb : w'.heap[b]? = w.heap[b]?) : SetI w' b L := by
  obtain ⟨D, ⟨es, clock, h1, h2⟩, h3⟩ := h
  exact ⟨D, ⟨es, clock, hb.trans h1, h2⟩, h3⟩
theorem SetI.below {w w' : World} {b : Nat} {L : List Int} (h : SetI w b L) (hb : Below w.heap.size w w') : SetI w' b L := h.of_block (hb.block b h.lt)
theorem SetI.made (w : World) : SetI (w.alloc (.map #[] 0)) w.heap.size [] := ⟨_, World.ownsMap_made w _ _ _, fun z => rfl⟩
theorem SetI.store {w : World} {b : Nat} {L : List Int} (h : SetI w b L) (z : Int) (hl : L.length ≤ 17592186044416) (hz : I64 z) :
    ∃ w', (Instr.mapUpdate 53 (.map (some b)) (.int .i64 z) (.agg #[])).run Tryd.prog w = .ok () w' ∧ SetI w' b (L ++ [z]) ∧ w.grownBy w' (some b) := by
  obtain ⟨D, h, hh⟩ := h
  have hm := World.ownsMap.isMap h
  obtain ⟨w', hrun, r1, r2⟩ := World.ownsMap.update h keyed3 Tryd.underlying53 (by unfold maxLen; omega) (val := .agg #[]) (key3 hz) (d := .agg []) (ps := []) rfl
  refine ⟨w', hrun, ⟨_, by simpa using r1, fun y => ?_⟩, r2⟩
  by_cases hy : y = z
  · subst hy
    rw [Maps.has_put_same hm (by simp [WideAt.IsKeyLit])]
    simp
  · rw [Maps.has_put_other (by simpa using hy), hh]
    simp [hy]
theorem SetI.look {w : World} {b : Nat} {L : List Int} (h : SetI w b L) (z : Int) (hz : I64 z) :
    (Instr.lookup 53 (.map (some b)) (.int .i64 z) true).run Tryd.prog w = .ok (.tuple #[.agg #[], .bool (L.contains z)]) w := by
  obtain ⟨D, h, hh⟩ := h
  have hzv : (zeroValue 54).run Tryd.prog w = .ok (.agg #[]) w := by kernel_rfl
  obtain ⟨v, ps, h1, h2⟩ := World.ownsMap.look_ok h keyed3 Tryd.underlying53 hzv (zd := .agg []) (zp := []) rfl (key3 hz)
  rw [Re_inv h2, hh] at h1
  exact h1
end Go.Proofs.YteekmmgopnnioaaDoor
