import Derived.Test.YteekmmgopnnioaaDoorMnL
import Derived.BigRegion
import Derived.Deep.CutRange
/-! Names of files: the program's readName and Parse. -/
namespace Go.Proofs.YteekmmgopnnioaaDoor.Mn
open Go.RowKit
set_option linter.unusedVariables false
set_option linter.unusedSimpArgs false

theorem cutOf (s : ByteArray) (hs : s.size ≤ 281474976710656) (w : World) : Calls Tryd.prog 37 #[.string s, .string ⟨#[46, 116, 109, 112]⟩] w fun e w' => e = .returned (.tuple #[.string ⟨(Lib.trimSuffix s.data.toList tmpB).toArray⟩, .bool (Lib.hasSuffix s.data.toList tmpB)]) ∧ w' = w := Any.strings_CutSuffix Tryd.laysCut s ⟨#[46, 116, 109, 112]⟩ w (by omega)
theorem trimOf (s : ByteArray) (w : World) : Calls Tryd.prog 39 #[.string s, .string ⟨#[116]⟩] w fun e w' => e = .returned (.string ⟨(Lib.trimPrefix s.data.toList [116]).toArray⟩) ∧ w' = w := Any.strings_TrimPrefix Tryd.laysTrim s ⟨#[116]⟩ w

/-- A block of four cells of the call's own. -/
structure Own4 (w : World) (b : Nat) (v0 v1 v2 v3 : Value) : Prop where
  c0 : w.cell? ⟨b, 0, none⟩ = some v0
  c1 : w.cell? ⟨b, 1, none⟩ = some v1
  c2 : w.cell? ⟨b, 2, none⟩ = some v2
  c3 : w.cell? ⟨b, 3, none⟩ = some v3
  soft : ∀ j, w.frozen? ⟨b, j, none⟩ = false
theorem Own4.new (w : World) (v0 v1 v2 v3 : Value) : Own4 (w.alloc (.cells #[v0, v1, v2, v3] 23)) w.heap.size v0 v1 v2 v3 :=
  ⟨by rw [World.cell?_alloc_at _ _ _ _ rfl]; rfl, by rw [World.cell?_alloc_at _ _ _ _ rfl]; rfl, by rw [World.cell?_alloc_at _ _ _ _ rfl]; rfl, by rw [World.cell?_alloc_at _ _ _ _ rfl]; rfl, soft_alloc w _ _⟩
theorem Own4.newD (w : World) (v0 v1 v2 v3 : Value) : Own4 (w.alloc (.cells #[v0, v1, v2, v3] 23)).drew w.heap.size v0 v1 v2 v3 :=
  ⟨(Own4.new w v0 v1 v2 v3).c0, (Own4.new w v0 v1 v2 v3).c1, (Own4.new w v0 v1 v2 v3).c2, (Own4.new w v0 v1 v2 v3).c3, (Own4.new w v0 v1 v2 v3).soft⟩
theorem Own4.later {w w' : World} {b : Nat} {v0 v1 v2 v3 : Value} (h : Own4 w b v0 v1 v2 v3) (hb : Below w.heap.size w w') : Own4 w' b v0 v1 v2 v3 := by
  have hl : b < w.heap.size := cell_lt h.c0
  refine ⟨(hb.cell hl).trans h.c0, (hb.cell hl).trans h.c1, (hb.cell hl).trans h.c2, (hb.cell hl).trans h.c3, fun j => ?_⟩
  rw [World.frozen?_of_block (w := w) (a := ⟨b, j, none⟩) (hb.block b hl)]
  exact h.soft j
theorem hres25 : Tryd.f25.results = #[.cell 2 23] := by kernel_rfl
theorem Own4.put {w : World} {b : Nat} {v0 v1 v2 v3 : Value} (h : Own4 w b v0 v1 v2 v3) (u0 u1 u2 u3 : Value) : Own4 ((((w.setCell ⟨b, 0, none⟩ u0).setCell ⟨b, 1, none⟩ u1).setCell ⟨b, 2, none⟩ u2).setCell ⟨b, 3, none⟩ u3) b u0 u1 u2 u3 := by
  have ne : ∀ {i j : Nat}, i ≠ j → (⟨b, i, none⟩ : Addr) ≠ ⟨b, j, none⟩ := fun hij e => hij (congrArg Addr.off e)
  have o1 : (w.setCell ⟨b, 0, none⟩ u0).cell? ⟨b, 1, none⟩ = some v1 := (World.cell?_setCell_other _ _ _ _ (ne (by omega))).trans h.c1
  have o2 : ((w.setCell ⟨b, 0, none⟩ u0).setCell ⟨b, 1, none⟩ u1).cell? ⟨b, 2, none⟩ = some v2 := (World.cell?_setCell_other _ _ _ _ (ne (by omega))).trans ((World.cell?_setCell_other _ _ _ _ (ne (by omega))).trans h.c2)
  have o3 : (((w.setCell ⟨b, 0, none⟩ u0).setCell ⟨b, 1, none⟩ u1).setCell ⟨b, 2, none⟩ u2).cell? ⟨b, 3, none⟩ = some v3 := (World.cell?_setCell_other _ _ _ _ (ne (by omega))).trans ((World.cell?_setCell_other _ _ _ _ (ne (by omega))).trans ((World.cell?_setCell_other _ _ _ _ (ne (by omega))).trans h.c3))
  refine ⟨?_, ?_, ?_, World.cell?_setCell_same _ _ _ o3, fun j => ?_⟩
  · exact (World.cell?_setCell_other _ _ _ _ (ne (by omega))).trans ((World.cell?_setCell_other _ _ _ _ (ne (by omega))).trans ((World.cell?_setCell_other _ _ _ _ (ne (by omega))).trans (World.cell?_setCell_same _ _ _ h.c0)))
  · exact (World.cell?_setCell_other _ _ _ _ (ne (by omega))).trans ((World.cell?_setCell_other _ _ _ _ (ne (by omega))).trans (World.cell?_setCell_same _ _ _ o1))
  · exact (World.cell?_setCell_other _ _ _ _ (ne (by omega))).trans (World.cell?_setCell_same _ _ _ o2)
  · simp only [World.frozen?_setCell]
    exact h.soft j
theorem bset {w w1 : World} {B b : Nat} (h : Below B w w1) (hb : B ≤ b) (j : Nat) (u : Value) : Below B w (w1.setCell ⟨b, j, none⟩ u) := Below.setCell h (show B ≤ (⟨b, j, none⟩ : Addr).block from hb) u
theorem below4 {w w1 : World} {B b : Nat} (h : Below B w w1) (hb : B ≤ b) (u0 u1 u2 u3 : Value) : Below B w ((((w1.setCell ⟨b, 0, none⟩ u0).setCell ⟨b, 1, none⟩ u1).setCell ⟨b, 2, none⟩ u2).setCell ⟨b, 3, none⟩ u3) := bset (bset (bset (bset h hb 0 u0) hb 1 u1) hb 2 u2) hb 3 u3
theorem parts_len {l p : By} (h : p ∈ parts l) : p.length ≤ l.length := by
  unfold parts at h
  split at h
  · rw [List.mem_singleton.mp h]; exact Nat.le_refl _
  split at h
  · simp at h
    rcases h with rfl | rfl
    · rw [List.length_take]; omega
    · rw [List.length_drop]; omega
  · simp at h
    rcases h with rfl | rfl | rfl
    · rw [List.length_take]; omega
    · rw [List.length_take, List.length_drop]; omega
    · simp
theorem parts_cases (l : By) : (∃ a, parts l = [a]) ∨ (∃ a b, parts l = [a, b]) ∨ ∃ a b c, parts l = [a, b, c] := by
  unfold parts
  split
  · exact .inl ⟨_, rfl⟩
  split
  · exact .inr (.inl ⟨_, _, rfl⟩)
  · exact .inr (.inr ⟨_, _, _, rfl⟩)
end Go.Proofs.YteekmmgopnnioaaDoor.Mn
