import Derived.Test.YtlbofjeopbadhaaDoorJv
/-! dedupe: the law's roomy, kept, spoil. -/
namespace Go.Proofs.YtlbofjeopbadhaaDoor
open Go.RowKit Go.Maps Plain
set_option linter.unusedVariables false
set_option linter.unusedSimpArgs false

def mkP (z : Int) : Pr := ⟨z, 0, 0⟩
theorem mkP_ok {z : Int} (h : I64 z) : (mkP z).Ok := ⟨h, by show I64 0; unfold I64; omega, by show I64 0; unfold I64; omega⟩
/-- Producers with two marks in the room behind them. -/
def RoomAt (w : World) (g n cap : Nat) (ps : List Pr) : Prop := n = ps.length ∧ OwnPr w (.slice (some ⟨g, 0, none⟩) (ps.length + 2) cap) (ps ++ [mkP (-1), mkP (-2)]) (some g)
theorem OwnPr.made1 (w : World) : OwnPr (w.alloc (.cells #[] 50)) (.slice (some ⟨w.heap.size, 0, none⟩) 0 0) [] (some w.heap.size) :=
  .inr ⟨w.heap.size, 0, rfl, rfl, by simp, by simp, by simp [maxLen], by simp, by simp, by simp⟩
theorem src_two (W : World) (z y : Int) : Src Tryd.prog 3 30 (.slice (some ⟨W.heap.size, 0, none⟩) 2 2) [mkP z, mkP y].length (qcells [mkP z, mkP y]) (W.alloc (.cells #[.int .i64 z, .int .i64 0, .int .i64 0, .int .i64 y, .int .i64 0, .int .i64 0] 50)) :=
  Src.ofSlice _ Tryd.underlying30 _ 2 2 _ (by rfl) (fun j u hj => by
    rw [WideShapes.add_plain, World.cell?_alloc_at _ _ _ _ rfl, Nat.zero_add]
    rw [← hj]; simp [qcells, Pr.cells, mkP]) (fun u hu => by
    simp [qcells, Pr.cells, mkP] at hu
    rcases hu with rfl | rfl | rfl | rfl | rfl <;> rfl)
set_option maxHeartbeats 2000000 in
theorem roomyOf (v : Value) (ps : List Pr) (w : World) (h : PrsAt w v ps) : Calls Tryd.prog 17 #[v] w fun e w' => ∃ g cap, e = .returned (.slice (some ⟨g, 0, none⟩) ps.length cap) ∧ RoomAt w' g ps.length cap ps ∧ w.heap.size ≤ g ∧ Below w.heap.size w w' := by
  have HSRC : Hid (∀ u, Below w.heap.size w u → Src Tryd.prog 3 30 v ps.length (qcells ps) u) := fun u hu => src_qs (h.later hu)
  have hpl : ps.length ≤ 8796093022000 := by obtain ⟨_, _, _, h, _⟩ := h; exact h
  obtain ⟨a0, cap0, rfl⟩ : ∃ a c, v = .slice a ps.length c := by obtain ⟨x, y, e, _⟩ := h; exact ⟨x, y, e⟩
  clear h
  go_enter Tryd.func17, Tryd.ntmps17
  go_wp2_with (at_builtin; refine wpList_append_q _ rfl _ _ rfl _ _ [] ps (some w.heap.size) rfl rfl ?hOwn ?hSrc ?hLen ?hR ?_)
  case hOwn => exact OwnPr.made1 w
  case hSrc => exact HSRC.out _ (bel_al _ _)
  case hLen => simp; omega
  case hR => exact .inl (by simp)
  intro v2 w2 g2 ho2 hg2 hr2
  have HL2 : Hid (LaidAt w w2 v2 ps (some g2)) := by
    have hb : Below w.heap.size w w2 := (bel_al _ _).trans (grow_below hg2 (by simp) (fun g e => by cases e; exact Nat.le_refl _))
    refine ⟨by simpa using ho2, fun g e => ?_, hb⟩
    cases e
    rcases hr2 with h | h
    · cases h; exact Nat.le_refl _
    · rw [h]; simp
  obtain ⟨x2, c2, rfl, -, -⟩ := ho2.shape
  clear ho2 hg2 hr2
  go_wp2_with (at_builtin; refine wpList_append_q _ rfl _ _ rfl _ _ ps [mkP (-1), mkP (-2)] (some g2) rfl rfl ?hOwnb ?hSrcb ?hLenb ?hRb ?_)
  case hOwnb => exact HL2.out.row.later (bel_al _ _)
  case hSrcb => exact src_two _ (-1) (-2)
  case hLenb => simp; omega
  case hRb => exact .inl (by simp)
  intro v3 w3 g3 ho3 hg3 hr3
  have HL3 : Hid (LaidAt w w3 v3 (ps ++ [mkP (-1), mkP (-2)]) (some g3)) := (HL2.out.later (bel_al _ _)).app ho3 hg3 (by simpa using hr3)
  have hlen3 : (ps ++ [mkP (-1), mkP (-2)]).length = ps.length + 2 := by simp
  obtain ⟨x3, c3, rfl, h3m, h3l⟩ := ho3.shape
  rw [hlen3] at h3l HL3 ⊢
  obtain rfl : x3 = some ⟨g3, 0, none⟩ := by
    rcases ho3 with ⟨h0, _, _⟩ | ⟨g', cap', e, e2, _⟩
    · simp at h0
    · cases e; simp at e2; exact e2.1
  clear ho3 hg3 hr3
  unfold maxLen at h3m
  go_wp2
  go_ret
  exact ⟨g3, c3, rfl, ⟨rfl, HL3.out.row⟩, HL3.out.new g3 rfl, HL3.out.below⟩
end Go.Proofs.YtlbofjeopbadhaaDoor
