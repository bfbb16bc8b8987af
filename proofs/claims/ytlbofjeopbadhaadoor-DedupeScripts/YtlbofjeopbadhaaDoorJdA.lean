import Derived.Test.YtlbofjeopbadhaaDoorJv
import Derived.Test.YtlbofjeopbadhaaDoorJn
/-! dedupe: the document's table. -/
namespace Go.Proofs.YtlbofjeopbadhaaDoor
open Go.RowKit Go.Maps Plain
set_option linter.unusedVariables false
set_option linter.unusedSimpArgs false

/-- Block t is the document's table, its list the row r. -/
structure RTab (w : World) (t : Nat) (v : Value) (L : List Pr) (r : Option Nat) : Prop where
  cell : w.cell? ⟨t, 0, none⟩ = some v
  froz : w.frozen? ⟨t, 0, none⟩ = false
  row : OwnPr w v L r
  tab : TabL L
  ne : r ≠ some t
theorem RTab.lt {w : World} {t : Nat} {v : Value} {L : List Pr} {r : Option Nat} (h : RTab w t v L r) : t < w.heap.size := cell_lt h.cell
theorem RTab.later {w w' : World} {t : Nat} {v : Value} {L : List Pr} {r : Option Nat} (h : RTab w t v L r) (hb : Below w.heap.size w w') : RTab w' t v L r :=
  ⟨(hb.cell (p := ⟨t, 0, none⟩) h.lt).trans h.cell, (hb.frozen (p := ⟨t, 0, none⟩) h.lt).trans h.froz, h.row.later hb, h.tab, h.ne⟩
/-- A new one. -/
structure RNew (w w' : World) (t : Nat) (v : Value) (L : List Pr) (r : Option Nat) : Prop where
  tab : RTab w' t v L r
  tb : w.heap.size ≤ t
  rb : ∀ g, r = some g → w.heap.size ≤ g
  below : Below w.heap.size w w'
theorem OwnPr.made3 (w : World) : OwnPr (w.alloc (.cells #[] 50)) (.slice (some ⟨w.heap.size, 0, none⟩) 0 0) [] (some w.heap.size) :=
  .inr ⟨w.heap.size, 0, rfl, rfl, by simp, by simp, by simp [maxLen], by simp, by simp, by simp⟩
set_option maxHeartbeats 2000000 in
theorem rnewOf (v : Value) (ps : List Pr) (w : World) (h : PrsAt w v ps) (hT : TabL ps) : Calls Tryd.prog 18 #[v] w fun e w' => ∃ t z r, e = .returned (.tuple #[.pointer (some ⟨t, 0, none⟩), .int .i64 0]) ∧ RNew w w' t z ps r := by
  have HRR : Hid (Calls Tryd.prog 36 #[v] w fun e w' => e = .returned (.bool true) ∧ Below w.heap.size w w') := by
    have := rrightOf v ps w h
    rwa [(okL_iff ps).mpr hT] at this
  have HSRC : Hid (∀ u, Below w.heap.size w u → Src Tryd.prog 3 30 v ps.length (qcells ps) u) := fun u hu => src_qs (h.later hu)
  obtain ⟨a0, cap0, rfl⟩ : ∃ a c, v = .slice a ps.length c := by obtain ⟨x, y, e, _⟩ := h; exact ⟨x, y, e⟩
  have hl := hT.len
  clear h
  go_enter Tryd.func18, Tryd.ntmps18
  go_wp2_with fail
  refine HRR.out.mono ?_
  rintro e w1 ⟨rfl, hb1⟩
  have HB1 : Hid (Below w.heap.size w w1) := hb1
  clear hb1
  go_wp2_with (at_builtin; refine wpList_append_q _ rfl _ _ rfl _ _ [] ps (some w1.heap.size) rfl rfl ?hOwn ?hSrc ?hLen ?hR ?_)
  case hOwn => exact OwnPr.made3 w1
  case hSrc => exact HSRC.out _ (below_step HB1.out (bel_al _ _))
  case hLen => simp; omega
  case hR => exact .inl (by simp)
  intro v2 w2 g2 ho2 hg2 hr2
  have hlen : ([] ++ ps : List Pr).length = ps.length := by simp
  obtain ⟨x2, c2, rfl, -, -⟩ := ho2.shape
  have HN : Hid (RNew w (w2.alloc (.cells #[.slice x2 ps.length c2] 84)) w2.heap.size (.slice x2 ps.length c2) ps (some g2)) := by
    have hs1 := HB1.out.size
    have hb : Below w.heap.size w w2 := (below_step HB1.out (bel_al _ _)).trans (grow_below hg2 (by simp; omega) (fun g e => by cases e; exact HB1.out.size))
    have hlt := ho2.lt
    refine ⟨⟨World.cell?_alloc_at _ _ _ _ rfl, World.frozen?_alloc_at _ _ _ _ rfl, by simpa using ho2.later (bel_al _ _), hT, fun e => by injection e with e; omega⟩, hb.size, fun g e => ?_, below_step hb (bel_al _ _)⟩
    cases e
    rcases hr2 with h | h
    · cases h; exact hs1
    · rw [h]; first | omega | (simp; omega)
  clear ho2 hg2 hr2
  go_wp2
  go_ret2
  exact ⟨_, _, _, rfl, HN.out⟩
theorem rnewBad (v : Value) (ps : List Pr) (w : World) (h : PrsAt w v ps) (hT : ¬ TabL ps) : Calls Tryd.prog 18 #[v] w fun e w' => e = .returned (.tuple #[.pointer none, .int .i64 92]) ∧ Below w.heap.size w w' := by
  have HRR : Hid (Calls Tryd.prog 36 #[v] w fun e w' => e = .returned (.bool false) ∧ Below w.heap.size w w') := by
    have := rrightOf v ps w h
    rwa [show okL ps = false from by rw [Bool.eq_false_iff]; exact fun e => hT ((okL_iff ps).mp e)] at this
  go_enter Tryd.func18, Tryd.ntmps18
  go_wp2_with fail
  refine HRR.out.mono ?_
  rintro e w1 ⟨rfl, hb1⟩
  have HB1 : Hid (Below w.heap.size w w1) := hb1
  clear hb1
  go_wp2
  go_ret2
  exact ⟨rfl, HB1.out⟩
set_option maxHeartbeats 2000000 in
theorem rlistOf (t : Nat) (v : Value) (L : List Pr) (r : Option Nat) (w : World) (h : RTab w t v L r) : Calls Tryd.prog 23 #[.pointer (some ⟨t, 0, none⟩)] w fun e w' => ∃ z q, e = .returned z ∧ ListAt w w' z L q := by
  have hc := h.cell
  have hl := h.tab.len
  have HSRC : Hid (∀ u, Below w.heap.size w u → Src Tryd.prog 3 30 v L.length (qcells L) u) := fun u hu => src_qs ((h.row.reads h.tab).later hu)
  obtain ⟨a0, cap0, rfl⟩ : ∃ a c, v = .slice a L.length c := by obtain ⟨x, y, e, _⟩ := h.row.shape; exact ⟨x, y, e⟩
  clear h
  have hc2 : (w.alloc (.cells #[] 50)).cell? ⟨t, 0, none⟩ = some (.slice a0 L.length cap0) := ((bel_al w _).cell (p := ⟨t, 0, none⟩) (cell_lt hc)).trans hc
  go_enter Tryd.func23, Tryd.ntmps23
  go_wp2_with (at_builtin; refine wpList_append_q _ rfl _ _ rfl _ _ [] L (some w.heap.size) rfl rfl ?hOwn ?hSrc ?hLen ?hR ?_)
  case hOwn => exact OwnPr.made3 w
  case hSrc => exact HSRC.out _ (bel_al _ _)
  case hLen => simp; omega
  case hR => exact .inl (by simp)
  intro v2 w2 g2 ho2 hg2 hr2
  have HL : Hid (ListAt w w2 v2 L (some g2)) := by
    refine ⟨by simpa using ho2, fun g e => ?_, (bel_al _ _).trans (grow_below hg2 (by simp) (fun g e => by cases e; exact Nat.le_refl _))⟩
    cases e
    rcases hr2 with h | h
    · cases h; exact Nat.le_refl _
    · rw [h]; simp
  obtain ⟨x2, c2, rfl, -, -⟩ := ho2.shape
  clear ho2 hg2 hr2
  go_wp2
  go_ret
  exact ⟨_, _, rfl, HL.out⟩
set_option maxHeartbeats 2000000 in
theorem rcloneOf (t : Nat) (v : Value) (L : List Pr) (r : Option Nat) (w : World) (h : RTab w t v L r) : Calls Tryd.prog 21 #[.pointer (some ⟨t, 0, none⟩)] w fun e w' => ∃ t' z q, e = .returned (.pointer (some ⟨t', 0, none⟩)) ∧ RNew w w' t' z L q := by
  have hc := h.cell
  have hl := h.tab.len
  have HT : Hid (TabL L) := h.tab
  have HSRC : Hid (∀ u, Below w.heap.size w u → Src Tryd.prog 3 30 v L.length (qcells L) u) := fun u hu => src_qs ((h.row.reads h.tab).later hu)
  obtain ⟨a0, cap0, rfl⟩ : ∃ a c, v = .slice a L.length c := by obtain ⟨x, y, e, _⟩ := h.row.shape; exact ⟨x, y, e⟩
  clear h
  have hc2 : (w.alloc (.cells #[] 50)).cell? ⟨t, 0, none⟩ = some (.slice a0 L.length cap0) := ((bel_al w _).cell (p := ⟨t, 0, none⟩) (cell_lt hc)).trans hc
  go_enter Tryd.func21, Tryd.ntmps21
  go_wp2_with (at_builtin; refine wpList_append_q _ rfl _ _ rfl _ _ [] L (some w.heap.size) rfl rfl ?hOwn ?hSrc ?hLen ?hR ?_)
  case hOwn => exact OwnPr.made3 w
  case hSrc => exact HSRC.out _ (bel_al _ _)
  case hLen => simp; omega
  case hR => exact .inl (by simp)
  intro v2 w2 g2 ho2 hg2 hr2
  have hlen : ([] ++ L : List Pr).length = L.length := by simp
  obtain ⟨x2, c2, rfl, -, -⟩ := ho2.shape
  have HN : Hid (RNew w (w2.alloc (.cells #[.slice x2 L.length c2] 84)) w2.heap.size (.slice x2 L.length c2) L (some g2)) := by
    have hb : Below w.heap.size w w2 := (bel_al _ _).trans (grow_below hg2 (by simp) (fun g e => by cases e; exact Nat.le_refl _))
    have hlt := ho2.lt
    refine ⟨⟨World.cell?_alloc_at _ _ _ _ rfl, World.frozen?_alloc_at _ _ _ _ rfl, by simpa using ho2.later (bel_al _ _), HT.out, fun e => by injection e with e; omega⟩, hb.size, fun g e => ?_, below_step hb (bel_al _ _)⟩
    cases e
    rcases hr2 with h | h
    · cases h; exact Nat.le_refl _
    · rw [h]; simp
  clear ho2 hg2 hr2
  go_wp2
  go_ret
  exact ⟨_, _, _, rfl, HN.out⟩
end Go.Proofs.YtlbofjeopbadhaaDoor
