import Derived.Test.YtmcfcbonmmifeaaDoorJd
import Derived.Deep.RegionHeld3
/-! dedupe: keep, areProds, New. -/
namespace Go.Proofs.YtmcfcbonmmifeaaDoor
open Go.RowKit Go.Maps Plain
set_option linter.unusedVariables false
set_option linter.unusedSimpArgs false

theorem MapQ.below {w w' : World} {b : Nat} {L : List Pr} (h : MapQ w b L) (hb : Below w.heap.size w w') : MapQ w' b L := h.of_block (hb.block b h.lt)
theorem MapQ.stored {w : World} {b n : Nat} {L : List Pr} {p : Pr} (h : w.ownsMap Tryd.prog 2 Rq b n ((toQ L).put (.int .i64 p.pid) p.d)) : MapQ w b (layP L p) := by
  have := tightQ h
  rw [toQ_put, toQ_size] at this
  exact this
theorem MapQ.store {w : World} {b : Nat} {L : List Pr} (h : MapQ w b L) (p : Pr) (hl : L.length ≤ 64) (hp : I64 p.pid) :
    ∃ w', (Instr.mapUpdate 48 (.map (some b)) (.int .i64 p.pid) p.agg).run Tryd.prog w = .ok () w' ∧ MapQ w' b (layP L p) ∧ w.grownBy w' (some b) := by
  obtain ⟨w', hrun, r1, r2⟩ := World.ownsMap.update h keyed2 Tryd.underlying48 (by unfold maxLen; omega) (key_int hp) (Rq_agg p)
  exact ⟨w', hrun, MapQ.stored r1, r2⟩
set_option maxRecDepth 1000000 in
set_option maxHeartbeats 2000000 in
theorem keepOf (t : Nat) (m : Option Nat) (L : List Pr) (p : Pr) (w : World) (h : TabAt w t m L) (hp : p.Right) (hl : (lookP L p.pid).isSome = true ∨ L.length < 64) :
    Calls Tryd.prog 11 #[.pointer (some ⟨t, 0, none⟩), p.agg] w fun e w' => e = .returned (.tuple #[]) ∧ ∃ m', TabAt w' t m' (layP L p) ∧ Chg (foot t m) w w' ∧ (m' = m ∨ (m = none ∧ ∃ b, m' = some b ∧ w.heap.size ≤ b)) := by
  have HT : Hid (TabL (layP L p)) := h.tab.lay hp hl
  have hlt := h.lt
  have hlen := h.tab.len
  have hmlt := h.mlt
  have HPI : Hid (I64 p.pid) := hp.ok.pid
  have hmm := @run_makeMap Tryd.prog
  have q70 : ∀ (w : World) (r : Option Nat), (binOp .eql 48 (.map r) (.map none)).run Tryd.prog w = .ok (.bool r.isNone) w := fun w r => run_eql_map_nil w _ _ _ r Tryd.underlying48
  obtain ⟨w1, hw1⟩ : ∃ w1, w.alloc (.cells #[.int .i64 p.pid, .int .i64 p.seq, .int .i64 p.off] 43) = w1 := ⟨_, rfl⟩
  have hb1 : Below w.heap.size w w1 := by rw [← hw1]; exact (Below.refl _ _).alloc (Nat.le_refl _) _
  have hs1 : w1.heap.size = w.heap.size + 1 := by rw [← hw1]; simp
  have HPC : Hid (Pr.CellsAt w1 w.heap.size 0 p) := by rw [← hw1]; exact ⟨World.cell?_alloc_at _ _ _ _ rfl, World.cell?_alloc_at _ _ _ _ rfl, World.cell?_alloc_at _ _ _ _ rfl⟩
  have HT1 : Hid (TabAt w1 t m L) := h.later hb1
  obtain ⟨pid, seq, off⟩ := p
  clear h hp hl
  have hFin : ∀ (b : Nat) (W w2 : World), (b < w.heap.size ∨ b = w.heap.size + 1) → Pr.CellsAt W w.heap.size 0 ⟨pid, seq, off⟩ → W.cell? ⟨t, 0, none⟩ = some (.map (some b)) → W.frozen? ⟨t, 0, none⟩ = false → MapQ W b L → W.grownBy w2 (some b) → MapQ w2 b (layP L ⟨pid, seq, off⟩) →
      (w2.cell? ⟨t, 0, none⟩ = some (.map (some b)) ∧ w2.cell? ⟨w.heap.size, 0, none⟩ = some (.int .i64 pid) ∧ w2.cell? ⟨w.heap.size, 1, none⟩ = some (.int .i64 seq) ∧ w2.cell? ⟨w.heap.size, 2, none⟩ = some (.int .i64 off)) ∧ TabAt w2 t (some b) (layP L ⟨pid, seq, off⟩) := by
    intro b W w2 hbb hpc hct hfr hmq hg hm2
    have hbt : t ≠ b := by
      rintro rfl
      obtain ⟨es, c, ho⟩ := hmq.obj
      unfold World.cell? at hct
      rw [ho] at hct
      simp at hct
    have e1 : w2.heap[t]? = W.heap[t]? := hg.block t (cell_lt hct) (fun e => hbt (by injection e))
    have e2 : w2.heap[w.heap.size]? = W.heap[w.heap.size]? := hg.block _ (cell_lt hpc.c0) (fun e => by injection e with e; omega)
    obtain ⟨x0, x1, x2⟩ := hpc.block e2
    exact ⟨⟨(World.cell?_of_block (w := W) (a := ⟨t, 0, none⟩) e1).trans hct, x0, by simpa using x1, by simpa using x2⟩, (World.cell?_of_block (w := W) (a := ⟨t, 0, none⟩) e1).trans hct, (World.frozen?_of_block (w := W) (a := ⟨t, 0, none⟩) e1).trans hfr, .inr ⟨b, rfl, hm2⟩, HT.out⟩
  rcases m with _ | b
  · obtain ⟨wA, hwA⟩ : ∃ wA, (w1.alloc (.map #[] 0)).setCell ⟨t, 0, none⟩ (.map (some (w.heap.size + 1))) = wA := ⟨_, rfl⟩
    have hL : L = [] := by
      rcases HT1.out.map with ⟨_, e⟩ | ⟨b', e, h2⟩
      · exact e
      · cases e
    have gS := grow_setC (w1.alloc (.map #[] 0)) t 0 (.map (some (w.heap.size + 1)))
    have hsA : wA.heap.size = w.heap.size + 2 := by
      rw [← hwA, size_setC]
      simp
      omega
    have hMA : MapQ wA (w.heap.size + 1) L := by
      rw [hL]
      have h1 := MapQ.made w1
      rw [hs1] at h1
      rw [← hwA]
      exact h1.of_block (gS.block _ (by simp; omega) (fun e => by injection e with e; omega))
    have hc1 : (w1.alloc (.map #[] 0)).cell? ⟨t, 0, none⟩ = some (.map none) := (((Below.refl _ w1).alloc (Nat.le_refl _) _).cell (p := ⟨t, 0, none⟩) (by show t < _; omega)).trans HT1.out.cell
    have hf1 : (w1.alloc (.map #[] 0)).frozen? ⟨t, 0, none⟩ = false := (((Below.refl _ w1).alloc (Nat.le_refl _) _).frozen (p := ⟨t, 0, none⟩) (by show t < _; omega)).trans HT1.out.froz
    have hcA : wA.cell? ⟨t, 0, none⟩ = some (.map (some (w.heap.size + 1))) := by rw [← hwA]; exact World.cell?_setCell_same' _ _ _ (by rw [hc1]; rfl)
    have hfA : wA.frozen? ⟨t, 0, none⟩ = false := by rw [← hwA, World.frozen?_setCell]; exact hf1
    have hpA : Pr.CellsAt wA w.heap.size 0 ⟨pid, seq, off⟩ := by
      have h1 : Pr.CellsAt (w1.alloc (.map #[] 0)) w.heap.size 0 ⟨pid, seq, off⟩ := HPC.out.block (Below.heap_alloc w1 _ _ (by omega))
      rw [← hwA]
      exact h1.block (gS.block _ (by simp; omega) (fun e => by injection e with e; omega))
    obtain ⟨w2, hrun, hm2, hg2⟩ := (hMA.below (Below.refl _ wA).drew).store ⟨pid, seq, off⟩ hlen HPI.out
    simp only [Pr.agg] at hrun
    obtain ⟨⟨d0, d1, d2, d3⟩, hT2⟩ := hFin (w.heap.size + 1) wA.drew w2 (.inr rfl) (hpA.block rfl) hcA hfA (hMA.below (Below.refl _ wA).drew) hg2 hm2
    have HFN : Hid (∃ m', TabAt w2 t m' (layP L ⟨pid, seq, off⟩) ∧ Chg (foot t none) w w2 ∧ (m' = none ∨ (True ∧ ∃ b, m' = some b ∧ w.heap.size ≤ b))) := by
      refine ⟨_, hT2, ?_, .inr ⟨trivial, _, rfl, by omega⟩⟩
      have c1 : Chg (foot t none) w (w1.alloc (.map #[] 0)) := Chg.ofBelow (below_step hb1 ((Below.refl _ _).alloc (Nat.le_refl _) _))
      have c2 := c1.grown gS (fun g e => by cases e; exact .inl (.inl rfl))
      rw [hwA] at c2
      have c3 := c2.more ((Below.refl _ wA).drew)
      exact c3.grown hg2 (fun g e => by cases e; exact .inr (by omega))
    have hcw := HT1.out.cell
    have hfw := HT1.out.froz
    obtain ⟨k0, k1, k2⟩ := HPC.out
    obtain ⟨j0, j1, j2⟩ := hpA
    simp only at k0 k1 k2 j0 j1 j2
    clear hFin hT2 hg2 hm2 gS hMA
    go_enter Tryd.func11, Tryd.ntmps11
    go_wp2
    go_region_held3 (fun w' => w'.cell? ⟨t, 0, none⟩ = some (.map (some (w.heap.size + 1))) ∧ w'.cell? ⟨w.heap.size, 0, none⟩ = some (.int .i64 pid) ∧ w'.cell? ⟨w.heap.size, 1, none⟩ = some (.int .i64 seq) ∧ w'.cell? ⟨w.heap.size, 2, none⟩ = some (.int .i64 off)) (go_keep) (fail)
    all_goals
      go_wp2
      go_end0
      exact ⟨rfl, by simpa using HFN.out⟩
  · have HM : Hid (MapQ w1 b L) := by
      rcases HT1.out.map with ⟨e, _⟩ | ⟨b', e, h2⟩
      · cases e
      · cases e; exact h2
    have hbl : b < w.heap.size := hmlt b rfl
    obtain ⟨w2, hrun, hm2, hg2⟩ := (HM.out.below (Below.refl _ w1).drew).store ⟨pid, seq, off⟩ hlen HPI.out
    simp only [Pr.agg] at hrun
    have hc := HT1.out.cell
    obtain ⟨⟨d0, d1, d2, d3⟩, hT2⟩ := hFin b w1.drew w2 (.inl hbl) (HPC.out.block rfl) hc HT1.out.froz (HM.out.below (Below.refl _ w1).drew) hg2 hm2
    have HFN : Hid (∃ m', TabAt w2 t m' (layP L ⟨pid, seq, off⟩) ∧ Chg (foot t (some b)) w w2 ∧ (m' = some b ∨ (some b = none ∧ ∃ b, m' = some b ∧ w.heap.size ≤ b))) := by
      refine ⟨_, hT2, ?_, .inl rfl⟩
      exact ((Chg.ofBelow hb1).more (Below.refl _ w1).drew).grown hg2 (fun g e => by cases e; exact .inl (.inr rfl))
    obtain ⟨k0, k1, k2⟩ := HPC.out
    simp only at k0 k1 k2
    clear hFin hT2 hg2 hm2
    go_enter Tryd.func11, Tryd.ntmps11
    go_wp2
    go_region_held3 (fun w' => w'.cell? ⟨t, 0, none⟩ = some (.map (some b)) ∧ w'.cell? ⟨w.heap.size, 0, none⟩ = some (.int .i64 pid) ∧ w'.cell? ⟨w.heap.size, 1, none⟩ = some (.int .i64 seq) ∧ w'.cell? ⟨w.heap.size, 2, none⟩ = some (.int .i64 off)) (go_keep) (fail)
    all_goals
      go_wp2
      go_end0
      exact ⟨rfl, HFN.out⟩
end Go.Proofs.YtmcfcbonmmifeaaDoor
