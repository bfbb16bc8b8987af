import Derived.Test.YteekmmgopnnioaaDoorMcL
/-! manifest: the law's sameManifest, sameCatalogue. -/
namespace Go.Proofs.YteekmmgopnnioaaDoor
open Go.RowKit Plain
set_option linter.unusedVariables false
set_option linter.unusedSimpArgs false

theorem drewN_below {B : Nat} {w u : World} (h : Below B w u) (n : Nat) : Below B w (u.drewN n) := ⟨h.os, h.tape, h.output, h.size, h.block⟩
set_option maxHeartbeats 8000000 in
set_option maxRecDepth 100000 in
theorem sameManOf (m : Mf) (vs vp vs' vp' : Value) (w : World) (h1 : IntsAt w vs m.segs) (h2 : PrsAt w vp m.prods) (h1' : IntsAt w vs' m.segs) (h2' : PrsAt w vp' m.prods) : Calls Tryd.prog 32 #[m.agg vs vp, m.agg vs' vp'] w fun e w' => e = .returned (.bool true) ∧ Below w.heap.size w w' := by
  obtain ⟨wa, hwa⟩ : ∃ w0, w.alloc (m.obj vs vp) = w0 := ⟨_, rfl⟩
  obtain ⟨w0, hw0⟩ : ∃ w0, wa.alloc (m.obj vs' vp') = w0 := ⟨_, rfl⟩
  have hsa : wa.heap.size = w.heap.size + 1 := by rw [← hwa]; simp
  have HBA : Hid (Below w.heap.size w wa) := by rw [← hwa]; exact (Below.refl _ _).alloc (Nat.le_refl _) _
  have HBB : Hid (Below wa.heap.size wa w0) := by rw [← hw0]; exact (Below.refl _ _).alloc (Nat.le_refl _) _
  have HB0 : Hid (Below w.heap.size w w0) := below_step HBA.out HBB.out
  have HM : Hid (∀ u, Below w0.heap.size w0 u → (u.cell? ⟨w.heap.size, 0, none⟩ = some (.int .i64 m.id) ∧ u.cell? ⟨w.heap.size, 1, none⟩ = some (.int .i64 m.nseg) ∧ u.cell? ⟨w.heap.size, 2, none⟩ = some (.int .i64 m.next) ∧ u.cell? ⟨w.heap.size, 3, none⟩ = some (.int .i64 m.mark) ∧ u.cell? ⟨w.heap.size, 4, none⟩ = some (.int .i64 m.clk) ∧ u.cell? ⟨w.heap.size, 5, none⟩ = some vs ∧ u.cell? ⟨w.heap.size, 6, none⟩ = some vp) ∧ (u.cell? ⟨w.heap.size + 1, 0, none⟩ = some (.int .i64 m.id) ∧ u.cell? ⟨w.heap.size + 1, 1, none⟩ = some (.int .i64 m.nseg) ∧ u.cell? ⟨w.heap.size + 1, 2, none⟩ = some (.int .i64 m.next) ∧ u.cell? ⟨w.heap.size + 1, 3, none⟩ = some (.int .i64 m.mark) ∧ u.cell? ⟨w.heap.size + 1, 4, none⟩ = some (.int .i64 m.clk) ∧ u.cell? ⟨w.heap.size + 1, 5, none⟩ = some vs' ∧ u.cell? ⟨w.heap.size + 1, 6, none⟩ = some vp')) := fun u hu => by
    obtain ⟨m0, m1, m2, m3, m4, m5, m6⟩ := mobj_cells w m vs vp hwa
    obtain ⟨n0, n1, n2, n3, n4, n5, n6⟩ := mobj_cells wa m vs' vp' hw0
    rw [hsa] at n0 n1 n2 n3 n4 n5 n6
    have hc : ∀ j v, wa.cell? ⟨w.heap.size, j, none⟩ = some v → u.cell? ⟨w.heap.size, j, none⟩ = some v := fun j v e => ((below_step HBB.out hu).cell (p := ⟨w.heap.size, j, none⟩) (cell_lt e)).trans e
    have hd : ∀ j v, w0.cell? ⟨w.heap.size + 1, j, none⟩ = some v → u.cell? ⟨w.heap.size + 1, j, none⟩ = some v := fun j v e => (hu.cell (p := ⟨w.heap.size + 1, j, none⟩) (cell_lt e)).trans e
    exact ⟨⟨hc _ _ m0, hc _ _ m1, hc _ _ m2, hc _ _ m3, hc _ _ m4, hc _ _ m5, hc _ _ m6⟩, ⟨hd _ _ n0, hd _ _ n1, hd _ _ n2, hd _ _ n3, hd _ _ n4, hd _ _ n5, hd _ _ n6⟩⟩
  obtain ⟨mi, mn, mx, mk, mc, l, p⟩ := m
  simp only at h1 h2 h1' h2' HM hwa hw0
  obtain ⟨a1, c1, rfl, _, hl1, _, hc1⟩ := h1.later HB0.out
  obtain ⟨a2, c2, rfl, hl2, _, hc2⟩ := h2.later HB0.out
  obtain ⟨a3, c3, rfl, _, _, _, hc3⟩ := h1'.later HB0.out
  obtain ⟨a4, c4, rfl, _, _, hc4⟩ := h2'.later HB0.out
  have HS : Hid (∀ u j, Below w0.heap.size w0 u → j < l.length → ∃ b o b' o', a1 = some ⟨b, o, none⟩ ∧ a3 = some ⟨b', o', none⟩ ∧ u.cell? ⟨b, o + j, none⟩ = some (.int .i64 (l.getD j 0)) ∧ u.cell? ⟨b', o' + j, none⟩ = some (.int .i64 (l.getD j 0))) := fun u j hu hj => by
    have hne : l ≠ [] := by intro e; rw [e] at hj; simp at hj
    obtain ⟨b, o, e, hc⟩ := hc1 hne
    obtain ⟨b', o', e', hc'⟩ := hc3 hne
    exact ⟨b, o, b', o', e, e', (hu.cell (p := ⟨b, o + j, none⟩) (cell_lt (hc j hj))).trans (hc j hj), (hu.cell (p := ⟨b', o' + j, none⟩) (cell_lt (hc' j hj))).trans (hc' j hj)⟩
  have HP : Hid (∀ u j, Below w0.heap.size w0 u → j < p.length → ∃ b o b' o', a2 = some ⟨b, o, none⟩ ∧ a4 = some ⟨b', o', none⟩ ∧ Pr.CellsAt u b (o + j * 3) (p.getD j Pr.zero) ∧ Pr.CellsAt u b' (o' + j * 3) (p.getD j Pr.zero)) := fun u j hu hj => by
    have hne : p ≠ [] := by intro e; rw [e] at hj; simp at hj
    obtain ⟨b, o, e, hc⟩ := hc2 hne
    obtain ⟨b', o', e', hc'⟩ := hc4 hne
    exact ⟨b, o, b', o', e, e', (hc j hj).block (hu.block _ (hc j hj).lt), (hc' j hj).block (hu.block _ (hc' j hj).lt)⟩
  obtain ⟨⟨m0, m1, m2, m3, m4, m5, m6⟩, ⟨n0, n1, n2, n3, n4, n5, n6⟩⟩ := HM.out w0 (Below.refl _ _)
  clear h1 h2 h1' h2' hc1 hc2 hc3 hc4
  unfold Mf.agg
  simp only
  go_enter Tryd.func32, Tryd.ntmps32
  go_wp2
  go_loopw [5] (fun i wr => ∃ k : Nat, k ≤ l.length ∧ i = .int .i64 k ∧ Hid (Below w0.heap.size w0 wr)) (fun i _ => l.length - (intOf i).toNat)
  case atStart => exact ⟨0, by omega, rfl, Below.refl _ _⟩
  case round =>
    obtain ⟨k, hk, rfl, HBW⟩ := hrel
    clear m0 m1 m2 m3 m4 m5 m6 n0 n1 n2 n3 n4 n5 n6
    obtain ⟨⟨m0, m1, m2, m3, m4, m5, m6⟩, ⟨n0, n1, n2, n3, n4, n5, n6⟩⟩ := HM.out wr HBW.out
    by_cases hlt : k < l.length
    · obtain ⟨b, o, b', o', rfl, rfl, e1, e2⟩ := HS.out wr k HBW.out hlt
      generalize l.getD k 0 = z at e1 e2
      have hki : (k : Int) < (l.length : Int) := by omega
      go_wp2
      go_quiet (fail)
      go_wp2
      go_roundw
      case rel => exact ⟨k + 1, by omega, by go_num, drewN_below HBW.out _⟩
      case measure => simp [intOf]; omega
    · have hki : ¬ (k : Int) < (l.length : Int) := by omega
      have HB2 : Hid (Below w0.heap.size w0 wr) := HBW.out
      go_wp2
      clear HBW
      go_loopw [6] (fun i wr => ∃ k : Nat, k ≤ p.length ∧ i = .int .i64 k ∧ Hid (Below w0.heap.size w0 wr)) (fun i _ => p.length - (intOf i).toNat)
      case atStart => exact ⟨0, by omega, rfl, HB2.out⟩
      case round =>
        obtain ⟨q, hq, rfl, HBW⟩ := hrel
        clear m0 m1 m2 m3 m4 m5 m6 n0 n1 n2 n3 n4 n5 n6
        obtain ⟨⟨m0, m1, m2, m3, m4, m5, m6⟩, ⟨n0, n1, n2, n3, n4, n5, n6⟩⟩ := HM.out wr HBW.out
        by_cases hlt2 : q < p.length
        · obtain ⟨b, o, b', o', rfl, rfl, e1, e2⟩ := HP.out wr q HBW.out hlt2
          generalize p.getD q Pr.zero = z at e1 e2
          obtain ⟨z1, z2, z3⟩ := z
          obtain ⟨x0, x1, x2⟩ := e1
          obtain ⟨y0, y1, y2⟩ := e2
          simp only at x0 x1 x2 y0 y1 y2
          have hqi : (q : Int) < (p.length : Int) := by omega
          go_wp2
          go_quiet (fail)
          go_wp2
          go_roundw
          case rel => exact ⟨q + 1, by omega, by go_num, drewN_below HBW.out _⟩
          case measure => simp [intOf]; omega
        · have hqi : ¬ (q : Int) < (p.length : Int) := by omega
          go_wp2
          go_ret
          exact ⟨rfl, below_step HB0.out HBW.out⟩
set_option maxHeartbeats 8000000 in
set_option maxRecDepth 100000 in
theorem sameCatOf (c : Ct) (v v' : Value) (w : World) (h : TesAt w v c.tops) (h' : TesAt w v' c.tops) : Calls Tryd.prog 33 #[c.agg v, c.agg v'] w fun e w' => e = .returned (.bool true) ∧ Below w.heap.size w w' := by
  obtain ⟨nid, l⟩ := c
  obtain ⟨wa, hwa⟩ : ∃ w0, w.alloc (.cells #[.int .i64 nid, v] 34) = w0 := ⟨_, rfl⟩
  obtain ⟨w0, hw0⟩ : ∃ w0, wa.alloc (.cells #[.int .i64 nid, v'] 34) = w0 := ⟨_, rfl⟩
  have hsa : wa.heap.size = w.heap.size + 1 := by rw [← hwa]; simp
  have HBA : Hid (Below w.heap.size w wa) := by rw [← hwa]; exact (Below.refl _ _).alloc (Nat.le_refl _) _
  have HBB : Hid (Below wa.heap.size wa w0) := by rw [← hw0]; exact (Below.refl _ _).alloc (Nat.le_refl _) _
  have HB0 : Hid (Below w.heap.size w w0) := below_step HBA.out HBB.out
  have HM : Hid (∀ u, Below w0.heap.size w0 u → u.cell? ⟨w.heap.size, 0, none⟩ = some (.int .i64 nid) ∧ u.cell? ⟨w.heap.size, 1, none⟩ = some v ∧ u.cell? ⟨w.heap.size + 1, 0, none⟩ = some (.int .i64 nid) ∧ u.cell? ⟨w.heap.size + 1, 1, none⟩ = some v') := fun u hu => by
    have m0 : wa.cell? ⟨w.heap.size, 0, none⟩ = some (.int .i64 nid) := by rw [← hwa]; exact World.cell?_alloc_at _ _ _ _ rfl
    have m1 : wa.cell? ⟨w.heap.size, 1, none⟩ = some v := by rw [← hwa]; exact World.cell?_alloc_at _ _ _ _ rfl
    have n0 : w0.cell? ⟨w.heap.size + 1, 0, none⟩ = some (.int .i64 nid) := by rw [← hw0, ← hsa]; exact World.cell?_alloc_at _ _ _ _ rfl
    have n1 : w0.cell? ⟨w.heap.size + 1, 1, none⟩ = some v' := by rw [← hw0, ← hsa]; exact World.cell?_alloc_at _ _ _ _ rfl
    have hc : ∀ j v, wa.cell? ⟨w.heap.size, j, none⟩ = some v → u.cell? ⟨w.heap.size, j, none⟩ = some v := fun j v e => ((below_step HBB.out hu).cell (p := ⟨w.heap.size, j, none⟩) (cell_lt e)).trans e
    have hd : ∀ j v, w0.cell? ⟨w.heap.size + 1, j, none⟩ = some v → u.cell? ⟨w.heap.size + 1, j, none⟩ = some v := fun j v e => (hu.cell (p := ⟨w.heap.size + 1, j, none⟩) (cell_lt e)).trans e
    exact ⟨hc _ _ m0, hc _ _ m1, hd _ _ n0, hd _ _ n1⟩
  have hT : TesAt w0 v l := h.later HB0.out
  have hT' : TesAt w0 v' l := h'.later HB0.out
  obtain ⟨a2, c2, rfl, hl2, _, hc2⟩ := hT
  obtain ⟨a4, c4, rfl, _, _, hc4⟩ := hT'
  have HP : Hid (∀ u j, Below w0.heap.size w0 u → j < l.length → ∃ b o b' o', a2 = some ⟨b, o, none⟩ ∧ a4 = some ⟨b', o', none⟩ ∧ Te.CellsAt u b (o + j * 4) (l.getD j Te.zero) ∧ Te.CellsAt u b' (o' + j * 4) (l.getD j Te.zero)) := fun u j hu hj => by
    have hne : l ≠ [] := by intro e; rw [e] at hj; simp at hj
    obtain ⟨b, o, e, hc⟩ := hc2 hne
    obtain ⟨b', o', e', hc'⟩ := hc4 hne
    exact ⟨b, o, b', o', e, e', (hc j hj).block (hu.block _ (hc j hj).lt), (hc' j hj).block (hu.block _ (hc' j hj).lt)⟩
  obtain ⟨m0, m1, n0, n1⟩ := HM.out w0 (Below.refl _ _)
  clear h h' hc2 hc4
  unfold Ct.agg
  simp only
  go_enter Tryd.func33, Tryd.ntmps33
  go_wp2
  go_loopw [5] (fun i wr => ∃ k : Nat, k ≤ l.length ∧ i = .int .i64 k ∧ Hid (Below w0.heap.size w0 wr)) (fun i _ => l.length - (intOf i).toNat)
  case atStart => exact ⟨0, by omega, rfl, Below.refl _ _⟩
  case round =>
    obtain ⟨q, hq, rfl, HBW⟩ := hrel
    clear m0 m1 n0 n1
    obtain ⟨m0, m1, n0, n1⟩ := HM.out wr HBW.out
    by_cases hlt2 : q < l.length
    · obtain ⟨b, o, b', o', rfl, rfl, e1, e2⟩ := HP.out wr q HBW.out hlt2
      generalize l.getD q Te.zero = z at e1 e2
      obtain ⟨z1, z2, z3, z4⟩ := z
      obtain ⟨x0, x1, x2, x3⟩ := e1
      obtain ⟨y0, y1, y2, y3⟩ := e2
      simp only at x0 x1 x2 x3 y0 y1 y2 y3
      have hqi : (q : Int) < (l.length : Int) := by omega
      go_wp2
      go_quiet (fail)
      go_wp2
      go_roundw
      case rel => exact ⟨q + 1, by omega, by go_num, drewN_below HBW.out _⟩
      case measure => simp [intOf]; omega
    · have hqi : ¬ (q : Int) < (l.length : Int) := by omega
      go_wp2
      go_ret
      exact ⟨rfl, below_step HB0.out HBW.out⟩
end Go.Proofs.YteekmmgopnnioaaDoor
