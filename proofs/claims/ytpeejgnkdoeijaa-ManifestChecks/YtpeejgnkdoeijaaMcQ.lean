import Derived.Test.YtpeejgnkdoeijaaMcO
import Derived.BigRegion
/-! manifest: the law's moved, back. -/
namespace Go.Proofs.Ytpeejgnkdoeijaa
open Go.RowKit Plain
set_option linter.unusedVariables false
set_option linter.unusedSimpArgs false

/-- The copy while it is written to. -/
structure Mv (w0 w : World) (g1 c1 g2 c2 n1 n2 : Nat) (l1 : List Int) (l2 : List Pr) : Prop where
  man : ManW w g1 c1 g2 c2 l1 l2
  len1 : l1.length = n1 + 1
  len2 : l2.length = n2 + 1
  ok1 : ∀ z ∈ l1, I64 z
  ok2 : ∀ x ∈ l2, x.Ok
  mk1 : l1.getD n1 0 = -77
  mk2 : l2.getD n2 Pr.zero = markP
  chg : Chg (fun k => k = g1 ∨ k = g2) w0 w
theorem Mv.seg {w0 w : World} {g1 c1 g2 c2 n1 n2 : Nat} {l1 : List Int} {l2 : List Pr} (h : Mv w0 w g1 c1 g2 c2 n1 n2 l1 l2) {j : Nat} (hj : j < n1) {z : Int} (hz : I64 z) : Mv w0 (w.setCell ⟨g1, j, none⟩ (.int .i64 z)) g1 c1 g2 c2 n1 n2 (l1.set j z) l2 := by
  have hgr := grow_setC w g1 j (.int .i64 z)
  refine ⟨⟨?_, h.man.p.of_block hgr.size fun g e => ?_, h.man.ne⟩, by simp [h.len1], h.len2, fun y hy => ?_, h.ok2, ?_, h.mk2, h.chg.grown hgr fun g e => .inl (.inl (by injection e with e; exact e.symm))⟩
  · have := h.man.s.put (j := j) (by rw [ints_len, h.len1]; omega) (.int .i64 z)
    rw [ints_set] at this
    rw [List.length_set]
    exact this
  · cases e; exact hgr.block g2 h.man.p.lt (fun e => h.man.ne (by injection e with e; exact e.symm))
  · rcases List.mem_or_eq_of_mem_set hy with h1 | h1
    · exact h.ok1 y h1
    · rw [h1]; exact hz
  · rw [List.getD_eq_getElem?_getD, List.getElem?_set_ne (by omega), ← List.getD_eq_getElem?_getD]; exact h.mk1
theorem Mv.seq {w0 w : World} {g1 c1 g2 c2 n1 n2 : Nat} {l1 : List Int} {l2 : List Pr} (h : Mv w0 w g1 c1 g2 c2 n1 n2 l1 l2) {j : Nat} (hj : j < n2) {z : Int} (hz : I64 z) : Mv w0 (w.setCell ⟨g2, j * 3 + 1, none⟩ (.int .i64 z)) g1 c1 g2 c2 n1 n2 l1 (l2.set j ⟨(l2.getD j Pr.zero).pid, z, (l2.getD j Pr.zero).off⟩) := by
  have hgr := grow_setC w g2 (j * 3 + 1) (.int .i64 z)
  have hjl : j < l2.length := by rw [h.len2]; omega
  refine ⟨⟨h.man.s.of_block hgr.size fun g e => ?_, ?_, h.man.ne⟩, h.len1, by simp [h.len2], h.ok1, fun y hy => ?_, h.mk1, ?_, h.chg.grown hgr fun g e => .inl (.inr (by injection e with e; exact e.symm))⟩
  · cases e; exact hgr.block g1 h.man.s.lt (fun e => h.man.ne (by injection e))
  · rw [List.length_set]; exact h.man.p.putSeq hjl z
  · rcases List.mem_or_eq_of_mem_set hy with h1 | h1
    · exact h.ok2 y h1
    · have hx := h.ok2 (l2.getD j Pr.zero) (by simp [hjl])
      rw [h1]; exact ⟨hx.pid, hz, hx.off⟩
  · rw [List.getD_eq_getElem?_getD, List.getElem?_set_ne (by omega), ← List.getD_eq_getElem?_getD]; exact h.mk2
theorem Mv.prod {w0 w : World} {g1 c1 g2 c2 n1 n2 : Nat} {l1 : List Int} {l2 : List Pr} (h : Mv w0 w g1 c1 g2 c2 n1 n2 l1 l2) {j : Nat} (hj : j < n2) {x : Pr} (hx : x.Ok) : Mv w0 (w.setCells g2 (j * 3) x.cells) g1 c1 g2 c2 n1 n2 l1 (l2.set j x) := by
  have hgr := grow_setCells w g2 (j * 3) x.cells
  have hjl : j < l2.length := by rw [h.len2]; omega
  refine ⟨⟨h.man.s.of_block hgr.size fun g e => ?_, ?_, h.man.ne⟩, h.len1, by simp [h.len2], h.ok1, fun y hy => ?_, h.mk1, ?_, h.chg.grown hgr fun g e => .inl (.inr (by injection e with e; exact e.symm))⟩
  · cases e; exact hgr.block g1 h.man.s.lt (fun e => h.man.ne (by injection e))
  · rw [List.length_set]; exact h.man.p.putAll hjl x
  · rcases List.mem_or_eq_of_mem_set hy with h1 | h1
    · exact h.ok2 y h1
    · rw [h1]; exact hx
  · rw [List.getD_eq_getElem?_getD, List.getElem?_set_ne (by omega), ← List.getD_eq_getElem?_getD]; exact h.mk2
theorem wrapI (z : Int) : I64 (RowKit.wrap64 z) := by
  have := bounds_i64 (RowKit.wrap64_wf z)
  unfold I64; omega
theorem Mv.drew {w0 w : World} {g1 c1 g2 c2 n1 n2 : Nat} {l1 : List Int} {l2 : List Pr} (h : Mv w0 w g1 c1 g2 c2 n1 n2 l1 l2) : Mv w0 w.drew g1 c1 g2 c2 n1 n2 l1 l2 :=
  ⟨⟨h.man.s.of_block (Nat.le_refl _) fun _ _ => rfl, h.man.p.of_block (Nat.le_refl _) fun _ _ => rfl, h.man.ne⟩, h.len1, h.len2, h.ok1, h.ok2, h.mk1, h.mk2, ⟨h.chg.os, h.chg.tape, h.chg.output, h.chg.size, h.chg.block⟩⟩
theorem hresM : Try.f8.results = #[.cell 2 25] := by kernel_rfl
set_option maxHeartbeats 8000000 in
set_option maxRecDepth 100000 in
theorem movedOf (m : Mf) (g1 c1 g2 c2 n1 n2 : Nat) (l1 : List Int) (l2 : List Pr) (w : World) (h : Mv w w g1 c1 g2 c2 n1 n2 l1 l2) (hn1 : n1 ≤ 17592186044416) (hn2 : n2 ≤ 8796093022000) :
    Calls Try.prog 8 #[m.agg (.slice (some ⟨g1, 0, none⟩) n1 c1) (.slice (some ⟨g2, 0, none⟩) n2 c2)] w fun e w' => e = .returned (m.agg (.slice (some ⟨g1, 0, none⟩) n1 c1) (.slice (some ⟨g2, 0, none⟩) n2 c2)) ∧ ∃ l1' l2', Mv w w' g1 c1 g2 c2 n1 n2 l1' l2' := by
  have hg1 : g1 < w.heap.size := h.man.s.lt
  have hg2 : g2 < w.heap.size := h.man.p.lt
  obtain ⟨w0, hw0⟩ : ∃ w0, w.alloc (m.obj (.slice (some ⟨g1, 0, none⟩) n1 c1) (.slice (some ⟨g2, 0, none⟩) n2 c2)) = w0 := ⟨_, rfl⟩
  have hs0 : w0.heap.size = w.heap.size + 1 := by rw [← hw0]; simp
  have HB0 : Hid (Below w.heap.size w w0) := by rw [← hw0]; exact (Below.refl _ _).alloc (Nat.le_refl _) _
  have HMC0 : Hid (MC w0 w.heap.size m (.slice (some ⟨g1, 0, none⟩) n1 c1) (.slice (some ⟨g2, 0, none⟩) n2 c2)) := by rw [← hw0]; exact MC.made _ _ _ _
  obtain ⟨w00, hw00⟩ : ∃ w00, w0.alloc (.cells #[.int .i64 0, .int .i64 0, .int .i64 0, .int .i64 0, .int .i64 0, .slice none 0 0, .slice none 0 0] 25) = w00 := ⟨_, rfl⟩
  have hs00 : w00.heap.size = w.heap.size + 1 + 1 := by rw [← hw00]; simp [hs0]
  have HB00 : Hid (Below w.heap.size w w00) := by rw [← hw00]; exact below_step HB0.out ((Below.refl _ _).alloc (Nat.le_refl _) _)
  have HMC : Hid (MC w00 w.heap.size m (.slice (some ⟨g1, 0, none⟩) n1 c1) (.slice (some ⟨g2, 0, none⟩) n2 c2)) := HMC0.out.block (by rw [← hw00]; exact heap_alloc_old _ _ (by omega))
  have HZ0 : Hid (MC w00 (w.heap.size + 1) ⟨0, 0, 0, 0, 0, [], []⟩ (.slice none 0 0) (.slice none 0 0)) := by
    unfold Hid
    rw [← hw00, ← hs0]; exact MC.made w0 ⟨0, 0, 0, 0, 0, [], []⟩ _ _
  have HM0 : Hid (Mv w00 w00 g1 c1 g2 c2 n1 n2 l1 l2) :=
    ⟨⟨h.man.s.later HB00.out, h.man.p.later HB00.out, h.man.ne⟩, h.len1, h.len2, h.ok1, h.ok2, h.mk1, h.mk2, Chg.refl _ _⟩
  have HCB : Hid (∀ u X, Chg (fun k => k = g1 ∨ k = g2) w00 u → X < w.heap.size + 1 + 1 → w.heap.size ≤ X → u.heap[X]? = w00.heap[X]?) := fun u X hu h1 h2 => hu.block X (by omega) (by rintro (e | e) <;> omega)
  clear HMC0 h
  obtain ⟨m0, m1, m2, m3, m4, m5, m6, -⟩ := HMC.out
  obtain ⟨mi, mn, mx, mk, mc, sg, pd⟩ := m
  simp only at HMC m0 m1 m2 m3 m4 m5 m6 hw0
  unfold Mf.agg
  simp only
  go_enter Try.func8, Try.ntmps8
  go_wp2
  go_loopw [3] (fun i wr => ∃ (k : Nat) (l : List Int), k ≤ n1 ∧ i = .int .i64 k ∧ Hid (Mv w00 wr g1 c1 g2 c2 n1 n2 l l2)) (fun i _ => n1 - (intOf i).toNat)
  case atStart => exact ⟨0, l1, Nat.zero_le _, rfl, HM0.out⟩
  case round =>
    obtain ⟨k, l, hk, rfl, HV⟩ := hrel
    clear m0 m1 m2 m3 m4 m5 m6
    obtain ⟨m0, m1, m2, m3, m4, m5, m6, -⟩ := HMC.out.block (HCB.out wr _ HV.out.chg (by omega) (Nat.le_refl _))
    simp only at m0 m1 m2 m3 m4 m5 m6
    by_cases hlt : k < n1
    · obtain ⟨e1, e2⟩ := HV.out.man.s.cellI (j := k) (by rw [HV.out.len1]; omega)
      generalize l.getD k 0 = z at e1
      have hki : (k : Int) < (n1 : Int) := by omega
      have HN : Hid (∀ y, I64 y → Mv w00 (wr.setCell ⟨g1, k, none⟩ (.int .i64 y)).drew g1 c1 g2 c2 n1 n2 (l.set k y) l2) := fun y hy => (HV.out.seg hlt hy).drew
      go_wp2
      go_region
      all_goals go_wp2
      exact ⟨⟨k + 1, _, by omega, by go_num, HN.out _ (wrapI _)⟩, by simp [intOf]; omega⟩
    · have hki : ¬ (k : Int) < (n1 : Int) := by omega
      go_wp2
      clear m0 m1 m2 m3 m4 m5 m6
      go_loopw [4] (fun i wr => ∃ (q : Nat) (l' : List Pr), q ≤ n2 ∧ i = .int .i64 q ∧ Hid (Mv w00 wr g1 c1 g2 c2 n1 n2 l l')) (fun i _ => n2 - (intOf i).toNat)
      case atStart => exact ⟨0, l2, Nat.zero_le _, rfl, HV.out⟩
      case round =>
        clear HV
        obtain ⟨q, l', hq, rfl, HV⟩ := hrel
        have HMw : Hid (MC wr w.heap.size ⟨mi, mn, mx, mk, mc, sg, pd⟩ (.slice (some ⟨g1, 0, none⟩) n1 c1) (.slice (some ⟨g2, 0, none⟩) n2 c2)) := HMC.out.block (HCB.out wr _ HV.out.chg (by omega) (Nat.le_refl _))
        obtain ⟨m0, m1, m2, m3, m4, m5, m6, -⟩ := HMw.out
        simp only at m0 m1 m2 m3 m4 m5 m6
        by_cases hlt2 : q < n2
        · have hcc := HV.out.man.p.at (j := q) (by rw [HV.out.len2]; omega)
          have e2 := HV.out.man.p.fz (j := q * 3 + 1) (by rw [HV.out.len2]; omega)
          obtain ⟨d0, d1, d2⟩ := hcc
          generalize (l'.getD q Pr.zero).seq = z at d1
          have hqi : (q : Int) < (n2 : Int) := by omega
          have HN : Hid (∀ y, I64 y → Mv w00 (wr.setCell ⟨g2, q * 3 + 1, none⟩ (.int .i64 y)).drew g1 c1 g2 c2 n1 n2 l (l'.set q ⟨(l'.getD q Pr.zero).pid, y, (l'.getD q Pr.zero).off⟩)) := fun y hy => (HV.out.seq hlt2 hy).drew
          clear d0 d2
          go_wp2
          go_region
          all_goals go_wp2
          exact ⟨⟨q + 1, _, by omega, by go_num, HN.out _ (wrapI _)⟩, by simp [intOf]; omega⟩
        · have hqi : ¬ (q : Int) < (n2 : Int) := by omega
          have HZ : MC wr (w.heap.size + 1) ⟨0, 0, 0, 0, 0, [], []⟩ (.slice none 0 0) (.slice none 0 0) := HZ0.out.block (HCB.out wr _ HV.out.chg (by omega) (by omega))
          have HST : Hid (MC _ (w.heap.size + 1) ⟨mi, mn, mx, mk, mc, sg, pd⟩ (.slice (some ⟨g1, 0, none⟩) n1 c1) (.slice (some ⟨g2, 0, none⟩) n2 c2)) := HZ.stored ⟨mi, mn, mx, mk, mc, sg, pd⟩ (.slice (some ⟨g1, 0, none⟩) n1 c1) (.slice (some ⟨g2, 0, none⟩) n2 c2)
          have HFIN : Hid (∃ l1' l2', Mv w (wr.setCells (w.heap.size + 1) 0 [.int .i64 mi, .int .i64 mn, .int .i64 mx, .int .i64 mk, .int .i64 mc, .slice (some ⟨g1, 0, none⟩) n1 c1, .slice (some ⟨g2, 0, none⟩) n2 c2]) g1 c1 g2 c2 n1 n2 l1' l2') := by
            have h := HV.out
            have hsz := h.chg.size
            have hgr := grow_setCells wr (w.heap.size + 1) 0 [.int .i64 mi, .int .i64 mn, .int .i64 mx, .int .i64 mk, .int .i64 mc, .slice (some ⟨g1, 0, none⟩) n1 c1, .slice (some ⟨g2, 0, none⟩) n2 c2]
            refine ⟨l, l', ⟨h.man.s.of_block hgr.size fun g e => ?_, h.man.p.of_block hgr.size fun g e => ?_, h.man.ne⟩, h.len1, h.len2, h.ok1, h.ok2, h.mk1, h.mk2, ?_⟩
            · cases e; exact hgr.block g1 h.man.s.lt (fun e => by cases e; omega)
            · cases e; exact hgr.block g2 h.man.p.lt (fun e => by cases e; omega)
            · exact ((Chg.ofBelow HB00.out).trans h.chg).grown hgr fun g e => .inr (by cases e; omega)
          obtain ⟨z0, z1, z2, z3, z4, z5, z6, zf⟩ := HZ
          simp only at z0 z1 z2 z3 z4
          have zf0 := zf 0
          have zf1 := zf 1
          have zf2 := zf 2
          have zf3 := zf 3
          have zf4 := zf 4
          have zf5 := zf 5
          have zf6 := zf 6
          clear zf
          go_wp2
          refine bodyPost_ret (v := .agg #[.int .i64 mi, .int .i64 mn, .int .i64 mx, .int .i64 mk, .int .i64 mc, .slice (some ⟨g1, 0, none⟩) n1 c1, .slice (some ⟨g2, 0, none⟩) n2 c2]) ?_ rfl ⟨rfl, HFIN.out⟩
          obtain ⟨p0, p1, p2, p3, p4, p5, p6, -⟩ := HST.out
          simp only at p0 p1 p2 p3 p4 p5 p6
          simp only [results, hresM]
          go_simp
end Go.Proofs.Ytpeejgnkdoeijaa
