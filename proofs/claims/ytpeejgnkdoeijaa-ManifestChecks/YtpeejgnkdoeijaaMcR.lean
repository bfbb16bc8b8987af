import Derived.Test.YtpeejgnkdoeijaaMcQ
/-! manifest: the law's back. -/
namespace Go.Proofs.Ytpeejgnkdoeijaa
open Go.RowKit Plain
set_option linter.unusedVariables false
set_option linter.unusedSimpArgs false

set_option maxHeartbeats 8000000 in
set_option maxRecDepth 100000 in
theorem backOf (m : Mf) (g1 c1 g2 c2 : Nat) (l1 : List Int) (l2 : List Pr) (vs vp : Value) (W w : World) (h : Mv w w g1 c1 g2 c2 m.segs.length m.prods.length l1 l2) (hW : Below W.heap.size W w) (hg1W : W.heap.size ≤ g1) (hg2W : W.heap.size ≤ g2) (h1 : IntsAt W vs m.segs) (h2 : PrsAt W vp m.prods) :
    Calls Try.prog 9 #[m.agg (.slice (some ⟨g1, 0, none⟩) m.segs.length c1) (.slice (some ⟨g2, 0, none⟩) m.prods.length c2), m.agg vs vp] w fun e w' => e = .returned (.tuple #[]) ∧ Mv w w' g1 c1 g2 c2 m.segs.length m.prods.length (m.segs ++ [-77]) (m.prods ++ [markP]) := by
  have hg1 : g1 < w.heap.size := h.man.s.lt
  have hg2 : g2 < w.heap.size := h.man.p.lt
  obtain ⟨w0, hw0⟩ : ∃ w0, w.alloc (m.obj (.slice (some ⟨g1, 0, none⟩) m.segs.length c1) (.slice (some ⟨g2, 0, none⟩) m.prods.length c2)) = w0 := ⟨_, rfl⟩
  have hs0 : w0.heap.size = w.heap.size + 1 := by rw [← hw0]; simp
  have HB0 : Hid (Below w.heap.size w w0) := by rw [← hw0]; exact (Below.refl _ _).alloc (Nat.le_refl _) _
  have HMC0 : Hid (MC w0 w.heap.size m (.slice (some ⟨g1, 0, none⟩) m.segs.length c1) (.slice (some ⟨g2, 0, none⟩) m.prods.length c2)) := by rw [← hw0]; exact MC.made _ _ _ _
  obtain ⟨w00, hw00⟩ : ∃ w00, w0.alloc (m.obj vs vp) = w00 := ⟨_, rfl⟩
  have hs00 : w00.heap.size = w.heap.size + 1 + 1 := by rw [← hw00]; simp [hs0]
  have HB00 : Hid (Below w.heap.size w w00) := by rw [← hw00]; exact below_step HB0.out ((Below.refl _ _).alloc (Nat.le_refl _) _)
  have HMC : Hid (MC w00 w.heap.size m (.slice (some ⟨g1, 0, none⟩) m.segs.length c1) (.slice (some ⟨g2, 0, none⟩) m.prods.length c2)) := HMC0.out.block (by rw [← hw00]; exact heap_alloc_old _ _ (by omega))
  have HMD : Hid (MC w00 (w.heap.size + 1) m vs vp) := by
    unfold Hid
    rw [← hw00, ← hs0]; exact MC.made w0 m vs vp
  have HM0 : Hid (Mv w00 w00 g1 c1 g2 c2 m.segs.length m.prods.length l1 l2) :=
    ⟨⟨h.man.s.later HB00.out, h.man.p.later HB00.out, h.man.ne⟩, h.len1, h.len2, h.ok1, h.ok2, h.mk1, h.mk2, Chg.refl _ _⟩
  have HCB : Hid (∀ u X, Chg (fun k => k = g1 ∨ k = g2) w00 u → X < w.heap.size + 1 + 1 → w.heap.size ≤ X → u.heap[X]? = w00.heap[X]?) := fun u X hu h1 h2 => hu.block X (by omega) (by rintro (e | e) <;> omega)
  have HWB : Hid (∀ u, Chg (fun k => k = g1 ∨ k = g2) w00 u → Below W.heap.size W u) := fun u hu =>
    (hW.trans (HB00.out.mono hW.size)).trans (hu.below (by have := hW.size; omega) (fun k hk => by rcases hk with e | e <;> (subst e; assumption)))
  have HIS : Hid (∀ u j, Chg (fun k => k = g1 ∨ k = g2) w00 u → j < m.segs.length → ∃ b o, (∃ c, vs = .slice (some ⟨b, o, none⟩) m.segs.length c) ∧ u.cell? ⟨b, o + j, none⟩ = some (.int .i64 (m.segs.getD j 0)) ∧ I64 (m.segs.getD j 0)) := fun u j hu hj => by
    obtain ⟨a, c, e, _, _, hok, hc⟩ := h1.later (HWB.out u hu)
    obtain ⟨b, o, e2, hc⟩ := hc (by intro e; rw [e] at hj; simp at hj)
    exact ⟨b, o, ⟨c, by rw [e, e2]⟩, hc j hj, hok _ (by simp [hj])⟩
  have HPS : Hid (∀ u j, Chg (fun k => k = g1 ∨ k = g2) w00 u → j < m.prods.length → ∃ b o, (∃ c, vp = .slice (some ⟨b, o, none⟩) m.prods.length c) ∧ Pr.CellsAt u b (o + j * 3) (m.prods.getD j Pr.zero) ∧ (m.prods.getD j Pr.zero).Ok) := fun u j hu hj => by
    obtain ⟨a, c, e, _, hok, hc⟩ := h2.later (HWB.out u hu)
    obtain ⟨b, o, e2, hc⟩ := hc (by intro e; rw [e] at hj; simp at hj)
    exact ⟨b, o, ⟨c, by rw [e, e2]⟩, hc j hj, hok _ (by simp [hj])⟩
  have hn1 : m.segs.length ≤ 17592186044416 := by obtain ⟨_, _, _, _, h, _⟩ := h1; exact h
  have hn2 : m.prods.length ≤ 8796093022000 := by obtain ⟨_, _, _, h, _⟩ := h2; exact h
  obtain ⟨a1, k1, rfl⟩ : ∃ a c, vs = .slice a m.segs.length c := by obtain ⟨a, c, e, _⟩ := h1; exact ⟨a, c, e⟩
  obtain ⟨a2, k2, rfl⟩ : ∃ a c, vp = .slice a m.prods.length c := by obtain ⟨a, c, e, _⟩ := h2; exact ⟨a, c, e⟩
  clear HMC0 h h1 h2
  obtain ⟨m0, m1, m2, m3, m4, m5, m6, -⟩ := HMC.out
  obtain ⟨y0, y1, y2, y3, y4, y5, y6, -⟩ := HMD.out
  obtain ⟨mi, mn, mx, mk, mc, sg, pd⟩ := m
  simp only at HMC HMD HM0 HIS HPS hn1 hn2 m0 m1 m2 m3 m4 m5 m6 y0 y1 y2 y3 y4 y5 y6 hw0 hw00 ⊢
  unfold Mf.agg
  simp only
  go_enter Try.func9, Try.ntmps9
  go_wp2
  go_loopw [4] (fun i wr => ∃ (k : Nat) (l : List Int), k ≤ sg.length ∧ i = .int .i64 k ∧ Hid (∀ j, j < k → l.getD j 0 = sg.getD j 0) ∧ Hid (Mv w00 wr g1 c1 g2 c2 sg.length pd.length l l2)) (fun i _ => sg.length - (intOf i).toNat)
  case atStart => exact ⟨0, l1, Nat.zero_le _, rfl, fun j hj => absurd hj (Nat.not_lt_zero _), HM0.out⟩
  case round =>
    obtain ⟨k, l, hk, rfl, HEQ, HV⟩ := hrel
    clear m0 m1 m2 m3 m4 m5 m6 y0 y1 y2 y3 y4 y5 y6
    obtain ⟨m0, m1, m2, m3, m4, m5, m6, -⟩ := HMC.out.block (HCB.out wr _ HV.out.chg (by omega) (Nat.le_refl _))
    obtain ⟨y0, y1, y2, y3, y4, y5, y6, -⟩ := HMD.out.block (HCB.out wr _ HV.out.chg (by omega) (by omega))
    simp only at m0 m1 m2 m3 m4 m5 m6 y0 y1 y2 y3 y4 y5 y6
    by_cases hlt : k < sg.length
    · obtain ⟨e1, e2⟩ := HV.out.man.s.cellI (j := k) (by rw [HV.out.len1]; omega)
      obtain ⟨b, o, ⟨c, hcc⟩, e3, e4⟩ := HIS.out wr k HV.out.chg hlt
      injection hcc with hc1 hc2 hc3
      subst hc1 hc3
      have HNX : Hid (Mv w00 (wr.setCell ⟨g1, k, none⟩ (.int .i64 (sg.getD k 0))).drew g1 c1 g2 c2 sg.length pd.length (l.set k (sg.getD k 0)) l2 ∧ ∀ j, j < k + 1 → (l.set k (sg.getD k 0)).getD j 0 = sg.getD j 0) := by
        refine ⟨(HV.out.seg hlt e4).drew, fun j hj => ?_⟩
        by_cases hjk : j = k
        · subst hjk
          rw [List.getD_eq_getElem?_getD, List.getElem?_set_self (by rw [HV.out.len1]; omega)]; rfl
        · rw [List.getD_eq_getElem?_getD, List.getElem?_set_ne (Ne.symm hjk), ← List.getD_eq_getElem?_getD]
          exact HEQ.out j (by omega)
      generalize sg.getD k 0 = z at e3 HNX
      generalize l.getD k 0 = z' at e1
      have hki : (k : Int) < (sg.length : Int) := by omega
      clear e4
      go_wp2
      go_region
      all_goals go_wp2
      exact ⟨⟨k + 1, _, by omega, by go_num, HNX.out.2, HNX.out.1⟩, by simp [intOf]; omega⟩
    · have hki : ¬ (k : Int) < (sg.length : Int) := by omega
      obtain rfl : k = sg.length := by omega
      have HL1 : Hid (l = sg ++ [-77]) := by
        have h := HV.out
        refine List.ext_getElem (by simp [h.len1]) fun j hj1 hj2 => ?_
        have e1 : l[j] = l.getD j 0 := by simp [hj1]
        rw [e1]
        by_cases hjs : j < sg.length
        · rw [HEQ.out j hjs, List.getElem_append_left hjs]; simp [hjs]
        · obtain rfl : j = sg.length := by rw [h.len1] at hj1; omega
          rw [h.mk1]; simp
      have HV' : Hid (Mv w00 wr g1 c1 g2 c2 sg.length pd.length (sg ++ [-77]) l2) := by rw [← HL1.out]; exact HV.out
      clear HV HEQ HL1
      go_wp2
      clear m0 m1 m2 m3 m4 m5 m6 y0 y1 y2 y3 y4 y5 y6
      go_loopw [5] (fun i wr => ∃ (q : Nat) (l' : List Pr), q ≤ pd.length ∧ i = .int .i64 q ∧ Hid (∀ j, j < q → l'.getD j Pr.zero = pd.getD j Pr.zero) ∧ Hid (Mv w00 wr g1 c1 g2 c2 sg.length pd.length (sg ++ [-77]) l')) (fun i _ => pd.length - (intOf i).toNat)
      case atStart => exact ⟨0, l2, Nat.zero_le _, rfl, fun j hj => absurd hj (Nat.not_lt_zero _), HV'.out⟩
      case round =>
        clear HV'
        obtain ⟨q, l', hq, rfl, HEQ, HV⟩ := hrel
        obtain ⟨m0, m1, m2, m3, m4, m5, m6, -⟩ := HMC.out.block (HCB.out wr _ HV.out.chg (by omega) (Nat.le_refl _))
        obtain ⟨y0, y1, y2, y3, y4, y5, y6, -⟩ := HMD.out.block (HCB.out wr _ HV.out.chg (by omega) (by omega))
        simp only at m0 m1 m2 m3 m4 m5 m6 y0 y1 y2 y3 y4 y5 y6
        by_cases hlt2 : q < pd.length
        · obtain ⟨d0, d1, d2⟩ := HV.out.man.p.at (j := q) (by rw [HV.out.len2]; omega)
          have f0 := HV.out.man.p.fz (j := q * 3) (by rw [HV.out.len2]; omega)
          have f1 := HV.out.man.p.fz (j := q * 3 + 1) (by rw [HV.out.len2]; omega)
          have f2 := HV.out.man.p.fz (j := q * 3 + 2) (by rw [HV.out.len2]; omega)
          obtain ⟨b, o, ⟨c, hcc⟩, ⟨e0, e1, e2⟩, e4⟩ := HPS.out wr q HV.out.chg hlt2
          injection hcc with hc1 hc2 hc3
          subst hc1 hc3
          have HNX : Hid (Mv w00 (((wr.setCell ⟨g2, q * 3, none⟩ (.int .i64 (pd.getD q Pr.zero).pid)).setCell ⟨g2, q * 3 + 1, none⟩ (.int .i64 (pd.getD q Pr.zero).seq)).setCell ⟨g2, q * 3 + 2, none⟩ (.int .i64 (pd.getD q Pr.zero).off)).drew g1 c1 g2 c2 sg.length pd.length (sg ++ [-77]) (l'.set q (pd.getD q Pr.zero)) ∧ ∀ j, j < q + 1 → (l'.set q (pd.getD q Pr.zero)).getD j Pr.zero = pd.getD j Pr.zero) := by
            refine ⟨(HV.out.prod hlt2 e4).drew, fun j hj => ?_⟩
            by_cases hjk : j = q
            · subst hjk
              rw [List.getD_eq_getElem?_getD, List.getElem?_set_self (by rw [HV.out.len2]; omega)]; rfl
            · rw [List.getD_eq_getElem?_getD, List.getElem?_set_ne (Ne.symm hjk), ← List.getD_eq_getElem?_getD]
              exact HEQ.out j (by omega)
          generalize hS : l'.set q (pd.getD q Pr.zero) = lS at HNX
          generalize (pd.getD q Pr.zero).pid = x1 at e0 HNX
          generalize (pd.getD q Pr.zero).seq = x2 at e1 HNX
          generalize (pd.getD q Pr.zero).off = x3 at e2 HNX
          generalize (l'.getD q Pr.zero).pid = u1 at d0
          generalize (l'.getD q Pr.zero).seq = u2 at d1
          generalize (l'.getD q Pr.zero).off = u3 at d2
          have hqi : (q : Int) < (pd.length : Int) := by omega
          clear e4 hS
          go_wp2
          go_region
          all_goals go_wp2
          exact ⟨⟨q + 1, lS, by omega, by go_num, HNX.out.2, HNX.out.1⟩, by simp [intOf]; omega⟩
        · have hqi : ¬ (q : Int) < (pd.length : Int) := by omega
          obtain rfl : q = pd.length := by omega
          have HFIN : Hid (Mv w wr g1 c1 g2 c2 sg.length pd.length (sg ++ [-77]) (pd ++ [markP])) := by
            have h := HV.out
            have hl : l' = pd ++ [markP] := by
              refine List.ext_getElem (by simp [h.len2]) fun j hj1 hj2 => ?_
              have e1 : l'[j] = l'.getD j Pr.zero := by simp [hj1]
              rw [e1]
              by_cases hjs : j < pd.length
              · rw [HEQ.out j hjs, List.getElem_append_left hjs]; simp [hjs]
              · obtain rfl : j = pd.length := by rw [h.len2] at hj1; omega
                rw [h.mk2]; simp
            rw [← hl]
            exact ⟨h.man, h.len1, h.len2, h.ok1, h.ok2, h.mk1, h.mk2, (Chg.ofBelow HB00.out).trans h.chg⟩
          clear HV HEQ
          go_wp2
          go_end0
          exact ⟨rfl, HFIN.out⟩
end Go.Proofs.Ytpeejgnkdoeijaa
