import Derived.Test.YtlbofjeopbadhaaDoorJdE
/-! dedupe: the law of scripts: its walk. -/
namespace Go.Proofs.YtlbofjeopbadhaaDoor
open Go.RowKit Go.Maps Plain
set_option linter.unusedVariables false
set_option linter.unusedSimpArgs false

theorem RoomAt.own {w : World} {g n cap : Nat} {ps : List Pr} (h : RoomAt w g n cap ps) : OwnPr w (.slice (some ⟨g, 0, none⟩) ps.length cap) ps (some g) := by
  rcases h.2 with ⟨h0, _, _⟩ | ⟨g', cap', e, e2, hg, h1, h2, h3, h4, h5⟩
  · simp at h0
  · cases e
    simp at e2
    subst e2
    simp only [List.length_append, List.length_cons, List.length_nil] at h1 h5
    refine .inr ⟨g, cap, rfl, rfl, hg, by omega, h2, h3, h4, fun j hj => ?_⟩
    rw [h5 j (by omega), qcells_app, List.getElem?_append_left (by rw [qcells_len]; omega)]
set_option maxHeartbeats 8000000 in
set_option maxRecDepth 100000 in
theorem scriptsWalk (a0 : Option Addr) (cap0 : Nat) (ps : List Pr) (a1 : Option Addr) (cap1 : Nat) (ss : List St) (W : World) (hps : PrsAt W (.slice a0 ps.length cap0) ps) (hss : StsAt W (.slice a1 ss.length cap1) ss) (hF : Refs W) :
    Calls Tryd.prog 6 #[.slice a0 ps.length cap0, .slice a1 ss.length cap1] W fun e w' => e = .returned (.bool true) ∧ Below W.heap.size W w' := by
  have HPS : Hid (∀ u, Below W.heap.size W u → PrsAt u (.slice a0 ps.length cap0) ps) := fun u hu => hps.later hu
  have hpl : ps.length ≤ 8796093022000 := by obtain ⟨_, _, _, h, _⟩ := hps; exact h
  have hsl : ss.length ≤ 4398046511000 := by obtain ⟨_, _, _, h, _⟩ := hss; exact h
  have HPO : Hid (∀ x ∈ ps, x.Ok) := by obtain ⟨_, _, _, _, h, _⟩ := hps; exact h
  have HRF : Hid (Refs W) := hF
  have HS : Hid (∀ u m, Below W.heap.size W u → m < ss.length → ∃ b off, a1 = some ⟨b, off, none⟩ ∧ St.CellsAt u b (off + m * 4) (ss.getD m St.zero) ∧ (ss.getD m St.zero).Ok) := fun u m hu hm => by
    obtain ⟨a, c, e, _, hok, hc⟩ := hss
    obtain ⟨b, off, e2, hc⟩ := hc (by intro e; rw [e] at hm; simp at hm)
    simp at e
    exact ⟨b, off, by rw [e.1, e2], (hc m hm).block (hu.block _ (hc m hm).lt), hok _ (by simp [hm])⟩
  have HRM : Hid (Calls Tryd.prog 17 #[.slice a0 ps.length cap0] W fun e w' => ∃ g cap, e = .returned (.slice (some ⟨g, 0, none⟩) ps.length cap) ∧ RoomAt w' g ps.length cap ps ∧ W.heap.size ≤ g ∧ Below W.heap.size W w') := roomyOf _ ps W hps
  clear hps hss hF
  by_cases hT : TabL ps
  · have HT : Hid (TabL ps) := hT
    go_enter Tryd.func6, Tryd.ntmps6
    go_wp2_with fail
    refine HRM.out.mono ?_
    rintro e w1 ⟨gi, ci, rfl, hro, hgi, hb1⟩
    have HRO : Hid (RoomAt w1 gi ps.length ci ps ∧ W.heap.size ≤ gi) := ⟨hro, hgi⟩
    have HB1 : Hid (Below W.heap.size W w1) := hb1
    clear hro hgi hb1 HRM
    go_wp2_with fail
    refine (newOf (.slice (some ⟨gi, 0, none⟩) ps.length ci) ps w1 (HRO.out.1.reads hpl HPO.out) HT.out).mono ?_
    rintro e w2 ⟨t, m, rfl, hn2⟩
    have HN2 : Hid (NewAt w1 w2 t m ps) := hn2
    have HB2 : Hid (Below W.heap.size W w2) := below_step HB1.out hn2.below
    clear hn2
    go_wp2_with fail
    refine (rnewOf (.slice a0 ps.length cap0) ps w2 (HPS.out w2 HB2.out) HT.out).mono ?_
    rintro e w3 ⟨t2, v, r, rfl, hn3⟩
    have HTW : Hid (Two w1 w3 t m t2 v r ps ps) := Two.clones HN2.out hn3
    have HB3 : Hid (Below w1.heap.size w1 w3) := HTW.out.below
    have HR3 : Hid (RoomAt w3 gi ps.length ci ps) := HRO.out.1.later HTW.out.below
    clear hn3 HN2 HB2
    go_wp2_with fail
    refine (keptOf gi ci (.slice a0 ps.length cap0) ps w3 HR3.out (HPS.out w3 (below_step HB1.out HB3.out))).mono ?_
    rintro e w4 ⟨rfl, hb4⟩
    have HR4 : Hid (RoomAt w4 gi ps.length ci ps) := HR3.out.later hb4
    have HT4 : Hid (Two w1 w4 t m t2 v r ps ps) := HTW.out.later hb4
    clear hb4 HTW HR3 HB3
    go_wp2_with fail
    refine (spoilOf (.slice (some ⟨gi, 0, none⟩) ps.length ci) ps (some gi) w4 HR4.out.own HT.out.len).mono ?_
    rintro e w5 ⟨rfl, hc5⟩
    have HT5 : Hid (Two W w5 t m t2 v r ps ps) := by
      have hg := HRO.out.1.lt
      have h := HT4.out
      have hs1 := HB1.out.size
      have hbl : ∀ k, w1.heap.size ≤ k → k < w4.heap.size → w5.heap[k]? = w4.heap[k]? := fun k h1 h2 => hc5.block k h2 (fun e => by injection e with e; omega)
      have hbw : Below W.heap.size W w4 := HB1.out.trans (h.below.mono hs1)
      refine ⟨h.ta.of_block (hbl t h.g1 h.ta.lt) (fun b e => hbl b (h.n1 b e) (h.ta.mlt b e)), h.tb.of_block (hbl t2 h.g2 h.tb.lt) (fun g e => hbl g (h.n2 g e) (h.tb.rlt g e)) hc5.size, h.ne, h.rt, h.mt, h.mr, Nat.le_trans hs1 h.g1, Nat.le_trans hs1 h.g2, fun b e => Nat.le_trans hs1 (h.n1 b e), fun b e => Nat.le_trans hs1 (h.n2 b e), hbw.trans (hc5.below hbw.size (fun k e => by injection e with e; rw [← e]; exact HRO.out.2))⟩
    clear hc5 HT4 HR4 HRO HB1
    go_wp2
    go_loopw [6, 8, 11] (fun s6 s8 i wr => ∃ (k t : Nat) (m : Option Nat) (t2 : Nat) (v : Value) (r : Option Nat) (L : List Pr), k ≤ ss.length ∧ s6 = .pointer (some ⟨t, 0, none⟩) ∧ s8 = .pointer (some ⟨t2, 0, none⟩) ∧ i = .int .i64 k ∧ Hid (Two W wr t m t2 v r L L))
      (fun _ _ i _ => ss.length - (intOf i).toNat)
    case atStart => exact ⟨0, t, m, t2, v, r, ps, Nat.zero_le _, rfl, rfl, rfl, HT5.out⟩
    case round =>
      clear HT5
      obtain ⟨k, t, m, t2, v, r, L, hk, rfl, rfl, rfl, HTW⟩ := hrel
      by_cases hlt : k < ss.length
      · obtain ⟨b, off, rfl, hc, hok⟩ := HS.out wr k HTW.out.below hlt
        have HSC : Hid (∀ u, Below W.heap.size W u → St.CellsAt u b (off + k * 4) (ss.getD k St.zero)) := fun u hu => by
          obtain ⟨b', o', e, hc, _⟩ := HS.out u k hu hlt
          simp at e
          obtain ⟨rfl, rfl⟩ := e
          exact hc
        have HOK : Hid ((ss.getD k St.zero).Ok) := hok
        generalize ss.getD k St.zero = s at hc HSC HOK
        have HST : Hid (∀ u t m t2 v r L, Two W u t m t2 v r L L → Calls Tryd.prog 22 #[.pointer (some ⟨t, 0, none⟩), .pointer (some ⟨t2, 0, none⟩), .agg #[.int .i64 s.kind, .int .i64 s.pid, .int .i64 s.seq, .int .i64 s.off]] u fun e w' => e = .returned (.bool true) ∧ ∃ m' v' r' L', Two W w' t m' t2 v' r' L' L') := fun u t m t2 v r L h => stepOf h HRF.out s HOK.out
        obtain ⟨sk, sp, sq, so⟩ := s
        obtain ⟨c0, c1, c2, c3⟩ := hc
        simp only at c0 c1 c2 c3 HST
        have hki : (k : Int) < (ss.length : Int) := by omega
        clear hok HOK
        by_cases k5 : sk = 5
        · subst k5
          go_wp2_with fail
          refine (cloneOf t m L wr HTW.out.ta).mono ?_
          rintro e u1 ⟨c, mc, rfl, hn1⟩
          have HN1 : Hid (NewAt wr u1 c mc L) := hn1
          clear hn1
          go_wp2_with fail
          refine (rcloneOf t2 v L r u1 (HTW.out.tb.later HN1.out.below)).mono ?_
          rintro e u2 ⟨q, vq, rq, rfl, hn2⟩
          have HTN : Hid (Two W u2 c mc q vq rq L L) := by
            have h := Two.clones HN1.out hn2
            have hs := HTW.out.below.size
            exact ⟨h.ta, h.tb, h.ne, h.rt, h.mt, h.mr, Nat.le_trans hs h.g1, Nat.le_trans hs h.g2, fun b e => Nat.le_trans hs (h.n1 b e), fun b e => Nat.le_trans hs (h.n2 b e), below_step HTW.out.below h.below⟩
          obtain ⟨d0, d1, d2, d3⟩ := HSC.out u2 HTN.out.below
          simp only at d0 d1 d2 d3
          clear hn2 HN1 HTW
          go_wp2_with fail
          refine (HST.out u2 c mc q vq rq L HTN.out).mono ?_
          rintro e u3 ⟨rfl, m3, v3, r3, L3, h3⟩
          have HT3 : Hid (Two W u3 c m3 q v3 r3 L3 L3) := h3
          clear h3 HTN
          go_wp2_with fail
          refine (listOf c m3 L3 u3 HT3.out.ta).mono ?_
          rintro e u4 ⟨z4, r4, rfl, hl4⟩
          have HL4 : Hid (ListAt u3 u4 z4 L3 r4) := hl4
          have HT4 : Hid (Two W u4 c m3 q v3 r3 L3 L3) := HT3.out.later hl4.below
          clear hl4 HT3
          go_wp2_with fail
          refine (rlistOf q v3 L3 r3 u4 HT4.out.tb).mono ?_
          rintro e u5 ⟨z5, r5, rfl, hl5⟩
          have HT5 : Hid (Two W u5 c m3 q v3 r3 L3 L3) := HT4.out.later hl5.below
          have HP5 : Hid (PrsAt u5 z4 L3 ∧ PrsAt u5 z5 L3) := ⟨(HL4.out.row.later hl5.below).reads HT4.out.ta.tab, hl5.row.reads HT4.out.ta.tab⟩
          clear hl5 HT4 HL4
          go_wp2_with fail
          refine (sameB z4 z5 L3 u5 HP5.out.1 HP5.out.2).mono ?_
          rintro e u6 ⟨rfl, hb6⟩
          have HT6 : Hid (Two W u6 c m3 q v3 r3 L3 L3) := HT5.out.later hb6
          clear hb6 HT5 HP5
          go_wp2
          go_roundw
          case rel => exact ⟨k + 1, c, m3, q, v3, r3, L3, by omega, rfl, rfl, by go_num, HT6.out⟩
          case measure => simp [intOf]; omega
        · have e5 : (sk == 5) = false := by simpa using k5
          go_wp2_with fail
          refine (HST.out wr t m t2 v r L HTW.out).mono ?_
          rintro e u3 ⟨rfl, m3, v3, r3, L3, h3⟩
          have HT3 : Hid (Two W u3 t m3 t2 v3 r3 L3 L3) := h3
          clear h3 HTW
          go_wp2_with fail
          refine (listOf t m3 L3 u3 HT3.out.ta).mono ?_
          rintro e u4 ⟨z4, r4, rfl, hl4⟩
          have HL4 : Hid (ListAt u3 u4 z4 L3 r4) := hl4
          have HT4 : Hid (Two W u4 t m3 t2 v3 r3 L3 L3) := HT3.out.later hl4.below
          clear hl4 HT3
          go_wp2_with fail
          refine (rlistOf t2 v3 L3 r3 u4 HT4.out.tb).mono ?_
          rintro e u5 ⟨z5, r5, rfl, hl5⟩
          have HT5 : Hid (Two W u5 t m3 t2 v3 r3 L3 L3) := HT4.out.later hl5.below
          have HP5 : Hid (PrsAt u5 z4 L3 ∧ PrsAt u5 z5 L3) := ⟨(HL4.out.row.later hl5.below).reads HT4.out.ta.tab, hl5.row.reads HT4.out.ta.tab⟩
          clear hl5 HT4 HL4
          go_wp2_with fail
          refine (sameB z4 z5 L3 u5 HP5.out.1 HP5.out.2).mono ?_
          rintro e u6 ⟨rfl, hb6⟩
          have HT6 : Hid (Two W u6 t m3 t2 v3 r3 L3 L3) := HT5.out.later hb6
          clear hb6 HT5 HP5
          go_wp2
          go_roundw
          case rel => exact ⟨k + 1, t, m3, t2, v3, r3, L3, by omega, rfl, rfl, by go_num, HT6.out⟩
          case measure => simp [intOf]; omega
      · have hki : ¬ (k : Int) < (ss.length : Int) := by omega
        have HBE : Hid (Below W.heap.size W wr) := HTW.out.below
        clear HS HTW
        go_wp2
        go_ret
        exact ⟨rfl, HBE.out⟩
  · go_enter Tryd.func6, Tryd.ntmps6
    go_wp2_with fail
    refine HRM.out.mono ?_
    rintro e w1 ⟨gi, ci, rfl, hro, hgi, hb1⟩
    have HRO : Hid (RoomAt w1 gi ps.length ci ps) := hro
    have HB1 : Hid (Below W.heap.size W w1) := hb1
    clear hro hgi hb1 HRM
    go_wp2_with fail
    refine (newBad (.slice (some ⟨gi, 0, none⟩) ps.length ci) ps w1 (HRO.out.reads hpl HPO.out) hT).mono ?_
    rintro e w2 ⟨rfl, hb2⟩
    have HB2 : Hid (Below W.heap.size W w2) := below_step HB1.out hb2
    have HR2 : Hid (RoomAt w2 gi ps.length ci ps) := HRO.out.later hb2
    clear hb2 HRO
    go_wp2_with fail
    refine (rnewBad (.slice a0 ps.length cap0) ps w2 (HPS.out w2 HB2.out) hT).mono ?_
    rintro e w3 ⟨rfl, hb3⟩
    have HB3 : Hid (Below W.heap.size W w3) := below_step HB2.out hb3
    have HR3 : Hid (RoomAt w3 gi ps.length ci ps) := HR2.out.later hb3
    clear hb3 HR2
    go_wp2_with fail
    refine (keptOf gi ci (.slice a0 ps.length cap0) ps w3 HR3.out (HPS.out w3 HB3.out)).mono ?_
    rintro e w4 ⟨rfl, hb4⟩
    have HB4 : Hid (Below W.heap.size W w4) := below_step HB3.out hb4
    clear hb4
    go_wp2
    go_ret
    exact ⟨rfl, HB4.out⟩
end Go.Proofs.YtlbofjeopbadhaaDoor
