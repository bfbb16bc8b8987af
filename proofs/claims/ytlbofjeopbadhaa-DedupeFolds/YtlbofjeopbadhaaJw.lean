import Derived.Test.YtlbofjeopbadhaaJv
import Derived.Test.YtlbofjeopbadhaaJk
import Derived.Test.YtlbofjeopbadhaaCk3
/-! dedupe: the document's Fold. -/
namespace Go.Proofs.Ytlbofjeopbadhaa
open Go.RowKit Go.Maps Plain
set_option linter.unusedVariables false
set_option linter.unusedSimpArgs false

/-- An empty slice of producers. -/
theorem OwnPr.made0 (w : World) : OwnPr (w.alloc (.cells #[] 39)) (.slice (some ⟨w.heap.size, 0, none⟩) 0 0) [] (some w.heap.size) :=
  .inr ⟨w.heap.size, 0, rfl, rfl, by simp, by simp, by simp [maxLen], by simp, by simp, by simp⟩
set_option maxHeartbeats 8000000 in
set_option maxRecDepth 100000 in
theorem rfoldOf (v : Value) (ps : List Pr) (u : Value) (rs : List Rc) (w : World) (h : PrsAt w v ps) (hr : RecsAt w u rs) : Calls Try.prog 10 #[v, u] w fun e w' => ∃ z r, e = .returned (.tuple #[z, .int .i64 (fE ps rs)]) ∧ FoldAt w w' z ps rs r := by
  have HRR : Hid (Calls Try.prog 17 #[v] w fun e w' => e = .returned (.bool (okL ps)) ∧ Below w.heap.size w w') := rrightOf v ps w h
  have HPO : Hid (∀ x ∈ ps, x.Ok) := by obtain ⟨_, _, _, _, h, _⟩ := h; exact h
  have HSRC : Hid (∀ u, Below w.heap.size w u → Src Try.prog 3 22 v ps.length (qcells ps) u) := fun u hu => src_qs (h.later hu)
  have hpl : ps.length ≤ 8796093022000 := by obtain ⟨_, _, _, h, _⟩ := h; exact h
  obtain ⟨a0, cap0, rfl⟩ : ∃ a c, v = .slice a ps.length c := by obtain ⟨x, y, e, _⟩ := h; exact ⟨x, y, e⟩
  obtain ⟨a, cap, rfl, hcl, hok, hcells⟩ := hr
  have HOK : Hid (∀ m, m < rs.length → (rs.getD m Rc.none).Ok) := fun m hm => hok _ (by simp [hm])
  have HC : Hid (∀ u m, Below w.heap.size w u → m < rs.length → ∃ b off, a = some ⟨b, off, none⟩ ∧ CellsAt u b (off + m * 7) (rs.getD m Rc.none)) := fun u m hu hm => by
    obtain ⟨b, off, e, hc⟩ := hcells (by intro e; rw [e] at hm; simp at hm)
    exact ⟨b, off, e, (hc m hm).block (hu.block _ (hc m hm).lt)⟩
  clear hcells hok h
  by_cases hT : TabL ps
  · rw [(okL_iff ps).mpr hT] at HRR
    have HFE : Hid (fE ps rs = foldE ps rs) := fE_tab hT
    have HFL : Hid (foldE ps rs = 0 → fL ps rs = foldL ps rs) := fun h0 => by unfold fL; rw [if_pos ⟨(okL_iff ps).mpr hT, h0⟩]
    have HFB : Hid (foldE ps rs ≠ 0 → fL ps rs = []) := fun h0 => fL_bad (by rw [fE_tab hT]; exact h0)
    have HT : Hid (TabL ps) := hT
    go_enter Try.func10, Try.ntmps10
    go_wp2_with fail
    refine HRR.out.mono ?_
    rintro e w1 ⟨rfl, hb1⟩
    have HB1 : Hid (Below w.heap.size w w1) := hb1
    clear hb1
    go_wp2_with (at_builtin; refine wpList_append_q _ rfl _ _ rfl _ _ [] ps (some w1.heap.size) rfl rfl ?hOwn ?hSrc ?hLen ?hR ?_)
    case hOwn => exact OwnPr.made0 w1
    case hSrc => exact HSRC.out _ (below_step HB1.out (bel_al _ _))
    case hLen => simp; omega
    case hR => exact .inl (by simp)
    intro v2 w2 g2 ho2 hg2 hr2
    have HL2 : Hid (LaidAt w w2 v2 ps (some g2)) := by
      have hb : Below w.heap.size w w2 := (below_step HB1.out (bel_al _ _)).trans (grow_below hg2 (by have := HB1.out.size; simp; omega) (fun g e => by cases e; exact HB1.out.size))
      refine ⟨by simpa using ho2, fun g e => ?_, hb⟩
      cases e
      rcases hr2 with h | h
      · cases h; exact HB1.out.size
      · rw [h]; have := HB1.out.size; simp; omega
    obtain ⟨x2, c2, rfl, -, -⟩ := ho2.shape
    clear ho2 hg2 hr2
    go_wp2
    go_loopw [7, 8] (fun s7 i wr => ∃ (k : Nat) (L : List Pr) (x : Option Addr) (c : Nat) (r : Option Nat), k ≤ rs.length ∧ i = .int .i64 k ∧ s7 = .slice x L.length c ∧ Hid (L = foldL ps (rs.take k)) ∧ Hid (foldE ps (rs.take k) = 0) ∧ Hid (TabL L) ∧ Hid (LaidAt w wr (.slice x L.length c) L r))
      (fun _ i _ => rs.length - (intOf i).toNat)
    case atStart => exact ⟨0, ps, x2, c2, some g2, Nat.zero_le _, rfl, rfl, rfl, rfl, HT.out, HL2.out⟩
    case round =>
      obtain ⟨k, L, x, c, r, hk, rfl, rfl, HLE, HE, HTL, HA⟩ := hrel
      have hL64 := HTL.out.len
      by_cases hlt : k < rs.length
      · obtain ⟨b, off, rfl, hc⟩ := HC.out wr k HA.out.below hlt
        have hs := foldE_snoc (ps := ps) hlt HE.out
        have hxo := HOK.out k hlt
        rw [← HLE.out] at hs
        generalize rs.getD k Rc.none = y at hc hs hxo
        have HPRE : Hid (foldE ps (rs.take (k + 1)) ≠ 0 → foldE ps rs = foldE ps (rs.take (k + 1))) := foldE_pre
        have HS1 : Hid (foldE ps (rs.take (k + 1)) = passE L y) := hs.1
        have HS2 : Hid (foldL ps (rs.take (k + 1)) = passL L y) := hs.2
        have HPASS : Hid (passE L y = 0 → TabL (passL L y)) := fun h0 => HTL.out.pass h0
        have HCKR : Hid (chk y = 0 → (y.p = 0 ∧ y.q = 0) ∨ y.pr.Right) := fun h => chk_right h
        have HPE : Hid (passE L y = (if chk y ≠ 0 then chk y else if y.p = 0 then 0 else if lookP L y.p = none ∧ 64 ≤ L.length then 92 else 0)) := rfl
        have HPL : Hid (passL L y = if y.p = 0 then L else match lookP L y.p with
          | some p => if p.seq < y.q then layP L y.pr else L
          | none => layP L y.pr) := rfl
        have HCH : Hid (∀ u, Calls Try.prog 18 #[.agg #[.int .i64 y.k, .int .i64 y.o, .int .i64 y.t, .int .i64 y.p, .int .i64 y.q, .string y.key, .string y.val]] u fun e w' => e = .returned (.int .i64 (chk y)) ∧ Below u.heap.size u w') := fun u => refCheckAny y hxo u
        clear hs hxo
        generalize hpe : passE L y = PE at HS1 HPASS HPE
        generalize hpl : passL L y = PL at HS2 HPASS HPL
        generalize hck : chk y = C at HCKR HPE HCH
        obtain ⟨yk, yo, yt, yp, yq, ykey, yval⟩ := y
        clear hpe hpl hck
        obtain ⟨c0, c1, c2', c3, c4, c5, c6⟩ := hc
        simp only [Rc.pr] at c0 c1 c2' c3 c4 c5 c6 HCH HCKR HPE HPL
        have hki : (k : Int) < (rs.length : Int) := by omega
        obtain ⟨w3, hw3⟩ : ∃ w3, wr.alloc (.cells #[.int .i64 yk, .int .i64 yo, .int .i64 yt, .int .i64 yp, .int .i64 yq, .string ykey, .string yval] 32) = w3 := ⟨_, rfl⟩
        have hyc : CellsAt w3 wr.heap.size 0 ⟨yk, yo, yt, yp, yq, ykey, yval⟩ := by
          rw [← hw3]
          exact ⟨World.cell?_alloc_at _ _ _ _ rfl, World.cell?_alloc_at _ _ _ _ rfl, World.cell?_alloc_at _ _ _ _ rfl, World.cell?_alloc_at _ _ _ _ rfl, World.cell?_alloc_at _ _ _ _ rfl, World.cell?_alloc_at _ _ _ _ rfl, World.cell?_alloc_at _ _ _ _ rfl⟩
        have HYC : Hid (∀ u, Below w3.heap.size w3 u → CellsAt u wr.heap.size 0 ⟨yk, yo, yt, yp, yq, ykey, yval⟩) := fun u hu => hyc.block (hu.block _ hyc.lt)
        have HA3 : Hid (LaidAt w w3 (.slice x L.length c) L r) := by rw [← hw3]; exact HA.out.later (bel_al _ _)
        obtain ⟨m0, m1, m2, m3, m4, m5, m6⟩ := hyc
        simp only at m0 m1 m2 m3 m4 m5 m6
        go_wp2_with fail
        refine (HCH.out _).mono ?_
        rintro e w4 ⟨rfl, hb4⟩
        have HA4 : Hid (LaidAt w w4 (.slice x L.length c) L r) := HA3.out.later hb4
        have HB34 : Hid (Below w3.heap.size w3 w4) := hb4
        obtain ⟨n0, n1, n2, n3, n4, n5, n6⟩ := HYC.out w4 hb4
        simp only at n0 n1 n2 n3 n4 n5 n6
        clear hb4 m0 m1 m2 m3 m4 m5 m6 c0 c1 c2' c3 c4 c5 c6
        by_cases hC : C = 0
        · subst hC
          by_cases hp0 : yp = 0
          · subst hp0
            have HQ : Hid (PE = 0 ∧ PL = L) := ⟨by rw [HPE.out]; simp, by rw [HPL.out]; simp⟩
            go_wp2
            go_roundw
            case rel => exact ⟨k + 1, L, x, c, r, by omega, by go_num, rfl, by rw [Hid, HS2.out, HQ.out.2], by rw [Hid, HS1.out, HQ.out.1], HTL.out, HA4.out⟩
            case measure => simp [intOf]; omega
          · have hp0' : (yp == 0) = false := by simpa using hp0
            have hR : Pr.Right ⟨yp, yq, yo⟩ := (HCKR.out rfl).resolve_left fun h => hp0 h.1
            have HPR : Hid (PrsAt w4 (.slice x L.length c) L) := HA4.out.row.reads HTL.out
            have HLD : Hid (∀ u, Below w4.heap.size w4 u → Calls Try.prog 20 #[.slice x L.length c, .agg #[.int .i64 yp, .int .i64 yq, .int .i64 yo]] u fun e w' => ∃ z r, e = .returned z ∧ LaidAt w w' z (layP L ⟨yp, yq, yo⟩) r) := fun u hu => by
              refine (rlaidOf _ L ⟨yp, yq, yo⟩ u (HPR.out.later hu) HTL.out.rise hL64).mono ?_
              rintro e w' ⟨z, r', rfl, h1, h2, h3⟩
              have hbw := (HA4.out.later hu).below
              exact ⟨z, r', rfl, h1, fun g e => by have := h2 g e; have := hbw.size; omega, below_step hbw h3⟩
            have HROUND : Hid (PE = 0 → PL = layP L ⟨yp, yq, yo⟩ → foldL ps (rs.take (k + 1)) = layP L ⟨yp, yq, yo⟩ ∧ foldE ps (rs.take (k + 1)) = 0 ∧ TabL (layP L ⟨yp, yq, yo⟩)) := fun h1 h2 => ⟨by rw [HS2.out, h2], by rw [HS1.out, h1], by rw [← h2]; exact HPASS.out h1⟩
            go_wp2_with fail
            refine (rfindOf _ L yp w4 HPR.out).mono ?_
            rintro e w5 ⟨z, rfl, hf, rfl⟩
            rcases hf with ⟨rfl, hno⟩ | ⟨j, rfl, hjl, hso⟩
            · by_cases h64 : 64 ≤ L.length
              · have HQ : Hid (PE = 92) := by rw [Hid, HPE.out, if_neg (by simp), if_neg hp0, if_pos ⟨hno, h64⟩]
                have HF : Hid (fE ps rs = 92 ∧ fL ps rs = []) := by
                  have e1 : foldE ps (rs.take (k + 1)) = 92 := by rw [HS1.out, HQ.out]
                  have e2 : foldE ps rs = 92 := by rw [HPRE.out (by rw [e1]; simp), e1]
                  exact ⟨HFE.out.trans e2, HFB.out (by rw [e2]; simp)⟩
                have h64i : (64 : Int) ≤ (L.length : Int) := by omega
                clear HPE HPL HLD HROUND
                go_wp2
                go_ret2
                exact ⟨.slice none 0 0, none, by rw [HF.out.1]; rfl, ⟨by rw [HF.out.2]; exact OwnPr.nil _, (fun g e => by cases e), HA4.out.below⟩⟩
              · have HQ : Hid (PE = 0 ∧ PL = layP L ⟨yp, yq, yo⟩) := ⟨by rw [HPE.out, if_neg (by simp), if_neg hp0, if_neg (fun h => h64 h.2)], by rw [HPL.out, if_neg hp0, hno]⟩
                have HRN : Hid (foldL ps (rs.take (k + 1)) = layP L ⟨yp, yq, yo⟩ ∧ foldE ps (rs.take (k + 1)) = 0 ∧ TabL (layP L ⟨yp, yq, yo⟩)) := HROUND.out HQ.out.1 HQ.out.2
                have h64i : ¬ (64 : Int) ≤ (L.length : Int) := by omega
                clear HPE HPL HROUND hno
                go_wp2
                go_quiet (fail)
                have HBQ : Hid (Below w5.heap.size w5 (w5.drewN nq)) := drewN_bel _ _
                obtain ⟨q0, q1, q2, q3, q4, q5, q6⟩ := HYC.out (w5.drewN nq) (below_step HB34.out HBQ.out)
                generalize w5.drewN nq = w6 at HBQ q0 q1 q2 q3 q4 q5 q6 ⊢
                simp only at q0 q1 q2 q3 q4 q5 q6
                go_wp2_with fail
                refine (HLD.out _ HBQ.out).mono ?_
                rintro e w7 ⟨z7, r7, rfl, hl7⟩
                have HL7 : Hid (LaidAt w w7 z7 (layP L ⟨yp, yq, yo⟩) r7) := hl7
                obtain ⟨x7, c7, rfl, -, -⟩ := hl7.row.shape
                clear hl7 HLD
                go_wp2
                go_roundw
                case rel => exact ⟨k + 1, layP L ⟨yp, yq, yo⟩, x7, c7, r7, by omega, by go_num, rfl, HRN.out.1.symm, HRN.out.2.1, HRN.out.2.2, HL7.out⟩
                case measure => simp [intOf]; omega
            · have HQ : Hid (PE = 0 ∧ PL = if (L.getD j Pr.zero).seq < yq then layP L ⟨yp, yq, yo⟩ else L) := ⟨by rw [HPE.out, if_neg (by simp), if_neg hp0, if_neg (by rw [hso]; simp)], by rw [HPL.out, if_neg hp0, hso]⟩
              obtain ⟨bj, oj, rfl, hcj⟩ : ∃ b o, x = some ⟨b, o, none⟩ ∧ Pr.CellsAt w5 b (o + j * 3) (L.getD j Pr.zero) := by
                obtain ⟨a', c', e, _, _, hc⟩ := HPR.out
                obtain ⟨b', o', e2, hc⟩ := hc (by intro e; rw [e] at hjl; simp at hjl)
                simp at e
                exact ⟨b', o', by rw [e.1, e2], hc j hjl⟩
              generalize L.getD j Pr.zero = lj at HQ hcj hso
              obtain ⟨jp, js, jo⟩ := lj
              obtain ⟨d0, d1, d2⟩ := hcj
              simp only at d0 d1 d2 HQ
              have hji : (j : Int) < (L.length : Int) := by omega
              have hj0 : ¬ (j : Int) < 0 := by omega
              clear HPE HPL hso
              by_cases hsq : js < yq
              · have HRN : Hid (foldL ps (rs.take (k + 1)) = layP L ⟨yp, yq, yo⟩ ∧ foldE ps (rs.take (k + 1)) = 0 ∧ TabL (layP L ⟨yp, yq, yo⟩)) := HROUND.out HQ.out.1 (by rw [HQ.out.2, if_pos hsq])
                clear HROUND
                go_wp2
                go_quiet (fail)
                have HBQ : Hid (Below w5.heap.size w5 (w5.drewN nq)) := drewN_bel _ _
                obtain ⟨q0, q1, q2, q3, q4, q5, q6⟩ := HYC.out (w5.drewN nq) (below_step HB34.out HBQ.out)
                generalize w5.drewN nq = w6 at HBQ q0 q1 q2 q3 q4 q5 q6 ⊢
                simp only at q0 q1 q2 q3 q4 q5 q6
                go_wp2_with fail
                refine (HLD.out _ HBQ.out).mono ?_
                rintro e w7 ⟨z7, r7, rfl, hl7⟩
                have HL7 : Hid (LaidAt w w7 z7 (layP L ⟨yp, yq, yo⟩) r7) := hl7
                obtain ⟨x7, c7, rfl, -, -⟩ := hl7.row.shape
                clear hl7 HLD
                go_wp2
                go_roundw
                case rel => exact ⟨k + 1, layP L ⟨yp, yq, yo⟩, x7, c7, r7, by omega, by go_num, rfl, HRN.out.1.symm, HRN.out.2.1, HRN.out.2.2, HL7.out⟩
                case measure => simp [intOf]; omega
              · have HRN : Hid (foldL ps (rs.take (k + 1)) = L ∧ foldE ps (rs.take (k + 1)) = 0) := ⟨by rw [HS2.out, HQ.out.2, if_neg hsq], by rw [HS1.out, HQ.out.1]⟩
                clear HROUND HLD
                go_wp2
                go_quiet (fail)
                have HAQ : Hid (LaidAt w (w5.drewN nq) (.slice (some ⟨bj, oj, none⟩) L.length c) L r) := HA4.out.later (drewN_bel _ _)
                generalize w5.drewN nq = w6 at HAQ ⊢
                go_wp2
                go_roundw
                case rel => exact ⟨k + 1, L, _, c, r, by omega, by go_num, rfl, HRN.out.1.symm, HRN.out.2, HTL.out, HAQ.out⟩
                case measure => simp [intOf]; omega
        · have hC' : (C == 0) = false := by simpa using hC
          have HQ : Hid (PE = C) := by rw [Hid, HPE.out, if_pos hC]
          have HF : Hid (fE ps rs = C ∧ fL ps rs = []) := by
            have e1 : foldE ps (rs.take (k + 1)) = C := by rw [HS1.out, HQ.out]
            have e2 : foldE ps rs = C := by rw [HPRE.out (by rw [e1]; exact hC), e1]
            exact ⟨HFE.out.trans e2, HFB.out (by rw [e2]; exact hC)⟩
          clear HPE HPL
          go_wp2
          go_ret2
          exact ⟨.slice none 0 0, none, by rw [HF.out.1]; rfl, ⟨by rw [HF.out.2]; exact OwnPr.nil _, (fun g e => by cases e), HA4.out.below⟩⟩
      · obtain rfl : k = rs.length := by omega
        have HF : Hid (fE ps rs = 0 ∧ L = fL ps rs) := by
          have h1 := HE.out
          have h2 := HLE.out
          rw [List.take_length] at h1 h2
          exact ⟨HFE.out.trans h1, h2.trans (HFL.out h1).symm⟩
        clear HC HE HLE
        go_wp2
        go_ret2
        exact ⟨_, r, by rw [HF.out.1]; rfl, ⟨by rw [← HF.out.2]; exact HA.out.row, HA.out.new, HA.out.below⟩⟩
  · have hko : okL ps ≠ true := fun e => hT ((okL_iff ps).mp e)
    have HF : Hid (fE ps rs = 92 ∧ fL ps rs = []) := by
      refine ⟨by unfold fE; rw [if_neg hko], by unfold fL; rw [if_neg (fun h => hko h.1)]⟩
    rw [show okL ps = false from by rw [Bool.eq_false_iff]; exact hko] at HRR
    clear hko HC
    go_enter Try.func10, Try.ntmps10
    go_wp2_with fail
    refine HRR.out.mono ?_
    rintro e w1 ⟨rfl, hb⟩
    have HB : Hid (Below w.heap.size w w1) := hb
    clear hb HRR
    go_wp2
    go_ret2
    exact ⟨.slice none 0 0, none, by rw [HF.out.1]; rfl, ⟨by rw [HF.out.2]; exact OwnPr.nil _, (fun g e => by cases e), HB.out⟩⟩
end Go.Proofs.Ytlbofjeopbadhaa
