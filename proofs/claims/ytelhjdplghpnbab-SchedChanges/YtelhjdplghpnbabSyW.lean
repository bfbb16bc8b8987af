import Derived.Test.YtelhjdplghpnbabSyQ
import Derived.Test.YtelhjdplghpnbabSyV
/-! The program's Leave, walked. -/
namespace Go.Proofs.Ytelhjdplghpnbab
open Go.RowKit Plain
set_option linter.unusedVariables false
set_option linter.unusedSimpArgs false

set_option maxHeartbeats 8000000 in
set_option maxRecDepth 100000 in
theorem leaveOk : LeaveOk := by
  intro t id v w h hid
  have HT := Hid.mkT h
  obtain ⟨l, z, f⟩ := t
  obtain ⟨hrow, hz1, hz2⟩ := h
  simp only at hrow hz1 hz2
  obtain ⟨a, cap, rfl, hl⟩ := hrow.shape
  have HROW := Hid.mkT hrow
  clear hrow
  unfold turV
  simp only
  obtain ⟨w1, hw1⟩ : ∃ w1, w.alloc (.cells #[.slice a l.length cap, .int .i64 z, .bool f] 24) = w1 := ⟨_, rfl⟩
  obtain ⟨w2, hw2⟩ : ∃ w2, w1.alloc (.cells #[.slice none 0 0, .int .i64 0, .bool false] 24) = w2 := ⟨_, rfl⟩
  obtain ⟨hb2, hs1, hs2, ht2, hr2⟩ := boxes w (.slice a l.length cap) z f w1 w2 hw1 hw2
  obtain ⟨B, hB⟩ : ∃ B, w.heap.size = B := ⟨_, rfl⟩
  rw [hB] at hs1 hs2 ht2 hr2
  have HB2 := Hid.mkT hb2
  have HTB := Hid.mkT ht2
  have HRB := Hid.mkT hr2
  obtain ⟨m0, m1, m2, -⟩ := ht2
  clear hr2 hb2
  have HCK := Hid.mkT (checkOk ⟨l, z, f⟩ (.slice a l.length cap) w2 (HT.out.later HB2.out))
  unfold turV at HCK
  simp only at HCK
  obtain ⟨PA, hPA⟩ : ∃ PA, levT ⟨l, z, f⟩ id = PA := ⟨_, rfl⟩
  have HPA := Hid.mkT hPA
  rw [hPA]
  clear hPA
  go_enter Try.func8, Try.ntmps8
  go_wp2_with fail
  refine HCK.out.mono ?_
  rintro e w3 ⟨rfl, hb3⟩
  have HB3 := Hid.mkT (below_of HB2.out hb3)
  have HT3 := Hid.mkT (HTB.out.later hb3)
  have HR3 := Hid.mkT (HRB.out.later hb3)
  have hs3 := hb3.size
  rw [hs2] at hs3
  clear m0 m1 m2 hb3 HCK HTB HRB
  obtain ⟨m0, m1, m2, mf⟩ := HT3.out
  obtain ⟨r0, r1, r2, rf⟩ := HR3.out
  have rf0 := rf 0 (by omega)
  have rf1 := rf 1 (by omega)
  have rf2 := rf 2 (by omega)
  clear mf rf
  by_cases hck : chkT ⟨l, z, f⟩ = 0
  · have HC0 := Hid.mkT hck
    rw [hck]
    have hok := chk_ok.mp hck
    have hfew : l.length ≤ 32 := hok.few
    have HOK := Hid.mkT hok
    have HFN := Hid.mkT (qfindOf ⟨l, z, f⟩ id (.slice a l.length cap) w3 (HT.out.later HB3.out) hfew hok.riseL)
    unfold turV at HFN
    simp only at HFN
    clear hck hok
    go_wp2_with fail
    refine HFN.out.mono ?_
    rintro e w4 ⟨k, rfl, hfnd, hb4⟩
    have HFD := Hid.mkT hfnd
    have HT4 := Hid.mkT (HT3.out.later hb4)
    have HR4 := Hid.mkT (HR3.out.later hb4)
    have HB4 := Hid.mkT (below_of HB3.out hb4)
    have hs4 : B + 1 + 1 ≤ w4.heap.size := by have := hb4.size; omega
    have hkl : k ≤ l.length := hfnd.le
    clear m0 m1 m2 r0 r1 r2 rf0 rf1 rf2 HFN HT3 HR3 hfnd hb4
    obtain ⟨m0, m1, m2, mf⟩ := HT4.out
    obtain ⟨r0, r1, r2, rf⟩ := HR4.out
    have rf0 := rf 0 (by omega)
    have rf1 := rf 1 (by omega)
    have rf2 := rf 2 (by omega)
    have mf0 := mf 0 (by omega)
    have mf1 := mf 1 (by omega)
    have mf2 := mf 2 (by omega)
    clear mf rf
    by_cases hfd : k < l.length ∧ (l.getD k Qu.zero).id = id
    · have hpl := (HFD.out.place HOK.out.riseL).1 hfd
      have hdd : decide (k < l.length ∧ (l.getD k Qu.zero).id = id) = true := by simp only [decide_eq_true_eq]; exact hfd
      rw [hdd]
      have hkl2 := hfd.1
      have HEQ0 : Hid (PA = (⟨l.eraseIdx k, levAt ⟨l, z, f⟩ k, if (k : Int) = z then false else f⟩, 0)) := by unfold Hid; rw [← HPA.out]; exact lev_yes id HC0.out hpl
      clear hfd hdd hpl
      have hz32 : 0 ≤ z ∧ z < l.length := by
        have h1 := HOK.out.lo
        have h2 := HOK.out.hi
        simp only at h1 h2
        omega
      have HCP := Hid.mkT (qcopyOfOf l _ w4 (HROW.out.later HB4.out) hfew)
      go_wp2_with fail
      refine HCP.out.mono ?_
      rintro e w5 ⟨g, vs, rs, rfl, hm5, hl5, hsm5, hb5⟩
      have hg5 : w4.heap.size ≤ g := hm5.new g rfl
      have HTN := Hid.mkT (CopQ.tur (w := w) (w0 := w) HROW.out hm5 hl5 hsm5 z f ⟨hz1, hz2⟩)
      have HT5 := Hid.mkT (HT4.out.later hb5)
      have HR5 := Hid.mkT (HR4.out.later hb5)
      have HB5 := Hid.mkT (below_of HB4.out hb5)
      have hs5 := hb5.size
      clear m0 m1 m2 mf0 mf1 mf2 r0 r1 r2 rf0 rf1 rf2 HCP hm5 hl5 hsm5 hb5
      have HN5 := HTN
      have HDE := Hid.mkT (sDeleteOf (i := k) HN5.out.mem.row HN5.out.len hkl2 hfew)
      go_wp2_with fail
      refine HDE.out.mono ?_
      rintro e w7 ⟨rfl, ho7, hg7⟩
      have hgn : w4.heap.size ≤ g := HN5.out.mem.new g rfl
      have ht7 := HT5.out.kept hg7 (by simp; omega)
      have hr7 := HR5.out.kept hg7 (by simp; omega)
      have hb7 : Below w.heap.size w w7 := HB5.out.grown hg7 HB5.out.size (fun q e => by simp at e; omega)
      have H7 := Hid.mkT (fun z' hz' f' => del_tur HN5.out hkl2 rfl (by omega) hfew ho7 hg7 z' hz' f')
      obtain ⟨w8, hw8⟩ : ∃ w8, w7.setCell ⟨B, 0, none⟩ (.slice (some ⟨g, 0, none⟩) (l.length - 1) l.length) = w8 := ⟨_, rfl⟩
      have k8 : w7.grownBy w8 (some B) := by rw [← hw8]; exact grow_setT w7 B 0 _
      have ht8 := ht7.setV (.slice (some ⟨g, 0, none⟩) (l.length - 1) l.length)
      rw [hw8] at ht8
      have HT8 := Hid.mkT ht8
      have HR8 := Hid.mkT (hr7.kept k8 (by simp))
      have HB8 : Hid (Below w.heap.size w w8) := hb7.grown k8 hb7.size (fun q e => by simp at e; omega)
      have HK8 := Hid.mkT k8
      obtain ⟨m0, m1, m2, mf⟩ := ht7
      have mf0 := mf 0 (by omega)
      clear mf
      obtain ⟨p0, p1, p2, pf⟩ := ht8
      have pf1 := pf 1 (by omega)
      clear pf
      clear hr7 hb7 ho7 hg7 HDE k8
      by_cases hlt : (k : Int) < z
      · have HEQ : Hid (PA = (⟨l.eraseIdx k, z - 1, f⟩, 0)) := by unfold Hid; rw [HEQ0.out]; unfold levAt; rw [if_pos hlt, if_neg (by omega)]
        obtain ⟨rs7, h7⟩ := H7.out (z - 1) (by constructor <;> omega) f
        have H8 := Hid.mkT (h7.kept HK8.out (by omega))
        obtain ⟨w9, hw9⟩ : ∃ w9, w8.setCell ⟨B, 1, none⟩ (.int .i64 (z - 1)) = w9 := ⟨_, rfl⟩
        have k9 : w8.grownBy w9 (some B) := by rw [← hw9]; exact grow_setT w8 B 1 _
        have ht9 := HT8.out.setAt (z - 1)
        rw [hw9] at ht9
        have HR9 := Hid.mkT (HR8.out.kept k9 (by simp))
        have HB9 : Hid (Below w.heap.size w w9) := HB8.out.grown k9 HB8.out.size (fun q e => by simp at e; omega)
        have H9 := Hid.mkT (H8.out.kept k9 (by omega))
        obtain ⟨q3, q4, q5, -⟩ := ht9
        obtain ⟨r0, r1, r2, rf⟩ := HR9.out
        have rf0 := rf 0 (by omega)
        have rf1 := rf 1 (by omega)
        have rf2 := rf 2 (by omega)
        clear rf k9 h7 H7 HEQ0
        obtain ⟨U, hU⟩ : ∃ U, ((w9.setCell ⟨B + 1, 0, none⟩ (.slice (some ⟨g, 0, none⟩) (l.length - 1) l.length)).setCell ⟨B + 1, 1, none⟩ (.int .i64 (z - 1))).setCell ⟨B + 1, 2, none⟩ (.bool f) = U := ⟨_, rfl⟩
        obtain ⟨ha, hg⟩ := HR9.out.ans (.slice (some ⟨g, 0, none⟩) (l.length - 1) l.length) (z - 1) f
        rw [hU] at ha hg
        obtain ⟨q0, q1, q2, -⟩ := ha
        have HF : Hid (ansT PA.1 PA.2 w (.returned (.tuple #[.agg #[.slice (some ⟨g, 0, none⟩) (l.length - 1) l.length, .int .i64 (z - 1), .bool f], .int .i64 0])) U) := by
          rw [HEQ.out]
          exact ans_some (t := ⟨l.eraseIdx k, z - 1, f⟩) (by show (l.eraseIdx k).length = _; rw [List.length_eraseIdx, if_pos (by omega)]) ⟨_, _, _, (H9.out.kept hg (by omega)).lower (by omega)⟩ (HB9.out.grown hg HB9.out.size (fun q e => by simp at e; omega))
        clear hg
        go_wp2
        refine bodyPost_ret (v := .tuple #[.agg #[.slice (some ⟨g, 0, none⟩) (l.length - 1) l.length, .int .i64 (z - 1), .bool f], .int .i64 0]) ?hres rfl ?_
        case hres =>
          rw [results_cell_tmp rfl]
          go_simp
        exact HF.out
      by_cases heq : (k : Int) = z
      · subst heq
        have HEQ : Hid (PA = (⟨l.eraseIdx k, ((if l.length - 1 ≤ k then 0 else k : Nat) : Int), false⟩, 0)) := by
          unfold Hid
          rw [HEQ0.out]
          unfold levAt
          rw [if_neg (by omega), if_pos rfl]
          simp only
          by_cases hk1 : l.length - 1 ≤ k
          · rw [if_pos (by constructor <;> (first | trivial | omega)), if_pos hk1]; rfl
          · rw [if_neg (fun x => hk1 (by have := x.2; omega)), if_neg hk1]
        have HGT := Hid.mkT (qgiveTurnOf HT8.out k (by omega))
        obtain ⟨KK, hKK⟩ : ∃ KK, (if l.length - 1 ≤ k then 0 else k) = KK := ⟨_, rfl⟩
        have hKb : KK ≤ 32 := by rw [← hKK]; split <;> omega
        rw [hKK] at HEQ HGT
        obtain ⟨rs7, h7⟩ := H7.out (KK : Int) (by constructor <;> omega) false
        have H8 := Hid.mkT (h7.kept HK8.out (by omega))
        clear hKK h7 H7 HEQ0
        go_wp2_with fail
        refine HGT.out.mono ?_
        rintro e w9 ⟨⟨y, rfl⟩, ht9, k9⟩
        have HR9 := Hid.mkT (HR8.out.kept k9 (by simp))
        have HB9 : Hid (Below w.heap.size w w9) := HB8.out.grown k9 HB8.out.size (fun q e => by simp at e; omega)
        have H9 := Hid.mkT (H8.out.kept k9 (by omega))
        clear m0 m1 m2 mf0 p0 p1 p2 pf1
        obtain ⟨q3, q4, q5, -⟩ := ht9
        obtain ⟨r0, r1, r2, rf⟩ := HR9.out
        have rf0 := rf 0 (by omega)
        have rf1 := rf 1 (by omega)
        have rf2 := rf 2 (by omega)
        clear rf k9 HGT
        obtain ⟨U, hU⟩ : ∃ U, ((w9.setCell ⟨B + 1, 0, none⟩ (.slice (some ⟨g, 0, none⟩) (l.length - 1) l.length)).setCell ⟨B + 1, 1, none⟩ (.int .i64 (KK : Int))).setCell ⟨B + 1, 2, none⟩ (.bool false) = U := ⟨_, rfl⟩
        obtain ⟨ha, hg⟩ := HR9.out.ans (.slice (some ⟨g, 0, none⟩) (l.length - 1) l.length) (KK : Int) false
        rw [hU] at ha hg
        obtain ⟨q0, q1, q2, -⟩ := ha
        have HF : Hid (ansT PA.1 PA.2 w (.returned (.tuple #[.agg #[.slice (some ⟨g, 0, none⟩) (l.length - 1) l.length, .int .i64 (KK : Int), .bool false], .int .i64 0])) U) := by
          rw [HEQ.out]
          exact ans_some (t := ⟨l.eraseIdx k, (KK : Int), false⟩) (by show (l.eraseIdx k).length = _; rw [List.length_eraseIdx, if_pos (by omega)]) ⟨_, _, _, (H9.out.kept hg (by omega)).lower (by omega)⟩ (HB9.out.grown hg HB9.out.size (fun q e => by simp at e; omega))
        clear hg
        go_wp2
        refine bodyPost_ret (v := .tuple #[.agg #[.slice (some ⟨g, 0, none⟩) (l.length - 1) l.length, .int .i64 (KK : Int), .bool false], .int .i64 0]) ?hres rfl ?_
        case hres =>
          rw [results_cell_tmp rfl]
          go_simp
        exact HF.out
      · have HEQ : Hid (PA = (⟨l.eraseIdx k, z, f⟩, 0)) := by unfold Hid; rw [HEQ0.out]; unfold levAt; rw [if_neg hlt, if_neg (fun x => heq x.1), if_neg heq]
        obtain ⟨rs7, h7⟩ := H7.out z (by constructor <;> omega) f
        have H8 := Hid.mkT (h7.kept HK8.out (by omega))
        obtain ⟨r0, r1, r2, rf⟩ := HR8.out
        have rf0 := rf 0 (by omega)
        have rf1 := rf 1 (by omega)
        have rf2 := rf 2 (by omega)
        clear rf h7 H7 HEQ0
        obtain ⟨U, hU⟩ : ∃ U, ((w8.setCell ⟨B + 1, 0, none⟩ (.slice (some ⟨g, 0, none⟩) (l.length - 1) l.length)).setCell ⟨B + 1, 1, none⟩ (.int .i64 z)).setCell ⟨B + 1, 2, none⟩ (.bool f) = U := ⟨_, rfl⟩
        obtain ⟨ha, hg⟩ := HR8.out.ans (.slice (some ⟨g, 0, none⟩) (l.length - 1) l.length) z f
        rw [hU] at ha hg
        obtain ⟨q0, q1, q2, -⟩ := ha
        have HF : Hid (ansT PA.1 PA.2 w (.returned (.tuple #[.agg #[.slice (some ⟨g, 0, none⟩) (l.length - 1) l.length, .int .i64 z, .bool f], .int .i64 0])) U) := by
          rw [HEQ.out]
          exact ans_some (t := ⟨l.eraseIdx k, z, f⟩) (by show (l.eraseIdx k).length = _; rw [List.length_eraseIdx, if_pos (by omega)]) ⟨_, _, _, (H8.out.kept hg (by omega)).lower (by omega)⟩ (HB8.out.grown hg HB8.out.size (fun q e => by simp at e; omega))
        clear hg
        go_wp2
        refine bodyPost_ret (v := .tuple #[.agg #[.slice (some ⟨g, 0, none⟩) (l.length - 1) l.length, .int .i64 z, .bool f], .int .i64 0]) ?hres rfl ?_
        case hres =>
          rw [results_cell_tmp rfl]
          go_simp
        exact HF.out
    · have hpl := (HFD.out.place HOK.out.riseL).2 hfd
      have hdd : decide (k < l.length ∧ (l.getD k Qu.zero).id = id) = false := by simp only [decide_eq_false_iff_not]; exact hfd
      rw [hdd]
      have HPL := Hid.mkT hpl
      clear hfd hdd hpl
      obtain ⟨U, hU⟩ : ∃ U, ((w4.setCell ⟨B + 1, 0, none⟩ (.slice none 0 0)).setCell ⟨B + 1, 1, none⟩ (.int .i64 0)).setCell ⟨B + 1, 2, none⟩ (.bool false) = U := ⟨_, rfl⟩
      obtain ⟨ha, hg⟩ := HR4.out.ans (.slice none 0 0) 0 false
      rw [hU] at ha hg
      obtain ⟨q0, q1, q2, -⟩ := ha
      have HF : Hid (ansT PA.1 PA.2 w (.returned (.tuple #[.agg #[.slice none 0 0, .int .i64 0, .bool false], .int .i64 190])) U) := by
        have he : PA = (Tr.zero, 190) := by rw [← HPA.out]; exact lev_no id HC0.out HPL.out
        rw [he]
        exact ans_none rfl (HB4.out.grown hg HB4.out.size (fun g' e => by simp at e; omega))
      clear hg
      go_wp2
      refine bodyPost_ret (v := .tuple #[.agg #[.slice none 0 0, .int .i64 0, .bool false], .int .i64 190]) ?hres rfl ?_
      case hres =>
        rw [results_cell_tmp rfl]
        go_simp
      exact HF.out
  · have HC0 := Hid.mkT hck
    obtain ⟨E, hE⟩ : ∃ E, chkT ⟨l, z, f⟩ = E := ⟨_, rfl⟩
    have hE0 : ¬ E = 0 := by rw [← hE]; exact hck
    have HEE := Hid.mkT hE
    rw [hE]
    clear hck hE
    obtain ⟨U, hU⟩ : ∃ U, ((w3.setCell ⟨B + 1, 0, none⟩ (.slice none 0 0)).setCell ⟨B + 1, 1, none⟩ (.int .i64 0)).setCell ⟨B + 1, 2, none⟩ (.bool false) = U := ⟨_, rfl⟩
    obtain ⟨ha, hg⟩ := HR3.out.ans (.slice none 0 0) 0 false
    rw [hU] at ha hg
    obtain ⟨q0, q1, q2, -⟩ := ha
    have HF : Hid (ansT PA.1 PA.2 w (.returned (.tuple #[.agg #[.slice none 0 0, .int .i64 0, .bool false], .int .i64 E])) U) := by
      have he : PA = (Tr.zero, E) := by rw [← HPA.out, ← HEE.out]; exact lev_chk id HC0.out
      rw [he]
      exact ans_none rfl (HB3.out.grown hg HB3.out.size (fun g' e => by simp at e; omega))
    clear hg
    go_wp2
    refine bodyPost_ret (v := .tuple #[.agg #[.slice none 0 0, .int .i64 0, .bool false], .int .i64 E]) ?hres rfl ?_
    case hres =>
      rw [results_cell_tmp rfl]
      go_simp
    exact HF.out
end Go.Proofs.Ytelhjdplghpnbab
