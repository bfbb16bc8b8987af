import Derived.Test.YtelhjdplghpnbabSyQ
import Derived.Test.YtelhjdplghpnbabSyT
/-! The program's Enter, walked. -/
namespace Go.Proofs.Ytelhjdplghpnbab
open Go.RowKit Plain
set_option linter.unusedVariables false
set_option linter.unusedSimpArgs false

theorem ent_no {t : Tr} (id n : Int) (h : chkT t = 0) (hp : 0 ≤ placeL t.qs id ∨ 32 ≤ t.qs.length ∨ id < 0 ∨ n < 1 ∨ 65536 < n) : entT t id n = (Tr.zero, 190) := by unfold entT; rw [if_neg (by simp [h]), if_pos hp]
theorem ent_yes {t : Tr} (id n : Int) (h : chkT t = 0) {k : Nat} (hf : Fnd t.qs id k) (hp : ¬ (0 ≤ placeL t.qs id ∨ 32 ≤ t.qs.length ∨ id < 0 ∨ n < 1 ∨ 65536 < n)) : entT t id n = (⟨t.qs.take k ++ ⟨id, n, 0, []⟩ :: t.qs.drop k, if 0 < t.qs.length ∧ (k : Int) ≤ t.at' then t.at' + 1 else t.at', t.fresh⟩, 0) := by
  unfold entT
  rw [if_neg (by simp [h]), if_neg hp]
  obtain ⟨e1, e2⟩ := hf.take
  unfold entL entAt
  rw [e1, e2]
  have hl : (t.qs.take k).length = k := by have := hf.le; simp; omega
  rw [hl]
  congr 2
  by_cases h0 : t.qs = []
  · rw [if_neg (fun x => x.1 h0), if_neg (fun x => by rw [h0] at x; simp at x)]
  · have : 0 < t.qs.length := List.length_pos_iff.mpr h0
    by_cases h1 : (k : Int) ≤ t.at'
    · rw [if_pos ⟨h0, h1⟩, if_pos ⟨this, h1⟩]
    · rw [if_neg (fun x => h1 x.2), if_neg (fun x => h1 x.2)]
set_option maxHeartbeats 8000000 in
set_option maxRecDepth 100000 in
theorem enterOk : EnterOk := by
  intro t id n v w h hid hn
  have HT := Hid.mkT h
  obtain ⟨l, z, f⟩ := t
  obtain ⟨hrow, hz1, hz2⟩ := h
  simp only at hrow hz1 hz2
  obtain ⟨a, cap, rfl, hl⟩ := hrow.shape
  have HROW := Hid.mkT hrow
  clear hrow
  unfold turV
  simp only
  obtain ⟨w1, hw1⟩ : ∃ w1, w.alloc (.cells #[.slice a l.length cap, .int .i64 z, .bool f] 24) = w1 := ⟨_, rfl⟩
  obtain ⟨w2, hw2⟩ : ∃ w2, w1.alloc (.cells #[.slice none 0 0, .int .i64 0, .bool false] 24) = w2 := ⟨_, rfl⟩
  obtain ⟨hb2, hs1, hs2, ht2, hr2⟩ := boxes w (.slice a l.length cap) z f w1 w2 hw1 hw2
  obtain ⟨B, hB⟩ : ∃ B, w.heap.size = B := ⟨_, rfl⟩
  rw [hB] at hs1 hs2 ht2 hr2
  have HB2 := Hid.mkT hb2
  have HTB := Hid.mkT ht2
  have HRB := Hid.mkT hr2
  obtain ⟨m0, m1, m2, -⟩ := ht2
  clear hr2 hb2
  have HCK := Hid.mkT (checkOk ⟨l, z, f⟩ (.slice a l.length cap) w2 (HT.out.later HB2.out))
  unfold turV at HCK
  simp only at HCK
  obtain ⟨PA, hPA⟩ : ∃ PA, entT ⟨l, z, f⟩ id n = PA := ⟨_, rfl⟩
  have HPA := Hid.mkT hPA
  rw [hPA]
  clear hPA
  go_enter Try.func7, Try.ntmps7
  go_wp2_with fail
  refine HCK.out.mono ?_
  rintro e w3 ⟨rfl, hb3⟩
  have HB3 := Hid.mkT (below_of HB2.out hb3)
  have HT3 := Hid.mkT (HTB.out.later hb3)
  have HR3 := Hid.mkT (HRB.out.later hb3)
  have hs3 := hb3.size
  rw [hs2] at hs3
  clear m0 m1 m2 hb3 HCK HTB HRB
  obtain ⟨m0, m1, m2, mf⟩ := HT3.out
  obtain ⟨r0, r1, r2, rf⟩ := HR3.out
  have rf0 := rf 0 (by omega)
  have rf1 := rf 1 (by omega)
  have rf2 := rf 2 (by omega)
  clear mf rf
  by_cases hck : chkT ⟨l, z, f⟩ = 0
  · have HC0 := Hid.mkT hck
    rw [hck]
    have hok := chk_ok.mp hck
    have hfew : l.length ≤ 32 := hok.few
    have HOK := Hid.mkT hok
    have HFN := Hid.mkT (qfindOf ⟨l, z, f⟩ id (.slice a l.length cap) w3 (HT.out.later HB3.out) hfew hok.riseL)
    unfold turV at HFN
    simp only at HFN
    clear hck hok
    go_wp2_with fail
    refine HFN.out.mono ?_
    rintro e w4 ⟨k, rfl, hfnd, hb4⟩
    have HFD := Hid.mkT hfnd
    have HT4 := Hid.mkT (HT3.out.later hb4)
    have HR4 := Hid.mkT (HR3.out.later hb4)
    have HB4 := Hid.mkT (below_of HB3.out hb4)
    have hs4 : B + 1 + 1 ≤ w4.heap.size := by have := hb4.size; omega
    have hkl : k ≤ l.length := hfnd.le
    clear m0 m1 m2 r0 r1 r2 rf0 rf1 rf2 HFN HT3 HR3 hfnd hb4
    obtain ⟨m0, m1, m2, mf⟩ := HT4.out
    obtain ⟨r0, r1, r2, rf⟩ := HR4.out
    have rf0 := rf 0 (by omega)
    have rf1 := rf 1 (by omega)
    have rf2 := rf 2 (by omega)
    have mf0 := mf 0 (by omega)
    have mf1 := mf 1 (by omega)
    have mf2 := mf 2 (by omega)
    clear mf rf
    by_cases hfd : k < l.length ∧ (l.getD k Qu.zero).id = id
    · have hpl := (HFD.out.place HOK.out.riseL).1 hfd
      have hdd : decide (k < l.length ∧ (l.getD k Qu.zero).id = id) = true := by simp only [decide_eq_true_eq]; exact hfd
      rw [hdd]
      have HPL := Hid.mkT hpl
      clear hfd hdd hpl
      obtain ⟨U, hU⟩ : ∃ U, ((w4.setCell ⟨B + 1, 0, none⟩ (.slice none 0 0)).setCell ⟨B + 1, 1, none⟩ (.int .i64 0)).setCell ⟨B + 1, 2, none⟩ (.bool false) = U := ⟨_, rfl⟩
      obtain ⟨ha, hg⟩ := HR4.out.ans (.slice none 0 0) 0 false
      rw [hU] at ha hg
      obtain ⟨q0, q1, q2, -⟩ := ha
      have HF : Hid (ansT PA.1 PA.2 w (.returned (.tuple #[.agg #[.slice none 0 0, .int .i64 0, .bool false], .int .i64 190])) U) := by
        have he : PA = (Tr.zero, 190) := by rw [← HPA.out]; exact ent_no id n HC0.out (.inl (by rw [HPL.out]; omega))
        rw [he]
        exact ans_none rfl (HB4.out.grown hg HB4.out.size (fun g' e => by simp at e; omega))
      clear hg
      go_wp2
      refine bodyPost_ret (v := .tuple #[.agg #[.slice none 0 0, .int .i64 0, .bool false], .int .i64 190]) ?hres rfl ?_
      case hres =>
        rw [results_cell_tmp rfl]
        go_simp
      exact HF.out
    · have hpl := (HFD.out.place HOK.out.riseL).2 hfd
      have hdd : decide (k < l.length ∧ (l.getD k Qu.zero).id = id) = false := by simp only [decide_eq_false_iff_not]; exact hfd
      rw [hdd]
      have HPL := Hid.mkT hpl
      clear hfd hdd hpl
      by_cases h32 : l.length = 32
      · have h32e : ((l.length : Int) == 32) = true := by simp; omega
        obtain ⟨U, hU⟩ : ∃ U, ((w4.setCell ⟨B + 1, 0, none⟩ (.slice none 0 0)).setCell ⟨B + 1, 1, none⟩ (.int .i64 0)).setCell ⟨B + 1, 2, none⟩ (.bool false) = U := ⟨_, rfl⟩
        obtain ⟨ha, hg⟩ := HR4.out.ans (.slice none 0 0) 0 false
        rw [hU] at ha hg
        obtain ⟨q0, q1, q2, -⟩ := ha
        have HF : Hid (ansT PA.1 PA.2 w (.returned (.tuple #[.agg #[.slice none 0 0, .int .i64 0, .bool false], .int .i64 190])) U) := by
          have he : PA = (Tr.zero, 190) := by rw [← HPA.out]; exact ent_no id n HC0.out (.inr (.inl (by show 32 ≤ l.length; omega)))
          rw [he]
          exact ans_none rfl (HB4.out.grown hg HB4.out.size (fun g' e => by simp at e; omega))
        clear hg
        go_wp2
        refine bodyPost_ret (v := .tuple #[.agg #[.slice none 0 0, .int .i64 0, .bool false], .int .i64 190]) ?hres rfl ?_
        case hres =>
          rw [results_cell_tmp rfl]
          go_simp
        exact HF.out
      have h32z : ¬ (l.length : Int) = 32 := by omega
      have h32e : ((l.length : Int) == 32) = false := by simp; omega
      by_cases hid0 : id < 0
      · obtain ⟨U, hU⟩ : ∃ U, ((w4.setCell ⟨B + 1, 0, none⟩ (.slice none 0 0)).setCell ⟨B + 1, 1, none⟩ (.int .i64 0)).setCell ⟨B + 1, 2, none⟩ (.bool false) = U := ⟨_, rfl⟩
        obtain ⟨ha, hg⟩ := HR4.out.ans (.slice none 0 0) 0 false
        rw [hU] at ha hg
        obtain ⟨q0, q1, q2, -⟩ := ha
        have HF : Hid (ansT PA.1 PA.2 w (.returned (.tuple #[.agg #[.slice none 0 0, .int .i64 0, .bool false], .int .i64 190])) U) := by
          have he : PA = (Tr.zero, 190) := by rw [← HPA.out]; exact ent_no id n HC0.out (.inr (.inr (.inl hid0)))
          rw [he]
          exact ans_none rfl (HB4.out.grown hg HB4.out.size (fun g' e => by simp at e; omega))
        clear hg
        go_wp2
        refine bodyPost_ret (v := .tuple #[.agg #[.slice none 0 0, .int .i64 0, .bool false], .int .i64 190]) ?hres rfl ?_
        case hres =>
          rw [results_cell_tmp rfl]
          go_simp
        exact HF.out
      have hidd : decide (id < 0) = false := by simp; omega
      have HIQ := Hid.mkT (fun u => qisQuantumOf n u)
      go_wp2_with fail
      refine (HIQ.out _).mono ?_
      rintro e w4' ⟨rfl, rfl⟩
      by_cases hqn : n < 1 ∨ 65536 < n
      · have hd2 : (decide (1 ≤ n) && decide (n ≤ 65536)) = false := by simp; omega
        rw [hd2]
        obtain ⟨U, hU⟩ : ∃ U, ((w4'.setCell ⟨B + 1, 0, none⟩ (.slice none 0 0)).setCell ⟨B + 1, 1, none⟩ (.int .i64 0)).setCell ⟨B + 1, 2, none⟩ (.bool false) = U := ⟨_, rfl⟩
        obtain ⟨ha, hg⟩ := HR4.out.ans (.slice none 0 0) 0 false
        rw [hU] at ha hg
        obtain ⟨q0, q1, q2, -⟩ := ha
        have HF : Hid (ansT PA.1 PA.2 w (.returned (.tuple #[.agg #[.slice none 0 0, .int .i64 0, .bool false], .int .i64 190])) U) := by
          have he : PA = (Tr.zero, 190) := by rw [← HPA.out]; exact ent_no id n HC0.out (.inr (.inr (.inr hqn)))
          rw [he]
          exact ans_none rfl (HB4.out.grown hg HB4.out.size (fun g' e => by simp at e; omega))
        clear hg
        go_wp2
        refine bodyPost_ret (v := .tuple #[.agg #[.slice none 0 0, .int .i64 0, .bool false], .int .i64 190]) ?hres rfl ?_
        case hres =>
          rw [results_cell_tmp rfl]
          go_simp
        exact HF.out
      have hd2 : (decide (1 ≤ n) && decide (n ≤ 65536)) = true := by simp; omega
      rw [hd2]
      have HEQ0 : Hid (PA = (⟨l.take k ++ ⟨id, n, 0, []⟩ :: l.drop k, if 0 < l.length ∧ (k : Int) ≤ z then z + 1 else z, f⟩, 0)) := by
        unfold Hid
        rw [← HPA.out]
        refine ent_yes id n HC0.out HFD.out ?_
        rintro (x | x | x | x)
        · rw [HPL.out] at x; omega
        · have : 32 ≤ l.length := x; omega
        · omega
        · omega
      have hz32 : 0 ≤ z ∧ z ≤ 32 := by
        have h1 := HOK.out.lo
        have h2 := HOK.out.hi
        simp only at h1 h2
        omega
      clear HIQ HPL hd2
      by_cases hl0 : l.length = 0
      · have hl0z : ¬ (0 : Int) < (l.length : Int) := by omega
        have HEQ : Hid (PA = (⟨l.take k ++ ⟨id, n, 0, []⟩ :: l.drop k, z, f⟩, 0)) := by unfold Hid; rw [HEQ0.out, if_neg (by omega)]
        clear HEQ0 hl0
        have HCP := Hid.mkT (qcopyOfOf l _ w4' (HROW.out.later HB4.out) hfew)
        go_wp2_with fail
        refine HCP.out.mono ?_
        rintro e w5 ⟨g, vs, rs, rfl, hm5, hl5, hsm5, hb5⟩
        have hg5 : w4'.heap.size ≤ g := hm5.new g rfl
        have HTN := Hid.mkT (CopQ.tur (w := w) (w0 := w) HROW.out hm5 hl5 hsm5 z f ⟨hz1, hz2⟩)
        have HT5 := Hid.mkT (HT4.out.later hb5)
        have HR5 := Hid.mkT (HR4.out.later hb5)
        have HB5 := Hid.mkT (below_of HB4.out hb5)
        have hs5 := hb5.size
        clear m0 m1 m2 mf0 mf1 mf2 r0 r1 r2 rf0 rf1 rf2 HCP hm5 hl5 hsm5 hb5
        obtain ⟨w6, hw6⟩ : ∃ w6, w5.alloc (.cells #[.int .i64 id, .int .i64 n, .int .i64 0, .slice none 0 0] 37) = w6 := ⟨_, rfl⟩
        have b6 : Below w5.heap.size w5 w6 := by rw [← hw6]; exact (Below.refl _ _).alloc (Nat.le_refl _) _
        obtain ⟨gx, hgx⟩ : ∃ gx, w5.heap.size = gx := ⟨_, rfl⟩
        have hx6 : ∀ j v, (⟨id, n, 0, (none, 0, 0)⟩ : Qv).cells[j]? = some v → w6.cell? ⟨gx, j, none⟩ = some v := fun j v hj => by
          rw [← hw6, World.cell?_alloc_at _ _ _ _ hgx.symm, ← hj]
          simp [Qv.cells]
        have hn6 := HTN.out.later b6
        have HN6 := Hid.mkT hn6
        have HINS := Hid.mkT (sInsertOf (x := ⟨id, n, 0, (none, 0, 0)⟩) (gx := gx) (i := k) hn6.mem.row hn6.len hkl hfew hx6)
        have HT6 := Hid.mkT (HT5.out.later b6)
        have HR6 := Hid.mkT (HR5.out.later b6)
        have HB6 := Hid.mkT (below_of HB5.out b6)
        have hs6 := b6.size
        clear hx6 hn6 b6
        go_wp2_with fail
        refine HINS.out.mono ?_
        rintro e w7 ⟨g', c', rfl, ho7, hg7, hgg⟩
        obtain ⟨rs7, h7⟩ := ins_tur HN6.out hkl rfl (by omega) hfew id n hid hn ho7 hg7 hgg z (by constructor <;> omega)
        have hgn : w4'.heap.size ≤ g := HN6.out.mem.new g rfl
        have ht7 := HT6.out.kept hg7 (by simp; omega)
        have hr7 := HR6.out.kept hg7 (by simp; omega)
        have hb7 : Below w.heap.size w w7 := HB6.out.grown hg7 HB6.out.size (fun q e => by simp at e; omega)
        obtain ⟨w8, hw8⟩ : ∃ w8, w7.setCell ⟨B, 0, none⟩ (.slice (some ⟨g', 0, none⟩) (l.length + 1) c') = w8 := ⟨_, rfl⟩
        have k8 : w7.grownBy w8 (some B) := by rw [← hw8]; exact grow_setT w7 B 0 _
        have ht8 := ht7.setV (.slice (some ⟨g', 0, none⟩) (l.length + 1) c')
        rw [hw8] at ht8
        have HR8 := Hid.mkT (hr7.kept k8 (by simp))
        have HB8 : Hid (Below w.heap.size w w8) := hb7.grown k8 hb7.size (fun q e => by simp at e; omega)
        have H8 := Hid.mkT (h7.kept k8 (by omega))
        obtain ⟨m0, m1, m2, mf⟩ := ht7
        have mf0 := mf 0 (by omega)
        clear mf
        obtain ⟨p0, p1, p2, -⟩ := ht8
        obtain ⟨r0, r1, r2, rf⟩ := HR8.out
        have rf0 := rf 0 (by omega)
        have rf1 := rf 1 (by omega)
        have rf2 := rf 2 (by omega)
        clear rf h7 k8 hr7 hb7 ho7 hg7 HINS
        obtain ⟨U, hU⟩ : ∃ U, ((w8.setCell ⟨B + 1, 0, none⟩ (.slice (some ⟨g', 0, none⟩) (l.length + 1) c')).setCell ⟨B + 1, 1, none⟩ (.int .i64 z)).setCell ⟨B + 1, 2, none⟩ (.bool f) = U := ⟨_, rfl⟩
        obtain ⟨ha, hg⟩ := HR8.out.ans (.slice (some ⟨g', 0, none⟩) (l.length + 1) c') z f
        rw [hU] at ha hg
        obtain ⟨q0, q1, q2, -⟩ := ha
        have HF : Hid (ansT PA.1 PA.2 w (.returned (.tuple #[.agg #[.slice (some ⟨g', 0, none⟩) (l.length + 1) c', .int .i64 z, .bool f], .int .i64 0])) U) := by
          rw [HEQ.out]
          exact ans_some (t := ⟨l.take k ++ ⟨id, n, 0, []⟩ :: l.drop k, z, f⟩) (by simp; omega) ⟨_, _, _, (H8.out.kept hg (by omega)).lower (by omega)⟩ (HB8.out.grown hg HB8.out.size (fun q e => by simp at e; omega))
        clear hg
        go_wp2
        refine bodyPost_ret (v := .tuple #[.agg #[.slice (some ⟨g', 0, none⟩) (l.length + 1) c', .int .i64 z, .bool f], .int .i64 0]) ?hres rfl ?_
        case hres =>
          rw [results_cell_tmp rfl]
          go_simp
        exact HF.out
      have hl0z : (0 : Int) < (l.length : Int) := by omega
      by_cases hkz : (k : Int) ≤ z
      · have HEQ : Hid (PA = (⟨l.take k ++ ⟨id, n, 0, []⟩ :: l.drop k, z + 1, f⟩, 0)) := by unfold Hid; rw [HEQ0.out, if_pos ⟨by omega, hkz⟩]
        clear HEQ0
        obtain ⟨wz, hwz⟩ : ∃ wz, w4'.setCell ⟨B, 1, none⟩ (.int .i64 (z + 1)) = wz := ⟨_, rfl⟩
        have kz : w4'.grownBy wz (some B) := by rw [← hwz]; exact grow_setT w4' B 1 _
        have htz := HT4.out.setAt (z + 1)
        rw [hwz] at htz
        have HTZ := Hid.mkT htz
        have HRZ := Hid.mkT (HR4.out.kept kz (by simp))
        have HBZ : Hid (Below w.heap.size w wz) := HB4.out.grown kz HB4.out.size (fun q e => by simp at e; omega)
        have hsz := kz.size
        obtain ⟨p0, p1, p2, -⟩ := htz
        clear kz
        have HCP := Hid.mkT (qcopyOfOf l _ wz (HROW.out.later HBZ.out) hfew)
        go_wp2_with fail
        refine HCP.out.mono ?_
        rintro e w5 ⟨g, vs, rs, rfl, hm5, hl5, hsm5, hb5⟩
        have hg5 : wz.heap.size ≤ g := hm5.new g rfl
        have HTN := Hid.mkT (CopQ.tur (w := w) (w0 := w) HROW.out hm5 hl5 hsm5 z f ⟨hz1, hz2⟩)
        have HT5 := Hid.mkT (HTZ.out.later hb5)
        have HR5 := Hid.mkT (HRZ.out.later hb5)
        have HB5 := Hid.mkT (below_of HBZ.out hb5)
        have hs5 := hb5.size
        clear m0 m1 m2 mf0 mf1 mf2 r0 r1 r2 rf0 rf1 rf2 p0 p1 p2 HCP hm5 hl5 hsm5 hb5
        obtain ⟨w6, hw6⟩ : ∃ w6, w5.alloc (.cells #[.int .i64 id, .int .i64 n, .int .i64 0, .slice none 0 0] 37) = w6 := ⟨_, rfl⟩
        have b6 : Below w5.heap.size w5 w6 := by rw [← hw6]; exact (Below.refl _ _).alloc (Nat.le_refl _) _
        obtain ⟨gx, hgx⟩ : ∃ gx, w5.heap.size = gx := ⟨_, rfl⟩
        have hx6 : ∀ j v, (⟨id, n, 0, (none, 0, 0)⟩ : Qv).cells[j]? = some v → w6.cell? ⟨gx, j, none⟩ = some v := fun j v hj => by
          rw [← hw6, World.cell?_alloc_at _ _ _ _ hgx.symm, ← hj]
          simp [Qv.cells]
        have hn6 := HTN.out.later b6
        have HN6 := Hid.mkT hn6
        have HINS := Hid.mkT (sInsertOf (x := ⟨id, n, 0, (none, 0, 0)⟩) (gx := gx) (i := k) hn6.mem.row hn6.len hkl hfew hx6)
        have HT6 := Hid.mkT (HT5.out.later b6)
        have HR6 := Hid.mkT (HR5.out.later b6)
        have HB6 := Hid.mkT (below_of HB5.out b6)
        have hs6 := b6.size
        clear hx6 hn6 b6
        go_wp2_with fail
        refine HINS.out.mono ?_
        rintro e w7 ⟨g', c', rfl, ho7, hg7, hgg⟩
        obtain ⟨rs7, h7⟩ := ins_tur HN6.out hkl rfl (by omega) hfew id n hid hn ho7 hg7 hgg (z + 1) (by constructor <;> omega)
        have hgn : wz.heap.size ≤ g := HN6.out.mem.new g rfl
        have ht7 := HT6.out.kept hg7 (by simp; omega)
        have hr7 := HR6.out.kept hg7 (by simp; omega)
        have hb7 : Below w.heap.size w w7 := HB6.out.grown hg7 HB6.out.size (fun q e => by simp at e; omega)
        obtain ⟨w8, hw8⟩ : ∃ w8, w7.setCell ⟨B, 0, none⟩ (.slice (some ⟨g', 0, none⟩) (l.length + 1) c') = w8 := ⟨_, rfl⟩
        have k8 : w7.grownBy w8 (some B) := by rw [← hw8]; exact grow_setT w7 B 0 _
        have ht8 := ht7.setV (.slice (some ⟨g', 0, none⟩) (l.length + 1) c')
        rw [hw8] at ht8
        have HR8 := Hid.mkT (hr7.kept k8 (by simp))
        have HB8 : Hid (Below w.heap.size w w8) := hb7.grown k8 hb7.size (fun q e => by simp at e; omega)
        have H8 := Hid.mkT (h7.kept k8 (by omega))
        obtain ⟨m0, m1, m2, mf⟩ := ht7
        have mf0 := mf 0 (by omega)
        clear mf
        obtain ⟨p0, p1, p2, -⟩ := ht8
        obtain ⟨r0, r1, r2, rf⟩ := HR8.out
        have rf0 := rf 0 (by omega)
        have rf1 := rf 1 (by omega)
        have rf2 := rf 2 (by omega)
        clear rf h7 k8 hr7 hb7 ho7 hg7 HINS
        obtain ⟨U, hU⟩ : ∃ U, ((w8.setCell ⟨B + 1, 0, none⟩ (.slice (some ⟨g', 0, none⟩) (l.length + 1) c')).setCell ⟨B + 1, 1, none⟩ (.int .i64 (z + 1))).setCell ⟨B + 1, 2, none⟩ (.bool f) = U := ⟨_, rfl⟩
        obtain ⟨ha, hg⟩ := HR8.out.ans (.slice (some ⟨g', 0, none⟩) (l.length + 1) c') (z + 1) f
        rw [hU] at ha hg
        obtain ⟨q0, q1, q2, -⟩ := ha
        have HF : Hid (ansT PA.1 PA.2 w (.returned (.tuple #[.agg #[.slice (some ⟨g', 0, none⟩) (l.length + 1) c', .int .i64 (z + 1), .bool f], .int .i64 0])) U) := by
          rw [HEQ.out]
          exact ans_some (t := ⟨l.take k ++ ⟨id, n, 0, []⟩ :: l.drop k, (z + 1), f⟩) (by simp; omega) ⟨_, _, _, (H8.out.kept hg (by omega)).lower (by omega)⟩ (HB8.out.grown hg HB8.out.size (fun q e => by simp at e; omega))
        clear hg
        go_wp2
        refine bodyPost_ret (v := .tuple #[.agg #[.slice (some ⟨g', 0, none⟩) (l.length + 1) c', .int .i64 (z + 1), .bool f], .int .i64 0]) ?hres rfl ?_
        case hres =>
          rw [results_cell_tmp rfl]
          go_simp
        exact HF.out
      · have HEQ : Hid (PA = (⟨l.take k ++ ⟨id, n, 0, []⟩ :: l.drop k, z, f⟩, 0)) := by unfold Hid; rw [HEQ0.out, if_neg (fun x => hkz x.2)]
        clear HEQ0
        have HCP := Hid.mkT (qcopyOfOf l _ w4' (HROW.out.later HB4.out) hfew)
        go_wp2_with fail
        refine HCP.out.mono ?_
        rintro e w5 ⟨g, vs, rs, rfl, hm5, hl5, hsm5, hb5⟩
        have hg5 : w4'.heap.size ≤ g := hm5.new g rfl
        have HTN := Hid.mkT (CopQ.tur (w := w) (w0 := w) HROW.out hm5 hl5 hsm5 z f ⟨hz1, hz2⟩)
        have HT5 := Hid.mkT (HT4.out.later hb5)
        have HR5 := Hid.mkT (HR4.out.later hb5)
        have HB5 := Hid.mkT (below_of HB4.out hb5)
        have hs5 := hb5.size
        clear m0 m1 m2 mf0 mf1 mf2 r0 r1 r2 rf0 rf1 rf2 HCP hm5 hl5 hsm5 hb5
        obtain ⟨w6, hw6⟩ : ∃ w6, w5.alloc (.cells #[.int .i64 id, .int .i64 n, .int .i64 0, .slice none 0 0] 37) = w6 := ⟨_, rfl⟩
        have b6 : Below w5.heap.size w5 w6 := by rw [← hw6]; exact (Below.refl _ _).alloc (Nat.le_refl _) _
        obtain ⟨gx, hgx⟩ : ∃ gx, w5.heap.size = gx := ⟨_, rfl⟩
        have hx6 : ∀ j v, (⟨id, n, 0, (none, 0, 0)⟩ : Qv).cells[j]? = some v → w6.cell? ⟨gx, j, none⟩ = some v := fun j v hj => by
          rw [← hw6, World.cell?_alloc_at _ _ _ _ hgx.symm, ← hj]
          simp [Qv.cells]
        have hn6 := HTN.out.later b6
        have HN6 := Hid.mkT hn6
        have HINS := Hid.mkT (sInsertOf (x := ⟨id, n, 0, (none, 0, 0)⟩) (gx := gx) (i := k) hn6.mem.row hn6.len hkl hfew hx6)
        have HT6 := Hid.mkT (HT5.out.later b6)
        have HR6 := Hid.mkT (HR5.out.later b6)
        have HB6 := Hid.mkT (below_of HB5.out b6)
        have hs6 := b6.size
        clear hx6 hn6 b6
        go_wp2_with fail
        refine HINS.out.mono ?_
        rintro e w7 ⟨g', c', rfl, ho7, hg7, hgg⟩
        obtain ⟨rs7, h7⟩ := ins_tur HN6.out hkl rfl (by omega) hfew id n hid hn ho7 hg7 hgg z (by constructor <;> omega)
        have hgn : w4'.heap.size ≤ g := HN6.out.mem.new g rfl
        have ht7 := HT6.out.kept hg7 (by simp; omega)
        have hr7 := HR6.out.kept hg7 (by simp; omega)
        have hb7 : Below w.heap.size w w7 := HB6.out.grown hg7 HB6.out.size (fun q e => by simp at e; omega)
        obtain ⟨w8, hw8⟩ : ∃ w8, w7.setCell ⟨B, 0, none⟩ (.slice (some ⟨g', 0, none⟩) (l.length + 1) c') = w8 := ⟨_, rfl⟩
        have k8 : w7.grownBy w8 (some B) := by rw [← hw8]; exact grow_setT w7 B 0 _
        have ht8 := ht7.setV (.slice (some ⟨g', 0, none⟩) (l.length + 1) c')
        rw [hw8] at ht8
        have HR8 := Hid.mkT (hr7.kept k8 (by simp))
        have HB8 : Hid (Below w.heap.size w w8) := hb7.grown k8 hb7.size (fun q e => by simp at e; omega)
        have H8 := Hid.mkT (h7.kept k8 (by omega))
        obtain ⟨m0, m1, m2, mf⟩ := ht7
        have mf0 := mf 0 (by omega)
        clear mf
        obtain ⟨p0, p1, p2, -⟩ := ht8
        obtain ⟨r0, r1, r2, rf⟩ := HR8.out
        have rf0 := rf 0 (by omega)
        have rf1 := rf 1 (by omega)
        have rf2 := rf 2 (by omega)
        clear rf h7 k8 hr7 hb7 ho7 hg7 HINS
        obtain ⟨U, hU⟩ : ∃ U, ((w8.setCell ⟨B + 1, 0, none⟩ (.slice (some ⟨g', 0, none⟩) (l.length + 1) c')).setCell ⟨B + 1, 1, none⟩ (.int .i64 z)).setCell ⟨B + 1, 2, none⟩ (.bool f) = U := ⟨_, rfl⟩
        obtain ⟨ha, hg⟩ := HR8.out.ans (.slice (some ⟨g', 0, none⟩) (l.length + 1) c') z f
        rw [hU] at ha hg
        obtain ⟨q0, q1, q2, -⟩ := ha
        have HF : Hid (ansT PA.1 PA.2 w (.returned (.tuple #[.agg #[.slice (some ⟨g', 0, none⟩) (l.length + 1) c', .int .i64 z, .bool f], .int .i64 0])) U) := by
          rw [HEQ.out]
          exact ans_some (t := ⟨l.take k ++ ⟨id, n, 0, []⟩ :: l.drop k, z, f⟩) (by simp; omega) ⟨_, _, _, (H8.out.kept hg (by omega)).lower (by omega)⟩ (HB8.out.grown hg HB8.out.size (fun q e => by simp at e; omega))
        clear hg
        go_wp2
        refine bodyPost_ret (v := .tuple #[.agg #[.slice (some ⟨g', 0, none⟩) (l.length + 1) c', .int .i64 z, .bool f], .int .i64 0]) ?hres rfl ?_
        case hres =>
          rw [results_cell_tmp rfl]
          go_simp
        exact HF.out
  · have HC0 := Hid.mkT hck
    obtain ⟨E, hE⟩ : ∃ E, chkT ⟨l, z, f⟩ = E := ⟨_, rfl⟩
    have hE0 : ¬ E = 0 := by rw [← hE]; exact hck
    have HEE := Hid.mkT hE
    rw [hE]
    clear hck hE
    obtain ⟨U, hU⟩ : ∃ U, ((w3.setCell ⟨B + 1, 0, none⟩ (.slice none 0 0)).setCell ⟨B + 1, 1, none⟩ (.int .i64 0)).setCell ⟨B + 1, 2, none⟩ (.bool false) = U := ⟨_, rfl⟩
    obtain ⟨ha, hg⟩ := HR3.out.ans (.slice none 0 0) 0 false
    rw [hU] at ha hg
    obtain ⟨q0, q1, q2, -⟩ := ha
    have HF : Hid (ansT PA.1 PA.2 w (.returned (.tuple #[.agg #[.slice none 0 0, .int .i64 0, .bool false], .int .i64 E])) U) := by
      have he : PA = (Tr.zero, E) := by rw [← HPA.out, ← HEE.out]; exact ent_chk id n HC0.out
      rw [he]
      exact ans_none rfl (HB3.out.grown hg HB3.out.size (fun g' e => by simp at e; omega))
    clear hg
    go_wp2
    refine bodyPost_ret (v := .tuple #[.agg #[.slice none 0 0, .int .i64 0, .bool false], .int .i64 E]) ?hres rfl ?_
    case hres =>
      rw [results_cell_tmp rfl]
      go_simp
    exact HF.out
end Go.Proofs.Ytelhjdplghpnbab
