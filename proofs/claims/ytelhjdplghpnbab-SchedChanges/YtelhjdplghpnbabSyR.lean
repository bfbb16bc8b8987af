import Derived.Test.YtelhjdplghpnbabSyQ
/-! The program's Ask, walked. -/
namespace Go.Proofs.Ytelhjdplghpnbab
open Go.RowKit Plain
set_option linter.unusedVariables false
set_option linter.unusedSimpArgs false

set_option maxHeartbeats 8000000 in
set_option maxRecDepth 100000 in
theorem askOk : AskOk := by
  intro t id n v w h hlc hid hn
  have HT := Hid.mkT h
  obtain ⟨l, z, f⟩ := t
  obtain ⟨hrow, hz1, hz2⟩ := h
  simp only at hrow hz1 hz2
  obtain ⟨a, cap, rfl, hl⟩ := hrow.shape
  have HROW := Hid.mkT hrow
  clear hrow
  unfold turV
  simp only
  obtain ⟨w1, hw1⟩ : ∃ w1, w.alloc (.cells #[.slice a l.length cap, .int .i64 z, .bool f] 24) = w1 := ⟨_, rfl⟩
  obtain ⟨w2, hw2⟩ : ∃ w2, w1.alloc (.cells #[.slice none 0 0, .int .i64 0, .bool false] 24) = w2 := ⟨_, rfl⟩
  obtain ⟨hb2, hs1, hs2, ht2, hr2⟩ := boxes w (.slice a l.length cap) z f w1 w2 hw1 hw2
  obtain ⟨B, hB⟩ : ∃ B, w.heap.size = B := ⟨_, rfl⟩
  rw [hB] at hs1 hs2 ht2 hr2
  have HB2 := Hid.mkT hb2
  have HTB := Hid.mkT ht2
  have HRB := Hid.mkT hr2
  obtain ⟨m0, m1, m2, -⟩ := ht2
  clear hr2 hb2
  have HCK := Hid.mkT (checkOk ⟨l, z, f⟩ (.slice a l.length cap) w2 (HT.out.later HB2.out))
  unfold turV at HCK
  simp only at HCK
  obtain ⟨PA, hPA⟩ : ∃ PA, askT ⟨l, z, f⟩ id n = PA := ⟨_, rfl⟩
  have HPA := Hid.mkT hPA
  rw [hPA]
  clear hPA
  go_enter Try.func9, Try.ntmps9
  go_wp2_with fail
  refine HCK.out.mono ?_
  rintro e w3 ⟨rfl, hb3⟩
  have HB3 := Hid.mkT (below_of HB2.out hb3)
  have HT3 := Hid.mkT (HTB.out.later hb3)
  have HR3 := Hid.mkT (HRB.out.later hb3)
  have hs3 := hb3.size
  rw [hs2] at hs3
  clear m0 m1 m2 hb3 HCK HTB HRB
  obtain ⟨m0, m1, m2, mf⟩ := HT3.out
  obtain ⟨r0, r1, r2, rf⟩ := HR3.out
  have rf0 := rf 0 (by omega)
  have rf1 := rf 1 (by omega)
  have rf2 := rf 2 (by omega)
  clear mf rf
  by_cases hck : chkT ⟨l, z, f⟩ = 0
  · have HC0 := Hid.mkT hck
    rw [hck]
    have hok := chk_ok.mp hck
    have hfew : l.length ≤ 32 := hok.few
    have HOK := Hid.mkT hok
    have HFN := Hid.mkT (qfindOf ⟨l, z, f⟩ id (.slice a l.length cap) w3 (HT.out.later HB3.out) hfew hok.riseL)
    unfold turV at HFN
    simp only at HFN
    clear hck hok
    go_wp2_with fail
    refine HFN.out.mono ?_
    rintro e w4 ⟨k, rfl, hfnd, hb4⟩
    have HFD := Hid.mkT hfnd
    have HT4 := Hid.mkT (HT3.out.later hb4)
    have HR4 := Hid.mkT (HR3.out.later hb4)
    have HB4 := Hid.mkT (below_of HB3.out hb4)
    have hs4 : B + 1 + 1 ≤ w4.heap.size := by have := hb4.size; omega
    have hkl : k ≤ l.length := hfnd.le
    clear m0 m1 m2 r0 r1 r2 rf0 rf1 rf2 HFN HT3 HR3 hfnd hb4
    obtain ⟨m0, m1, m2, mf⟩ := HT4.out
    obtain ⟨r0, r1, r2, rf⟩ := HR4.out
    have rf0 := rf 0 (by omega)
    have rf1 := rf 1 (by omega)
    have rf2 := rf 2 (by omega)
    have mf0 := mf 0 (by omega)
    have mf1 := mf 1 (by omega)
    have mf2 := mf 2 (by omega)
    clear mf rf
    by_cases hfd : k < l.length ∧ (l.getD k Qu.zero).id = id
    · have hpl := (HFD.out.place HOK.out.riseL).1 hfd
      have hdd : decide (k < l.length ∧ (l.getD k Qu.zero).id = id) = true := by simp only [decide_eq_true_eq]; exact hfd
      rw [hdd]
      have hkl2 := hfd.1
      have HPL := Hid.mkT hpl
      clear hfd hdd hpl
      have HIC := Hid.mkT (fun u => qisCostOf n u)
      go_wp2_with fail
      refine (HIC.out _).mono ?_
      rintro e w4' ⟨rfl, rfl⟩
      by_cases hcn : n < 1 ∨ 1048576 < n
      · have hd2 : (decide (1 ≤ n) && decide (n ≤ 1048576)) = false := by simp; omega
        rw [hd2]
        obtain ⟨U, hU⟩ : ∃ U, ((w4'.setCell ⟨B + 1, 0, none⟩ (.slice none 0 0)).setCell ⟨B + 1, 1, none⟩ (.int .i64 0)).setCell ⟨B + 1, 2, none⟩ (.bool false) = U := ⟨_, rfl⟩
        obtain ⟨ha, hg⟩ := HR4.out.ans (.slice none 0 0) 0 false
        rw [hU] at ha hg
        obtain ⟨q0, q1, q2, -⟩ := ha
        have HF : Hid (ansT PA.1 PA.2 w (.returned (.tuple #[.agg #[.slice none 0 0, .int .i64 0, .bool false], .int .i64 191])) U) := by
          have he : PA = (Tr.zero, 191) := by rw [← HPA.out]; exact ask_cost id n HC0.out HPL.out hcn
          rw [he]
          exact ans_none rfl (HB4.out.grown hg HB4.out.size (fun g' e => by simp at e; omega))
        clear hg
        go_wp2
        refine bodyPost_ret (v := .tuple #[.agg #[.slice none 0 0, .int .i64 0, .bool false], .int .i64 191]) ?hres rfl ?_
        case hres =>
          rw [results_cell_tmp rfl]
          go_simp
        exact HF.out
      · have hd2 : (decide (1 ≤ n) && decide (n ≤ 1048576)) = true := by simp; omega
        rw [hd2]
        have HEQ : Hid (PA = (⟨l.set k ((l.getD k Qu.zero).more n), z, f⟩, 0)) := by unfold Hid; rw [← HPA.out]; exact ask_ok id n HC0.out HPL.out hcn
        clear HIC HPL hd2
        have HCP := Hid.mkT (qcopyOfOf l _ w4' (HROW.out.later HB4.out) hfew)
        go_wp2_with fail
        refine HCP.out.mono ?_
        rintro e w5 ⟨g, vs, rs, rfl, hm5, hl5, hsm5, hb5⟩
        have hg5 : w4'.heap.size ≤ g := hm5.new g rfl
        have HTN := Hid.mkT (CopQ.tur (w := w) (w0 := w) HROW.out hm5 hl5 hsm5 z f ⟨hz1, hz2⟩)
        have HT5 := Hid.mkT (HT4.out.later hb5)
        have HR5 := Hid.mkT (HR4.out.later hb5)
        have HB5 := Hid.mkT (below_of HB4.out hb5)
        have hs5 := hb5.size
        clear m0 m1 m2 mf0 mf1 mf2 r0 r1 r2 rf0 rf1 rf2 HCP hm5 hl5 hsm5 hb5
        obtain ⟨w6, hw6⟩ : ∃ w6, w5.setCell ⟨B, 0, none⟩ (.slice (some ⟨g, 0, none⟩) l.length l.length) = w6 := ⟨_, rfl⟩
        have k6 : w5.grownBy w6 (some B) := by rw [← hw6]; exact grow_setT w5 B 0 _
        have ht6 := HT5.out.setV (.slice (some ⟨g, 0, none⟩) l.length l.length)
        rw [hw6] at ht6
        have hr6 : TuB w6 (B + 1) (.slice none 0 0) 0 false := HR5.out.kept k6 (by simp)
        have hn6 := HTN.out.kept k6 (by omega)
        have hb6 : Below w.heap.size w w6 := HB5.out.grown k6 HB5.out.size (fun g' e => by simp at e; omega)
        obtain ⟨m0, m1, m2, mf⟩ := HT5.out
        have mf0 := mf 0 (by omega)
        clear mf
        have hs6 := k6.size
        obtain ⟨ca, cc, c3, -, hrow⟩ := hn6.at hkl2
        obtain ⟨w7, hw7⟩ : ∃ w7, w6.alloc (.cells #[.int .i64 n] 3) = w7 := ⟨_, rfl⟩
        have b7 : Below w6.heap.size w6 w7 := by rw [← hw7]; exact (Below.refl _ _).alloc (Nat.le_refl _) _
        have HSO : Hid (Src Try.prog 1 35 (.slice (some ⟨w6.heap.size, 0, none⟩) 1 1) [n].length (ints [n]) w7) := by have := srcOne w6 n; rw [hw7] at this; exact this
        have hn7 := hn6.later b7
        obtain ⟨ca7, cc7, c37, f37, hrow7⟩ := hn7.at hkl2
        rw [show w7.cell? ⟨g, k * 4 + 3, none⟩ = w6.cell? ⟨g, k * 4 + 3, none⟩ from b7.cell (p := ⟨g, k * 4 + 3, none⟩) (cell_lt c3), c3] at c37
        simp only [Option.some.injEq, Value.slice.injEq, true_and] at c37
        obtain ⟨rfl, rfl⟩ := c37
        have HN7 := Hid.mkT hn7
        have HT7 := Hid.mkT (ht6.later b7)
        have HR7 := Hid.mkT (hr6.later b7)
        have HB7 := Hid.mkT (below_of hb6 b7)
        have HROWK := Hid.mkT hrow7
        have hlk : (l.getD k Qu.zero).costs.length ≤ 17592186043904 := hlc k hkl2
        obtain ⟨n0, n1, n2, -⟩ := ht6
        obtain ⟨G, hG⟩ : ∃ G, w6.heap.size = G := ⟨_, rfl⟩
        rw [hG] at HSO
        have hs7 := b7.size
        rw [hG] at hs7
        have hkz : (k : Int) < (l.length : Int) := by omega
        obtain ⟨N, hN⟩ : ∃ N, (l.getD k Qu.zero).costs.length = N := ⟨_, rfl⟩
        have HNN := Hid.mkT hN
        obtain ⟨cs, hcs⟩ : ∃ cs, (l.getD k Qu.zero).costs = cs := ⟨_, rfl⟩
        have HCS := Hid.mkT hcs
        rw [hN] at c3 HROWK
        rw [hcs] at HROWK hN
        have hNL : cs.length = N := hN
        rw [HNN.out] at hlk
        clear hcs
        clear hn6 hn7 hrow hrow7 hb6 hr6 b7 k6 f37 hN
        go_wp2_with (at_builtin; refine wpList_append_o _ rfl _ _ rfl _ _ cs [n] (rs.getD k none) rfl rfl ?hOwn ?hSrc ?hLen (.inr (by simp)) ?_)
        case hOwn => exact HROWK.out
        case hSrc => exact HSO.out
        case hLen => show cs.length + 1 ≤ _; omega
        intro v8 w8 g8 ho8 hg8 hr8
        obtain ⟨a8, c8, e8, -, -⟩ := ho8.shape
        subst e8
        have ho8' := ho8
        rw [← HCS.out] at ho8'
        have hlk2 : (l.getD k Qu.zero).costs.length < 17592186044000 := by rw [HCS.out]; omega
        have hne : ∀ g', rs.getD k none = some g' → w4'.heap.size ≤ g' := fun g' e => HN7.out.mem.newc k (by simpa using hkl2) g' e
        have hBne : rs.getD k none ≠ some B := fun e => by have := hne B e; omega
        have hRne : rs.getD k none ≠ some (B + 1) := fun e => by have := hne _ e; omega
        have hgne : rs.getD k none ≠ some g := fun e => HN7.out.mem.ap k (by simpa using hkl2) g e rfl
        have ht8 := HT7.out.kept hg8 hBne
        have hr8' := HR7.out.kept hg8 hRne
        have hb8 : Below w.heap.size w w8 := HB7.out.grown hg8 HB7.out.size (fun g' e => by have := hne g' e; omega)
        obtain ⟨vs9, rs9, h9⟩ := ask_tur HN7.out hkl2 n hn hlk2 ho8' hg8 (by rcases hr8 with e | e; (exact .inl e); (exact .inr e))
        have hcg : w8.cell? ⟨g, k * 4 + 3, none⟩ = w7.cell? ⟨g, k * 4 + 3, none⟩ := World.cell?_of_block (w := w7) (a := ⟨g, k * 4 + 3, none⟩) (hg8.block g (HN7.out.mem.lts.1 g rfl) (fun e => hgne e.symm))
        have hfg : w8.frozen? ⟨g, k * 4 + 3, none⟩ = w7.frozen? ⟨g, k * 4 + 3, none⟩ := World.frozen?_of_block (w := w7) (a := ⟨g, k * 4 + 3, none⟩) (hg8.block g (HN7.out.mem.lts.1 g rfl) (fun e => hgne e.symm))
        obtain ⟨ca9, cc9, c39, f39, -⟩ := HN7.out.at hkl2
        rw [← hcg] at c39
        rw [← hfg] at f39
        obtain ⟨w9, hw9⟩ : ∃ w9, w8.setCell ⟨g, k * 4 + 3, none⟩ (.slice a8 (cs ++ [n]).length c8) = w9 := ⟨_, rfl⟩
        rw [HCS.out, hw9] at h9
        have k9 : w8.grownBy w9 (some g) := by rw [← hw9]; exact grow_setT w8 g _ _
        have ht9 := ht8.kept k9 (by simp; omega)
        have HR9 := Hid.mkT (hr8'.kept k9 (by simp; omega))
        have HB9 : Hid (Below w.heap.size w w9) := hb8.grown k9 hb8.size (fun g' e => by simp at e; omega)
        have H9 := Hid.mkT h9
        clear n0 n1 n2 m0 m1 m2 mf0
        obtain ⟨m0, m1, m2, -⟩ := ht9
        obtain ⟨r0, r1, r2, rf⟩ := HR9.out
        have rf0 := rf 0 (by omega)
        have rf1 := rf 1 (by omega)
        have rf2 := rf 2 (by omega)
        clear rf h9 k9 ht8 hr8' hb8 hcg hfg ho8 ho8' hlk2 hg8 hr8 hne hBne hRne hgne
        generalize (cs ++ [n]).length = N9 at *
        obtain ⟨U, hU⟩ : ∃ U, ((w9.setCell ⟨B + 1, 0, none⟩ (.slice (some ⟨g, 0, none⟩) l.length l.length)).setCell ⟨B + 1, 1, none⟩ (.int .i64 z)).setCell ⟨B + 1, 2, none⟩ (.bool f) = U := ⟨_, rfl⟩
        obtain ⟨ha, hg⟩ := HR9.out.ans (.slice (some ⟨g, 0, none⟩) l.length l.length) z f
        rw [hU] at ha hg
        obtain ⟨q0, q1, q2, -⟩ := ha
        have HF : Hid (ansT PA.1 PA.2 w (.returned (.tuple #[.agg #[.slice (some ⟨g, 0, none⟩) l.length l.length, .int .i64 z, .bool f], .int .i64 0])) U) := by
          rw [HEQ.out]
          exact ans_some (t := ⟨l.set k ((l.getD k Qu.zero).more n), z, f⟩) (by simp) ⟨_, _, _, (H9.out.kept hg (by omega)).lower (by omega)⟩ (HB9.out.grown hg HB9.out.size (fun g' e => by simp at e; omega))
        clear hg
        go_wp2
        refine bodyPost_ret (v := .tuple #[.agg #[.slice (some ⟨g, 0, none⟩) l.length l.length, .int .i64 z, .bool f], .int .i64 0]) ?hres rfl ?_
        case hres =>
          rw [results_cell_tmp rfl]
          go_simp
        exact HF.out
    · have hpl := (HFD.out.place HOK.out.riseL).2 hfd
      have hdd : decide (k < l.length ∧ (l.getD k Qu.zero).id = id) = false := by simp only [decide_eq_false_iff_not]; exact hfd
      rw [hdd]
      have HPL := Hid.mkT hpl
      clear hfd hdd hpl
      obtain ⟨U, hU⟩ : ∃ U, ((w4.setCell ⟨B + 1, 0, none⟩ (.slice none 0 0)).setCell ⟨B + 1, 1, none⟩ (.int .i64 0)).setCell ⟨B + 1, 2, none⟩ (.bool false) = U := ⟨_, rfl⟩
      obtain ⟨ha, hg⟩ := HR4.out.ans (.slice none 0 0) 0 false
      rw [hU] at ha hg
      obtain ⟨q0, q1, q2, -⟩ := ha
      have HF : Hid (ansT PA.1 PA.2 w (.returned (.tuple #[.agg #[.slice none 0 0, .int .i64 0, .bool false], .int .i64 190])) U) := by
        have he : PA = (Tr.zero, 190) := by rw [← HPA.out]; exact ask_none id n HC0.out HPL.out
        rw [he]
        exact ans_none rfl (HB4.out.grown hg HB4.out.size (fun g' e => by simp at e; omega))
      clear hg
      go_wp2
      refine bodyPost_ret (v := .tuple #[.agg #[.slice none 0 0, .int .i64 0, .bool false], .int .i64 190]) ?hres rfl ?_
      case hres =>
        rw [results_cell_tmp rfl]
        go_simp
      exact HF.out
  · have HC0 := Hid.mkT hck
    obtain ⟨E, hE⟩ : ∃ E, chkT ⟨l, z, f⟩ = E := ⟨_, rfl⟩
    have hE0 : ¬ E = 0 := by rw [← hE]; exact hck
    have HEE := Hid.mkT hE
    rw [hE]
    clear hck hE
    obtain ⟨U, hU⟩ : ∃ U, ((w3.setCell ⟨B + 1, 0, none⟩ (.slice none 0 0)).setCell ⟨B + 1, 1, none⟩ (.int .i64 0)).setCell ⟨B + 1, 2, none⟩ (.bool false) = U := ⟨_, rfl⟩
    obtain ⟨ha, hg⟩ := HR3.out.ans (.slice none 0 0) 0 false
    rw [hU] at ha hg
    obtain ⟨q0, q1, q2, -⟩ := ha
    have HF : Hid (ansT PA.1 PA.2 w (.returned (.tuple #[.agg #[.slice none 0 0, .int .i64 0, .bool false], .int .i64 E])) U) := by
      have he : PA = (Tr.zero, E) := by rw [← HPA.out, ← HEE.out]; exact ask_chk id n HC0.out
      rw [he]
      exact ans_none rfl (HB3.out.grown hg HB3.out.size (fun g' e => by simp at e; omega))
    clear hg
    go_wp2
    refine bodyPost_ret (v := .tuple #[.agg #[.slice none 0 0, .int .i64 0, .bool false], .int .i64 E]) ?hres rfl ?_
    case hres =>
      rw [results_cell_tmp rfl]
      go_simp
    exact HF.out
end Go.Proofs.Ytelhjdplghpnbab
