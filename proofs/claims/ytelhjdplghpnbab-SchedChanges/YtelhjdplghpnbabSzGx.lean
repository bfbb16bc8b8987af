import Derived.Test.YtelhjdplghpnbabQz
import Derived.Test.YtelhjdplghpnbabSyU
/-! The document's Enter, walked. -/
namespace Go.Proofs.Ytelhjdplghpnbab
open Go.RowKit Plain
set_option linter.unusedVariables false
set_option linter.unusedSimpArgs false

/-- The first k, the new one, then those up to j. -/
def insV (vs : List Qv) (x : Qv) (k j : Nat) : List Qv := vs.take k ++ x :: (vs.take j).drop k
theorem insV_start (vs : List Qv) (x : Qv) (k : Nat) : insV vs x k k = vs.take k ++ [x] := by
  unfold insV
  have : (vs.take k).drop k = [] := List.drop_eq_nil_of_le (by simp; omega)
  rw [this]
theorem insV_more {vs : List Qv} {x : Qv} {k j : Nat} (hk : k ≤ j) (hj : j < vs.length) : insV vs x k (j + 1) = insV vs x k j ++ [vs.getD j Qv.zero] := by
  unfold insV
  rw [take_snocV vs j hj, List.drop_append_of_le_length (by simp; omega), List.append_assoc, List.cons_append]
theorem insV_all (vs : List Qv) (x : Qv) (k : Nat) : insV vs x k vs.length = vs.take k ++ x :: vs.drop k := by unfold insV; rw [List.take_length]
theorem insV_len {vs : List Qv} {x : Qv} {k j : Nat} : (insV vs x k j).length ≤ vs.length + 1 := by
  unfold insV
  simp
  omega
set_option maxHeartbeats 8000000 in
set_option maxRecDepth 100000 in
theorem renterOk : REnterOk := by
  intro t id n v w h hid hn
  have HT := Hid.mkT h
  obtain ⟨l, z, f⟩ := t
  obtain ⟨hrow, hz1, hz2⟩ := h
  simp only at hrow hz1 hz2
  obtain ⟨a, cap, rfl, hl⟩ := hrow.shape
  have HROW := Hid.mkT hrow
  clear hrow
  unfold turV
  simp only
  obtain ⟨w1, hw1⟩ : ∃ w1, w.alloc (.cells #[.slice a l.length cap, .int .i64 z, .bool f] 24) = w1 := ⟨_, rfl⟩
  obtain ⟨w2, hw2⟩ : ∃ w2, w1.alloc (.cells #[.slice none 0 0, .int .i64 0, .bool false] 24) = w2 := ⟨_, rfl⟩
  obtain ⟨hb2, hs1, hs2, ht2, hr2⟩ := boxes w (.slice a l.length cap) z f w1 w2 hw1 hw2
  obtain ⟨B, hB⟩ : ∃ B, w.heap.size = B := ⟨_, rfl⟩
  rw [hB] at hs1 hs2 ht2 hr2
  have HB2 := Hid.mkT hb2
  have HTB := Hid.mkT ht2
  have HRB := Hid.mkT hr2
  obtain ⟨m0, m1, m2, -⟩ := ht2
  clear hr2 hb2
  have HCK := Hid.mkT (rcheckOf ⟨l, z, f⟩ (.slice a l.length cap) w2 (HT.out.later HB2.out))
  unfold turV at HCK
  simp only at HCK
  obtain ⟨PA, hPA⟩ : ∃ PA, entT ⟨l, z, f⟩ id n = PA := ⟨_, rfl⟩
  have HPA := Hid.mkT hPA
  rw [hPA]
  clear hPA
  go_enter Try.func12, Try.ntmps12
  go_wp2_with fail
  refine HCK.out.mono ?_
  rintro e w3 ⟨rfl, hb3⟩
  have HB3 := Hid.mkT (below_of HB2.out hb3)
  have HT3 := Hid.mkT (HTB.out.later hb3)
  have HR3 := Hid.mkT (HRB.out.later hb3)
  have hs3 := hb3.size
  rw [hs2] at hs3
  clear m0 m1 m2 hb3 HCK HTB HRB
  obtain ⟨m0, m1, m2, mf⟩ := HT3.out
  obtain ⟨r0, r1, r2, rf⟩ := HR3.out
  have rf0 := rf 0 (by omega)
  have rf1 := rf 1 (by omega)
  have rf2 := rf 2 (by omega)
  clear mf rf
  by_cases hck : chkT ⟨l, z, f⟩ = 0
  · have HC0 := Hid.mkT hck
    rw [hck]
    have hok := chk_ok.mp hck
    have hfew : l.length ≤ 32 := hok.few
    have HOK := Hid.mkT hok
    have HFN := Hid.mkT (rplaceOf ⟨l, z, f⟩ id hid (.slice a l.length cap) w3 (HT.out.later HB3.out))
    unfold turV at HFN
    simp only at HFN
    clear hck hok
    obtain ⟨PL, hPL⟩ : ∃ PL, placeL l id = PL := ⟨_, rfl⟩
    have HPL := Hid.mkT hPL
    rw [hPL] at HFN
    clear hPL
    go_wp2_with fail
    refine HFN.out.mono ?_
    rintro e w4 ⟨rfl, hb4⟩
    have HT4 := Hid.mkT (HT3.out.later hb4)
    have HR4 := Hid.mkT (HR3.out.later hb4)
    have HB4 := Hid.mkT (below_of HB3.out hb4)
    have hs4 : B + 1 + 1 ≤ w4.heap.size := by have := hb4.size; omega
    clear m0 m1 m2 r0 r1 r2 rf0 rf1 rf2 HFN HT3 HR3 hb4
    obtain ⟨m0, m1, m2, mf⟩ := HT4.out
    obtain ⟨r0, r1, r2, rf⟩ := HR4.out
    have rf0 := rf 0 (by omega)
    have rf1 := rf 1 (by omega)
    have rf2 := rf 2 (by omega)
    have mf0 := mf 0 (by omega)
    have mf1 := mf 1 (by omega)
    have mf2 := mf 2 (by omega)
    clear mf rf
    rcases place_cases (l := l) id with hp | ⟨kk, hp, hkl2⟩
    rotate_left
    · obtain rfl : PL = (kk : Int) := by rw [← HPL.out]; exact hp
      obtain ⟨U, hU⟩ : ∃ U, ((w4.setCell ⟨B + 1, 0, none⟩ (.slice none 0 0)).setCell ⟨B + 1, 1, none⟩ (.int .i64 0)).setCell ⟨B + 1, 2, none⟩ (.bool false) = U := ⟨_, rfl⟩
      obtain ⟨ha, hg⟩ := HR4.out.ans (.slice none 0 0) 0 false
      rw [hU] at ha hg
      obtain ⟨q0, q1, q2, -⟩ := ha
      have HF : Hid (ansT PA.1 PA.2 w (.returned (.tuple #[.agg #[.slice none 0 0, .int .i64 0, .bool false], .int .i64 190])) U) := by
        have he : PA = (Tr.zero, 190) := by rw [← HPA.out]; exact ent_no id n HC0.out (.inl (by rw [HPL.out]; omega))
        rw [he]
        exact ans_none rfl (HB4.out.grown hg HB4.out.size (fun g' e => by simp at e; omega))
      clear hg
      go_wp2
      refine bodyPost_ret (v := .tuple #[.agg #[.slice none 0 0, .int .i64 0, .bool false], .int .i64 190]) ?hres rfl ?_
      case hres =>
        rw [results_cell_tmp rfl]
        go_simp
      exact HF.out
    obtain rfl : PL = -1 := by rw [← HPL.out]; exact hp
    by_cases h32 : 32 ≤ l.length
    · have h32z : (32 : Int) ≤ (l.length : Int) := by omega
      obtain ⟨U, hU⟩ : ∃ U, ((w4.setCell ⟨B + 1, 0, none⟩ (.slice none 0 0)).setCell ⟨B + 1, 1, none⟩ (.int .i64 0)).setCell ⟨B + 1, 2, none⟩ (.bool false) = U := ⟨_, rfl⟩
      obtain ⟨ha, hg⟩ := HR4.out.ans (.slice none 0 0) 0 false
      rw [hU] at ha hg
      obtain ⟨q0, q1, q2, -⟩ := ha
      have HF : Hid (ansT PA.1 PA.2 w (.returned (.tuple #[.agg #[.slice none 0 0, .int .i64 0, .bool false], .int .i64 190])) U) := by
        have he : PA = (Tr.zero, 190) := by rw [← HPA.out]; exact ent_no id n HC0.out (.inr (.inl h32))
        rw [he]
        exact ans_none rfl (HB4.out.grown hg HB4.out.size (fun g' e => by simp at e; omega))
      clear hg
      go_wp2
      refine bodyPost_ret (v := .tuple #[.agg #[.slice none 0 0, .int .i64 0, .bool false], .int .i64 190]) ?hres rfl ?_
      case hres =>
        rw [results_cell_tmp rfl]
        go_simp
      exact HF.out
    have h32z : ¬ (32 : Int) ≤ (l.length : Int) := by omega
    by_cases hid0 : id < 0
    · obtain ⟨U, hU⟩ : ∃ U, ((w4.setCell ⟨B + 1, 0, none⟩ (.slice none 0 0)).setCell ⟨B + 1, 1, none⟩ (.int .i64 0)).setCell ⟨B + 1, 2, none⟩ (.bool false) = U := ⟨_, rfl⟩
      obtain ⟨ha, hg⟩ := HR4.out.ans (.slice none 0 0) 0 false
      rw [hU] at ha hg
      obtain ⟨q0, q1, q2, -⟩ := ha
      have HF : Hid (ansT PA.1 PA.2 w (.returned (.tuple #[.agg #[.slice none 0 0, .int .i64 0, .bool false], .int .i64 190])) U) := by
        have he : PA = (Tr.zero, 190) := by rw [← HPA.out]; exact ent_no id n HC0.out (.inr (.inr (.inl hid0)))
        rw [he]
        exact ans_none rfl (HB4.out.grown hg HB4.out.size (fun g' e => by simp at e; omega))
      clear hg
      go_wp2
      refine bodyPost_ret (v := .tuple #[.agg #[.slice none 0 0, .int .i64 0, .bool false], .int .i64 190]) ?hres rfl ?_
      case hres =>
        rw [results_cell_tmp rfl]
        go_simp
      exact HF.out
    by_cases hn1 : n < 1
    · obtain ⟨U, hU⟩ : ∃ U, ((w4.setCell ⟨B + 1, 0, none⟩ (.slice none 0 0)).setCell ⟨B + 1, 1, none⟩ (.int .i64 0)).setCell ⟨B + 1, 2, none⟩ (.bool false) = U := ⟨_, rfl⟩
      obtain ⟨ha, hg⟩ := HR4.out.ans (.slice none 0 0) 0 false
      rw [hU] at ha hg
      obtain ⟨q0, q1, q2, -⟩ := ha
      have HF : Hid (ansT PA.1 PA.2 w (.returned (.tuple #[.agg #[.slice none 0 0, .int .i64 0, .bool false], .int .i64 190])) U) := by
        have he : PA = (Tr.zero, 190) := by rw [← HPA.out]; exact ent_no id n HC0.out (.inr (.inr (.inr (.inl hn1))))
        rw [he]
        exact ans_none rfl (HB4.out.grown hg HB4.out.size (fun g' e => by simp at e; omega))
      clear hg
      go_wp2
      refine bodyPost_ret (v := .tuple #[.agg #[.slice none 0 0, .int .i64 0, .bool false], .int .i64 190]) ?hres rfl ?_
      case hres =>
        rw [results_cell_tmp rfl]
        go_simp
      exact HF.out
    by_cases hn2 : 65536 < n
    · obtain ⟨U, hU⟩ : ∃ U, ((w4.setCell ⟨B + 1, 0, none⟩ (.slice none 0 0)).setCell ⟨B + 1, 1, none⟩ (.int .i64 0)).setCell ⟨B + 1, 2, none⟩ (.bool false) = U := ⟨_, rfl⟩
      obtain ⟨ha, hg⟩ := HR4.out.ans (.slice none 0 0) 0 false
      rw [hU] at ha hg
      obtain ⟨q0, q1, q2, -⟩ := ha
      have HF : Hid (ansT PA.1 PA.2 w (.returned (.tuple #[.agg #[.slice none 0 0, .int .i64 0, .bool false], .int .i64 190])) U) := by
        have he : PA = (Tr.zero, 190) := by rw [← HPA.out]; exact ent_no id n HC0.out (.inr (.inr (.inr (.inr hn2))))
        rw [he]
        exact ans_none rfl (HB4.out.grown hg HB4.out.size (fun g' e => by simp at e; omega))
      clear hg
      go_wp2
      refine bodyPost_ret (v := .tuple #[.agg #[.slice none 0 0, .int .i64 0, .bool false], .int .i64 190]) ?hres rfl ?_
      case hres =>
        rw [results_cell_tmp rfl]
        go_simp
      exact HF.out
    have HEQ0 : Hid (∀ k, Fnd l id k → PA = (⟨l.take k ++ ⟨id, n, 0, []⟩ :: l.drop k, if 0 < l.length ∧ (k : Int) ≤ z then z + 1 else z, f⟩, 0)) := fun k hf => by
      rw [← HPA.out]
      refine ent_yes id n HC0.out hf ?_
      rintro (x | x | x | x | x)
      · rw [HPL.out] at x; omega
      · have : 32 ≤ l.length := x; omega
      · omega
      · omega
      · omega
    have hz32 : 0 ≤ z ∧ z ≤ 32 ∧ (0 < l.length → z < l.length) := by
      have h1 := HOK.out.lo
      have h2 := HOK.out.hi
      simp only at h1 h2
      omega
    have HRISE := Hid.mkT (fun j i h1 h2 => rise_mono HOK.out.riseL j i h1 h2)
    simp only at HRISE
    clear hp
    have HCP := Hid.mkT (rcopiedOf ⟨l, z, f⟩ (.slice a l.length cap) w4 (HT.out.later HB4.out))
    unfold turV at HCP
    simp only at HCP
    go_wp2_with fail
    refine HCP.out.mono ?_
    rintro e w5 ⟨ca, cN, cc, vs, r, rs, rfl, hm5, hl5, hsm5, hb5⟩
    simp only at hm5 hl5 hsm5
    have HTN := Hid.mkT (CopP.tur (w0 := w) HROW.out hm5 hl5 hsm5 z f ⟨hz1, hz2⟩)
    have HT5 := Hid.mkT (HT4.out.later hb5)
    have HR5 := Hid.mkT (HR4.out.later hb5)
    have HB5 := Hid.mkT (below_of HB4.out hb5)
    have hs5 := hb5.size
    clear m0 m1 m2 mf0 mf1 mf2 r0 r1 r2 rf0 rf1 rf2 HCP hm5 hl5 hsm5 hb5
    have hvl : vs.length = l.length := HTN.out.len
    obtain ⟨ca', cc', ecv, -, -⟩ := HTN.out.mem.row.shape
    rw [hvl] at ecv
    simp only [Value.slice.injEq] at ecv
    obtain ⟨rfl, rfl, rfl⟩ := ecv
    have HGG : Hid (0 < l.length → ∃ g, r = some g ∧ ca = some ⟨g, 0, none⟩ ∧ w4.heap.size ≤ g) := fun h0 => by
      obtain ⟨g, c', e1, e2⟩ := HTN.out.mem.row.some (by rw [HTN.out.len]; exact h0)
      simp only [Value.slice.injEq] at e2
      exact ⟨g, e1, e2.1, HTN.out.mem.new g e1⟩
    obtain ⟨w6, hw6⟩ : ∃ w6, w5.alloc (.cells #[.slice ca l.length cc, .int .i64 z, .bool f] 24) = w6 := ⟨_, rfl⟩
    have b6 : Below w5.heap.size w5 w6 := by rw [← hw6]; exact (Below.refl _ _).alloc (Nat.le_refl _) _
    obtain ⟨C, hC⟩ : ∃ C, w5.heap.size = C := ⟨_, rfl⟩
    have hc6 : TuB w6 C (.slice ca l.length cc) z f := by have := TuB.new w5 (.slice ca l.length cc) z f; rw [hw6, hC] at this; exact this
    have ht6 := HT5.out.later b6
    obtain ⟨w7, hw7⟩ : ∃ w7, w6.alloc (.cells #[.slice none 0 0, .int .i64 z, .bool f] 24) = w7 := ⟨_, rfl⟩
    have b7 : Below w6.heap.size w6 w7 := by rw [← hw7]; exact (Below.refl _ _).alloc (Nat.le_refl _) _
    obtain ⟨O, hO⟩ : ∃ O, w6.heap.size = O := ⟨_, rfl⟩
    have ho7 : TuB w7 O (.slice none 0 0) z f := by have := TuB.new w6 (.slice none 0 0) z f; rw [hw7, hO] at this; exact this
    obtain ⟨D, hD⟩ : ∃ D, w7.heap.size = D := ⟨_, rfl⟩
    have hCO : C < O := by rw [← hO]; exact hc6.lt
    have hOD : O < D := by rw [← hD]; exact ho7.lt
    have hgC : ∀ g, r = some g → g < C := fun g e => by rw [← hC]; exact HTN.out.mem.lts.1 g e
    have HN7 := Hid.mkT ((HTN.out.later b6).later b7)
    have HB7 := Hid.mkT (below_of (below_of HB5.out b6) b7)
    have HC7 := Hid.mkT (hc6.later b7)
    have HT7 := Hid.mkT (ht6.later b7)
    have HR7 := Hid.mkT ((HR5.out.later b6).later b7)
    have HRD : Hid (∀ j, j < l.length → ∀ q, rs.getD j none = some q → q < D ∧ q ≠ O) := fun j hj q e => by
      have := HTN.out.mem.lts.2 j (by simpa using hj) q e
      rw [hC] at this
      omega
    have HO0 : Hid (OuL w7 w7 D O (.slice none 0 0) [] none z f) := ⟨ho7, OwnQv.nil _, SvF.refl _ _ _ (by omega), by simp, hOD⟩
    have HCB : Hid (∀ u, SvF w7 u D O → u.cell? ⟨C, 0, none⟩ = some (.slice ca l.length cc) ∧ TuB u B (.slice a l.length cap) z f ∧ TuB u (B + 1) (.slice none 0 0) 0 false ∧ ∀ j, j < l.length → ∃ g, ca = some ⟨g, 0, none⟩ ∧ Qv.CellsAt u g (j * 4) (vs.getD j Qv.zero)) := fun u hu => by
      refine ⟨(HC7.out.block (hu.block C (by omega) (by omega))).b0, HT7.out.block (hu.block B (by omega) (by omega)), HR7.out.block (hu.block (B + 1) (by omega) (by omega)), fun j hj => ?_⟩
      obtain ⟨g, e1, e2, e3⟩ := HGG.out (by omega)
      have hrow := HN7.out.mem.row
      rw [e1, e2] at hrow
      exact ⟨g, e2, (hrow.at (j := j) (by rw [hvl]; exact hj)).block (hu.block g (by have := hgC g e1; omega) (by have := hgC g e1; omega))⟩
    obtain ⟨n0, n1, n2, -⟩ := hc6
    obtain ⟨p0, p1, p2, -⟩ := ht6
    clear b6 b7 ho7
    go_wp2
    go_loopw [11] (fun i u => ∃ (j : Nat) (ov : Value) (ro : Option Nat), j ≤ l.length ∧ i = .int .i64 j ∧ Hid (OuL w7 u D O ov (vs.take j) ro z f) ∧ Hid (∀ m, m < j → (l.getD m Qu.zero).id < id)) (fun i _ => l.length - (intOf i).toNat)
    case atStart => exact ⟨0, _, _, by omega, rfl, by rw [List.take_zero]; exact HO0.out, fun m hm => by omega⟩
    case round =>
      obtain ⟨j, ov, ro, hj, rfl, HL, HLO⟩ := hrel
      clear n0 n1 n2 p0 p1 p2
      obtain ⟨k0, ht, hrr, hcells⟩ := HCB.out wr HL.out.fr
      by_cases hlt : j < l.length
      · have hjz : (j : Int) < (l.length : Int) := by omega
        obtain ⟨g, rfl, q0, q1, q2, q3⟩ := hcells j hlt
        have hidj : (vs.getD j Qv.zero).id = (l.getD j Qu.zero).id := (HTN.out.same j hlt).1
        by_cases hlt3 : (l.getD j Qu.zero).id < id
        · have HLO2 : Hid (∀ m, m < j + 1 → (l.getD m Qu.zero).id < id) := fun m hm => by
            by_cases e : m = j
            · rw [e]; exact hlt3
            · exact HLO.out m (by omega)
          have hxl : (vs.getD j Qv.zero).id < id := by rw [hidj]; exact hlt3
          have HS : Hid (vs.take (j + 1) = vs.take j ++ [vs.getD j Qv.zero]) := take_snocV vs j (by rw [hvl]; exact hlt)
          have HLEN : Hid ((vs.take j).length ≤ 33) := by unfold Hid; simp; omega
          clear ht hrr hcells hlt3 hidj
          obtain ⟨LS, hLS⟩ : ∃ LS, vs.take j = LS := ⟨_, rfl⟩
          have HLS := Hid.mkT hLS
          rw [hLS] at HL HLEN
          clear hLS
          obtain ⟨x, hx⟩ : ∃ x, vs.getD j Qv.zero = x := ⟨_, rfl⟩
          have HX := Hid.mkT hx
          rw [hx] at q0 q1 q2 q3 hxl
          clear hx
          obtain ⟨xi, xq, xd, sa, sn, sc⟩ := x
          simp only at q0 q1 q2 q3 hxl
          obtain ⟨w8, hw8⟩ : ∃ w8, wr.drew.alloc (.cells #[.int .i64 xi, .int .i64 xq, .int .i64 xd, .slice sa sn sc] 37) = w8 := ⟨_, rfl⟩
          have b8 : Below wr.heap.size wr w8 := by rw [← hw8]; exact (Below.drew (Below.refl _ _)).alloc (Nat.le_refl _) _
          obtain ⟨F, hF⟩ : ∃ F, wr.heap.size = F := ⟨_, rfl⟩
          have HSR : Hid (Src Try.prog 4 22 (.slice (some ⟨F, 0, none⟩) 1 1) [(⟨xi, xq, xd, (sa, sn, sc)⟩ : Qv)].length (vcells [⟨xi, xq, xd, (sa, sn, sc)⟩]) w8) := by
            have := src_q wr.drew F (by rw [← hF]; rfl) ⟨xi, xq, xd, (sa, sn, sc)⟩
            simp only at this
            rw [hw8] at this
            exact this
          have HOV : Hid (OwnQv w8 ov (LS) ro) := HL.out.row.kept (below_grow b8 none) (by cases e : ro with | none => exact .inl rfl | some q => exact .inr (by simp))
          have hb8b := HL.out.box
          obtain ⟨z0, -, -, zf⟩ := HL.out.box
          have z0d : wr.drew.cell? ⟨O, 0, none⟩ = some ov := z0
          have z08 : w8.cell? ⟨O, 0, none⟩ = some ov := (HL.out.box.later b8).b0
          have k0d : wr.drew.cell? ⟨C, 0, none⟩ = some (.slice (some ⟨g, 0, none⟩) l.length cc) := k0
          have k08 : w8.cell? ⟨C, 0, none⟩ = some (.slice (some ⟨g, 0, none⟩) l.length cc) := (b8.cell (p := ⟨C, 0, none⟩) (cell_lt k0)).trans k0
          have e0 : w8.cell? ⟨g, j * 4, none⟩ = some (.int .i64 xi) := (b8.cell (p := ⟨g, j * 4, none⟩) (cell_lt q0)).trans q0
          have e1 : w8.cell? ⟨g, j * 4 + 1, none⟩ = some (.int .i64 xq) := (b8.cell (p := ⟨g, j * 4 + 1, none⟩) (cell_lt q1)).trans q1
          have e2 : w8.cell? ⟨g, j * 4 + 2, none⟩ = some (.int .i64 xd) := (b8.cell (p := ⟨g, j * 4 + 2, none⟩) (cell_lt q2)).trans q2
          have e3 : w8.cell? ⟨g, j * 4 + 3, none⟩ = some (.slice sa sn sc) := (b8.cell (p := ⟨g, j * 4 + 3, none⟩) (cell_lt q3)).trans q3
          obtain ⟨oa, oc, hov, -, -⟩ := HL.out.row.shape
          have HLL : Hid ((LS).length ≤ 33) := HLEN.out
          have HB8 := Hid.mkT b8
          subst hov
          clear b8 hb8b zf
          go_wp2_with fail
          go_region_law (refine step_append_v rfl (.tmp 64) (.tmp 70) rfl (.slice oa (LS).length oc) (.slice (some ⟨F, 0, none⟩) 1 1) (LS) [⟨xi, xq, xd, (sa, sn, sc)⟩] ro (by first | rfl | simp [Act.eval, Act.put]) (by first | rfl | simp [Act.eval, Act.put]) (by first | exact HOV.out | (rw [hw8]; exact HOV.out)) (by first | exact HSR.out | (rw [hw8]; exact HSR.out)) (by have := HLL.out; simp only [List.length_cons, List.length_nil]; omega) (.inr (by simp)) ?_
                         try rw [hw8]
                         intro v9 w9 g9 ho9 hg9 hr9
                         obtain ⟨hmore, hbox9⟩ := HL.out.more HB8.out ho9 hg9 hr9
                         obtain ⟨a9, c9, e9, -, -⟩ := ho9.shape
                         subst e9
                         have z09 := hbox9.b0
                         have zf9 := hbox9.fz 0 (by omega)
                         simp only [List.length_append, List.length_cons, List.length_nil, Nat.zero_add] at hmore
                         have HMO := Hid.mkT hmore
                         clear hmore hbox9 ho9 hg9 hr9)
          all_goals
            go_wp2
            go_roundw
            case rel => exact ⟨j + 1, _, _, by omega, by go_num, by rw [HS.out, HX.out, HLS.out]; exact HMO.out, HLO2.out⟩
            case measure => simp only [intOf]; omega
        · have HFD : Hid (Fnd l id j) := ⟨hj, HLO.out, fun m h1 h2 => by
            by_cases e : m = j
            · rw [e]; omega
            · have := HRISE.out m j (by omega) h2; omega⟩
          have hxl : ¬ (vs.getD j Qv.zero).id < id := by rw [hidj]; exact hlt3
          generalize vs.getD j Qv.zero = x at *
          obtain ⟨xi, xq, xd, sa, sn, sc⟩ := x
          simp only at q0 hxl
          clear hidj q1 q2 q3 HLO
          have hl0z : (0 : Int) < (l.length : Int) := by omega
          obtain ⟨m0, m1, m2, -⟩ := ht
          by_cases hkz : (j : Int) ≤ z
          · have HEQ : Hid (PA = (⟨l.take j ++ ⟨id, n, 0, []⟩ :: l.drop j, z + 1, f⟩, 0)) := by unfold Hid; rw [HEQ0.out j HFD.out, if_pos ⟨by omega, hkz⟩]
            obtain ⟨wz, hwz⟩ : ∃ wz, wr.setCell ⟨O, 1, none⟩ (.int .i64 (z + 1)) = wz := ⟨_, rfl⟩
            have hzz := HL.out.setAt (z + 1)
            rw [hwz] at hzz
            have HLZ := Hid.mkT hzz
            clear hzz
            have hkl : j ≤ l.length := HFD.out.le
            obtain ⟨w8, hw8⟩ : ∃ w8, wz.alloc (.cells #[.int .i64 id, .int .i64 n, .int .i64 0, .slice none 0 0] 37) = w8 := ⟨_, rfl⟩
            have b8 : Below wz.heap.size wz w8 := by rw [← hw8]; exact (Below.refl _ _).alloc (Nat.le_refl _) _
            obtain ⟨F, hF⟩ : ∃ F, wz.heap.size = F := ⟨_, rfl⟩
            have HSR : Hid (Src Try.prog 4 22 (.slice (some ⟨F, 0, none⟩) 1 1) [(⟨id, n, 0, (none, 0, 0)⟩ : Qv)].length (vcells [⟨id, n, 0, (none, 0, 0)⟩]) w8) := by
              have := src_q wz F hF ⟨id, n, 0, (none, 0, 0)⟩
              simp only at this
              rw [hw8] at this
              exact this
            have HOV : Hid (OwnQv w8 ov (vs.take j) ro) := HLZ.out.row.kept (below_grow b8 none) (by cases e : ro with | none => exact .inl rfl | some q => exact .inr (by simp))
            obtain ⟨oa, oc, hov, -, -⟩ := HLZ.out.row.shape
            have HB8 := Hid.mkT b8
            have htl : (vs.take j).length = j := by simp; omega
            rw [htl] at hov
            subst hov
            obtain ⟨z0, z1, z2, zf⟩ := HL.out.box
            have zf1 := zf 1 (by omega)
            obtain ⟨y0, -, -, -⟩ := HLZ.out.box
            have y08 := (HLZ.out.box.later b8).b0
            have HTL := Hid.mkT htl
            clear zf b8 htl hrr hcells
            go_wp2_with (at_builtin; refine wpList_append_v _ rfl _ _ rfl _ _ (vs.take j) [⟨id, n, 0, (none, 0, 0)⟩] ro rfl rfl ?hOwn ?hSrc ?hLen (.inr (Nat.succ_pos _)) ?_)
            case hOwn => exact HOV.out
            case hSrc => exact HSR.out
            case hLen => first | omega | (rw [HTL.out]; simp; omega)
            intro v9 w9 g9 ho9 hg9 hr9
            obtain ⟨hmore, hbox9⟩ := HLZ.out.more HB8.out ho9 hg9 hr9
            obtain ⟨a9, c9, e9, -, -⟩ := ho9.shape
            subst e9
            simp only [List.length_append, List.length_cons, List.length_nil, Nat.zero_add, HTL.out] at hmore
            have z09 := hbox9.b0
            have zf9 := hbox9.fz 0 (by omega)
            rw [← insV_start vs ⟨id, n, 0, (none, 0, 0)⟩ j] at hmore
            have HI0 := Hid.mkT hmore
            clear hmore hbox9 ho9 hg9 hr9 HOV HSR HB8 z0 z1 z2 zf1 y0 y08 m0 m1 m2 k0 q0 hxl
            simp only [List.length_append, List.length_cons, List.length_nil, Nat.zero_add, HTL.out]
            go_wp2
            go_loopw [11] (fun i u => ∃ (jj : Nat) (ov : Value) (ro : Option Nat), j ≤ jj ∧ jj ≤ l.length ∧ i = .int .i64 jj ∧ Hid (OuL w7 u D O ov (insV vs ⟨id, n, 0, (none, 0, 0)⟩ j jj) ro (z + 1) f)) (fun i _ => l.length - (intOf i).toNat)
            case atStart => exact ⟨j, _, _, by omega, by omega, rfl, HI0.out⟩
            case round =>
              obtain ⟨j2, ov, ro, hkj, hj2, rfl, HL2⟩ := hrel
              obtain ⟨k0, ht, hrr, hcells⟩ := HCB.out wr HL2.out.fr
              by_cases hlt2 : j2 < l.length
              · have hjz2 : (j2 : Int) < (l.length : Int) := by omega
                obtain ⟨g2, eg, q0, q1, q2, q3⟩ := hcells j2 hlt2
                have eg3 : g = g2 := by simp only [Option.some.injEq, Addr.mk.injEq] at eg; exact eg.1
                subst eg3
                have HS : Hid (insV vs ⟨id, n, 0, (none, 0, 0)⟩ j (j2 + 1) = insV vs ⟨id, n, 0, (none, 0, 0)⟩ j j2 ++ [vs.getD j2 Qv.zero]) := insV_more hkj (by rw [hvl]; exact hlt2)
                have HLEN : Hid ((insV vs ⟨id, n, 0, (none, 0, 0)⟩ j j2).length ≤ 33) := by have := insV_len (vs := vs) (x := ⟨id, n, 0, (none, 0, 0)⟩) (k := j) (j := j2); rw [hvl] at this; exact Nat.le_trans this (by omega)
                clear ht hrr hcells
                obtain ⟨LS, hLS⟩ : ∃ LS, insV vs ⟨id, n, 0, (none, 0, 0)⟩ j j2 = LS := ⟨_, rfl⟩
                have HLS := Hid.mkT hLS
                rw [hLS] at HL2 HLEN
                clear hLS
                obtain ⟨x, hx⟩ : ∃ x, vs.getD j2 Qv.zero = x := ⟨_, rfl⟩
                have HX := Hid.mkT hx
                rw [hx] at q0 q1 q2 q3
                clear hx
                obtain ⟨xi, xq, xd, sa, sn, sc⟩ := x
                simp only at q0 q1 q2 q3
                obtain ⟨w8, hw8⟩ : ∃ w8, wr.drew.alloc (.cells #[.int .i64 xi, .int .i64 xq, .int .i64 xd, .slice sa sn sc] 37) = w8 := ⟨_, rfl⟩
                have b8 : Below wr.heap.size wr w8 := by rw [← hw8]; exact (Below.drew (Below.refl _ _)).alloc (Nat.le_refl _) _
                obtain ⟨F, hF⟩ : ∃ F, wr.heap.size = F := ⟨_, rfl⟩
                have HSR : Hid (Src Try.prog 4 22 (.slice (some ⟨F, 0, none⟩) 1 1) [(⟨xi, xq, xd, (sa, sn, sc)⟩ : Qv)].length (vcells [⟨xi, xq, xd, (sa, sn, sc)⟩]) w8) := by
                  have := src_q wr.drew F (by rw [← hF]; rfl) ⟨xi, xq, xd, (sa, sn, sc)⟩
                  simp only at this
                  rw [hw8] at this
                  exact this
                have HOV : Hid (OwnQv w8 ov (LS) ro) := HL2.out.row.kept (below_grow b8 none) (by cases e : ro with | none => exact .inl rfl | some q => exact .inr (by simp))
                have hb8b := HL2.out.box
                obtain ⟨z0, -, -, zf⟩ := HL2.out.box
                have z0d : wr.drew.cell? ⟨O, 0, none⟩ = some ov := z0
                have z08 : w8.cell? ⟨O, 0, none⟩ = some ov := (HL2.out.box.later b8).b0
                have k0d : wr.drew.cell? ⟨C, 0, none⟩ = some (.slice (some ⟨g, 0, none⟩) l.length cc) := k0
                have k08 : w8.cell? ⟨C, 0, none⟩ = some (.slice (some ⟨g, 0, none⟩) l.length cc) := (b8.cell (p := ⟨C, 0, none⟩) (cell_lt k0)).trans k0
                have e0 : w8.cell? ⟨g, j2 * 4, none⟩ = some (.int .i64 xi) := (b8.cell (p := ⟨g, j2 * 4, none⟩) (cell_lt q0)).trans q0
                have e1 : w8.cell? ⟨g, j2 * 4 + 1, none⟩ = some (.int .i64 xq) := (b8.cell (p := ⟨g, j2 * 4 + 1, none⟩) (cell_lt q1)).trans q1
                have e2 : w8.cell? ⟨g, j2 * 4 + 2, none⟩ = some (.int .i64 xd) := (b8.cell (p := ⟨g, j2 * 4 + 2, none⟩) (cell_lt q2)).trans q2
                have e3 : w8.cell? ⟨g, j2 * 4 + 3, none⟩ = some (.slice sa sn sc) := (b8.cell (p := ⟨g, j2 * 4 + 3, none⟩) (cell_lt q3)).trans q3
                obtain ⟨oa, oc, hov, -, -⟩ := HL2.out.row.shape
                have HLL : Hid ((LS).length ≤ 33) := HLEN.out
                have HB8 := Hid.mkT b8
                subst hov
                clear b8 hb8b zf
                go_wp2_with fail
                go_region_law (refine step_append_v rfl (.tmp 103) (.tmp 109) rfl (.slice oa (LS).length oc) (.slice (some ⟨F, 0, none⟩) 1 1) (LS) [⟨xi, xq, xd, (sa, sn, sc)⟩] ro (by first | rfl | simp [Act.eval, Act.put]) (by first | rfl | simp [Act.eval, Act.put]) (by first | exact HOV.out | (rw [hw8]; exact HOV.out)) (by first | exact HSR.out | (rw [hw8]; exact HSR.out)) (by have := HLL.out; simp only [List.length_cons, List.length_nil]; omega) (.inr (by simp)) ?_
                               try rw [hw8]
                               intro v9 w9 g9 ho9 hg9 hr9
                               obtain ⟨hmore, hbox9⟩ := HL2.out.more HB8.out ho9 hg9 hr9
                               obtain ⟨a9, c9, e9, -, -⟩ := ho9.shape
                               subst e9
                               have z09 := hbox9.b0
                               have zf9 := hbox9.fz 0 (by omega)
                               simp only [List.length_append, List.length_cons, List.length_nil, Nat.zero_add] at hmore
                               have HMO := Hid.mkT hmore
                               clear hmore hbox9 ho9 hg9 hr9)
                all_goals
                  go_wp2
                  go_roundw
                  case rel => exact ⟨j2 + 1, _, _, by omega, by omega, by go_num, by rw [HS.out, HX.out, HLS.out]; exact HMO.out⟩
                  case measure => simp only [intOf]; omega
              · obtain rfl : j2 = l.length := by omega
                have hjz2 : ¬ (l.length : Int) < (l.length : Int) := by omega
                have HLA : Hid (insV vs ⟨id, n, 0, (none, 0, 0)⟩ j l.length = vs.take j ++ ⟨id, n, 0, (none, 0, 0)⟩ :: vs.drop j) := by unfold Hid; have hia := insV_all vs ⟨id, n, 0, (none, 0, 0)⟩ j; rw [hvl] at hia; exact hia
                rw [HLA.out] at HL2
                have hel : (vs.take j ++ (⟨id, n, 0, (none, 0, 0)⟩ : Qv) :: vs.drop j).length = l.length + 1 := by simp <;> omega
                have hel1 : (l.take j ++ (⟨id, n, 0, []⟩ : Qu) :: l.drop j).length = l.length + 1 := by simp <;> omega
                obtain ⟨oa2, oc2, hov, -, -⟩ := HL2.out.row.shape
                rw [hel] at hov
                subst hov
                obtain ⟨rs9, h9⟩ := pick_turF (z' := (z + 1)) (f' := f) (l' := l.take j ++ ⟨id, n, 0, []⟩ :: l.drop j) HN7.out HL2.out.row HL2.out.fr (by omega) HRD.out HL2.out.new (by rw [hel, hel1]) (by constructor <;> omega) (by rw [hel1]; omega) (fun jq => if jq < j then some jq else if jq = j then none else some (jq - 1))
                  (fun jq m hj hs => by
                    rw [hel1] at hj
                    rw [getD_insQ _ _ _ _ _ (by omega), getD_insQ _ _ _ _ _ hkl]
                    by_cases h1 : jq < j
                    · rw [if_pos h1] at hs
                      simp only [Option.some.injEq] at hs
                      subst hs
                      rw [if_pos h1, if_pos h1]
                      exact ⟨by omega, rfl, rfl⟩
                    · rw [if_neg h1] at hs
                      by_cases h2 : jq = j
                      · rw [if_pos h2] at hs; cases hs
                      · rw [if_neg h2] at hs
                        simp only [Option.some.injEq] at hs
                        subst hs
                        rw [if_neg h1, if_neg h2, if_neg h1, if_neg h2]
                        exact ⟨by omega, rfl, rfl⟩)
                  (fun jq hj hs => by
                    have hjk : jq = j := by
                      by_cases h1 : jq < j
                      · rw [if_pos h1] at hs; cases hs
                      · rw [if_neg h1] at hs
                        by_cases h2 : jq = j
                        · exact h2
                        · rw [if_neg h2] at hs; cases hs
                    rw [getD_insQ _ _ _ _ _ (by omega), getD_insQ _ _ _ _ _ hkl, if_neg (by omega), if_pos hjk, if_neg (by omega), if_pos hjk]
                    exact ⟨id, n, hid, hn, rfl, rfl⟩)
                  (fun i jq m hi hj s1 s2 => by
                    by_cases a1 : i < j
                    · rw [if_pos a1] at s1
                      by_cases a2 : jq < j
                      · rw [if_pos a2] at s2; simp only [Option.some.injEq] at s1 s2; omega
                      · rw [if_neg a2] at s2
                        by_cases a3 : jq = j
                        · rw [if_pos a3] at s2; cases s2
                        · rw [if_neg a3] at s2; simp only [Option.some.injEq] at s1 s2; omega
                    · rw [if_neg a1] at s1
                      by_cases b1 : i = j
                      · rw [if_pos b1] at s1; cases s1
                      · rw [if_neg b1] at s1
                        by_cases a2 : jq < j
                        · rw [if_pos a2] at s2; simp only [Option.some.injEq] at s1 s2; omega
                        · rw [if_neg a2] at s2
                          by_cases a3 : jq = j
                          · rw [if_pos a3] at s2; cases s2
                          · rw [if_neg a3] at s2; simp only [Option.some.injEq] at s1 s2; omega)
                have H9 := Hid.mkT h9
                have HR9 := Hid.mkT hrr
                have HB9 : Hid (Below w.heap.size w wr) := by
                  have hb := HB7.out
                  have hfu := HL2.out.fr
                  exact ⟨hfu.os.trans hb.os, hfu.tape.trans hb.tape, hfu.output.trans hb.output, Nat.le_trans hb.size hfu.size, fun i hi => (hfu.block i (by omega) (by omega)).trans (hb.block i hi)⟩
                obtain ⟨z0, z1, z2, -⟩ := HL2.out.box
                obtain ⟨r0, r1, r2, rf⟩ := hrr
                have rf0 := rf 0 (by omega)
                have rf1 := rf 1 (by omega)
                have rf2 := rf 2 (by omega)
                clear rf h9 hcells ht hel
                obtain ⟨U, hU⟩ : ∃ U, ((wr.setCell ⟨B + 1, 0, none⟩ (.slice oa2 (l.length + 1) oc2)).setCell ⟨B + 1, 1, none⟩ (.int .i64 (z + 1))).setCell ⟨B + 1, 2, none⟩ (.bool f) = U := ⟨_, rfl⟩
                obtain ⟨ha, hg⟩ := HR9.out.ans (.slice oa2 (l.length + 1) oc2) (z + 1) f
                rw [hU] at ha hg
                obtain ⟨q0, q1, q2, -⟩ := ha
                have HF : Hid (ansT PA.1 PA.2 w (.returned (.tuple #[.agg #[.slice oa2 (l.length + 1) oc2, .int .i64 (z + 1), .bool f], .int .i64 0])) U) := by
                  rw [HEQ.out]
                  exact ans_some (t := ⟨l.take j ++ ⟨id, n, 0, []⟩ :: l.drop j, (z + 1), f⟩) hel1 ⟨_, _, _, (H9.out.kept hg (by omega)).lower (by omega)⟩ (HB9.out.grown hg HB9.out.size (fun q e => by simp at e; omega))
                clear hg
                go_wp2
                refine bodyPost_ret (v := .tuple #[.agg #[.slice oa2 (l.length + 1) oc2, .int .i64 (z + 1), .bool f], .int .i64 0]) ?hres rfl ?_
                case hres =>
                  rw [results_cell_tmp rfl]
                  go_simp
                exact HF.out
          · have HEQ : Hid (PA = (⟨l.take j ++ ⟨id, n, 0, []⟩ :: l.drop j, z, f⟩, 0)) := by unfold Hid; rw [HEQ0.out j HFD.out, if_neg (by omega)]
            have HLZ := HL
            have hkl : j ≤ l.length := HFD.out.le
            obtain ⟨w8, hw8⟩ : ∃ w8, wr.alloc (.cells #[.int .i64 id, .int .i64 n, .int .i64 0, .slice none 0 0] 37) = w8 := ⟨_, rfl⟩
            have b8 : Below wr.heap.size wr w8 := by rw [← hw8]; exact (Below.refl _ _).alloc (Nat.le_refl _) _
            obtain ⟨F, hF⟩ : ∃ F, wr.heap.size = F := ⟨_, rfl⟩
            have HSR : Hid (Src Try.prog 4 22 (.slice (some ⟨F, 0, none⟩) 1 1) [(⟨id, n, 0, (none, 0, 0)⟩ : Qv)].length (vcells [⟨id, n, 0, (none, 0, 0)⟩]) w8) := by
              have := src_q wr F hF ⟨id, n, 0, (none, 0, 0)⟩
              simp only at this
              rw [hw8] at this
              exact this
            have HOV : Hid (OwnQv w8 ov (vs.take j) ro) := HLZ.out.row.kept (below_grow b8 none) (by cases e : ro with | none => exact .inl rfl | some q => exact .inr (by simp))
            obtain ⟨oa, oc, hov, -, -⟩ := HLZ.out.row.shape
            have HB8 := Hid.mkT b8
            have htl : (vs.take j).length = j := by simp; omega
            rw [htl] at hov
            subst hov
            obtain ⟨z0, z1, z2, zf⟩ := HL.out.box
            have zf1 := zf 1 (by omega)
            obtain ⟨y0, -, -, -⟩ := HLZ.out.box
            have y08 := (HLZ.out.box.later b8).b0
            have HTL := Hid.mkT htl
            clear zf b8 htl hrr hcells
            go_wp2_with (at_builtin; refine wpList_append_v _ rfl _ _ rfl _ _ (vs.take j) [⟨id, n, 0, (none, 0, 0)⟩] ro rfl rfl ?hOwn ?hSrc ?hLen (.inr (Nat.succ_pos _)) ?_)
            case hOwn => exact HOV.out
            case hSrc => exact HSR.out
            case hLen => first | omega | (rw [HTL.out]; simp; omega)
            intro v9 w9 g9 ho9 hg9 hr9
            obtain ⟨hmore, hbox9⟩ := HLZ.out.more HB8.out ho9 hg9 hr9
            obtain ⟨a9, c9, e9, -, -⟩ := ho9.shape
            subst e9
            simp only [List.length_append, List.length_cons, List.length_nil, Nat.zero_add, HTL.out] at hmore
            have z09 := hbox9.b0
            have zf9 := hbox9.fz 0 (by omega)
            rw [← insV_start vs ⟨id, n, 0, (none, 0, 0)⟩ j] at hmore
            have HI0 := Hid.mkT hmore
            clear hmore hbox9 ho9 hg9 hr9 HOV HSR HB8 z0 z1 z2 zf1 y0 y08 m0 m1 m2 k0 q0 hxl
            simp only [List.length_append, List.length_cons, List.length_nil, Nat.zero_add, HTL.out]
            go_wp2
            go_loopw [11] (fun i u => ∃ (jj : Nat) (ov : Value) (ro : Option Nat), j ≤ jj ∧ jj ≤ l.length ∧ i = .int .i64 jj ∧ Hid (OuL w7 u D O ov (insV vs ⟨id, n, 0, (none, 0, 0)⟩ j jj) ro z f)) (fun i _ => l.length - (intOf i).toNat)
            case atStart => exact ⟨j, _, _, by omega, by omega, rfl, HI0.out⟩
            case round =>
              obtain ⟨j2, ov, ro, hkj, hj2, rfl, HL2⟩ := hrel
              obtain ⟨k0, ht, hrr, hcells⟩ := HCB.out wr HL2.out.fr
              by_cases hlt2 : j2 < l.length
              · have hjz2 : (j2 : Int) < (l.length : Int) := by omega
                obtain ⟨g2, eg, q0, q1, q2, q3⟩ := hcells j2 hlt2
                have eg3 : g = g2 := by simp only [Option.some.injEq, Addr.mk.injEq] at eg; exact eg.1
                subst eg3
                have HS : Hid (insV vs ⟨id, n, 0, (none, 0, 0)⟩ j (j2 + 1) = insV vs ⟨id, n, 0, (none, 0, 0)⟩ j j2 ++ [vs.getD j2 Qv.zero]) := insV_more hkj (by rw [hvl]; exact hlt2)
                have HLEN : Hid ((insV vs ⟨id, n, 0, (none, 0, 0)⟩ j j2).length ≤ 33) := by have := insV_len (vs := vs) (x := ⟨id, n, 0, (none, 0, 0)⟩) (k := j) (j := j2); rw [hvl] at this; exact Nat.le_trans this (by omega)
                clear ht hrr hcells
                obtain ⟨LS, hLS⟩ : ∃ LS, insV vs ⟨id, n, 0, (none, 0, 0)⟩ j j2 = LS := ⟨_, rfl⟩
                have HLS := Hid.mkT hLS
                rw [hLS] at HL2 HLEN
                clear hLS
                obtain ⟨x, hx⟩ : ∃ x, vs.getD j2 Qv.zero = x := ⟨_, rfl⟩
                have HX := Hid.mkT hx
                rw [hx] at q0 q1 q2 q3
                clear hx
                obtain ⟨xi, xq, xd, sa, sn, sc⟩ := x
                simp only at q0 q1 q2 q3
                obtain ⟨w8, hw8⟩ : ∃ w8, wr.drew.alloc (.cells #[.int .i64 xi, .int .i64 xq, .int .i64 xd, .slice sa sn sc] 37) = w8 := ⟨_, rfl⟩
                have b8 : Below wr.heap.size wr w8 := by rw [← hw8]; exact (Below.drew (Below.refl _ _)).alloc (Nat.le_refl _) _
                obtain ⟨F, hF⟩ : ∃ F, wr.heap.size = F := ⟨_, rfl⟩
                have HSR : Hid (Src Try.prog 4 22 (.slice (some ⟨F, 0, none⟩) 1 1) [(⟨xi, xq, xd, (sa, sn, sc)⟩ : Qv)].length (vcells [⟨xi, xq, xd, (sa, sn, sc)⟩]) w8) := by
                  have := src_q wr.drew F (by rw [← hF]; rfl) ⟨xi, xq, xd, (sa, sn, sc)⟩
                  simp only at this
                  rw [hw8] at this
                  exact this
                have HOV : Hid (OwnQv w8 ov (LS) ro) := HL2.out.row.kept (below_grow b8 none) (by cases e : ro with | none => exact .inl rfl | some q => exact .inr (by simp))
                have hb8b := HL2.out.box
                obtain ⟨z0, -, -, zf⟩ := HL2.out.box
                have z0d : wr.drew.cell? ⟨O, 0, none⟩ = some ov := z0
                have z08 : w8.cell? ⟨O, 0, none⟩ = some ov := (HL2.out.box.later b8).b0
                have k0d : wr.drew.cell? ⟨C, 0, none⟩ = some (.slice (some ⟨g, 0, none⟩) l.length cc) := k0
                have k08 : w8.cell? ⟨C, 0, none⟩ = some (.slice (some ⟨g, 0, none⟩) l.length cc) := (b8.cell (p := ⟨C, 0, none⟩) (cell_lt k0)).trans k0
                have e0 : w8.cell? ⟨g, j2 * 4, none⟩ = some (.int .i64 xi) := (b8.cell (p := ⟨g, j2 * 4, none⟩) (cell_lt q0)).trans q0
                have e1 : w8.cell? ⟨g, j2 * 4 + 1, none⟩ = some (.int .i64 xq) := (b8.cell (p := ⟨g, j2 * 4 + 1, none⟩) (cell_lt q1)).trans q1
                have e2 : w8.cell? ⟨g, j2 * 4 + 2, none⟩ = some (.int .i64 xd) := (b8.cell (p := ⟨g, j2 * 4 + 2, none⟩) (cell_lt q2)).trans q2
                have e3 : w8.cell? ⟨g, j2 * 4 + 3, none⟩ = some (.slice sa sn sc) := (b8.cell (p := ⟨g, j2 * 4 + 3, none⟩) (cell_lt q3)).trans q3
                obtain ⟨oa, oc, hov, -, -⟩ := HL2.out.row.shape
                have HLL : Hid ((LS).length ≤ 33) := HLEN.out
                have HB8 := Hid.mkT b8
                subst hov
                clear b8 hb8b zf
                go_wp2_with fail
                go_region_law (refine step_append_v rfl (.tmp 103) (.tmp 109) rfl (.slice oa (LS).length oc) (.slice (some ⟨F, 0, none⟩) 1 1) (LS) [⟨xi, xq, xd, (sa, sn, sc)⟩] ro (by first | rfl | simp [Act.eval, Act.put]) (by first | rfl | simp [Act.eval, Act.put]) (by first | exact HOV.out | (rw [hw8]; exact HOV.out)) (by first | exact HSR.out | (rw [hw8]; exact HSR.out)) (by have := HLL.out; simp only [List.length_cons, List.length_nil]; omega) (.inr (by simp)) ?_
                               try rw [hw8]
                               intro v9 w9 g9 ho9 hg9 hr9
                               obtain ⟨hmore, hbox9⟩ := HL2.out.more HB8.out ho9 hg9 hr9
                               obtain ⟨a9, c9, e9, -, -⟩ := ho9.shape
                               subst e9
                               have z09 := hbox9.b0
                               have zf9 := hbox9.fz 0 (by omega)
                               simp only [List.length_append, List.length_cons, List.length_nil, Nat.zero_add] at hmore
                               have HMO := Hid.mkT hmore
                               clear hmore hbox9 ho9 hg9 hr9)
                all_goals
                  go_wp2
                  go_roundw
                  case rel => exact ⟨j2 + 1, _, _, by omega, by omega, by go_num, by rw [HS.out, HX.out, HLS.out]; exact HMO.out⟩
                  case measure => simp only [intOf]; omega
              · obtain rfl : j2 = l.length := by omega
                have hjz2 : ¬ (l.length : Int) < (l.length : Int) := by omega
                have HLA : Hid (insV vs ⟨id, n, 0, (none, 0, 0)⟩ j l.length = vs.take j ++ ⟨id, n, 0, (none, 0, 0)⟩ :: vs.drop j) := by unfold Hid; have hia := insV_all vs ⟨id, n, 0, (none, 0, 0)⟩ j; rw [hvl] at hia; exact hia
                rw [HLA.out] at HL2
                have hel : (vs.take j ++ (⟨id, n, 0, (none, 0, 0)⟩ : Qv) :: vs.drop j).length = l.length + 1 := by simp <;> omega
                have hel1 : (l.take j ++ (⟨id, n, 0, []⟩ : Qu) :: l.drop j).length = l.length + 1 := by simp <;> omega
                obtain ⟨oa2, oc2, hov, -, -⟩ := HL2.out.row.shape
                rw [hel] at hov
                subst hov
                obtain ⟨rs9, h9⟩ := pick_turF (z' := z) (f' := f) (l' := l.take j ++ ⟨id, n, 0, []⟩ :: l.drop j) HN7.out HL2.out.row HL2.out.fr (by omega) HRD.out HL2.out.new (by rw [hel, hel1]) (by constructor <;> omega) (by rw [hel1]; omega) (fun jq => if jq < j then some jq else if jq = j then none else some (jq - 1))
                  (fun jq m hj hs => by
                    rw [hel1] at hj
                    rw [getD_insQ _ _ _ _ _ (by omega), getD_insQ _ _ _ _ _ hkl]
                    by_cases h1 : jq < j
                    · rw [if_pos h1] at hs
                      simp only [Option.some.injEq] at hs
                      subst hs
                      rw [if_pos h1, if_pos h1]
                      exact ⟨by omega, rfl, rfl⟩
                    · rw [if_neg h1] at hs
                      by_cases h2 : jq = j
                      · rw [if_pos h2] at hs; cases hs
                      · rw [if_neg h2] at hs
                        simp only [Option.some.injEq] at hs
                        subst hs
                        rw [if_neg h1, if_neg h2, if_neg h1, if_neg h2]
                        exact ⟨by omega, rfl, rfl⟩)
                  (fun jq hj hs => by
                    have hjk : jq = j := by
                      by_cases h1 : jq < j
                      · rw [if_pos h1] at hs; cases hs
                      · rw [if_neg h1] at hs
                        by_cases h2 : jq = j
                        · exact h2
                        · rw [if_neg h2] at hs; cases hs
                    rw [getD_insQ _ _ _ _ _ (by omega), getD_insQ _ _ _ _ _ hkl, if_neg (by omega), if_pos hjk, if_neg (by omega), if_pos hjk]
                    exact ⟨id, n, hid, hn, rfl, rfl⟩)
                  (fun i jq m hi hj s1 s2 => by
                    by_cases a1 : i < j
                    · rw [if_pos a1] at s1
                      by_cases a2 : jq < j
                      · rw [if_pos a2] at s2; simp only [Option.some.injEq] at s1 s2; omega
                      · rw [if_neg a2] at s2
                        by_cases a3 : jq = j
                        · rw [if_pos a3] at s2; cases s2
                        · rw [if_neg a3] at s2; simp only [Option.some.injEq] at s1 s2; omega
                    · rw [if_neg a1] at s1
                      by_cases b1 : i = j
                      · rw [if_pos b1] at s1; cases s1
                      · rw [if_neg b1] at s1
                        by_cases a2 : jq < j
                        · rw [if_pos a2] at s2; simp only [Option.some.injEq] at s1 s2; omega
                        · rw [if_neg a2] at s2
                          by_cases a3 : jq = j
                          · rw [if_pos a3] at s2; cases s2
                          · rw [if_neg a3] at s2; simp only [Option.some.injEq] at s1 s2; omega)
                have H9 := Hid.mkT h9
                have HR9 := Hid.mkT hrr
                have HB9 : Hid (Below w.heap.size w wr) := by
                  have hb := HB7.out
                  have hfu := HL2.out.fr
                  exact ⟨hfu.os.trans hb.os, hfu.tape.trans hb.tape, hfu.output.trans hb.output, Nat.le_trans hb.size hfu.size, fun i hi => (hfu.block i (by omega) (by omega)).trans (hb.block i hi)⟩
                obtain ⟨z0, z1, z2, -⟩ := HL2.out.box
                obtain ⟨r0, r1, r2, rf⟩ := hrr
                have rf0 := rf 0 (by omega)
                have rf1 := rf 1 (by omega)
                have rf2 := rf 2 (by omega)
                clear rf h9 hcells ht hel
                obtain ⟨U, hU⟩ : ∃ U, ((wr.setCell ⟨B + 1, 0, none⟩ (.slice oa2 (l.length + 1) oc2)).setCell ⟨B + 1, 1, none⟩ (.int .i64 z)).setCell ⟨B + 1, 2, none⟩ (.bool f) = U := ⟨_, rfl⟩
                obtain ⟨ha, hg⟩ := HR9.out.ans (.slice oa2 (l.length + 1) oc2) z f
                rw [hU] at ha hg
                obtain ⟨q0, q1, q2, -⟩ := ha
                have HF : Hid (ansT PA.1 PA.2 w (.returned (.tuple #[.agg #[.slice oa2 (l.length + 1) oc2, .int .i64 z, .bool f], .int .i64 0])) U) := by
                  rw [HEQ.out]
                  exact ans_some (t := ⟨l.take j ++ ⟨id, n, 0, []⟩ :: l.drop j, z, f⟩) hel1 ⟨_, _, _, (H9.out.kept hg (by omega)).lower (by omega)⟩ (HB9.out.grown hg HB9.out.size (fun q e => by simp at e; omega))
                clear hg
                go_wp2
                refine bodyPost_ret (v := .tuple #[.agg #[.slice oa2 (l.length + 1) oc2, .int .i64 z, .bool f], .int .i64 0]) ?hres rfl ?_
                case hres =>
                  rw [results_cell_tmp rfl]
                  go_simp
                exact HF.out
      · obtain rfl : j = l.length := by omega
        have hjz : ¬ (l.length : Int) < (l.length : Int) := by omega
        have HFD : Hid (Fnd l id l.length) := ⟨Nat.le_refl _, HLO.out, fun m h1 h2 => by omega⟩
        obtain ⟨m0, m1, m2, -⟩ := ht
        by_cases hl0 : 0 < l.length
        · have hl0z : (0 : Int) < (l.length : Int) := by omega
          have hkz : ¬ (l.length : Int) ≤ z := by have := hz32.2.2 hl0; omega
          have HEQ : Hid (PA = (⟨l.take l.length ++ ⟨id, n, 0, []⟩ :: l.drop l.length, z, f⟩, 0)) := by unfold Hid; rw [HEQ0.out l.length HFD.out, if_neg (by omega)]
          have HLZ := HL
          have hkl : l.length ≤ l.length := HFD.out.le
          obtain ⟨w8, hw8⟩ : ∃ w8, wr.alloc (.cells #[.int .i64 id, .int .i64 n, .int .i64 0, .slice none 0 0] 37) = w8 := ⟨_, rfl⟩
          have b8 : Below wr.heap.size wr w8 := by rw [← hw8]; exact (Below.refl _ _).alloc (Nat.le_refl _) _
          obtain ⟨F, hF⟩ : ∃ F, wr.heap.size = F := ⟨_, rfl⟩
          have HSR : Hid (Src Try.prog 4 22 (.slice (some ⟨F, 0, none⟩) 1 1) [(⟨id, n, 0, (none, 0, 0)⟩ : Qv)].length (vcells [⟨id, n, 0, (none, 0, 0)⟩]) w8) := by
            have := src_q wr F hF ⟨id, n, 0, (none, 0, 0)⟩
            simp only at this
            rw [hw8] at this
            exact this
          have HOV : Hid (OwnQv w8 ov (vs.take l.length) ro) := HLZ.out.row.kept (below_grow b8 none) (by cases e : ro with | none => exact .inl rfl | some q => exact .inr (by simp))
          obtain ⟨oa, oc, hov, -, -⟩ := HLZ.out.row.shape
          have HB8 := Hid.mkT b8
          have htl : (vs.take l.length).length = l.length := by simp; omega
          rw [htl] at hov
          subst hov
          obtain ⟨z0, z1, z2, zf⟩ := HL.out.box
          have zf1 := zf 1 (by omega)
          obtain ⟨y0, -, -, -⟩ := HLZ.out.box
          have y08 := (HLZ.out.box.later b8).b0
          have HTL := Hid.mkT htl
          clear zf b8 htl hrr hcells
          go_wp2_with (at_builtin; refine wpList_append_v _ rfl _ _ rfl _ _ (vs.take l.length) [⟨id, n, 0, (none, 0, 0)⟩] ro rfl rfl ?hOwn ?hSrc ?hLen (.inr (Nat.succ_pos _)) ?_)
          case hOwn => exact HOV.out
          case hSrc => exact HSR.out
          case hLen => first | omega | (rw [HTL.out]; simp; omega)
          intro v9 w9 g9 ho9 hg9 hr9
          obtain ⟨hmore, hbox9⟩ := HLZ.out.more HB8.out ho9 hg9 hr9
          obtain ⟨a9, c9, e9, -, -⟩ := ho9.shape
          subst e9
          simp only [List.length_append, List.length_cons, List.length_nil, Nat.zero_add, HTL.out] at hmore
          have z09 := hbox9.b0
          have zf9 := hbox9.fz 0 (by omega)
          rw [← insV_start vs ⟨id, n, 0, (none, 0, 0)⟩ l.length] at hmore
          have HI0 := Hid.mkT hmore
          clear hmore hbox9 ho9 hg9 hr9 HOV HSR HB8 z0 z1 z2 zf1 y0 y08 m0 m1 m2 k0
          simp only [List.length_append, List.length_cons, List.length_nil, Nat.zero_add, HTL.out]
          go_wp2
          go_loopw [11] (fun i u => ∃ (jj : Nat) (ov : Value) (ro : Option Nat), l.length ≤ jj ∧ jj ≤ l.length ∧ i = .int .i64 jj ∧ Hid (OuL w7 u D O ov (insV vs ⟨id, n, 0, (none, 0, 0)⟩ l.length jj) ro z f)) (fun i _ => l.length - (intOf i).toNat)
          case atStart => exact ⟨l.length, _, _, by omega, by omega, rfl, HI0.out⟩
          case round =>
            obtain ⟨j2, ov, ro, hkj, hj2, rfl, HL2⟩ := hrel
            obtain ⟨k0, ht, hrr, hcells⟩ := HCB.out wr HL2.out.fr
            by_cases hlt2 : j2 < l.length
            · exfalso; omega
            · obtain rfl : j2 = l.length := by omega
              have hjz2 : ¬ (l.length : Int) < (l.length : Int) := by omega
              have HLA : Hid (insV vs ⟨id, n, 0, (none, 0, 0)⟩ l.length l.length = vs.take l.length ++ ⟨id, n, 0, (none, 0, 0)⟩ :: vs.drop l.length) := by unfold Hid; have hia := insV_all vs ⟨id, n, 0, (none, 0, 0)⟩ l.length; rw [hvl] at hia; exact hia
              rw [HLA.out] at HL2
              have hel : (vs.take l.length ++ (⟨id, n, 0, (none, 0, 0)⟩ : Qv) :: vs.drop l.length).length = l.length + 1 := by simp <;> omega
              have hel1 : (l.take l.length ++ (⟨id, n, 0, []⟩ : Qu) :: l.drop l.length).length = l.length + 1 := by simp <;> omega
              obtain ⟨oa2, oc2, hov, -, -⟩ := HL2.out.row.shape
              rw [hel] at hov
              subst hov
              obtain ⟨rs9, h9⟩ := pick_turF (z' := z) (f' := f) (l' := l.take l.length ++ ⟨id, n, 0, []⟩ :: l.drop l.length) HN7.out HL2.out.row HL2.out.fr (by omega) HRD.out HL2.out.new (by rw [hel, hel1]) (by constructor <;> omega) (by rw [hel1]; omega) (fun jq => if jq < l.length then some jq else if jq = l.length then none else some (jq - 1))
                (fun jq m hj hs => by
                  rw [hel1] at hj
                  rw [getD_insQ _ _ _ _ _ (by omega), getD_insQ _ _ _ _ _ hkl]
                  by_cases h1 : jq < l.length
                  · rw [if_pos h1] at hs
                    simp only [Option.some.injEq] at hs
                    subst hs
                    rw [if_pos h1, if_pos h1]
                    exact ⟨by omega, rfl, rfl⟩
                  · rw [if_neg h1] at hs
                    by_cases h2 : jq = l.length
                    · rw [if_pos h2] at hs; cases hs
                    · rw [if_neg h2] at hs
                      simp only [Option.some.injEq] at hs
                      subst hs
                      rw [if_neg h1, if_neg h2, if_neg h1, if_neg h2]
                      exact ⟨by omega, rfl, rfl⟩)
                (fun jq hj hs => by
                  have hjk : jq = l.length := by
                    by_cases h1 : jq < l.length
                    · rw [if_pos h1] at hs; cases hs
                    · rw [if_neg h1] at hs
                      by_cases h2 : jq = l.length
                      · exact h2
                      · rw [if_neg h2] at hs; cases hs
                  rw [getD_insQ _ _ _ _ _ (by omega), getD_insQ _ _ _ _ _ hkl, if_neg (by omega), if_pos hjk, if_neg (by omega), if_pos hjk]
                  exact ⟨id, n, hid, hn, rfl, rfl⟩)
                (fun i jq m hi hj s1 s2 => by
                  by_cases a1 : i < l.length
                  · rw [if_pos a1] at s1
                    by_cases a2 : jq < l.length
                    · rw [if_pos a2] at s2; simp only [Option.some.injEq] at s1 s2; omega
                    · rw [if_neg a2] at s2
                      by_cases a3 : jq = l.length
                      · rw [if_pos a3] at s2; cases s2
                      · rw [if_neg a3] at s2; simp only [Option.some.injEq] at s1 s2; omega
                  · rw [if_neg a1] at s1
                    by_cases b1 : i = l.length
                    · rw [if_pos b1] at s1; cases s1
                    · rw [if_neg b1] at s1
                      by_cases a2 : jq < l.length
                      · rw [if_pos a2] at s2; simp only [Option.some.injEq] at s1 s2; omega
                      · rw [if_neg a2] at s2
                        by_cases a3 : jq = l.length
                        · rw [if_pos a3] at s2; cases s2
                        · rw [if_neg a3] at s2; simp only [Option.some.injEq] at s1 s2; omega)
              have H9 := Hid.mkT h9
              have HR9 := Hid.mkT hrr
              have HB9 : Hid (Below w.heap.size w wr) := by
                have hb := HB7.out
                have hfu := HL2.out.fr
                exact ⟨hfu.os.trans hb.os, hfu.tape.trans hb.tape, hfu.output.trans hb.output, Nat.le_trans hb.size hfu.size, fun i hi => (hfu.block i (by omega) (by omega)).trans (hb.block i hi)⟩
              obtain ⟨z0, z1, z2, -⟩ := HL2.out.box
              obtain ⟨r0, r1, r2, rf⟩ := hrr
              have rf0 := rf 0 (by omega)
              have rf1 := rf 1 (by omega)
              have rf2 := rf 2 (by omega)
              clear rf h9 hcells ht hel
              obtain ⟨U, hU⟩ : ∃ U, ((wr.setCell ⟨B + 1, 0, none⟩ (.slice oa2 (l.length + 1) oc2)).setCell ⟨B + 1, 1, none⟩ (.int .i64 z)).setCell ⟨B + 1, 2, none⟩ (.bool f) = U := ⟨_, rfl⟩
              obtain ⟨ha, hg⟩ := HR9.out.ans (.slice oa2 (l.length + 1) oc2) z f
              rw [hU] at ha hg
              obtain ⟨q0, q1, q2, -⟩ := ha
              have HF : Hid (ansT PA.1 PA.2 w (.returned (.tuple #[.agg #[.slice oa2 (l.length + 1) oc2, .int .i64 z, .bool f], .int .i64 0])) U) := by
                rw [HEQ.out]
                exact ans_some (t := ⟨l.take l.length ++ ⟨id, n, 0, []⟩ :: l.drop l.length, z, f⟩) hel1 ⟨_, _, _, (H9.out.kept hg (by omega)).lower (by omega)⟩ (HB9.out.grown hg HB9.out.size (fun q e => by simp at e; omega))
              clear hg
              go_wp2
              refine bodyPost_ret (v := .tuple #[.agg #[.slice oa2 (l.length + 1) oc2, .int .i64 z, .bool f], .int .i64 0]) ?hres rfl ?_
              case hres =>
                rw [results_cell_tmp rfl]
                go_simp
              exact HF.out
        · have hl0z : ¬ (0 : Int) < (l.length : Int) := by omega
          have HEQ : Hid (PA = (⟨l.take l.length ++ ⟨id, n, 0, []⟩ :: l.drop l.length, z, f⟩, 0)) := by unfold Hid; rw [HEQ0.out l.length HFD.out, if_neg (by omega)]
          have HLZ := HL
          have hkl : l.length ≤ l.length := HFD.out.le
          obtain ⟨w8, hw8⟩ : ∃ w8, wr.alloc (.cells #[.int .i64 id, .int .i64 n, .int .i64 0, .slice none 0 0] 37) = w8 := ⟨_, rfl⟩
          have b8 : Below wr.heap.size wr w8 := by rw [← hw8]; exact (Below.refl _ _).alloc (Nat.le_refl _) _
          obtain ⟨F, hF⟩ : ∃ F, wr.heap.size = F := ⟨_, rfl⟩
          have HSR : Hid (Src Try.prog 4 22 (.slice (some ⟨F, 0, none⟩) 1 1) [(⟨id, n, 0, (none, 0, 0)⟩ : Qv)].length (vcells [⟨id, n, 0, (none, 0, 0)⟩]) w8) := by
            have := src_q wr F hF ⟨id, n, 0, (none, 0, 0)⟩
            simp only at this
            rw [hw8] at this
            exact this
          have HOV : Hid (OwnQv w8 ov (vs.take l.length) ro) := HLZ.out.row.kept (below_grow b8 none) (by cases e : ro with | none => exact .inl rfl | some q => exact .inr (by simp))
          obtain ⟨oa, oc, hov, -, -⟩ := HLZ.out.row.shape
          have HB8 := Hid.mkT b8
          have htl : (vs.take l.length).length = l.length := by simp; omega
          rw [htl] at hov
          subst hov
          obtain ⟨z0, z1, z2, zf⟩ := HL.out.box
          have zf1 := zf 1 (by omega)
          obtain ⟨y0, -, -, -⟩ := HLZ.out.box
          have y08 := (HLZ.out.box.later b8).b0
          have HTL := Hid.mkT htl
          clear zf b8 htl hrr hcells
          go_wp2_with (at_builtin; refine wpList_append_v _ rfl _ _ rfl _ _ (vs.take l.length) [⟨id, n, 0, (none, 0, 0)⟩] ro rfl rfl ?hOwn ?hSrc ?hLen (.inr (Nat.succ_pos _)) ?_)
          case hOwn => exact HOV.out
          case hSrc => exact HSR.out
          case hLen => first | omega | (rw [HTL.out]; simp; omega)
          intro v9 w9 g9 ho9 hg9 hr9
          obtain ⟨hmore, hbox9⟩ := HLZ.out.more HB8.out ho9 hg9 hr9
          obtain ⟨a9, c9, e9, -, -⟩ := ho9.shape
          subst e9
          simp only [List.length_append, List.length_cons, List.length_nil, Nat.zero_add, HTL.out] at hmore
          have z09 := hbox9.b0
          have zf9 := hbox9.fz 0 (by omega)
          rw [← insV_start vs ⟨id, n, 0, (none, 0, 0)⟩ l.length] at hmore
          have HI0 := Hid.mkT hmore
          clear hmore hbox9 ho9 hg9 hr9 HOV HSR HB8 z0 z1 z2 zf1 y0 y08 m0 m1 m2 k0
          simp only [List.length_append, List.length_cons, List.length_nil, Nat.zero_add, HTL.out]
          go_wp2
          go_loopw [11] (fun i u => ∃ (jj : Nat) (ov : Value) (ro : Option Nat), l.length ≤ jj ∧ jj ≤ l.length ∧ i = .int .i64 jj ∧ Hid (OuL w7 u D O ov (insV vs ⟨id, n, 0, (none, 0, 0)⟩ l.length jj) ro z f)) (fun i _ => l.length - (intOf i).toNat)
          case atStart => exact ⟨l.length, _, _, by omega, by omega, rfl, HI0.out⟩
          case round =>
            obtain ⟨j2, ov, ro, hkj, hj2, rfl, HL2⟩ := hrel
            obtain ⟨k0, ht, hrr, hcells⟩ := HCB.out wr HL2.out.fr
            by_cases hlt2 : j2 < l.length
            · exfalso; omega
            · obtain rfl : j2 = l.length := by omega
              have hjz2 : ¬ (l.length : Int) < (l.length : Int) := by omega
              have HLA : Hid (insV vs ⟨id, n, 0, (none, 0, 0)⟩ l.length l.length = vs.take l.length ++ ⟨id, n, 0, (none, 0, 0)⟩ :: vs.drop l.length) := by unfold Hid; have hia := insV_all vs ⟨id, n, 0, (none, 0, 0)⟩ l.length; rw [hvl] at hia; exact hia
              rw [HLA.out] at HL2
              have hel : (vs.take l.length ++ (⟨id, n, 0, (none, 0, 0)⟩ : Qv) :: vs.drop l.length).length = l.length + 1 := by simp <;> omega
              have hel1 : (l.take l.length ++ (⟨id, n, 0, []⟩ : Qu) :: l.drop l.length).length = l.length + 1 := by simp <;> omega
              obtain ⟨oa2, oc2, hov, -, -⟩ := HL2.out.row.shape
              rw [hel] at hov
              subst hov
              obtain ⟨rs9, h9⟩ := pick_turF (z' := z) (f' := f) (l' := l.take l.length ++ ⟨id, n, 0, []⟩ :: l.drop l.length) HN7.out HL2.out.row HL2.out.fr (by omega) HRD.out HL2.out.new (by rw [hel, hel1]) (by constructor <;> omega) (by rw [hel1]; omega) (fun jq => if jq < l.length then some jq else if jq = l.length then none else some (jq - 1))
                (fun jq m hj hs => by
                  rw [hel1] at hj
                  rw [getD_insQ _ _ _ _ _ (by omega), getD_insQ _ _ _ _ _ hkl]
                  by_cases h1 : jq < l.length
                  · rw [if_pos h1] at hs
                    simp only [Option.some.injEq] at hs
                    subst hs
                    rw [if_pos h1, if_pos h1]
                    exact ⟨by omega, rfl, rfl⟩
                  · rw [if_neg h1] at hs
                    by_cases h2 : jq = l.length
                    · rw [if_pos h2] at hs; cases hs
                    · rw [if_neg h2] at hs
                      simp only [Option.some.injEq] at hs
                      subst hs
                      rw [if_neg h1, if_neg h2, if_neg h1, if_neg h2]
                      exact ⟨by omega, rfl, rfl⟩)
                (fun jq hj hs => by
                  have hjk : jq = l.length := by
                    by_cases h1 : jq < l.length
                    · rw [if_pos h1] at hs; cases hs
                    · rw [if_neg h1] at hs
                      by_cases h2 : jq = l.length
                      · exact h2
                      · rw [if_neg h2] at hs; cases hs
                  rw [getD_insQ _ _ _ _ _ (by omega), getD_insQ _ _ _ _ _ hkl, if_neg (by omega), if_pos hjk, if_neg (by omega), if_pos hjk]
                  exact ⟨id, n, hid, hn, rfl, rfl⟩)
                (fun i jq m hi hj s1 s2 => by
                  by_cases a1 : i < l.length
                  · rw [if_pos a1] at s1
                    by_cases a2 : jq < l.length
                    · rw [if_pos a2] at s2; simp only [Option.some.injEq] at s1 s2; omega
                    · rw [if_neg a2] at s2
                      by_cases a3 : jq = l.length
                      · rw [if_pos a3] at s2; cases s2
                      · rw [if_neg a3] at s2; simp only [Option.some.injEq] at s1 s2; omega
                  · rw [if_neg a1] at s1
                    by_cases b1 : i = l.length
                    · rw [if_pos b1] at s1; cases s1
                    · rw [if_neg b1] at s1
                      by_cases a2 : jq < l.length
                      · rw [if_pos a2] at s2; simp only [Option.some.injEq] at s1 s2; omega
                      · rw [if_neg a2] at s2
                        by_cases a3 : jq = l.length
                        · rw [if_pos a3] at s2; cases s2
                        · rw [if_neg a3] at s2; simp only [Option.some.injEq] at s1 s2; omega)
              have H9 := Hid.mkT h9
              have HR9 := Hid.mkT hrr
              have HB9 : Hid (Below w.heap.size w wr) := by
                have hb := HB7.out
                have hfu := HL2.out.fr
                exact ⟨hfu.os.trans hb.os, hfu.tape.trans hb.tape, hfu.output.trans hb.output, Nat.le_trans hb.size hfu.size, fun i hi => (hfu.block i (by omega) (by omega)).trans (hb.block i hi)⟩
              obtain ⟨z0, z1, z2, -⟩ := HL2.out.box
              obtain ⟨r0, r1, r2, rf⟩ := hrr
              have rf0 := rf 0 (by omega)
              have rf1 := rf 1 (by omega)
              have rf2 := rf 2 (by omega)
              clear rf h9 hcells ht hel
              obtain ⟨U, hU⟩ : ∃ U, ((wr.setCell ⟨B + 1, 0, none⟩ (.slice oa2 (l.length + 1) oc2)).setCell ⟨B + 1, 1, none⟩ (.int .i64 z)).setCell ⟨B + 1, 2, none⟩ (.bool f) = U := ⟨_, rfl⟩
              obtain ⟨ha, hg⟩ := HR9.out.ans (.slice oa2 (l.length + 1) oc2) z f
              rw [hU] at ha hg
              obtain ⟨q0, q1, q2, -⟩ := ha
              have HF : Hid (ansT PA.1 PA.2 w (.returned (.tuple #[.agg #[.slice oa2 (l.length + 1) oc2, .int .i64 z, .bool f], .int .i64 0])) U) := by
                rw [HEQ.out]
                exact ans_some (t := ⟨l.take l.length ++ ⟨id, n, 0, []⟩ :: l.drop l.length, z, f⟩) hel1 ⟨_, _, _, (H9.out.kept hg (by omega)).lower (by omega)⟩ (HB9.out.grown hg HB9.out.size (fun q e => by simp at e; omega))
              clear hg
              go_wp2
              refine bodyPost_ret (v := .tuple #[.agg #[.slice oa2 (l.length + 1) oc2, .int .i64 z, .bool f], .int .i64 0]) ?hres rfl ?_
              case hres =>
                rw [results_cell_tmp rfl]
                go_simp
              exact HF.out
  · have HC0 := Hid.mkT hck
    obtain ⟨E, hE⟩ : ∃ E, chkT ⟨l, z, f⟩ = E := ⟨_, rfl⟩
    have hE0 : ¬ E = 0 := by rw [← hE]; exact hck
    have HEE := Hid.mkT hE
    rw [hE]
    clear hck hE
    obtain ⟨U, hU⟩ : ∃ U, ((w3.setCell ⟨B + 1, 0, none⟩ (.slice none 0 0)).setCell ⟨B + 1, 1, none⟩ (.int .i64 0)).setCell ⟨B + 1, 2, none⟩ (.bool false) = U := ⟨_, rfl⟩
    obtain ⟨ha, hg⟩ := HR3.out.ans (.slice none 0 0) 0 false
    rw [hU] at ha hg
    obtain ⟨q0, q1, q2, -⟩ := ha
    have HF : Hid (ansT PA.1 PA.2 w (.returned (.tuple #[.agg #[.slice none 0 0, .int .i64 0, .bool false], .int .i64 E])) U) := by
      have he : PA = (Tr.zero, E) := by rw [← HPA.out, ← HEE.out]; exact ent_chk id n HC0.out
      rw [he]
      exact ans_none rfl (HB3.out.grown hg HB3.out.size (fun g' e => by simp at e; omega))
    clear hg
    go_wp2
    refine bodyPost_ret (v := .tuple #[.agg #[.slice none 0 0, .int .i64 0, .bool false], .int .i64 E]) ?hres rfl ?_
    case hres =>
      rw [results_cell_tmp rfl]
      go_simp
    exact HF.out
end Go.Proofs.Ytelhjdplghpnbab
