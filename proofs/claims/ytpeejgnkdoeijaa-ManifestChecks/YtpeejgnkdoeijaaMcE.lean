import Derived.Test.YtpeejgnkdoeijaaMcD
/-! manifest: which manifests may be. -/
namespace Go.Proofs.Ytpeejgnkdoeijaa
open Go.RowKit Plain
set_option linter.unusedVariables false
set_option linter.unusedSimpArgs false

def chkM (m : Mf) : Bool := inW m.id 0 1073741823 && (inW m.nseg 2 1073741824 && (inW m.next 0 1099511627776 && (inW m.mark 0 m.next && (inW m.clk 0 1125899906842623 && (okSegs m.segs m.nseg && okProds m.prods m.next)))))
def ansM (m : Mf) : Int := if chkM m = true then 0 else 70
theorem inW_iff {n a e : Int} : inW n a e = true ↔ a ≤ n ∧ n ≤ e := by unfold inW; simp
set_option maxHeartbeats 8000000 in
theorem mcheckOf (m : Mf) (vs vp : Value) (w : World) (h : IntsAt w vs m.segs) (h' : PrsAt w vp m.prods) : Calls Try.prog 7 #[m.agg vs vp] w fun e w' => e = .returned (.int .i64 (ansM m)) ∧ Below w.heap.size w w' := by
  obtain ⟨w0, hw0⟩ : ∃ w0, w.alloc (m.obj vs vp) = w0 := ⟨_, rfl⟩
  have HB0 : Hid (Below w.heap.size w w0) := by rw [← hw0]; exact (Below.refl _ _).alloc (Nat.le_refl _) _
  have HM : Hid (∀ u, Below w0.heap.size w0 u → u.cell? ⟨w.heap.size, 0, none⟩ = some (.int .i64 m.id) ∧ u.cell? ⟨w.heap.size, 1, none⟩ = some (.int .i64 m.nseg) ∧ u.cell? ⟨w.heap.size, 2, none⟩ = some (.int .i64 m.next) ∧ u.cell? ⟨w.heap.size, 3, none⟩ = some (.int .i64 m.mark) ∧ u.cell? ⟨w.heap.size, 4, none⟩ = some (.int .i64 m.clk) ∧ u.cell? ⟨w.heap.size, 5, none⟩ = some vs ∧ u.cell? ⟨w.heap.size, 6, none⟩ = some vp) := fun u hu => by
    obtain ⟨m0, m1, m2, m3, m4, m5, m6⟩ := mobj_cells w m vs vp hw0
    have hc : ∀ j v, w0.cell? ⟨w.heap.size, j, none⟩ = some v → u.cell? ⟨w.heap.size, j, none⟩ = some v := fun j v e => (hu.cell (p := ⟨w.heap.size, j, none⟩) (cell_lt e)).trans e
    exact ⟨hc _ _ m0, hc _ _ m1, hc _ _ m2, hc _ _ m3, hc _ _ m4, hc _ _ m5, hc _ _ m6⟩
  have HSG : Hid (∀ u, Below w0.heap.size w0 u → IntsAt u vs m.segs) := fun u hu => h.later (below_step HB0.out hu)
  have HPD : Hid (∀ u, Below w0.heap.size w0 u → PrsAt u vp m.prods) := fun u hu => h'.later (below_step HB0.out hu)
  obtain ⟨m0, m1, m2, m3, m4, m5, m6⟩ := HM.out w0 (Below.refl _ _)
  have HAM : Hid (ansM m = if chkM m = true then 0 else 70) := rfl
  obtain ⟨avs, nvs, cvs, rfl⟩ : ∃ a n c, vs = .slice a n c := by obtain ⟨a, c, e, _⟩ := h; exact ⟨a, _, c, e⟩
  obtain ⟨avp, nvp, cvp, rfl⟩ : ∃ a n c, vp = .slice a n c := by obtain ⟨a, c, e, _⟩ := h'; exact ⟨a, _, c, e⟩
  obtain ⟨mi, mn, mx, mk, mc, sg, pd⟩ := m
  simp only at hw0 m0 m1 m2 m3 m4 m5 m6 HM HSG HPD HAM h h' ⊢
  clear h h'
  have HCH : Hid (chkM ⟨mi, mn, mx, mk, mc, sg, pd⟩ = (inW mi 0 1073741823 && (inW mn 2 1073741824 && (inW mx 0 1099511627776 && (inW mk 0 mx && (inW mc 0 1125899906842623 && (okSegs sg mn && okProds pd mx))))))) := rfl
  generalize ansM ⟨mi, mn, mx, mk, mc, sg, pd⟩ = A at HAM ⊢
  generalize chkM ⟨mi, mn, mx, mk, mc, sg, pd⟩ = CH at HAM HCH
  have HBAD : Hid (CH = false → A = 70) := fun e => by rw [HAM.out, e]; rfl
  have HGOOD : Hid (CH = true → A = 0) := fun e => by rw [HAM.out, e]; rfl
  clear HAM
  unfold Mf.agg
  cases h0 : inW mi 0 1073741823 with
  | false =>
    have HA : Hid (A = 70) := HBAD.out (by rw [HCH.out, h0]; rfl)
    clear HBAD HGOOD HCH
    go_enter Try.func7, Try.ntmps7
    go_wp2_with fail
    refine (isTopicOf mi _).mono ?_
    rintro e w1 ⟨rfl, rfl⟩
    rw [h0]
    go_wp2
    go_ret
    exact ⟨by rw [HA.out]; rfl, HB0.out⟩
  | true =>
    cases h1 : inW mn 2 1073741824 with
    | false =>
      have HA : Hid (A = 70) := HBAD.out (by rw [HCH.out, h0, h1]; rfl)
      clear HBAD HGOOD HCH
      go_enter Try.func7, Try.ntmps7
      go_wp2_with fail
      refine (isTopicOf mi _).mono ?_
      rintro e w1 ⟨rfl, rfl⟩
      rw [h0]
      go_wp2_with fail
      refine (wintOf mn 2 1073741824 _).mono ?_
      rintro e w2 ⟨rfl, rfl⟩
      rw [h1]
      go_wp2
      go_ret
      exact ⟨by rw [HA.out]; rfl, HB0.out⟩
    | true =>
      cases h2 : inW mx 0 1099511627776 with
      | false =>
        have HA : Hid (A = 70) := HBAD.out (by rw [HCH.out, h0, h1, h2]; rfl)
        clear HBAD HGOOD HCH
        go_enter Try.func7, Try.ntmps7
        go_wp2_with fail
        refine (isTopicOf mi _).mono ?_
        rintro e w1 ⟨rfl, rfl⟩
        rw [h0]
        go_wp2_with fail
        refine (wintOf mn 2 1073741824 _).mono ?_
        rintro e w2 ⟨rfl, rfl⟩
        rw [h1]
        go_wp2_with fail
        refine (wint64Of mx 0 1099511627776 _).mono ?_
        rintro e w3 ⟨rfl, rfl⟩
        rw [h2]
        go_wp2
        go_ret
        exact ⟨by rw [HA.out]; rfl, HB0.out⟩
      | true =>
        cases h3 : inW mk 0 mx with
        | false =>
          have HA : Hid (A = 70) := HBAD.out (by rw [HCH.out, h0, h1, h2, h3]; rfl)
          clear HBAD HGOOD HCH
          go_enter Try.func7, Try.ntmps7
          go_wp2_with fail
          refine (isTopicOf mi _).mono ?_
          rintro e w1 ⟨rfl, rfl⟩
          rw [h0]
          go_wp2_with fail
          refine (wintOf mn 2 1073741824 _).mono ?_
          rintro e w2 ⟨rfl, rfl⟩
          rw [h1]
          go_wp2_with fail
          refine (wint64Of mx 0 1099511627776 _).mono ?_
          rintro e w3 ⟨rfl, rfl⟩
          rw [h2]
          go_wp2_with fail
          refine (wint64Of mk 0 mx _).mono ?_
          rintro e w4 ⟨rfl, rfl⟩
          rw [h3]
          go_wp2
          go_ret
          exact ⟨by rw [HA.out]; rfl, HB0.out⟩
        | true =>
          cases h4 : inW mc 0 1125899906842623 with
          | false =>
            have HA : Hid (A = 70) := HBAD.out (by rw [HCH.out, h0, h1, h2, h3, h4]; rfl)
            clear HBAD HGOOD HCH
            go_enter Try.func7, Try.ntmps7
            go_wp2_with fail
            refine (isTopicOf mi _).mono ?_
            rintro e w1 ⟨rfl, rfl⟩
            rw [h0]
            go_wp2_with fail
            refine (wintOf mn 2 1073741824 _).mono ?_
            rintro e w2 ⟨rfl, rfl⟩
            rw [h1]
            go_wp2_with fail
            refine (wint64Of mx 0 1099511627776 _).mono ?_
            rintro e w3 ⟨rfl, rfl⟩
            rw [h2]
            go_wp2_with fail
            refine (wint64Of mk 0 mx _).mono ?_
            rintro e w4 ⟨rfl, rfl⟩
            rw [h3]
            go_wp2_with fail
            refine (wint64Of mc 0 1125899906842623 _).mono ?_
            rintro e w5 ⟨rfl, rfl⟩
            rw [h4]
            go_wp2
            go_ret
            exact ⟨by rw [HA.out]; rfl, HB0.out⟩
          | true =>
            cases h5 : okSegs sg mn with
            | false =>
              have HA : Hid (A = 70) := HBAD.out (by rw [HCH.out, h0, h1, h2, h3, h4, h5]; rfl)
              clear HBAD HGOOD HCH
              go_enter Try.func7, Try.ntmps7
              go_wp2_with fail
              refine (isTopicOf mi _).mono ?_
              rintro e w1 ⟨rfl, rfl⟩
              rw [h0]
              go_wp2_with fail
              refine (wintOf mn 2 1073741824 _).mono ?_
              rintro e w2 ⟨rfl, rfl⟩
              rw [h1]
              go_wp2_with fail
              refine (wint64Of mx 0 1099511627776 _).mono ?_
              rintro e w3 ⟨rfl, rfl⟩
              rw [h2]
              go_wp2_with fail
              refine (wint64Of mk 0 mx _).mono ?_
              rintro e w4 ⟨rfl, rfl⟩
              rw [h3]
              go_wp2_with fail
              refine (wint64Of mc 0 1125899906842623 _).mono ?_
              rintro e w5 ⟨rfl, rfl⟩
              rw [h4]
              go_wp2_with fail
              refine (areSegsOf _ sg mn _ (HSG.out _ (Below.refl _ _)) (inW_iff.mp h1)).mono ?_
              rintro e w6 ⟨rfl, rfl⟩
              rw [h5]
              go_wp2
              go_ret
              exact ⟨by rw [HA.out]; rfl, HB0.out⟩
            | true =>
              cases h6 : okProds pd mx with
              | false =>
                have HA : Hid (A = 70) := HBAD.out (by rw [HCH.out, h0, h1, h2, h3, h4, h5, h6]; rfl)
                clear HBAD HGOOD HCH
                go_enter Try.func7, Try.ntmps7
                go_wp2_with fail
                refine (isTopicOf mi _).mono ?_
                rintro e w1 ⟨rfl, rfl⟩
                rw [h0]
                go_wp2_with fail
                refine (wintOf mn 2 1073741824 _).mono ?_
                rintro e w2 ⟨rfl, rfl⟩
                rw [h1]
                go_wp2_with fail
                refine (wint64Of mx 0 1099511627776 _).mono ?_
                rintro e w3 ⟨rfl, rfl⟩
                rw [h2]
                go_wp2_with fail
                refine (wint64Of mk 0 mx _).mono ?_
                rintro e w4 ⟨rfl, rfl⟩
                rw [h3]
                go_wp2_with fail
                refine (wint64Of mc 0 1125899906842623 _).mono ?_
                rintro e w5 ⟨rfl, rfl⟩
                rw [h4]
                go_wp2_with fail
                refine (areSegsOf _ sg mn _ (HSG.out _ (Below.refl _ _)) (inW_iff.mp h1)).mono ?_
                rintro e w6 ⟨rfl, rfl⟩
                rw [h5]
                go_wp2_with fail
                refine (mareProdsOf _ pd mx _ (HPD.out _ (Below.refl _ _)) (inW_iff.mp h2)).mono ?_
                rintro e w7 ⟨rfl, hb⟩
                have HBZ : Hid (Below w.heap.size w w7) := below_step HB0.out hb
                clear hb
                rw [h6]
                go_wp2
                go_ret
                exact ⟨by rw [HA.out]; rfl, HBZ.out⟩
              | true =>
                have HA : Hid (A = 0) := HGOOD.out (by rw [HCH.out, h0, h1, h2, h3, h4, h5, h6]; rfl)
                clear HBAD HGOOD HCH
                go_enter Try.func7, Try.ntmps7
                go_wp2_with fail
                refine (isTopicOf mi _).mono ?_
                rintro e w1 ⟨rfl, rfl⟩
                rw [h0]
                go_wp2_with fail
                refine (wintOf mn 2 1073741824 _).mono ?_
                rintro e w2 ⟨rfl, rfl⟩
                rw [h1]
                go_wp2_with fail
                refine (wint64Of mx 0 1099511627776 _).mono ?_
                rintro e w3 ⟨rfl, rfl⟩
                rw [h2]
                go_wp2_with fail
                refine (wint64Of mk 0 mx _).mono ?_
                rintro e w4 ⟨rfl, rfl⟩
                rw [h3]
                go_wp2_with fail
                refine (wint64Of mc 0 1125899906842623 _).mono ?_
                rintro e w5 ⟨rfl, rfl⟩
                rw [h4]
                go_wp2_with fail
                refine (areSegsOf _ sg mn _ (HSG.out _ (Below.refl _ _)) (inW_iff.mp h1)).mono ?_
                rintro e w6 ⟨rfl, rfl⟩
                rw [h5]
                go_wp2_with fail
                refine (mareProdsOf _ pd mx _ (HPD.out _ (Below.refl _ _)) (inW_iff.mp h2)).mono ?_
                rintro e w7 ⟨rfl, hb⟩
                have HBZ : Hid (Below w.heap.size w w7) := below_step HB0.out hb
                clear hb
                rw [h6]
                go_wp2
                go_ret
                exact ⟨by rw [HA.out]; rfl, HBZ.out⟩
set_option maxHeartbeats 8000000 in
theorem rmcheckOf (m : Mf) (vs vp : Value) (w : World) (h : IntsAt w vs m.segs) (h' : PrsAt w vp m.prods) : Calls Try.prog 13 #[m.agg vs vp] w fun e w' => e = .returned (.int .i64 (ansM m)) ∧ Below w.heap.size w w' := by
  obtain ⟨w0, hw0⟩ : ∃ w0, w.alloc (m.obj vs vp) = w0 := ⟨_, rfl⟩
  have HB0 : Hid (Below w.heap.size w w0) := by rw [← hw0]; exact (Below.refl _ _).alloc (Nat.le_refl _) _
  have HM : Hid (∀ u, Below w0.heap.size w0 u → u.cell? ⟨w.heap.size, 0, none⟩ = some (.int .i64 m.id) ∧ u.cell? ⟨w.heap.size, 1, none⟩ = some (.int .i64 m.nseg) ∧ u.cell? ⟨w.heap.size, 2, none⟩ = some (.int .i64 m.next) ∧ u.cell? ⟨w.heap.size, 3, none⟩ = some (.int .i64 m.mark) ∧ u.cell? ⟨w.heap.size, 4, none⟩ = some (.int .i64 m.clk) ∧ u.cell? ⟨w.heap.size, 5, none⟩ = some vs ∧ u.cell? ⟨w.heap.size, 6, none⟩ = some vp) := fun u hu => by
    obtain ⟨m0, m1, m2, m3, m4, m5, m6⟩ := mobj_cells w m vs vp hw0
    have hc : ∀ j v, w0.cell? ⟨w.heap.size, j, none⟩ = some v → u.cell? ⟨w.heap.size, j, none⟩ = some v := fun j v e => (hu.cell (p := ⟨w.heap.size, j, none⟩) (cell_lt e)).trans e
    exact ⟨hc _ _ m0, hc _ _ m1, hc _ _ m2, hc _ _ m3, hc _ _ m4, hc _ _ m5, hc _ _ m6⟩
  have HSG : Hid (∀ u, Below w0.heap.size w0 u → IntsAt u vs m.segs) := fun u hu => h.later (below_step HB0.out hu)
  have HPD : Hid (∀ u, Below w0.heap.size w0 u → PrsAt u vp m.prods) := fun u hu => h'.later (below_step HB0.out hu)
  obtain ⟨m0, m1, m2, m3, m4, m5, m6⟩ := HM.out w0 (Below.refl _ _)
  have HAM : Hid (ansM m = if chkM m = true then 0 else 70) := rfl
  obtain ⟨avs, nvs, cvs, rfl⟩ : ∃ a n c, vs = .slice a n c := by obtain ⟨a, c, e, _⟩ := h; exact ⟨a, _, c, e⟩
  obtain ⟨avp, nvp, cvp, rfl⟩ : ∃ a n c, vp = .slice a n c := by obtain ⟨a, c, e, _⟩ := h'; exact ⟨a, _, c, e⟩
  obtain ⟨mi, mn, mx, mk, mc, sg, pd⟩ := m
  simp only at hw0 m0 m1 m2 m3 m4 m5 m6 HM HSG HPD HAM h h' ⊢
  clear h h'
  have HCH : Hid (chkM ⟨mi, mn, mx, mk, mc, sg, pd⟩ = (inW mi 0 1073741823 && (inW mn 2 1073741824 && (inW mx 0 1099511627776 && (inW mk 0 mx && (inW mc 0 1125899906842623 && (okSegs sg mn && okProds pd mx))))))) := rfl
  generalize ansM ⟨mi, mn, mx, mk, mc, sg, pd⟩ = A at HAM ⊢
  generalize chkM ⟨mi, mn, mx, mk, mc, sg, pd⟩ = CH at HAM HCH
  have HBAD : Hid (CH = false → A = 70) := fun e => by rw [HAM.out, e]; rfl
  have HGOOD : Hid (CH = true → A = 0) := fun e => by rw [HAM.out, e]; rfl
  clear HAM
  unfold Mf.agg
  by_cases g0 : mi < 0
  · have HA : Hid (A = 70) := HBAD.out (by
      have h0 : inW mi 0 1073741823 = false := by unfold inW; simp; omega
      rw [HCH.out, h0]; rfl)
    clear HBAD HGOOD HCH
    go_enter Try.func13, Try.ntmps13
    go_wp2
    go_ret
    exact ⟨by rw [HA.out]; rfl, HB0.out⟩
  · by_cases g1 : 1073741824 ≤ mi
    · have HA : Hid (A = 70) := HBAD.out (by
        have h0 : inW mi 0 1073741823 = false := by unfold inW; simp; omega
        rw [HCH.out, h0]; rfl)
      clear HBAD HGOOD HCH
      go_enter Try.func13, Try.ntmps13
      go_wp2
      go_ret
      exact ⟨by rw [HA.out]; rfl, HB0.out⟩
    · have h0 : inW mi 0 1073741823 = true := inW_iff.mpr (by omega)
      by_cases g2 : mn < 2
      · have HA : Hid (A = 70) := HBAD.out (by
          have h1 : inW mn 2 1073741824 = false := by unfold inW; simp; omega
          rw [HCH.out, h0, h1]; rfl)
        clear HBAD HGOOD HCH
        go_enter Try.func13, Try.ntmps13
        go_wp2
        go_ret
        exact ⟨by rw [HA.out]; rfl, HB0.out⟩
      · by_cases g3 : 1073741824 < mn
        · have HA : Hid (A = 70) := HBAD.out (by
            have h1 : inW mn 2 1073741824 = false := by unfold inW; simp; omega
            rw [HCH.out, h0, h1]; rfl)
          clear HBAD HGOOD HCH
          go_enter Try.func13, Try.ntmps13
          go_wp2
          go_ret
          exact ⟨by rw [HA.out]; rfl, HB0.out⟩
        · have h1 : inW mn 2 1073741824 = true := inW_iff.mpr (by omega)
          cases h2 : inW mx 0 1099511627776 with
          | false =>
            have HA : Hid (A = 70) := HBAD.out (by rw [HCH.out, h0, h1, h2]; rfl)
            clear HBAD HGOOD HCH
            go_enter Try.func13, Try.ntmps13
            go_wp2_with fail
            refine (rwithinOf mx 0 1099511627776 _).mono ?_
            rintro e w3 ⟨rfl, rfl⟩
            rw [h2]
            go_wp2
            go_ret
            exact ⟨by rw [HA.out]; rfl, HB0.out⟩
          | true =>
            cases h3 : inW mk 0 mx with
            | false =>
              have HA : Hid (A = 70) := HBAD.out (by rw [HCH.out, h0, h1, h2, h3]; rfl)
              clear HBAD HGOOD HCH
              go_enter Try.func13, Try.ntmps13
              go_wp2_with fail
              refine (rwithinOf mx 0 1099511627776 _).mono ?_
              rintro e w3 ⟨rfl, rfl⟩
              rw [h2]
              go_wp2_with fail
              refine (rwithinOf mk 0 mx _).mono ?_
              rintro e w4 ⟨rfl, rfl⟩
              rw [h3]
              go_wp2
              go_ret
              exact ⟨by rw [HA.out]; rfl, HB0.out⟩
            | true =>
              cases h4 : inW mc 0 1125899906842623 with
              | false =>
                have HA : Hid (A = 70) := HBAD.out (by rw [HCH.out, h0, h1, h2, h3, h4]; rfl)
                clear HBAD HGOOD HCH
                go_enter Try.func13, Try.ntmps13
                go_wp2_with fail
                refine (rwithinOf mx 0 1099511627776 _).mono ?_
                rintro e w3 ⟨rfl, rfl⟩
                rw [h2]
                go_wp2_with fail
                refine (rwithinOf mk 0 mx _).mono ?_
                rintro e w4 ⟨rfl, rfl⟩
                rw [h3]
                go_wp2_with fail
                refine (rwithinOf mc 0 1125899906842623 _).mono ?_
                rintro e w5 ⟨rfl, rfl⟩
                rw [h4]
                go_wp2
                go_ret
                exact ⟨by rw [HA.out]; rfl, HB0.out⟩
              | true =>
                cases h5 : okSegs sg mn with
                | false =>
                  have HA : Hid (A = 70) := HBAD.out (by rw [HCH.out, h0, h1, h2, h3, h4, h5]; rfl)
                  clear HBAD HGOOD HCH
                  go_enter Try.func13, Try.ntmps13
                  go_wp2_with fail
                  refine (rwithinOf mx 0 1099511627776 _).mono ?_
                  rintro e w3 ⟨rfl, rfl⟩
                  rw [h2]
                  go_wp2_with fail
                  refine (rwithinOf mk 0 mx _).mono ?_
                  rintro e w4 ⟨rfl, rfl⟩
                  rw [h3]
                  go_wp2_with fail
                  refine (rwithinOf mc 0 1125899906842623 _).mono ?_
                  rintro e w5 ⟨rfl, rfl⟩
                  rw [h4]
                  go_wp2_with fail
                  refine (segsRightOf ⟨mi, mn, mx, mk, mc, sg, pd⟩ _ _ _ (HSG.out _ (Below.refl _ _))).mono ?_
                  rintro e w6 ⟨rfl, hb⟩
                  have HB6 : Hid (Below w5.heap.size w5 w6) := hb
                  obtain ⟨n0, n1, n2, n3, n4, n5, n6⟩ := HM.out _ hb
                  clear hb
                  simp only
                  rw [h5]
                  go_wp2
                  go_ret
                  exact ⟨by rw [HA.out]; rfl, below_step HB0.out HB6.out⟩
                | true =>
                  cases h6 : okProds pd mx with
                  | false =>
                    have HA : Hid (A = 70) := HBAD.out (by rw [HCH.out, h0, h1, h2, h3, h4, h5, h6]; rfl)
                    clear HBAD HGOOD HCH
                    go_enter Try.func13, Try.ntmps13
                    go_wp2_with fail
                    refine (rwithinOf mx 0 1099511627776 _).mono ?_
                    rintro e w3 ⟨rfl, rfl⟩
                    rw [h2]
                    go_wp2_with fail
                    refine (rwithinOf mk 0 mx _).mono ?_
                    rintro e w4 ⟨rfl, rfl⟩
                    rw [h3]
                    go_wp2_with fail
                    refine (rwithinOf mc 0 1125899906842623 _).mono ?_
                    rintro e w5 ⟨rfl, rfl⟩
                    rw [h4]
                    go_wp2_with fail
                    refine (segsRightOf ⟨mi, mn, mx, mk, mc, sg, pd⟩ _ _ _ (HSG.out _ (Below.refl _ _))).mono ?_
                    rintro e w6 ⟨rfl, hb⟩
                    have HB6 : Hid (Below w5.heap.size w5 w6) := hb
                    obtain ⟨n0, n1, n2, n3, n4, n5, n6⟩ := HM.out _ hb
                    clear hb
                    simp only
                    rw [h5]
                    go_wp2_with fail
                    refine (prodsRightOf ⟨mi, mn, mx, mk, mc, sg, pd⟩ _ _ _ (HPD.out _ HB6.out) (inW_iff.mp h2)).mono ?_
                    rintro e w7 ⟨rfl, hb⟩
                    have HBZ : Hid (Below w.heap.size w w7) := below_step (below_step HB0.out HB6.out) hb
                    clear hb
                    simp only
                    rw [h6]
                    go_wp2
                    go_ret
                    exact ⟨by rw [HA.out]; rfl, HBZ.out⟩
                  | true =>
                    have HA : Hid (A = 0) := HGOOD.out (by rw [HCH.out, h0, h1, h2, h3, h4, h5, h6]; rfl)
                    clear HBAD HGOOD HCH
                    go_enter Try.func13, Try.ntmps13
                    go_wp2_with fail
                    refine (rwithinOf mx 0 1099511627776 _).mono ?_
                    rintro e w3 ⟨rfl, rfl⟩
                    rw [h2]
                    go_wp2_with fail
                    refine (rwithinOf mk 0 mx _).mono ?_
                    rintro e w4 ⟨rfl, rfl⟩
                    rw [h3]
                    go_wp2_with fail
                    refine (rwithinOf mc 0 1125899906842623 _).mono ?_
                    rintro e w5 ⟨rfl, rfl⟩
                    rw [h4]
                    go_wp2_with fail
                    refine (segsRightOf ⟨mi, mn, mx, mk, mc, sg, pd⟩ _ _ _ (HSG.out _ (Below.refl _ _))).mono ?_
                    rintro e w6 ⟨rfl, hb⟩
                    have HB6 : Hid (Below w5.heap.size w5 w6) := hb
                    obtain ⟨n0, n1, n2, n3, n4, n5, n6⟩ := HM.out _ hb
                    clear hb
                    simp only
                    rw [h5]
                    go_wp2_with fail
                    refine (prodsRightOf ⟨mi, mn, mx, mk, mc, sg, pd⟩ _ _ _ (HPD.out _ HB6.out) (inW_iff.mp h2)).mono ?_
                    rintro e w7 ⟨rfl, hb⟩
                    have HBZ : Hid (Below w.heap.size w w7) := below_step (below_step HB0.out HB6.out) hb
                    clear hb
                    simp only
                    rw [h6]
                    go_wp2
                    go_ret
                    exact ⟨by rw [HA.out]; rfl, HBZ.out⟩
end Go.Proofs.Ytpeejgnkdoeijaa
