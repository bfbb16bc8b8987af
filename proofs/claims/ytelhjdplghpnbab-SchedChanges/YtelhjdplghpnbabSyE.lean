import Derived.Test.YtelhjdplghpnbabSyD
/-! The program's Check. -/
namespace Go.Proofs.Ytelhjdplghpnbab
open Go.RowKit Plain
set_option linter.unusedVariables false
set_option linter.unusedSimpArgs false

theorem head_some (t : Tr) : headB t = (decide (32 < t.qs.length) || !someB t.qs.length t.at' t.fresh) := by
  unfold headB someB
  by_cases h0 : t.qs.length = 0
  · rw [if_pos h0, h0]
    cases t.fresh with
    | true => simp
    | false =>
      by_cases hz : t.at' = 0
      · simp [hz]; omega
      · simp [hz]; omega
  · rw [if_neg h0]
    by_cases h1 : t.at' < 0
    · simp [h1]
    · by_cases h2 : t.at' < t.qs.length
      · have : ¬ max ((t.qs.length : Int) - 1) 0 < t.at' := by omega
        simp [h0, h1, h2, this]
      · have : max ((t.qs.length : Int) - 1) 0 < t.at' := by omega
        simp [h0, h1, h2, this]
/-- What is left of a queue's right, the ids told. -/
theorem bad_left {t : Tr} (hr : riseTo t.qs t.qs.length) {i : Nat} (hi : i < t.qs.length) : badQ t i = true ↔ ((t.q i).quantum < 1 ∨ 65536 < (t.q i).quantum ∨ (t.q i).deficit < 0 ∨ mostG t i < (t.q i).deficit) := by
  rw [badQ_iff]
  have h := hr i hi
  have e : t.q i = t.qs.getD i Qu.zero := rfl
  have e1 : t.q (i - 1) = t.qs.getD (i - 1) Qu.zero := rfl
  rw [e, e1]
  unfold mostG
  rw [e]
  have hm : 0 ≤ t.most i := by unfold Tr.most; split <;> omega
  constructor
  · rintro (h1 | h1 | h1 | h1 | h1 | h1 | h1)
    · omega
    · have := h.2 h1.1; omega
    · exact .inl h1
    · exact .inr (.inl h1)
    · exact .inr (.inr (.inl h1))
    · refine .inr (.inr (.inr ?_)); split <;> omega
    · refine .inr (.inr (.inr ?_)); rw [if_pos h1.1]; exact h1.2
  · rintro (h1 | h1 | h1 | h1)
    · exact .inr (.inr (.inl h1))
    · exact .inr (.inr (.inr (.inl h1)))
    · exact .inr (.inr (.inr (.inr (.inl h1))))
    · split at h1
      · rename_i hc; exact .inr (.inr (.inr (.inr (.inr (.inr ⟨hc, h1⟩)))))
      · exact .inr (.inr (.inr (.inr (.inr (.inl h1)))))
theorem rise_bad {t : Tr} (hn : ¬ riseTo t.qs t.qs.length) : ∃ i, i < t.qs.length ∧ badQ t i = true := by
  apply Classical.byContradiction
  intro hc
  apply hn
  intro j hj
  have hf : badQ t j = false := by
    cases hb : badQ t j with
    | false => rfl
    | true => exact absurd ⟨j, hj, hb⟩ hc
  exact ⟨(badQ_is hf).1, (badQ_is hf).2.1⟩
set_option maxHeartbeats 8000000 in
set_option maxRecDepth 100000 in
theorem checkOk : CheckOk := by
  intro t v w h
  obtain ⟨l, z, f⟩ := t
  have HTR := Hid.mkT h
  obtain ⟨hrow, hz1, hz2⟩ := h
  simp only at hrow hz1 hz2
  obtain ⟨a, cap, rfl, hl⟩ := hrow.shape
  unfold turV
  simp only
  obtain ⟨w0, hw0⟩ : ∃ w0, w.alloc (.cells #[.slice a l.length cap, .int .i64 z, .bool f] 24) = w0 := ⟨_, rfl⟩
  obtain ⟨B, hB⟩ : ∃ B, w.heap.size = B := ⟨_, rfl⟩
  have HB0 : Hid (Below w.heap.size w w0) := by have := (turBox w (.slice a l.length cap) z f).1; rw [hw0] at this; exact this
  have HM : Hid (∀ u, Below w0.heap.size w0 u → u.cell? ⟨B, 0, none⟩ = some (.slice a l.length cap) ∧ u.cell? ⟨B, 1, none⟩ = some (.int .i64 z) ∧ u.cell? ⟨B, 2, none⟩ = some (.bool f)) := by have := (turBox w (.slice a l.length cap) z f).2; rw [hw0, hB] at this; exact this
  have HC : Hid (∀ i, i < l.length → ∃ b off ca cc, a = some ⟨b, off, none⟩ ∧ (∀ u, Below w0.heap.size w0 u → Qv.CellsAt u b (off + i * 4) ⟨(l.getD i Qu.zero).id, (l.getD i Qu.zero).quantum, (l.getD i Qu.zero).deficit, ca, (l.getD i Qu.zero).costs.length, cc⟩ ∧ IntsAt u (.slice ca (l.getD i Qu.zero).costs.length cc) (l.getD i Qu.zero).costs)) := fun i hi => by
    obtain ⟨b, off, ca, cc, e, h1, h2⟩ := hrow.at hi
    exact ⟨b, off, ca, cc, e, fun u hu => h1 u (below_of HB0.out hu)⟩
  have HS : Hid (∀ u, Calls Try.prog 19 #[.agg #[.slice a l.length cap, .int .i64 z, .bool f]] u fun e w' => e = .returned (.bool (someB l.length z f)) ∧ Below u.heap.size u w') := fun u => qisSomeonesTurnOf a l.length cap z f u
  have HR : Hid (∀ u, Below w0.heap.size w0 u → Calls Try.prog 20 #[.slice a l.length cap] u fun e w' => ∃ r : Bool, e = .returned (.bool r) ∧ (r = true ↔ riseTo l l.length) ∧ Below u.heap.size u w') := fun u hu => qidsRiseOf l _ u (hrow.later (below_of HB0.out hu))
  have HG : Hid (∀ i, i < l.length → ∀ u, Below w0.heap.size w0 u → Calls Try.prog 22 #[.agg #[.slice a l.length cap, .int .i64 z, .bool f], .int .i64 i] u fun e w' => e = .returned (.int .i64 (mostG ⟨l, z, f⟩ i)) ∧ Below u.heap.size u w') := fun i hi u hu => qgreatestDeficitOf ⟨l, z, f⟩ _ u (HTR.out.later (below_of HB0.out hu)) i hi
  have HHD : Hid (headB ⟨l, z, f⟩ = (decide (32 < l.length) || !someB l.length z f)) := head_some ⟨l, z, f⟩
  have HX1 : Hid (headB ⟨l, z, f⟩ = true → chkT ⟨l, z, f⟩ = 190) := chk_head
  have HX2 : Hid (headB ⟨l, z, f⟩ = false → ∀ i, i < l.length → badQ ⟨l, z, f⟩ i = true → chkT ⟨l, z, f⟩ = 190) := fun h i hi => chk_bad (t := ⟨l, z, f⟩) h hi
  have HX3 : Hid (headB ⟨l, z, f⟩ = false → (∀ i, i < l.length → badQ ⟨l, z, f⟩ i = false) → ∀ i, i < l.length → badL (l.getD i Qu.zero).costs = true → chkT ⟨l, z, f⟩ = 191) := fun h hq i hi hb => chk_cost (t := ⟨l, z, f⟩) h hq hi hb
  have HX4 : Hid (headB ⟨l, z, f⟩ = false → (∀ i, i < l.length → badQ ⟨l, z, f⟩ i = false) → (∀ i, i < l.length → badL (l.getD i Qu.zero).costs = false) → chkT ⟨l, z, f⟩ = 0) := fun h hq hb => chk_fine (t := ⟨l, z, f⟩) h hq hb
  have HXR : Hid (¬ riseTo l l.length → ∃ i, i < l.length ∧ badQ ⟨l, z, f⟩ i = true) := fun h => rise_bad (t := ⟨l, z, f⟩) h
  have HBQ : Hid (riseTo l l.length → ∀ i, i < l.length → (badQ ⟨l, z, f⟩ i = true ↔ ((l.getD i Qu.zero).quantum < 1 ∨ 65536 < (l.getD i Qu.zero).quantum ∨ (l.getD i Qu.zero).deficit < 0 ∨ mostG ⟨l, z, f⟩ i < (l.getD i Qu.zero).deficit))) := fun h i hi => bad_left (t := ⟨l, z, f⟩) h hi
  generalize chkT ⟨l, z, f⟩ = A at *
  clear hrow HTR
  obtain ⟨m0, m1, m2⟩ := HM.out w0 (Below.refl _ _)
  by_cases g1 : 32 < l.length
  · have g1' : (32 : Int) < (l.length : Int) := by omega
    have HA1 : Hid (A = 190) := HX1.out (by rw [HHD.out]; simp [g1])
    clear HHD HX1 HX2 HX3 HX4 HBQ HC HXR HS HR HG
    go_enter Try.func6, Try.ntmps6
    go_wp2
    go_ret
    exact ⟨by rw [HA1.out]; rfl, by first | exact HB0.out | (rw [← hB]; exact HB0.out)⟩
  have g1' : ¬ (32 : Int) < (l.length : Int) := by omega
  go_enter Try.func6, Try.ntmps6
  go_wp2_with fail
  refine (HS.out _).mono ?_
  rintro e w1 ⟨rfl, hb1⟩
  cases hs : someB l.length z f with
  | false =>
    have HA1 : Hid (A = 190) := HX1.out (by rw [HHD.out, hs]; simp)
    have HBE : Hid (Below w.heap.size w w1) := below_of HB0.out hb1
    clear HHD HX1 HX2 HX3 HX4 HBQ HC HXR HS HR HG hs
    go_wp2
    go_ret
    exact ⟨by rw [HA1.out]; rfl, by first | exact HBE.out | (rw [← hB]; exact HBE.out)⟩
  | true =>
    have HH : Hid (headB ⟨l, z, f⟩ = false) := by unfold Hid; rw [HHD.out, hs]; simp; omega
    clear m0 m1 m2 HHD HX1
    obtain ⟨m0, m1, m2⟩ := HM.out w1 hb1
    go_wp2_with fail
    refine (HR.out _ hb1).mono ?_
    rintro e w2 ⟨r, rfl, hr, hb2⟩
    have hb3 := below_of hb1 hb2
    clear m0 m1 m2 HS HR hs
    cases r with
    | false =>
      obtain ⟨i, hi, hbad⟩ := HXR.out (fun h => by have := hr.mpr h; cases this)
      have HA1 : Hid (A = 190) := HX2.out HH.out i hi hbad
      have HBE : Hid (Below w.heap.size w w2) := below_of HB0.out hb3
      clear HX2 HX3 HX4 HBQ HC HXR HG hb1 hb2 hr hi hbad
      go_wp2
      go_ret
      exact ⟨by rw [HA1.out]; rfl, by first | exact HBE.out | (rw [← hB]; exact HBE.out)⟩
    | true =>
      have HBR := Hid.mkT (HBQ.out (hr.mp rfl))
      clear HXR HBQ hr hb1 hb2
      obtain ⟨m0, m1, m2⟩ := HM.out w2 hb3
      go_wp2
      go_loopw [25] (fun i wr => ∃ k : Nat, k ≤ l.length ∧ i = .int .i64 k ∧ Hid (∀ j, j < k → badQ ⟨l, z, f⟩ j = false) ∧ Hid (Below w0.heap.size w0 wr)) (fun i _ => l.length - (intOf i).toNat)
      case atStart => exact ⟨0, by omega, rfl, fun j hj => by omega, hb3⟩
      case round =>
        obtain ⟨k, hk, rfl, HAL, HBW⟩ := hrel
        clear m0 m1 m2 hb3
        obtain ⟨m0, m1, m2⟩ := HM.out wr HBW.out
        by_cases hlt : k < l.length
        · obtain ⟨b, off, ca, cc, rfl, hcu⟩ := HC.out k hlt
          obtain ⟨⟨c0, c1, c2, c3⟩, -⟩ := hcu wr HBW.out
          simp only at c0 c1 c2 c3
          have HB1 := Hid.mkT (HBR.out k hlt)
          have HGk := Hid.mkT (HG.out k hlt)
          clear hcu
          obtain ⟨xi, hxi⟩ : ∃ xi, (l.getD k Qu.zero).id = xi := ⟨_, rfl⟩
          obtain ⟨xq, hxq⟩ : ∃ xq, (l.getD k Qu.zero).quantum = xq := ⟨_, rfl⟩
          obtain ⟨xd, hxd⟩ : ∃ xd, (l.getD k Qu.zero).deficit = xd := ⟨_, rfl⟩
          obtain ⟨xn, hxn⟩ : ∃ xn, (l.getD k Qu.zero).costs.length = xn := ⟨_, rfl⟩
          obtain ⟨G, hGG⟩ : ∃ G, mostG ⟨l, z, f⟩ k = G := ⟨_, rfl⟩
          rw [hxi] at c0
          rw [hxq] at c1 HB1
          rw [hxd] at c2 HB1
          rw [hxn] at c3
          rw [hGG] at HB1 HGk
          clear hxi hxq hxd hxn hGG
          have hki : (k : Int) < (l.length : Int) := by omega
          obtain ⟨w5, hw5⟩ : ∃ w5, wr.alloc (.cells #[.int .i64 xi, .int .i64 xq, .int .i64 xd, .slice ca xn cc] 37) = w5 := ⟨_, rfl⟩
          have hqb := queBox wr xi xq xd (.slice ca xn cc)
          rw [hw5] at hqb
          have HB5 := Hid.mkT hqb.1
          obtain ⟨y0, y1, y2, y3⟩ := hqb.2 w5 (Below.refl _ _)
          obtain ⟨C, hC⟩ : ∃ C, wr.heap.size = C := ⟨_, rfl⟩
          rw [hC] at y0 y1 y2 y3
          clear hqb
          go_wp2_with fail
          clear c0 c1 c2 c3 m0 m1 m2
          obtain ⟨m0, m1, m2⟩ := HM.out w5 (below_of HBW.out HB5.out)
          have r1 := cell_regrown y1
          have r2 := cell_regrown y2
          have p0 := cell_regrown m0
          have p1 := cell_regrown m1
          have p2 := cell_regrown m2
          have cG : ∀ d os, Calls Try.prog 22 #[.agg #[.slice (some ⟨b, off, none⟩) l.length cap, .int .i64 z, .bool f], .int .i64 k] (Go.Sort.grow (redrawn w5 d) os) fun e w'' => e = .returned (.int .i64 G) ∧ ∃ p : Regrown, w'' = Go.Sort.grow (redrawn w5 p.d) p.os := fun d os => Calls.regrown_of (HGk.out _ (below_of (below_of HBW.out HB5.out) (below_regrown w5 d os)))
          clear y0 y1 y2 y3 HGk
          cases hq : (decide (1 ≤ xq) && decide (xq ≤ 65536)) with
          | false =>
            have cQ : ∀ d os, Calls Try.prog 21 #[.int .i64 xq] (Go.Sort.grow (redrawn w5 d) os) fun e w'' => e = .returned (.bool false) ∧ ∃ p : Regrown, w'' = Go.Sort.grow (redrawn w5 p.d) p.os := fun d os => Calls.regrown_of ((qisQuantumOf xq _).mono (by rintro e w' ⟨rfl, rfl⟩; exact ⟨by rw [hq], Below.refl _ _⟩))
            refine wp_region_quiet_below (by kernel_rfl) (by kernel_rfl) ?_
            repeat (go_big_quiet_step (exact cQ _ _))
            refine wpQuiet_nil ?_
            intro _ hw'
            obtain ⟨⟨dq, osq⟩, hw''⟩ := hw'
            subst hw''
            obtain ⟨w6, hw6⟩ : ∃ u, Go.Sort.grow (redrawn w5 dq) osq = u := ⟨_, rfl⟩
            have hb6 : Below w5.heap.size w5 w6 := by rw [← hw6]; exact below_regrown w5 dq osq
            rw [hw6]
            have HBV : Hid (Below w0.heap.size w0 w6) := below_of HBW.out (below_of HB5.out hb6)
            clear r1 r2 p0 p1 p2 cQ cG hw6 hb6 m0 m1 m2
            have HBE : Hid (Below w.heap.size w w6) := below_of HB0.out HBV.out
            have HA1 : Hid (A = 190) := HX2.out HH.out k hlt (HB1.out.mpr (by simp at hq; omega))
            go_wp2
            go_ret
            exact ⟨by rw [HA1.out]; rfl, by first | exact HBE.out | (rw [← hB]; exact HBE.out)⟩
          | true =>
            simp only [Bool.and_eq_true, decide_eq_true_eq] at hq
            have hq : (decide (1 ≤ xq) && decide (xq ≤ 65536)) = true := by simp [hq.1, hq.2]
            by_cases hd0 : xd < 0
            · have hd0' : decide (xd < 0) = true := by simpa using hd0
              have cQ : ∀ d os, Calls Try.prog 21 #[.int .i64 xq] (Go.Sort.grow (redrawn w5 d) os) fun e w'' => e = .returned (.bool true) ∧ ∃ p : Regrown, w'' = Go.Sort.grow (redrawn w5 p.d) p.os := fun d os => Calls.regrown_of ((qisQuantumOf xq _).mono (by rintro e w' ⟨rfl, rfl⟩; exact ⟨by rw [hq], Below.refl _ _⟩))
              refine wp_region_quiet_below (by kernel_rfl) (by kernel_rfl) ?_
              repeat (go_big_quiet_step (exact cQ _ _))
              refine wpQuiet_nil ?_
              intro _ hw'
              obtain ⟨⟨dq, osq⟩, hw''⟩ := hw'
              subst hw''
              obtain ⟨w6, hw6⟩ : ∃ u, Go.Sort.grow (redrawn w5 dq) osq = u := ⟨_, rfl⟩
              have hb6 : Below w5.heap.size w5 w6 := by rw [← hw6]; exact below_regrown w5 dq osq
              rw [hw6]
              have HBV : Hid (Below w0.heap.size w0 w6) := below_of HBW.out (below_of HB5.out hb6)
              clear r1 r2 p0 p1 p2 cQ cG hw6 hb6 m0 m1 m2
              have HBE : Hid (Below w.heap.size w w6) := below_of HB0.out HBV.out
              have HA1 : Hid (A = 190) := HX2.out HH.out k hlt (HB1.out.mpr (by omega))
              go_wp2
              go_ret
              exact ⟨by rw [HA1.out]; rfl, by first | exact HBE.out | (rw [← hB]; exact HBE.out)⟩
            · have hd0' : decide (xd < 0) = false := by simpa using hd0
              by_cases hdG : G < xd
              · have hdG' : decide (G < xd) = true := by simpa using hdG
                have cQ : ∀ d os, Calls Try.prog 21 #[.int .i64 xq] (Go.Sort.grow (redrawn w5 d) os) fun e w'' => e = .returned (.bool true) ∧ ∃ p : Regrown, w'' = Go.Sort.grow (redrawn w5 p.d) p.os := fun d os => Calls.regrown_of ((qisQuantumOf xq _).mono (by rintro e w' ⟨rfl, rfl⟩; exact ⟨by rw [hq], Below.refl _ _⟩))
                refine wp_region_quiet_below (by kernel_rfl) (by kernel_rfl) ?_
                repeat (go_big_quiet_step (first | exact cQ _ _ | exact cG _ _))
                refine wpQuiet_nil ?_
                intro _ hw'
                obtain ⟨⟨dq, osq⟩, hw''⟩ := hw'
                subst hw''
                obtain ⟨w6, hw6⟩ : ∃ u, Go.Sort.grow (redrawn w5 dq) osq = u := ⟨_, rfl⟩
                have hb6 : Below w5.heap.size w5 w6 := by rw [← hw6]; exact below_regrown w5 dq osq
                rw [hw6]
                have HBV : Hid (Below w0.heap.size w0 w6) := below_of HBW.out (below_of HB5.out hb6)
                clear r1 r2 p0 p1 p2 cQ cG hw6 hb6 m0 m1 m2
                have HBE : Hid (Below w.heap.size w w6) := below_of HB0.out HBV.out
                have HA1 : Hid (A = 190) := HX2.out HH.out k hlt (HB1.out.mpr (by omega))
                go_wp2
                go_ret
                exact ⟨by rw [HA1.out]; rfl, by first | exact HBE.out | (rw [← hB]; exact HBE.out)⟩
              · have hdG' : decide (G < xd) = false := by simpa using hdG
                have hq2 : 1 ≤ xq ∧ xq ≤ 65536 := by simpa using hq
                have cQ : ∀ d os, Calls Try.prog 21 #[.int .i64 xq] (Go.Sort.grow (redrawn w5 d) os) fun e w'' => e = .returned (.bool true) ∧ ∃ p : Regrown, w'' = Go.Sort.grow (redrawn w5 p.d) p.os := fun d os => Calls.regrown_of ((qisQuantumOf xq _).mono (by rintro e w' ⟨rfl, rfl⟩; exact ⟨by rw [hq], Below.refl _ _⟩))
                refine wp_region_quiet_below (by kernel_rfl) (by kernel_rfl) ?_
                repeat (go_big_quiet_step (first | exact cQ _ _ | exact cG _ _))
                refine wpQuiet_nil ?_
                intro _ hw'
                obtain ⟨⟨dq, osq⟩, hw''⟩ := hw'
                subst hw''
                obtain ⟨w6, hw6⟩ : ∃ u, Go.Sort.grow (redrawn w5 dq) osq = u := ⟨_, rfl⟩
                have hb6 : Below w5.heap.size w5 w6 := by rw [← hw6]; exact below_regrown w5 dq osq
                rw [hw6]
                have HBV : Hid (Below w0.heap.size w0 w6) := below_of HBW.out (below_of HB5.out hb6)
                clear r1 r2 p0 p1 p2 cQ cG hw6 hb6 m0 m1 m2
                have HOK : Hid (∀ j, j < k + 1 → badQ ⟨l, z, f⟩ j = false) := fun j hj => by
                  by_cases e : j = k
                  · rw [e]
                    cases hbb : badQ ⟨l, z, f⟩ k with
                    | false => rfl
                    | true => have := HB1.out.mp hbb; omega
                  · exact HAL.out j (by omega)
                go_wp2
                go_roundw
                case rel => exact ⟨k + 1, by omega, by go_num, HOK.out, HBV.out⟩
                case measure => simp only [intOf]; omega
        · obtain rfl : k = l.length := by omega
          have HQF : Hid (∀ i, i < l.length → badQ ⟨l, z, f⟩ i = false) := HAL.out
          have HX3' := Hid.mkT (HX3.out HH.out HQF.out)
          have HX4' := Hid.mkT (HX4.out HH.out HQF.out)
          clear HX2 HX3 HX4 HAL HQF HBR HG
          go_wp2
          go_loopw [51] (fun i wr => ∃ k : Nat, k ≤ l.length ∧ i = .int .i64 k ∧ Hid (∀ j, j < k → badL (l.getD j Qu.zero).costs = false) ∧ Hid (Below w0.heap.size w0 wr)) (fun i _ => l.length - (intOf i).toNat)
          case atStart => exact ⟨0, by omega, rfl, fun j hj => by omega, HBW.out⟩
          case round =>
            obtain ⟨k2, hk2, rfl, HAL, HBU⟩ := hrel
            clear m0 m1 m2
            by_cases hlt2 : k2 < l.length
            · obtain ⟨b, off, ca, cc, rfl, hcu⟩ := HC.out k2 hlt2
              obtain ⟨⟨c0, c1, c2, c3⟩, hin⟩ := hcu wr HBU.out
              simp only at c0 c1 c2 c3
              have HX5 := Hid.mkT (HX3'.out k2 hlt2)
              have HNX : Hid (badL (l.getD k2 Qu.zero).costs = false → ∀ j, j < k2 + 1 → badL (l.getD j Qu.zero).costs = false) := fun hb j hj => by
                by_cases e : j = k2
                · rw [e]; exact hb
                · exact HAL.out j (by omega)
              have HCA : Hid (∀ u, Below wr.heap.size wr u → Calls Try.prog 23 #[.slice ca (l.getD k2 Qu.zero).costs.length cc] u fun e w' => e = .returned (.bool (!badL (l.getD k2 Qu.zero).costs)) ∧ w' = u) := fun u hu => qareCostsOf _ _ u (hin.later hu)
              clear hcu hin
              obtain ⟨xi, hxi⟩ : ∃ xi, (l.getD k2 Qu.zero).id = xi := ⟨_, rfl⟩
              obtain ⟨xq, hxq⟩ : ∃ xq, (l.getD k2 Qu.zero).quantum = xq := ⟨_, rfl⟩
              obtain ⟨xd, hxd⟩ : ∃ xd, (l.getD k2 Qu.zero).deficit = xd := ⟨_, rfl⟩
              obtain ⟨xn, hxn⟩ : ∃ xn, (l.getD k2 Qu.zero).costs.length = xn := ⟨_, rfl⟩
              rw [hxi] at c0
              rw [hxq] at c1
              rw [hxd] at c2
              rw [hxn] at c3 HCA
              clear hxi hxq hxd hxn
              have hki : (k2 : Int) < (l.length : Int) := by omega
              obtain ⟨w5, hw5⟩ : ∃ w5, wr.alloc (.cells #[.int .i64 xi, .int .i64 xq, .int .i64 xd, .slice ca xn cc] 37) = w5 := ⟨_, rfl⟩
              have hqb := queBox wr xi xq xd (.slice ca xn cc)
              rw [hw5] at hqb
              have HB5 := Hid.mkT hqb.1
              obtain ⟨y0, y1, y2, y3⟩ := hqb.2 w5 (Below.refl _ _)
              obtain ⟨C, hC⟩ : ∃ C, wr.heap.size = C := ⟨_, rfl⟩
              rw [hC] at y0 y1 y2 y3
              clear hqb
              have HBV : Hid (Below w0.heap.size w0 w5) := below_of HBU.out HB5.out
              have HBE : Hid (Below w.heap.size w w5) := below_of HB0.out HBV.out
              go_wp2_with fail
              refine (HCA.out _ (by first | exact HB5.out | (rw [← hC]; exact HB5.out))).mono ?_
              rintro e w6 ⟨rfl, rfl⟩
              clear HCA c0 c1 c2 c3
              cases hbl : badL (l.getD k2 Qu.zero).costs with
              | true =>
                have HA1 : Hid (A = 191) := HX5.out hbl
                clear HNX HX5
                go_wp2
                go_ret
                exact ⟨by rw [HA1.out]; rfl, by first | exact HBE.out | (rw [← hB]; exact HBE.out)⟩
              | false =>
                have HN2 := Hid.mkT (HNX.out hbl)
                clear HNX HX5
                go_wp2
                go_roundw
                case rel => exact ⟨k2 + 1, by omega, by go_num, HN2.out, HBV.out⟩
                case measure => simp only [intOf]; omega
            · have hkn2 : l.length = k2 := by omega
              have HA1 : Hid (A = 0) := HX4'.out (by rw [hkn2]; exact HAL.out)
              have HBE : Hid (Below w.heap.size w wr) := below_of HB0.out HBU.out
              go_wp2
              go_ret
              exact ⟨by rw [HA1.out]; rfl, by first | exact HBE.out | (rw [← hB]; exact HBE.out)⟩
end Go.Proofs.Ytelhjdplghpnbab
