import Derived.Test.YtbeaefokpggmpaaQtg
/-! quota: filled in two steps, the same. -/
namespace Go.Proofs.Ytbeaefokpggmpaa
open Go.RowKit
set_option linter.unusedVariables false

theorem withP_num (b : Bk) (p t : Int) : (b.withP p t).num = b.num := by unfold Bk.withP; split <;> rfl
theorem withP_den (b : Bk) (p t : Int) : (b.withP p t).den = b.den := by unfold Bk.withP; split <;> rfl
theorem withP_burst (b : Bk) (p t : Int) : (b.withP p t).burst = b.burst := by unfold Bk.withP; split <;> rfl
theorem withP_at (b : Bk) (p t : Int) : (b.withP p t).at_ = t := by unfold Bk.withP; split <;> rfl
/-- A bucket with parts is told by its rate and these. -/
theorem withP_of {b c : Bk} (h1 : c.num = b.num) (h2 : c.den = b.den) (h3 : c.burst = b.burst) {p q : Int} (hpq : p = q ∨ (b.burst * b.den ≤ p ∧ b.burst * b.den ≤ q)) (t : Int) : c.withP p t = b.withP q t := by
  obtain ⟨n, d, u, l, pp, a⟩ := b
  obtain ⟨n', d', u', l', pp', a'⟩ := c
  simp only at h1 h2 h3 hpq
  subst h1 h2 h3
  unfold Bk.withP
  simp only
  rcases hpq with rfl | ⟨h4, h5⟩
  · rfl
  · rw [if_pos h4, if_pos h5]
theorem fillP_pos {b : Bk} (h : b.Good) {t k : Int} (ht : b.at_ < t) (hk : min t 1125899906842623 = k) : fillP b t = b.withP (b.parts + b.num * (k - b.at_)) k := by unfold fillP; rw [if_pos ⟨h, ht⟩, hk]
theorem fillP_neg {b : Bk} {t : Int} (ht : ¬ b.at_ < t) : fillP b t = b := by unfold fillP; rw [if_neg (fun hh => ht hh.2)]
theorem fill_steps {b : Bk} (h : b.Good) {s t : Int} (hst : s ≤ t) : fillP (fillP b s) t = fillP b t := by
  by_cases hs : b.at_ < s
  · have hp := h.prod
    have hp0 := h.p0
    have ha0 := h.a0
    have ha1 := h.a1
    have hn0 := h.n0
    obtain ⟨m, hm⟩ : ∃ m, min s 1125899906842623 = m := ⟨_, rfl⟩
    obtain ⟨k, hk⟩ : ∃ k, min t 1125899906842623 = k := ⟨_, rfl⟩
    have e1 : fillP b s = b.withP (b.parts + b.num * (m - b.at_)) m := by unfold fillP; rw [if_pos ⟨h, hs⟩, hm]
    have e2 : fillP b t = b.withP (b.parts + b.num * (k - b.at_)) k := by unfold fillP; rw [if_pos ⟨h, by omega⟩, hk]
    have hg := h.fill s
    by_cases hmt : m < t
    · have e3 : fillP (fillP b s) t = (fillP b s).withP ((fillP b s).parts + (fillP b s).num * (k - (fillP b s).at_)) k := fillP_pos hg (by rw [e1, withP_at]; exact hmt) hk
      rw [e3, e1, withP_num, withP_at, Bk.withP_parts h, e2]
      have h9 : b.num * (k - b.at_) = b.num * (m - b.at_) + b.num * (k - m) := by rw [← Int.mul_add]; congr 1; omega
      have h8 : 0 ≤ b.num * (k - m) := Int.mul_nonneg (by omega) (by omega)
      refine withP_of (withP_num _ _ _) (withP_den _ _ _) (withP_burst _ _ _) ?_ k
      by_cases hf : b.parts + b.num * (m - b.at_) ≤ b.burst * b.den
      · left; omega
      · right; omega
    · have : s = t := by omega
      subst this
      have e4 : ¬ ((fillP b s).at_ < s) := by rw [e1, withP_at]; omega
      exact fillP_neg e4
  · have : fillP b s = b := by unfold fillP; rw [if_neg (fun hh => hs hh.2)]
    rw [this]
theorem fill_lvl {b : Bk} (h : b.Good) (t : Int) : b.lvl ≤ (fillP b t).lvl := by
  unfold fillP
  split
  · rename_i hh
    have h1 := h.l1
    have h2 := h.p0
    have h3 := h.d0
    have h4 : 0 ≤ b.num * (min t 1125899906842623 - b.at_) := Int.mul_nonneg (by have := h.n0; omega) (by have := h.a1; omega)
    unfold Bk.withP
    split
    · exact h1
    · simp only
      refine (Int.le_ediv_iff_mul_le (by omega)).2 ?_
      unfold Bk.parts
      omega
  · exact Int.le_refl _

set_option maxHeartbeats 2000000 in
theorem stepsWalk (b : Bk) (hb : b.Ok) (s t : Int) (h1 : I64 s) (h2 : I64 t) (w : World) : Calls Try.prog 5 #[b.v, .int .i64 s, .int .i64 t] w fun e w' => e = .returned (.bool true) ∧ Below w.heap.size w w' := by
  have HWK : Hid (∀ u, Calls Try.prog 13 #[] u fun e w' => e = .returned (.bool true) ∧ Below u.heap.size u w') := worksOf
  by_cases hg : b.Good
  · have HC : Hid (∀ u, Calls Try.prog 11 #[b.v] u fun e w' => e = .returned (.int .i64 0) ∧ Below u.heap.size u w') := fun u => by rw [← chkB_good hg]; exact checkOf b hb u
    by_cases hst : s ≤ t
    · obtain ⟨c, hc⟩ : ∃ c, fillP b s = c := ⟨_, rfl⟩
      obtain ⟨d, hd⟩ : ∃ d, fillP b t = d := ⟨_, rfl⟩
      have hcg : c.Good := hc ▸ hg.fill s
      have hdg : d.Good := hd ▸ hg.fill t
      have hcd : fillP c t = d := by rw [← hc, ← hd]; exact fill_steps hg hst
      have hlv : b.lvl ≤ d.lvl := hd ▸ fill_lvl hg t
      have HF1 : Hid (∀ u, Calls Try.prog 15 #[b.v, .int .i64 s] u fun e w' => e = .returned c.v ∧ Below u.heap.size u w') := fun u => by rw [← hc]; exact fillOf b hb s h1 u
      have HF2 : Hid (∀ u, Calls Try.prog 15 #[c.v, .int .i64 t] u fun e w' => e = .returned d.v ∧ Below u.heap.size u w') := fun u => by rw [← hcd]; exact fillOf c hcg.ok t h2 u
      have HF3 : Hid (∀ u, Calls Try.prog 15 #[b.v, .int .i64 t] u fun e w' => e = .returned d.v ∧ Below u.heap.size u w') := fun u => by rw [← hd]; exact fillOf b hb t h2 u
      have HC2 : Hid (∀ u, Calls Try.prog 11 #[d.v] u fun e w' => e = .returned (.int .i64 0) ∧ Below u.heap.size u w') := fun u => by rw [← chkB_good hdg]; exact checkOf d hdg.ok u
      obtain ⟨l, p, a, hfe⟩ := fillP_same b t
      rw [hd] at hfe
      subst hfe
      clear hc hd hcg hdg hcd hb h1 h2 hg
      obtain ⟨c1, c2, c3, c4, c5, c6⟩ := c
      obtain ⟨b1, b2, b3, b4, b5, b6⟩ := b
      simp only at hlv HC2 HF2 HF3
      obtain ⟨w0, hw0, B0, -⟩ := box_alloc (Below.refl w.heap.size w) b1 b2 b3 b4 b5 b6
      have HB0 : Hid (Box w w0 w.heap.size ⟨b1, b2, b3, b4, b5, b6⟩) := B0
      obtain ⟨z0, z1, z2, z3, z4, z5⟩ := B0.at_
      simp only at z0 z1 z2 z3 z4 z5
      clear B0
      unfold Bk.v
      go_enter Try.func5, Try.ntmps5
      go_wp2_with fail
      refine (HC.out _).mono ?_
      rintro e w1 ⟨rfl, hb1⟩
      have HB1 : Hid (Box w w1 w.heap.size ⟨b1, b2, b3, b4, b5, b6⟩) := HB0.out.later hb1
      clear z0 z1 z2 z3 z4 z5 hb1
      obtain ⟨z0, z1, z2, z3, z4, z5⟩ := HB1.out.at_
      simp only at z0 z1 z2 z3 z4 z5
      go_wp2_with fail
      refine (HF1.out _).mono ?_
      rintro e w2 ⟨rfl, hb2⟩
      have HB2 : Hid (Box w w2 w.heap.size ⟨b1, b2, b3, b4, b5, b6⟩) := HB1.out.later hb2
      clear z0 z1 z2 z3 z4 z5 hb2
      go_wp2_with fail
      refine (HF2.out _).mono ?_
      rintro e w3 ⟨rfl, hb3⟩
      obtain ⟨v3, hv3, X3, g3⟩ := box_alloc (HB2.out.later hb3).bel b1 b2 b3 l p a
      have HX3 : Hid (Box w v3 w3.heap.size ⟨b1, b2, b3, l, p, a⟩) := X3
      have HB3 : Hid (Box w v3 w.heap.size ⟨b1, b2, b3, b4, b5, b6⟩) := (HB2.out.later hb3).later g3
      clear hb3 g3 X3
      obtain ⟨z0, z1, z2, z3, z4, z5⟩ := HB3.out.at_
      simp only at z0 z1 z2 z3 z4 z5
      go_wp2_with fail
      refine (HF3.out _).mono ?_
      rintro e w4 ⟨rfl, hb4⟩
      obtain ⟨v4, hv4, Y4, g4⟩ := box_alloc (HB3.out.later hb4).bel b1 b2 b3 l p a
      have HY4 : Hid (Box w v4 w4.heap.size ⟨b1, b2, b3, l, p, a⟩) := Y4
      have HX4 : Hid (Box w v4 w3.heap.size ⟨b1, b2, b3, l, p, a⟩) := (HX3.out.later hb4).later g4
      have HB4 : Hid (Box w v4 w.heap.size ⟨b1, b2, b3, b4, b5, b6⟩) := (HB3.out.later hb4).later g4
      clear hb4 g4 Y4 z0 z1 z2 z3 z4 z5
      obtain ⟨z0, z1, z2, z3, z4, z5⟩ := HB4.out.at_
      obtain ⟨x0, x1, x2, x3, x4, x5⟩ := HX4.out.at_
      obtain ⟨y0, y1, y2, y3, y4, y5⟩ := HY4.out.at_
      simp only at z0 z1 z2 z3 z4 z5 x0 x1 x2 x3 x4 x5 y0 y1 y2 y3 y4 y5
      go_wp2_with fail
      first
      | refine (HC2.out _).mono ?_
        rintro e w5 ⟨rfl, hb5⟩
        have HB5 : Hid (Box w w5 w.heap.size ⟨b1, b2, b3, b4, b5, b6⟩) := HB4.out.later hb5
        clear z0 z1 z2 z3 z4 z5 x0 x1 x2 x3 x4 x5 y0 y1 y2 y3 y4 y5
        obtain ⟨z0, z1, z2, z3, z4, z5⟩ := HB5.out.at_
        obtain ⟨y0, y1, y2, y3, y4, y5⟩ := (HY4.out.later hb5).at_
        simp only at z0 z1 z2 z3 z4 z5 y0 y1 y2 y3 y4 y5
        go_wp2
        go_ret
        exact ⟨by simp, HB5.out.bel⟩
      | go_region_held3 (fun u => u.cell? ⟨w.heap.size, 0, none⟩ = some (.int .i64 b1) ∧ u.cell? ⟨w.heap.size, 1, none⟩ = some (.int .i64 b2) ∧ u.cell? ⟨w.heap.size, 2, none⟩ = some (.int .i64 b3) ∧ u.cell? ⟨w.heap.size, 3, none⟩ = some (.int .i64 b4) ∧ u.cell? ⟨w.heap.size, 4, none⟩ = some (.int .i64 b5) ∧ u.cell? ⟨w.heap.size, 5, none⟩ = some (.int .i64 b6) ∧ u.cell? ⟨w3.heap.size, 0, none⟩ = some (.int .i64 b1) ∧ u.cell? ⟨w3.heap.size, 1, none⟩ = some (.int .i64 b2) ∧ u.cell? ⟨w3.heap.size, 2, none⟩ = some (.int .i64 b3) ∧ u.cell? ⟨w3.heap.size, 3, none⟩ = some (.int .i64 l) ∧ u.cell? ⟨w3.heap.size, 4, none⟩ = some (.int .i64 p) ∧ u.cell? ⟨w3.heap.size, 5, none⟩ = some (.int .i64 a) ∧ u.cell? ⟨w4.heap.size, 0, none⟩ = some (.int .i64 b1) ∧ u.cell? ⟨w4.heap.size, 1, none⟩ = some (.int .i64 b2) ∧ u.cell? ⟨w4.heap.size, 2, none⟩ = some (.int .i64 b3) ∧ u.cell? ⟨w4.heap.size, 3, none⟩ = some (.int .i64 l) ∧ u.cell? ⟨w4.heap.size, 4, none⟩ = some (.int .i64 p) ∧ u.cell? ⟨w4.heap.size, 5, none⟩ = some (.int .i64 a)) (go_keep) (first
          | (go_at_call 11
             refine (HC2.out _).mono ?_
             rintro e w5 ⟨rfl, hb5⟩
             have HP5 : Hid (Below v4.heap.size v4 w5) := (Below.drew (Below.refl _ _)).trans hb5
             rcases (HB4.out.later HP5.out).at_ with ⟨a0, a1, a2, a3, a4, a5⟩
             rcases (HX4.out.later HP5.out).at_ with ⟨p0, p1, p2, p3, p4, p5⟩
             rcases (HY4.out.later HP5.out).at_ with ⟨q0, q1, q2, q3, q4, q5⟩
             simp only at a0 a1 a2 a3 a4 a5 p0 p1 p2 p3 p4 p5 q0 q1 q2 q3 q4 q5))
        go_wp2
        go_ret
        exact ⟨by simp, (HB4.out.later HP5.out).bel⟩
    · clear hg
      obtain ⟨b1, b2, b3, b4, b5, b6⟩ := b
      obtain ⟨w0, hw0, B0, -⟩ := box_alloc (Below.refl w.heap.size w) b1 b2 b3 b4 b5 b6
      have HB0 : Hid (Box w w0 w.heap.size ⟨b1, b2, b3, b4, b5, b6⟩) := B0
      obtain ⟨z0, z1, z2, z3, z4, z5⟩ := B0.at_
      simp only at z0 z1 z2 z3 z4 z5
      clear B0 hb h1 h2
      unfold Bk.v
      go_enter Try.func5, Try.ntmps5
      go_wp2_with fail
      refine (HC.out _).mono ?_
      rintro e w1 ⟨rfl, hb1⟩
      have HB1 : Hid (Box w w1 w.heap.size ⟨b1, b2, b3, b4, b5, b6⟩) := HB0.out.later hb1
      clear z0 z1 z2 z3 z4 z5 hb1
      go_wp2_with fail
      refine (HWK.out _).mono ?_
      rintro e w2 ⟨rfl, hb2⟩
      go_wp2
      go_ret
      exact ⟨rfl, (HB1.out.later hb2).bel⟩
  · have HC : Hid (∀ u, Calls Try.prog 11 #[b.v] u fun e w' => e = .returned (.int .i64 130) ∧ Below u.heap.size u w') := fun u => by rw [← chkB_bad hg]; exact checkOf b hb u
    clear hg
    obtain ⟨b1, b2, b3, b4, b5, b6⟩ := b
    obtain ⟨w0, hw0, B0, -⟩ := box_alloc (Below.refl w.heap.size w) b1 b2 b3 b4 b5 b6
    have HB0 : Hid (Box w w0 w.heap.size ⟨b1, b2, b3, b4, b5, b6⟩) := B0
    obtain ⟨z0, z1, z2, z3, z4, z5⟩ := B0.at_
    simp only at z0 z1 z2 z3 z4 z5
    clear B0 hb h1 h2
    unfold Bk.v
    go_enter Try.func5, Try.ntmps5
    go_wp2_with fail
    refine (HC.out _).mono ?_
    rintro e w1 ⟨rfl, hb1⟩
    have HB1 : Hid (Box w w1 w.heap.size ⟨b1, b2, b3, b4, b5, b6⟩) := HB0.out.later hb1
    clear z0 z1 z2 z3 z4 z5 hb1
    go_wp2_with fail
    refine (HWK.out _).mono ?_
    rintro e w2 ⟨rfl, hb2⟩
    go_wp2
    go_ret
    exact ⟨rfl, (HB1.out.later hb2).bel⟩
end Go.Proofs.Ytbeaefokpggmpaa
