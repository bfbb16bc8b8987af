import Derived.Test.YtbeaefokpggmpaaQth
/-! quota: waits are exact. -/
namespace Go.Proofs.Ytbeaefokpggmpaa
open Go.RowKit
set_option linter.unusedVariables false

theorem takeP_never {b c : Bk} (h : b.Good) {now n : Int} (hc : fillP b now = c) (hn : n < 0 ∨ b.burst < n) : takeP b now n = (c, -1) := by
  unfold takeP; rw [if_pos h, hc]; simp only; rw [if_pos hn]
theorem takeP_now {b c : Bk} (h : b.Good) {now n : Int} (hc : fillP b now = c) (h0 : 0 ≤ n) (h1 : n ≤ b.burst) (hl : n ≤ c.lvl) : takeP b now n = ({ c with lvl := c.lvl - n }, 0) := by
  unfold takeP; rw [if_pos h, hc]; simp only; rw [if_neg (by omega), if_pos hl]
theorem takeP_wait {b c : Bk} (h : b.Good) {now n : Int} (hc : fillP b now = c) (h0 : 0 ≤ n) (h1 : n ≤ b.burst) (hl : ¬ n ≤ c.lvl) : takeP b now n = (c, (n * c.den - c.parts + c.num - 1) / c.num) := by
  unfold takeP; rw [if_pos h, hc]; simp only; rw [if_neg (by omega), if_neg hl]
/-- Few parts are no more tokens. -/
theorem lvl_lt {b : Bk} (h : b.Good) {n p t : Int} (h1 : n ≤ b.burst) (hp : p < n * b.den) : (b.withP p t).lvl < n := by
  have hd := h.d0
  have h9 : n * b.den ≤ b.burst * b.den := Int.mul_le_mul_of_nonneg_right h1 (by omega)
  unfold Bk.withP
  rw [if_neg (by omega)]
  exact Int.ediv_lt_of_lt_mul (by omega) hp
theorem lvl_ge {b : Bk} (h : b.Good) {n p t : Int} (h1 : n ≤ b.burst) (hp : n * b.den ≤ p) : n ≤ (b.withP p t).lvl := by
  have hd := h.d0
  unfold Bk.withP
  split
  · exact h1
  · exact (Int.le_ediv_iff_mul_le (by omega)).2 hp
theorem fill_at {b : Bk} (h : b.Good) {now : Int} (h1 : b.at_ ≤ now) (h2 : now < 1125899906842624) : (fillP b now).at_ = now := by
  by_cases hlt : b.at_ < now
  · rw [fillP_pos h hlt (k := now) (by omega), withP_at]
  · rw [fillP_neg hlt]; omega
/-- A wait is exact. -/
theorem wait_exact {c : Bk} (h : c.Good) {n w : Int} (h0 : 0 ≤ n) (h1 : n ≤ c.burst) (hl : ¬ n ≤ c.lvl) (hw : (n * c.den - c.parts + c.num - 1) / c.num = w) (hm : c.at_ + w < 1125899906842624) :
    0 < w ∧ (takeP c (c.at_ + w) n).2 = 0 ∧ 0 < (takeP c (c.at_ + w - 1) n).2 := by
  have hn0 := h.n0
  have hd0 := h.d0
  have hp0 := h.p0
  have hp1 := h.p1
  have ha0 := h.a0
  have hnl : (c.lvl + 1) * c.den ≤ n * c.den := Int.mul_le_mul_of_nonneg_right (show c.lvl + 1 ≤ n by omega) (show 0 ≤ c.den by omega)
  rw [Int.add_mul] at hnl
  have hL : 1 ≤ n * c.den - c.parts := by unfold Bk.parts; omega
  obtain ⟨L, hLe⟩ : ∃ L, n * c.den - c.parts = L := ⟨_, rfl⟩
  rw [hLe] at hw hL
  have e1 := Int.mul_ediv_add_emod (L + c.num - 1) c.num
  have e2 := Int.emod_lt_of_pos (L + c.num - 1) (show 0 < c.num by omega)
  have e3 := Int.emod_nonneg (L + c.num - 1) (show c.num ≠ 0 by omega)
  rw [hw] at e1
  have hw0 : 0 < w := by rw [← hw]; exact Int.lt_of_lt_of_le (by omega) ((Int.le_ediv_iff_mul_le (by omega) (a := 1)).2 (by omega))
  have hge : L ≤ c.num * w := by omega
  have hlt : c.num * (w - 1) < L := by rw [Int.mul_sub]; omega
  refine ⟨hw0, ?_, ?_⟩
  · have ef := fillP_pos h (t := c.at_ + w) (k := c.at_ + w) (by omega) (by omega)
    rw [takeP_now h ef h0 h1]
    refine lvl_ge h h1 ?_
    rw [show c.at_ + w - c.at_ = w by omega]
    omega
  · by_cases hw1 : w - 1 = 0
    · have ef : fillP c (c.at_ + w - 1) = c := fillP_neg (by omega)
      rw [takeP_wait h ef h0 h1 hl, hLe]
      simp only
      omega
    · have ef := fillP_pos h (t := c.at_ + w - 1) (k := c.at_ + w - 1) (by omega) (by omega)
      have hpl : c.parts + c.num * (c.at_ + w - 1 - c.at_) < n * c.den := by rw [show c.at_ + w - 1 - c.at_ = w - 1 by omega]; omega
      have hll := lvl_lt h (t := c.at_ + w - 1) h1 hpl
      rw [takeP_wait h ef h0 h1 (by omega), Bk.withP_parts h, withP_den, withP_num]
      simp only
      have hx : c.num * 1 ≤ n * c.den - min (c.parts + c.num * (c.at_ + w - 1 - c.at_)) (c.burst * c.den) + c.num - 1 := by omega
      exact Int.lt_of_lt_of_le (by omega) ((Int.le_ediv_iff_mul_le (by omega) (a := 1)).2 (by omega))

set_option maxHeartbeats 4000000 in
theorem waitWalk (b : Bk) (hb : b.Ok) (now n : Int) (h1 : I64 now) (h2 : I64 n) (w : World) : Calls Try.prog 6 #[b.v, .int .i64 now, .int .i64 n] w fun e w' => e = .returned (.bool true) ∧ Below w.heap.size w w' := by
  have HWK : Hid (∀ u, Calls Try.prog 13 #[] u fun e w' => e = .returned (.bool true) ∧ Below u.heap.size u w') := worksOf
  by_cases hg : b.Good
  case neg =>
    have HC : Hid (∀ u, Calls Try.prog 11 #[b.v] u fun e w' => e = .returned (.int .i64 130) ∧ Below u.heap.size u w') := fun u => by rw [← chkB_bad hg]; exact checkOf b hb u
    clear hg
    obtain ⟨b1, b2, b3, b4, b5, b6⟩ := b
    obtain ⟨w0, hw0, B0, -⟩ := box_alloc (Below.refl w.heap.size w) b1 b2 b3 b4 b5 b6
    have HB0 : Hid (Box w w0 w.heap.size ⟨b1, b2, b3, b4, b5, b6⟩) := B0
    obtain ⟨z0, z1, z2, z3, z4, z5⟩ := B0.at_
    simp only at z0 z1 z2 z3 z4 z5
    clear B0 hb h1 h2
    unfold Bk.v
    go_enter Try.func6, Try.ntmps6
    go_wp2_with fail
    refine (HC.out _).mono ?_
    rintro e w1 ⟨rfl, hb1⟩
    have HB1 : Hid (Box w w1 w.heap.size ⟨b1, b2, b3, b4, b5, b6⟩) := HB0.out.later hb1
    clear z0 z1 z2 z3 z4 z5 hb1
    obtain ⟨z0, z1, z2, z3, z4, z5⟩ := HB1.out.at_
    simp only at z0 z1 z2 z3 z4 z5
    go_wp2_with fail
    refine (HWK.out _).mono ?_
    rintro e w2 ⟨rfl, hb2⟩
    go_wp2
    go_ret
    exact ⟨rfl, (HB1.out.later hb2).bel⟩
  have HC : Hid (∀ u, Calls Try.prog 11 #[b.v] u fun e w' => e = .returned (.int .i64 0) ∧ Below u.heap.size u w') := fun u => by rw [← chkB_good hg]; exact checkOf b hb u
  by_cases hn0 : now < 0
  case pos =>
    clear hg
    obtain ⟨b1, b2, b3, b4, b5, b6⟩ := b
    obtain ⟨w0, hw0, B0, -⟩ := box_alloc (Below.refl w.heap.size w) b1 b2 b3 b4 b5 b6
    have HB0 : Hid (Box w w0 w.heap.size ⟨b1, b2, b3, b4, b5, b6⟩) := B0
    obtain ⟨z0, z1, z2, z3, z4, z5⟩ := B0.at_
    simp only at z0 z1 z2 z3 z4 z5
    clear B0 hb h1 h2
    unfold Bk.v
    go_enter Try.func6, Try.ntmps6
    go_wp2_with fail
    refine (HC.out _).mono ?_
    rintro e w1 ⟨rfl, hb1⟩
    have HB1 : Hid (Box w w1 w.heap.size ⟨b1, b2, b3, b4, b5, b6⟩) := HB0.out.later hb1
    clear z0 z1 z2 z3 z4 z5 hb1
    obtain ⟨z0, z1, z2, z3, z4, z5⟩ := HB1.out.at_
    simp only at z0 z1 z2 z3 z4 z5
    go_wp2_with fail
    refine (HWK.out _).mono ?_
    rintro e w2 ⟨rfl, hb2⟩
    go_wp2
    go_ret
    exact ⟨rfl, (HB1.out.later hb2).bel⟩
  by_cases hn1 : 1125899906842624 ≤ now
  case pos =>
    clear hg
    obtain ⟨b1, b2, b3, b4, b5, b6⟩ := b
    obtain ⟨w0, hw0, B0, -⟩ := box_alloc (Below.refl w.heap.size w) b1 b2 b3 b4 b5 b6
    have HB0 : Hid (Box w w0 w.heap.size ⟨b1, b2, b3, b4, b5, b6⟩) := B0
    obtain ⟨z0, z1, z2, z3, z4, z5⟩ := B0.at_
    simp only at z0 z1 z2 z3 z4 z5
    clear B0 hb h1 h2
    unfold Bk.v
    go_enter Try.func6, Try.ntmps6
    go_wp2_with fail
    refine (HC.out _).mono ?_
    rintro e w1 ⟨rfl, hb1⟩
    have HB1 : Hid (Box w w1 w.heap.size ⟨b1, b2, b3, b4, b5, b6⟩) := HB0.out.later hb1
    clear z0 z1 z2 z3 z4 z5 hb1
    obtain ⟨z0, z1, z2, z3, z4, z5⟩ := HB1.out.at_
    simp only at z0 z1 z2 z3 z4 z5
    go_wp2_with fail
    refine (HWK.out _).mono ?_
    rintro e w2 ⟨rfl, hb2⟩
    go_wp2
    go_ret
    exact ⟨rfl, (HB1.out.later hb2).bel⟩
  by_cases hn2 : now < b.at_
  case pos =>
    clear hg
    obtain ⟨b1, b2, b3, b4, b5, b6⟩ := b
    simp only at hn2
    obtain ⟨w0, hw0, B0, -⟩ := box_alloc (Below.refl w.heap.size w) b1 b2 b3 b4 b5 b6
    have HB0 : Hid (Box w w0 w.heap.size ⟨b1, b2, b3, b4, b5, b6⟩) := B0
    obtain ⟨z0, z1, z2, z3, z4, z5⟩ := B0.at_
    simp only at z0 z1 z2 z3 z4 z5
    clear B0 hb h1 h2
    unfold Bk.v
    go_enter Try.func6, Try.ntmps6
    go_wp2_with fail
    refine (HC.out _).mono ?_
    rintro e w1 ⟨rfl, hb1⟩
    have HB1 : Hid (Box w w1 w.heap.size ⟨b1, b2, b3, b4, b5, b6⟩) := HB0.out.later hb1
    clear z0 z1 z2 z3 z4 z5 hb1
    obtain ⟨z0, z1, z2, z3, z4, z5⟩ := HB1.out.at_
    simp only at z0 z1 z2 z3 z4 z5
    go_wp2_with fail
    refine (HWK.out _).mono ?_
    rintro e w2 ⟨rfl, hb2⟩
    go_wp2
    go_ret
    exact ⟨rfl, (HB1.out.later hb2).bel⟩
  obtain ⟨l, p, a, hfe⟩ := fillP_same b now
  have hat := fill_at hg (now := now) (by omega) (by omega)
  have hcg := hg.fill now
  rw [hfe] at hat hcg
  simp only at hat
  subst hat
  have HF : Hid (∀ u, Calls Try.prog 15 #[b.v, .int .i64 a] u fun e w' => e = .returned (Bk.v ⟨b.num, b.den, b.burst, l, p, a⟩) ∧ Below u.heap.size u w') := fun u => by rw [← hfe]; exact fillOf b hb a h1 u
  by_cases hv : n < 0 ∨ b.burst < n
  · have HT : Hid (∀ u, Calls Try.prog 14 #[b.v, .int .i64 a, .int .i64 n] u fun e w' => e = .returned (.tuple #[Bk.v ⟨b.num, b.den, b.burst, l, p, a⟩, .int .i64 (-1)]) ∧ Below u.heap.size u w') := fun u => by
      have h := takeOf b hb a n h1 h2 u
      unfold TakePost at h
      rw [takeP_never hg hfe hv] at h
      exact h
    clear hcg hfe hb h1 h2 hg
    obtain ⟨b1, b2, b3, b4, b5, b6⟩ := b
    simp only at HF HT hv hn2
    by_cases hv1 : n < 0
    all_goals
      obtain ⟨w0, hw0, B0, -⟩ := box_alloc (Below.refl w.heap.size w) b1 b2 b3 b4 b5 b6
      have HB0 : Hid (Box w w0 w.heap.size ⟨b1, b2, b3, b4, b5, b6⟩) := B0
      obtain ⟨z0, z1, z2, z3, z4, z5⟩ := B0.at_
      simp only at z0 z1 z2 z3 z4 z5
      clear B0
      unfold Bk.v
      go_enter Try.func6, Try.ntmps6
      go_wp2_with fail
      refine (HC.out _).mono ?_
      rintro e w1 ⟨rfl, hb1⟩
      have HB1 : Hid (Box w w1 w.heap.size ⟨b1, b2, b3, b4, b5, b6⟩) := HB0.out.later hb1
      clear z0 z1 z2 z3 z4 z5 hb1
      obtain ⟨z0, z1, z2, z3, z4, z5⟩ := HB1.out.at_
      simp only at z0 z1 z2 z3 z4 z5
      go_wp2_with fail
      refine (HT.out _).mono ?_
      rintro e w2 ⟨rfl, hb2⟩
      obtain ⟨v2, hv2, X2, g2⟩ := box_alloc (HB1.out.later hb2).bel b1 b2 b3 l p a
      have HX2 : Hid (Box w v2 w2.heap.size ⟨b1, b2, b3, l, p, a⟩) := X2
      have HB2 : Hid (Box w v2 w.heap.size ⟨b1, b2, b3, b4, b5, b6⟩) := (HB1.out.later hb2).later g2
      clear z0 z1 z2 z3 z4 z5 hb2 X2 g2
      obtain ⟨z0, z1, z2, z3, z4, z5⟩ := HB2.out.at_
      obtain ⟨x0, x1, x2, x3, x4, x5⟩ := HX2.out.at_
      simp only at z0 z1 z2 z3 z4 z5 x0 x1 x2 x3 x4 x5
      go_wp2_with fail
      go_region_held3 (fun u => u.cell? ⟨w.heap.size, 0, none⟩ = some (.int .i64 b1) ∧ u.cell? ⟨w.heap.size, 1, none⟩ = some (.int .i64 b2) ∧ u.cell? ⟨w.heap.size, 2, none⟩ = some (.int .i64 b3) ∧ u.cell? ⟨w.heap.size, 3, none⟩ = some (.int .i64 b4) ∧ u.cell? ⟨w.heap.size, 4, none⟩ = some (.int .i64 b5) ∧ u.cell? ⟨w.heap.size, 5, none⟩ = some (.int .i64 b6) ∧ u.cell? ⟨w2.heap.size, 0, none⟩ = some (.int .i64 b1) ∧ u.cell? ⟨w2.heap.size, 1, none⟩ = some (.int .i64 b2) ∧ u.cell? ⟨w2.heap.size, 2, none⟩ = some (.int .i64 b3) ∧ u.cell? ⟨w2.heap.size, 3, none⟩ = some (.int .i64 l) ∧ u.cell? ⟨w2.heap.size, 4, none⟩ = some (.int .i64 p) ∧ u.cell? ⟨w2.heap.size, 5, none⟩ = some (.int .i64 a)) (go_keep) (first
        | (go_at_call 15
           refine (HF.out _).mono ?_
           rintro e w3 ⟨rfl, hb3⟩
           have HP3 : Hid (Below v2.heap.size v2 w3) := (Below.drew (Below.refl _ _)).trans hb3
           rcases (HB2.out.later HP3.out).at_ with ⟨a0, a1, a2, a3, a4, a5⟩
           rcases (HX2.out.later HP3.out).at_ with ⟨p0, p1, p2, p3, p4, p5⟩
           simp only at a0 a1 a2 a3 a4 a5 p0 p1 p2 p3 p4 p5))
      have HB3 : Hid (Box w w3 w.heap.size ⟨b1, b2, b3, b4, b5, b6⟩) := HB2.out.later HP3.out
      have HX3 : Hid (Box w w3 w2.heap.size ⟨b1, b2, b3, l, p, a⟩) := HX2.out.later HP3.out
      clear z0 z1 z2 z3 z4 z5 x0 x1 x2 x3 x4 x5
      obtain ⟨z0, z1, z2, z3, z4, z5⟩ := HB3.out.at_
      obtain ⟨x0, x1, x2, x3, x4, x5⟩ := HX3.out.at_
      simp only at z0 z1 z2 z3 z4 z5 x0 x1 x2 x3 x4 x5
      go_wp2
      go_ret
      exact ⟨by simp; try omega, HB3.out.bel⟩
  · have hp := hcg.prod
    have hl0 := hcg.l0
    have hl1 := hcg.l1
    have hb1 := hcg.b1
    have hc0 := hcg.n0
    have hc1 := hcg.n1
    simp only at hl0 hl1 hb1 hc0 hc1
    by_cases hl : n ≤ l
    · have HT : Hid (∀ u, Calls Try.prog 14 #[b.v, .int .i64 a, .int .i64 n] u fun e w' => e = .returned (.tuple #[Bk.v ⟨b.num, b.den, b.burst, l - n, p, a⟩, .int .i64 0]) ∧ Below u.heap.size u w') := fun u => by
        have h := takeOf b hb a n h1 h2 u
        unfold TakePost at h
        rw [takeP_now hg hfe (by omega) (by omega) hl] at h
        exact h
      have hw9 : wrap64 (l - n) = l - n := by unfold wrap64; omega
      clear hcg hfe hb h1 h2 hg hp hc0 hc1
      obtain ⟨b1, b2, b3, b4, b5, b6⟩ := b
      simp only at HF HT hv hn2 hb1 hl1
      obtain ⟨w0, hw0, B0, -⟩ := box_alloc (Below.refl w.heap.size w) b1 b2 b3 b4 b5 b6
      have HB0 : Hid (Box w w0 w.heap.size ⟨b1, b2, b3, b4, b5, b6⟩) := B0
      obtain ⟨z0, z1, z2, z3, z4, z5⟩ := B0.at_
      simp only at z0 z1 z2 z3 z4 z5
      clear B0
      unfold Bk.v
      go_enter Try.func6, Try.ntmps6
      go_wp2_with fail
      refine (HC.out _).mono ?_
      rintro e w1 ⟨rfl, hb1⟩
      have HB1 : Hid (Box w w1 w.heap.size ⟨b1, b2, b3, b4, b5, b6⟩) := HB0.out.later hb1
      clear z0 z1 z2 z3 z4 z5 hb1
      obtain ⟨z0, z1, z2, z3, z4, z5⟩ := HB1.out.at_
      simp only at z0 z1 z2 z3 z4 z5
      go_wp2_with fail
      refine (HT.out _).mono ?_
      rintro e w2 ⟨rfl, hb2⟩
      obtain ⟨v2, hv2, X2, g2⟩ := box_alloc (HB1.out.later hb2).bel b1 b2 b3 (l - n) p a
      have HX2 : Hid (Box w v2 w2.heap.size ⟨b1, b2, b3, (l - n), p, a⟩) := X2
      have HB2 : Hid (Box w v2 w.heap.size ⟨b1, b2, b3, b4, b5, b6⟩) := (HB1.out.later hb2).later g2
      clear z0 z1 z2 z3 z4 z5 hb2 X2 g2
      obtain ⟨z0, z1, z2, z3, z4, z5⟩ := HB2.out.at_
      obtain ⟨x0, x1, x2, x3, x4, x5⟩ := HX2.out.at_
      simp only at z0 z1 z2 z3 z4 z5 x0 x1 x2 x3 x4 x5
      go_wp2_with fail
      refine (HF.out _).mono ?_
      rintro e w3 ⟨rfl, hb3⟩
      obtain ⟨v3, hv3, Y3, g3⟩ := box_alloc (HB2.out.later hb3).bel b1 b2 b3 l p a
      have HY3 : Hid (Box w v3 w3.heap.size ⟨b1, b2, b3, l, p, a⟩) := Y3
      have HX3 : Hid (Box w v3 w2.heap.size ⟨b1, b2, b3, (l - n), p, a⟩) := (HX2.out.later hb3).later g3
      have hlt : w2.heap.size < w3.heap.size := (HX2.out.later hb3).at_.lt
      have hge : w.heap.size ≤ w3.heap.size := Y3.ge
      clear z0 z1 z2 z3 z4 z5 x0 x1 x2 x3 x4 x5 hb3 Y3 g3
      obtain ⟨y0, y1, y2, y3, y4, y5⟩ := HY3.out.at_
      obtain ⟨x0, x1, x2, x3, x4, x5⟩ := HX3.out.at_
      simp only at y0 y1 y2 y3 y4 y5 x0 x1 x2 x3 x4 x5
      have k3 := HY3.out.fr 3
      have hne1 : ¬ w2.heap.size = w3.heap.size := by omega
      have hne2 : ¬ w3.heap.size = w2.heap.size := by omega
      go_wp2
      go_ret
      refine ⟨by simp, ?_⟩
      exact HY3.out.bel.setCell (p := ⟨w3.heap.size, 3, none⟩) hge _
    · obtain ⟨k, hk⟩ : ∃ k, (n * b.den - Bk.parts ⟨b.num, b.den, b.burst, l, p, a⟩ + b.num - 1) / b.num = k := ⟨_, rfl⟩
      have HT : Hid (∀ u, Calls Try.prog 14 #[b.v, .int .i64 a, .int .i64 n] u fun e w' => e = .returned (.tuple #[Bk.v ⟨b.num, b.den, b.burst, l, p, a⟩, .int .i64 k]) ∧ Below u.heap.size u w') := fun u => by
        have h := takeOf b hb a n h1 h2 u
        unfold TakePost at h
        rw [takeP_wait hg hfe (by omega) (by omega) hl] at h
        simp only at h
        rw [hk] at h
        exact h
      have hk0 : 0 < k := by
        have hnl : (l + 1) * b.den ≤ n * b.den := Int.mul_le_mul_of_nonneg_right (show l + 1 ≤ n by omega) (by have := hg.d0; omega)
        rw [Int.add_mul] at hnl
        have h9 : Bk.parts ⟨b.num, b.den, b.burst, l, p, a⟩ = l * b.den + p := rfl
        have h8 := hcg.p1
        simp only at h8
        rw [← hk]
        exact Int.lt_of_lt_of_le (by omega) ((Int.le_ediv_iff_mul_le (by omega) (a := 1)).2 (by omega))
      by_cases hfar : 1125899906842624 - a ≤ k
      · clear hcg hfe hb h1 h2 hg hp hc0 hc1 hk
        have hw9 : wrap64 (1125899906842624 - a) = 1125899906842624 - a := by unfold wrap64; omega
        obtain ⟨b1, b2, b3, b4, b5, b6⟩ := b
        simp only at HF HT hv hn2 hb1 hl1
        obtain ⟨w0, hw0, B0, -⟩ := box_alloc (Below.refl w.heap.size w) b1 b2 b3 b4 b5 b6
        have HB0 : Hid (Box w w0 w.heap.size ⟨b1, b2, b3, b4, b5, b6⟩) := B0
        obtain ⟨z0, z1, z2, z3, z4, z5⟩ := B0.at_
        simp only at z0 z1 z2 z3 z4 z5
        clear B0
        unfold Bk.v
        go_enter Try.func6, Try.ntmps6
        go_wp2_with fail
        refine (HC.out _).mono ?_
        rintro e w1 ⟨rfl, hb1⟩
        have HB1 : Hid (Box w w1 w.heap.size ⟨b1, b2, b3, b4, b5, b6⟩) := HB0.out.later hb1
        clear z0 z1 z2 z3 z4 z5 hb1
        obtain ⟨z0, z1, z2, z3, z4, z5⟩ := HB1.out.at_
        simp only at z0 z1 z2 z3 z4 z5
        go_wp2_with fail
        refine (HT.out _).mono ?_
        rintro e w2 ⟨rfl, hb2⟩
        obtain ⟨v2, hv2, X2, g2⟩ := box_alloc (HB1.out.later hb2).bel b1 b2 b3 l p a
        have HX2 : Hid (Box w v2 w2.heap.size ⟨b1, b2, b3, l, p, a⟩) := X2
        have HB2 : Hid (Box w v2 w.heap.size ⟨b1, b2, b3, b4, b5, b6⟩) := (HB1.out.later hb2).later g2
        clear z0 z1 z2 z3 z4 z5 hb2 X2 g2
        obtain ⟨z0, z1, z2, z3, z4, z5⟩ := HB2.out.at_
        obtain ⟨x0, x1, x2, x3, x4, x5⟩ := HX2.out.at_
        simp only at z0 z1 z2 z3 z4 z5 x0 x1 x2 x3 x4 x5
        go_wp2_with fail
        go_region_held3 (fun u => u.cell? ⟨w.heap.size, 0, none⟩ = some (.int .i64 b1) ∧ u.cell? ⟨w.heap.size, 1, none⟩ = some (.int .i64 b2) ∧ u.cell? ⟨w.heap.size, 2, none⟩ = some (.int .i64 b3) ∧ u.cell? ⟨w.heap.size, 3, none⟩ = some (.int .i64 b4) ∧ u.cell? ⟨w.heap.size, 4, none⟩ = some (.int .i64 b5) ∧ u.cell? ⟨w.heap.size, 5, none⟩ = some (.int .i64 b6) ∧ u.cell? ⟨w2.heap.size, 0, none⟩ = some (.int .i64 b1) ∧ u.cell? ⟨w2.heap.size, 1, none⟩ = some (.int .i64 b2) ∧ u.cell? ⟨w2.heap.size, 2, none⟩ = some (.int .i64 b3) ∧ u.cell? ⟨w2.heap.size, 3, none⟩ = some (.int .i64 l) ∧ u.cell? ⟨w2.heap.size, 4, none⟩ = some (.int .i64 p) ∧ u.cell? ⟨w2.heap.size, 5, none⟩ = some (.int .i64 a)) (go_keep) (first
          | (go_at_call 15
             refine (HF.out _).mono ?_
             rintro e w3 ⟨rfl, hb3⟩
             have HP3 : Hid (Below v2.heap.size v2 w3) := (Below.drew (Below.refl _ _)).trans hb3
             rcases (HB2.out.later HP3.out).at_ with ⟨a0, a1, a2, a3, a4, a5⟩
             rcases (HX2.out.later HP3.out).at_ with ⟨p0, p1, p2, p3, p4, p5⟩
             simp only at a0 a1 a2 a3 a4 a5 p0 p1 p2 p3 p4 p5))
        have HB3 : Hid (Box w w3 w.heap.size ⟨b1, b2, b3, b4, b5, b6⟩) := HB2.out.later HP3.out
        have HX3 : Hid (Box w w3 w2.heap.size ⟨b1, b2, b3, l, p, a⟩) := HX2.out.later HP3.out
        clear z0 z1 z2 z3 z4 z5 x0 x1 x2 x3 x4 x5
        obtain ⟨z0, z1, z2, z3, z4, z5⟩ := HB3.out.at_
        obtain ⟨x0, x1, x2, x3, x4, x5⟩ := HX3.out.at_
        simp only at z0 z1 z2 z3 z4 z5 x0 x1 x2 x3 x4 x5
        go_wp2
        go_ret
        exact ⟨by simp, HB3.out.bel⟩
      · obtain ⟨-, he1, he2⟩ := wait_exact hcg (n := n) (w := k) (by omega) (by simp only; omega) hl hk (by simp only; omega)
        simp only at he1 he2
        obtain ⟨q1, hq1⟩ : ∃ q1, (takeP ⟨b.num, b.den, b.burst, l, p, a⟩ (a + k) n).1 = q1 := ⟨_, rfl⟩
        obtain ⟨q2, hq2⟩ : ∃ q2, (takeP ⟨b.num, b.den, b.burst, l, p, a⟩ (a + k - 1) n).1 = q2 := ⟨_, rfl⟩
        obtain ⟨j, hj⟩ : ∃ j, (takeP ⟨b.num, b.den, b.burst, l, p, a⟩ (a + k - 1) n).2 = j := ⟨_, rfl⟩
        rw [hj] at he2
        have HT2 : Hid (∀ u, Calls Try.prog 14 #[Bk.v ⟨b.num, b.den, b.burst, l, p, a⟩, .int .i64 (a + k), .int .i64 n] u fun e w' => e = .returned (.tuple #[q1.v, .int .i64 0]) ∧ Below u.heap.size u w') := fun u => by
          rw [← hq1, ← he1]; exact takeOf _ hcg.ok (a + k) n (by unfold I64; omega) h2 u
        have HT3 : Hid (∀ u, Calls Try.prog 14 #[Bk.v ⟨b.num, b.den, b.burst, l, p, a⟩, .int .i64 (a + k - 1), .int .i64 n] u fun e w' => e = .returned (.tuple #[q2.v, .int .i64 j]) ∧ Below u.heap.size u w') := fun u => by
          rw [← hq2, ← hj]; exact takeOf _ hcg.ok (a + k - 1) n (by unfold I64; omega) h2 u
        have hw9 : wrap64 (1125899906842624 - a) = 1125899906842624 - a := by unfold wrap64; omega
        have hw8 : wrap64 (a + k) = a + k := by unfold wrap64; omega
        have hw7 : wrap64 (a + k - 1) = a + k - 1 := by unfold wrap64; omega
        clear hcg hfe hb h1 h2 hg hp hc0 hc1 hk he1 hq1 hq2 hj
        obtain ⟨b1, b2, b3, b4, b5, b6⟩ := b
        simp only at HF HT HT2 HT3 hv hn2 hb1 hl1
        obtain ⟨w0, hw0, B0, -⟩ := box_alloc (Below.refl w.heap.size w) b1 b2 b3 b4 b5 b6
        have HB0 : Hid (Box w w0 w.heap.size ⟨b1, b2, b3, b4, b5, b6⟩) := B0
        obtain ⟨z0, z1, z2, z3, z4, z5⟩ := B0.at_
        simp only at z0 z1 z2 z3 z4 z5
        clear B0
        unfold Bk.v
        go_enter Try.func6, Try.ntmps6
        go_wp2_with fail
        refine (HC.out _).mono ?_
        rintro e w1 ⟨rfl, hb1⟩
        have HB1 : Hid (Box w w1 w.heap.size ⟨b1, b2, b3, b4, b5, b6⟩) := HB0.out.later hb1
        clear z0 z1 z2 z3 z4 z5 hb1
        obtain ⟨z0, z1, z2, z3, z4, z5⟩ := HB1.out.at_
        simp only at z0 z1 z2 z3 z4 z5
        go_wp2_with fail
        refine (HT.out _).mono ?_
        rintro e w2 ⟨rfl, hb2⟩
        obtain ⟨v2, hv2, X2, g2⟩ := box_alloc (HB1.out.later hb2).bel b1 b2 b3 l p a
        have HX2 : Hid (Box w v2 w2.heap.size ⟨b1, b2, b3, l, p, a⟩) := X2
        have HB2 : Hid (Box w v2 w.heap.size ⟨b1, b2, b3, b4, b5, b6⟩) := (HB1.out.later hb2).later g2
        clear z0 z1 z2 z3 z4 z5 hb2 X2 g2
        obtain ⟨z0, z1, z2, z3, z4, z5⟩ := HB2.out.at_
        obtain ⟨x0, x1, x2, x3, x4, x5⟩ := HX2.out.at_
        simp only at z0 z1 z2 z3 z4 z5 x0 x1 x2 x3 x4 x5
        go_wp2_with fail
        go_region_held3 (fun u => u.cell? ⟨w.heap.size, 0, none⟩ = some (.int .i64 b1) ∧ u.cell? ⟨w.heap.size, 1, none⟩ = some (.int .i64 b2) ∧ u.cell? ⟨w.heap.size, 2, none⟩ = some (.int .i64 b3) ∧ u.cell? ⟨w.heap.size, 3, none⟩ = some (.int .i64 b4) ∧ u.cell? ⟨w.heap.size, 4, none⟩ = some (.int .i64 b5) ∧ u.cell? ⟨w.heap.size, 5, none⟩ = some (.int .i64 b6) ∧ u.cell? ⟨w2.heap.size, 0, none⟩ = some (.int .i64 b1) ∧ u.cell? ⟨w2.heap.size, 1, none⟩ = some (.int .i64 b2) ∧ u.cell? ⟨w2.heap.size, 2, none⟩ = some (.int .i64 b3) ∧ u.cell? ⟨w2.heap.size, 3, none⟩ = some (.int .i64 l) ∧ u.cell? ⟨w2.heap.size, 4, none⟩ = some (.int .i64 p) ∧ u.cell? ⟨w2.heap.size, 5, none⟩ = some (.int .i64 a)) (go_keep) (first
          | (go_at_call 15
             refine (HF.out _).mono ?_
             rintro e w3 ⟨rfl, hb3⟩
             have HP3 : Hid (Below v2.heap.size v2 w3) := (Below.drew (Below.refl _ _)).trans hb3
             rcases (HB2.out.later HP3.out).at_ with ⟨a0, a1, a2, a3, a4, a5⟩
             rcases (HX2.out.later HP3.out).at_ with ⟨p0, p1, p2, p3, p4, p5⟩
             simp only at a0 a1 a2 a3 a4 a5 p0 p1 p2 p3 p4 p5))
        have HB3 : Hid (Box w w3 w.heap.size ⟨b1, b2, b3, b4, b5, b6⟩) := HB2.out.later HP3.out
        have HX3 : Hid (Box w w3 w2.heap.size ⟨b1, b2, b3, l, p, a⟩) := HX2.out.later HP3.out
        clear z0 z1 z2 z3 z4 z5 x0 x1 x2 x3 x4 x5
        obtain ⟨z0, z1, z2, z3, z4, z5⟩ := HB3.out.at_
        obtain ⟨x0, x1, x2, x3, x4, x5⟩ := HX3.out.at_
        simp only at z0 z1 z2 z3 z4 z5 x0 x1 x2 x3 x4 x5
        go_wp2_with fail
        refine (HT2.out _).mono ?_
        rintro e w4 ⟨rfl, hb4⟩
        obtain ⟨v4, hv4, -, g4⟩ := box_alloc (HX3.out.later hb4).bel q1.num q1.den q1.burst q1.lvl q1.part q1.at_
        have HX4 : Hid (Box w v4 w2.heap.size ⟨b1, b2, b3, l, p, a⟩) := (HX3.out.later hb4).later g4
        clear z0 z1 z2 z3 z4 z5 x0 x1 x2 x3 x4 x5
        obtain ⟨x0, x1, x2, x3, x4, x5⟩ := HX4.out.at_
        simp only at x0 x1 x2 x3 x4 x5
        go_wp2_with fail
        refine (HT3.out _).mono ?_
        rintro e w5 ⟨rfl, hb5⟩
        obtain ⟨v5, hv5, -, g5⟩ := box_alloc (HX4.out.later hb5).bel q2.num q2.den q2.burst q2.lvl q2.part q2.at_
        have HX5 : Hid (Box w v5 w2.heap.size ⟨b1, b2, b3, l, p, a⟩) := (HX4.out.later hb5).later g5
        go_wp2
        go_ret
        exact ⟨by simp; try omega, HX5.out.bel⟩
end Go.Proofs.Ytbeaefokpggmpaa
