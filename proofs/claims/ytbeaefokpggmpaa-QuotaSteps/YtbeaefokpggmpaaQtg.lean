import Derived.Test.YtbeaefokpggmpaaQtf
/-! quota: the laws' walks: Fill, New, Take. -/
namespace Go.Proofs.Ytbeaefokpggmpaa
open Go.RowKit
set_option linter.unusedVariables false

set_option maxHeartbeats 2000000 in
theorem fillWalk (b : Bk) (hb : b.Ok) (now : Int) (hn : I64 now) (w : World) : Calls Try.prog 7 #[b.v, .int .i64 now] w fun e w' => e = .returned (.bool true) ∧ Below w.heap.size w w' := by
  obtain ⟨c, hc⟩ : ∃ c, fillP b now = c := ⟨_, rfl⟩
  have HF : Hid (∀ u, Calls Try.prog 15 #[b.v, .int .i64 now] u fun e w' => e = .returned c.v ∧ Below u.heap.size u w') := fun u => by rw [← hc]; exact fillOf b hb now hn u
  have HR : Hid (∀ u, Calls Try.prog 16 #[b.v, .int .i64 now] u fun e w' => e = .returned c.v ∧ Below u.heap.size u w') := fun u => by rw [← hc]; exact rfillOf b hb now hn u
  clear hc hb hn
  obtain ⟨x1, x2, x3, x4, x5, x6⟩ := c
  obtain ⟨num, den, burst, lvl, part, at_⟩ := b
  obtain ⟨w0, hw0, B0, -⟩ := box_alloc (Below.refl w.heap.size w) num den burst lvl part at_
  have HB0 : Hid (Box w w0 w.heap.size ⟨num, den, burst, lvl, part, at_⟩) := B0
  obtain ⟨c0, c1, c2, c3, c4, c5⟩ := B0.at_
  simp only at c0 c1 c2 c3 c4 c5
  clear B0
  unfold Bk.v
  go_enter Try.func7, Try.ntmps7
  go_wp2_with fail
  go_region_held3 (fun u => u.cell? ⟨w.heap.size, 0, none⟩ = some (.int .i64 num) ∧ u.cell? ⟨w.heap.size, 1, none⟩ = some (.int .i64 den) ∧ u.cell? ⟨w.heap.size, 2, none⟩ = some (.int .i64 burst) ∧ u.cell? ⟨w.heap.size, 3, none⟩ = some (.int .i64 lvl) ∧ u.cell? ⟨w.heap.size, 4, none⟩ = some (.int .i64 part) ∧ u.cell? ⟨w.heap.size, 5, none⟩ = some (.int .i64 at_)) (go_keep) (first
    | (go_at_call 15
       refine (HF.out _).mono ?_
       rintro e w2 ⟨rfl, hb2⟩
       have HB2 : Hid (Box w w2 w.heap.size ⟨num, den, burst, lvl, part, at_⟩) := HB0.out.later ((Below.drew (Below.refl _ _)).trans hb2)
       rcases HB2.out.at_ with ⟨a0, a1, a2, a3, a4, a5⟩)
    | (go_at_call 16
       refine (HR.out _).mono ?_
       rintro e w3 ⟨rfl, hb3⟩
       have HB3 : Hid (Box w w3 w.heap.size ⟨num, den, burst, lvl, part, at_⟩) := HB2.out.later hb3
       rcases HB3.out.at_ with ⟨a0, a1, a2, a3, a4, a5⟩))
  go_wp2
  go_ret
  exact ⟨by simp, HB3.out.bel⟩

set_option maxHeartbeats 2000000 in
theorem newWalk (num den burst now : Int) (h1 : I64 num) (h2 : I64 den) (h3 : I64 burst) (h4 : I64 now) (b : Bk) (hb : b.Ok) (w : World) : Calls Try.prog 3 #[.int .i64 num, .int .i64 den, .int .i64 burst, .int .i64 now, b.v] w fun e w' => e = .returned (.bool true) ∧ Below w.heap.size w w' := by
  obtain ⟨c, hc⟩ : ∃ c, newB num den burst now = c := ⟨_, rfl⟩
  obtain ⟨k, hk⟩ : ∃ k, chkB (fullB num den burst now) = k := ⟨_, rfl⟩
  obtain ⟨q, hq⟩ : ∃ q, chkB b = q := ⟨_, rfl⟩
  have HF : Hid (∀ u, Calls Try.prog 9 #[.int .i64 num, .int .i64 den, .int .i64 burst, .int .i64 now] u fun e w' => e = .returned (.tuple #[c.v, .int .i64 k]) ∧ Below u.heap.size u w') := fun u => by rw [← hc, ← hk]; exact newOf num den burst now h1 h2 h3 h4 u
  have HR : Hid (∀ u, Calls Try.prog 10 #[.int .i64 num, .int .i64 den, .int .i64 burst, .int .i64 now] u fun e w' => e = .returned (.tuple #[c.v, .int .i64 k]) ∧ Below u.heap.size u w') := fun u => by rw [← hc, ← hk]; exact rnewOf num den burst now h1 h2 h3 h4 u
  have HC : Hid (∀ u, Calls Try.prog 11 #[b.v] u fun e w' => e = .returned (.int .i64 q) ∧ Below u.heap.size u w') := fun u => by rw [← hq]; exact checkOf b hb u
  have HD : Hid (∀ u, Calls Try.prog 12 #[b.v] u fun e w' => e = .returned (.int .i64 q) ∧ Below u.heap.size u w') := fun u => by rw [← hq]; exact rcheckOf b hb u
  clear hc hk hq hb h1 h2 h3 h4
  obtain ⟨x1, x2, x3, x4, x5, x6⟩ := c
  obtain ⟨b1, b2, b3, b4, b5, b6⟩ := b
  obtain ⟨w0, hw0, B0, -⟩ := box_alloc (Below.refl w.heap.size w) b1 b2 b3 b4 b5 b6
  have HB0 : Hid (Box w w0 w.heap.size ⟨b1, b2, b3, b4, b5, b6⟩) := B0
  clear B0
  unfold Bk.v
  go_enter Try.func3, Try.ntmps3
  go_wp2_with fail
  refine (HF.out _).mono ?_
  rintro e w1 ⟨rfl, hb1⟩
  obtain ⟨v1, hv1, B1, g1⟩ := box_alloc (HB0.out.later hb1).bel x1 x2 x3 x4 x5 x6
  have HB1 : Hid (Box w v1 w1.heap.size ⟨x1, x2, x3, x4, x5, x6⟩) := B1
  have HA1 : Hid (Box w v1 w.heap.size ⟨b1, b2, b3, b4, b5, b6⟩) := (HB0.out.later hb1).later g1
  clear B1 g1 hb1
  go_wp2_with fail
  refine (HR.out _).mono ?_
  rintro e w2 ⟨rfl, hb2⟩
  obtain ⟨v2, hv2, B2, g2⟩ := box_alloc (HB1.out.later hb2).bel x1 x2 x3 x4 x5 x6
  have HB2 : Hid (Box w v2 w2.heap.size ⟨x1, x2, x3, x4, x5, x6⟩) := B2
  have HX2 : Hid (Box w v2 w1.heap.size ⟨x1, x2, x3, x4, x5, x6⟩) := (HB1.out.later hb2).later g2
  have HA2 : Hid (Box w v2 w.heap.size ⟨b1, b2, b3, b4, b5, b6⟩) := (HA1.out.later hb2).later g2
  clear B2 g2 hb2
  obtain ⟨c0, c1, c2, c3, c4, c5⟩ := HA2.out.at_
  obtain ⟨d0, d1, d2, d3, d4, d5⟩ := HX2.out.at_
  obtain ⟨e0, e1, e2, e3, e4, e5⟩ := HB2.out.at_
  simp only at c0 c1 c2 c3 c4 c5 d0 d1 d2 d3 d4 d5 e0 e1 e2 e3 e4 e5
  go_wp2_with fail
  go_region_held3 (fun u => u.cell? ⟨w.heap.size, 0, none⟩ = some (.int .i64 b1) ∧ u.cell? ⟨w.heap.size, 1, none⟩ = some (.int .i64 b2) ∧ u.cell? ⟨w.heap.size, 2, none⟩ = some (.int .i64 b3) ∧ u.cell? ⟨w.heap.size, 3, none⟩ = some (.int .i64 b4) ∧ u.cell? ⟨w.heap.size, 4, none⟩ = some (.int .i64 b5) ∧ u.cell? ⟨w.heap.size, 5, none⟩ = some (.int .i64 b6) ∧ u.cell? ⟨w1.heap.size, 0, none⟩ = some (.int .i64 x1) ∧ u.cell? ⟨w1.heap.size, 1, none⟩ = some (.int .i64 x2) ∧ u.cell? ⟨w1.heap.size, 2, none⟩ = some (.int .i64 x3) ∧ u.cell? ⟨w1.heap.size, 3, none⟩ = some (.int .i64 x4) ∧ u.cell? ⟨w1.heap.size, 4, none⟩ = some (.int .i64 x5) ∧ u.cell? ⟨w1.heap.size, 5, none⟩ = some (.int .i64 x6) ∧ u.cell? ⟨w2.heap.size, 0, none⟩ = some (.int .i64 x1) ∧ u.cell? ⟨w2.heap.size, 1, none⟩ = some (.int .i64 x2) ∧ u.cell? ⟨w2.heap.size, 2, none⟩ = some (.int .i64 x3) ∧ u.cell? ⟨w2.heap.size, 3, none⟩ = some (.int .i64 x4) ∧ u.cell? ⟨w2.heap.size, 4, none⟩ = some (.int .i64 x5) ∧ u.cell? ⟨w2.heap.size, 5, none⟩ = some (.int .i64 x6)) (go_keep) (first
    | (go_at_call 11
       refine (HC.out _).mono ?_
       rintro e w3 ⟨rfl, hbw3⟩
       have HPw3 : Hid (Below v2.heap.size v2 w3) := (Below.drew (Below.refl _ _)).trans hbw3
       rcases (HA2.out.later HPw3.out).at_ with ⟨a0, a1, a2, a3, a4, a5⟩
       rcases (HX2.out.later HPw3.out).at_ with ⟨p0, p1, p2, p3, p4, p5⟩
       rcases (HB2.out.later HPw3.out).at_ with ⟨q0, q1, q2, q3, q4, q5⟩
       simp only at a0 a1 a2 a3 a4 a5 p0 p1 p2 p3 p4 p5 q0 q1 q2 q3 q4 q5)
    | (go_at_call 12
       refine (HD.out _).mono ?_
       rintro e w4 ⟨rfl, hbw4⟩
       have HPw4 : Hid (Below v2.heap.size v2 w4) := HPw3.out.trans (hbw4.mono HPw3.out.size)
       rcases (HA2.out.later HPw4.out).at_ with ⟨a0, a1, a2, a3, a4, a5⟩
       rcases (HX2.out.later HPw4.out).at_ with ⟨p0, p1, p2, p3, p4, p5⟩
       rcases (HB2.out.later HPw4.out).at_ with ⟨q0, q1, q2, q3, q4, q5⟩
       simp only at a0 a1 a2 a3 a4 a5 p0 p1 p2 p3 p4 p5 q0 q1 q2 q3 q4 q5))
  go_wp2
  go_ret
  exact ⟨by simp, (HA2.out.later HPw4.out).bel⟩

set_option maxHeartbeats 2000000 in
theorem takeWalk (b : Bk) (hb : b.Ok) (now n : Int) (h1 : I64 now) (h2 : I64 n) (w : World) : Calls Try.prog 8 #[b.v, .int .i64 now, .int .i64 n] w fun e w' => e = .returned (.bool true) ∧ Below w.heap.size w w' := by
  obtain ⟨c, hc⟩ : ∃ c, (takeP b now n).1 = c := ⟨_, rfl⟩
  obtain ⟨k, hk⟩ : ∃ k, (takeP b now n).2 = k := ⟨_, rfl⟩
  have HF : Hid (∀ u, Calls Try.prog 14 #[b.v, .int .i64 now, .int .i64 n] u fun e w' => e = .returned (.tuple #[c.v, .int .i64 k]) ∧ Below u.heap.size u w') := fun u => by rw [← hc, ← hk]; exact takeOf b hb now n h1 h2 u
  have HR : Hid (∀ u, Calls Try.prog 17 #[b.v, .int .i64 now, .int .i64 n] u fun e w' => e = .returned (.tuple #[c.v, .int .i64 k]) ∧ Below u.heap.size u w') := fun u => by rw [← hc, ← hk]; exact rtakeOf b hb now n h1 h2 u
  clear hc hk hb h1 h2
  obtain ⟨x1, x2, x3, x4, x5, x6⟩ := c
  obtain ⟨b1, b2, b3, b4, b5, b6⟩ := b
  obtain ⟨w0, hw0, B0, -⟩ := box_alloc (Below.refl w.heap.size w) b1 b2 b3 b4 b5 b6
  have HB0 : Hid (Box w w0 w.heap.size ⟨b1, b2, b3, b4, b5, b6⟩) := B0
  obtain ⟨c0, c1, c2, c3, c4, c5⟩ := B0.at_
  simp only at c0 c1 c2 c3 c4 c5
  clear B0
  unfold Bk.v
  go_enter Try.func8, Try.ntmps8
  go_wp2_with fail
  refine (HF.out _).mono ?_
  rintro e w1 ⟨rfl, hb1⟩
  obtain ⟨v1, hv1, B1, g1⟩ := box_alloc (HB0.out.later hb1).bel x1 x2 x3 x4 x5 x6
  have HB1 : Hid (Box w v1 w1.heap.size ⟨x1, x2, x3, x4, x5, x6⟩) := B1
  have HA1 : Hid (Box w v1 w.heap.size ⟨b1, b2, b3, b4, b5, b6⟩) := (HB0.out.later hb1).later g1
  clear B1 g1 hb1 c0 c1 c2 c3 c4 c5
  obtain ⟨c0, c1, c2, c3, c4, c5⟩ := HA1.out.at_
  simp only at c0 c1 c2 c3 c4 c5
  go_wp2_with fail
  refine (HR.out _).mono ?_
  rintro e w2 ⟨rfl, hb2⟩
  obtain ⟨v2, hv2, B2, g2⟩ := box_alloc (HB1.out.later hb2).bel x1 x2 x3 x4 x5 x6
  have HB2 : Hid (Box w v2 w2.heap.size ⟨x1, x2, x3, x4, x5, x6⟩) := B2
  have HX2 : Hid (Box w v2 w1.heap.size ⟨x1, x2, x3, x4, x5, x6⟩) := (HB1.out.later hb2).later g2
  clear B2 g2 hb2 c0 c1 c2 c3 c4 c5
  obtain ⟨d0, d1, d2, d3, d4, d5⟩ := HX2.out.at_
  obtain ⟨e0, e1, e2, e3, e4, e5⟩ := HB2.out.at_
  simp only at d0 d1 d2 d3 d4 d5 e0 e1 e2 e3 e4 e5
  go_wp2
  go_ret
  exact ⟨by simp, HB2.out.bel⟩
end Go.Proofs.Ytbeaefokpggmpaa
