import Derived.Test.YtbeaefokpggmpabQte
/-! quota: the program's calls. -/
namespace Go.Proofs.Ytbeaefokpggmpab
open Go.RowKit
set_option linter.unusedVariables false
theorem isWithinOf (v a e : Int) (w : World) : Calls Try.prog 24 #[.int .i64 v, .int .i64 a, .int .i64 e] w fun x w' => x = .returned (.bool (inR v a e)) ∧ w' = w := by
  by_cases h1 : a ≤ v
  · by_cases h2 : v ≤ e
    all_goals
      go_enter Try.func24, Try.ntmps24
      go_wp2
      go_ret
      exact ⟨by simp [inR, h1, h2], rfl⟩
  · go_enter Try.func24, Try.ntmps24
    go_wp2
    go_ret
    exact ⟨by simp [inR]; omega, rfl⟩

set_option maxHeartbeats 4000000 in
theorem checkOf (b : Bk) (hb : b.Ok) (w : World) : Calls Try.prog 29 #[b.v] w (ChkPost b w) := by
  obtain ⟨num, den, burst, lvl, part, at_⟩ := b
  have HB : Hid (Below w.heap.size w (w.alloc (.cells #[.int .i64 num, .int .i64 den, .int .i64 burst, .int .i64 lvl, .int .i64 part, .int .i64 at_] 35))) := (Below.refl _ _).alloc (Nat.le_refl _) _
  clear hb
  unfold Bk.v
  go_enter Try.func29, Try.ntmps29

  go_wp2_with fail
  refine (isWithinOf num 1 1073741824 _).mono ?_
  rintro x w1 ⟨rfl, rfl⟩
  cases hn : inR num 1 1073741824 with
  | false =>
    have hx := inR_not hn
    have HC : Hid (chkB ⟨num, den, burst, lvl, part, at_⟩ = 130) := chkB_bad fun g => by have := g.n0; have := g.n1; have := g.d0; have := g.d1; have := g.b0; have := g.b1; have := g.l0; have := g.l1; have := g.p0; have := g.p1; have := g.f; have := g.a0; have := g.a1; simp only at *; omega
    clear hx hn
    go_wp2_with fail
    refine (isWithinOf _ _ _ _).mono ?_
    rintro x w1 ⟨rfl, rfl⟩
    generalize inR _ _ _ = z1
    cases z1 with
    | false =>
      go_wp2
      go_ret
      exact ⟨by rw [HC.out]; try rfl, HB.out⟩
    | true =>
      go_wp2_with fail
      refine (isWithinOf _ _ _ _).mono ?_
      rintro x w1 ⟨rfl, rfl⟩
      generalize inR _ _ _ = z2
      cases z2 with
      | false =>
        go_wp2
        go_ret
        exact ⟨by rw [HC.out]; try rfl, HB.out⟩
      | true =>
        by_cases hq : part = 0
        · have hq2 : (part == 0) = true := by simpa using hq
          clear hq
          go_wp2
          go_ret
          exact ⟨by rw [HC.out]; try rfl, HB.out⟩
        · have hq2 : (part == 0) = false := by simpa using hq
          clear hq
          by_cases hq3 : lvl < burst
          all_goals
            go_wp2
            go_ret
            exact ⟨by rw [HC.out]; try rfl, HB.out⟩
  | true =>
  go_wp2_with fail
  refine (isWithinOf den 1 1048576 _).mono ?_
  rintro x w1 ⟨rfl, rfl⟩
  cases hd : inR den 1 1048576 with
  | false =>
    have hx := inR_not hd
    have HC : Hid (chkB ⟨num, den, burst, lvl, part, at_⟩ = 130) := chkB_bad fun g => by have := g.n0; have := g.n1; have := g.d0; have := g.d1; have := g.b0; have := g.b1; have := g.l0; have := g.l1; have := g.p0; have := g.p1; have := g.f; have := g.a0; have := g.a1; simp only at *; omega
    clear hx hd
    go_wp2_with fail
    refine (isWithinOf _ _ _ _).mono ?_
    rintro x w1 ⟨rfl, rfl⟩
    generalize inR _ _ _ = z1
    cases z1 with
    | false =>
      go_wp2
      go_ret
      exact ⟨by rw [HC.out]; try rfl, HB.out⟩
    | true =>
      go_wp2_with fail
      refine (isWithinOf _ _ _ _).mono ?_
      rintro x w1 ⟨rfl, rfl⟩
      generalize inR _ _ _ = z2
      cases z2 with
      | false =>
        go_wp2
        go_ret
        exact ⟨by rw [HC.out]; try rfl, HB.out⟩
      | true =>
        by_cases hq : part = 0
        · have hq2 : (part == 0) = true := by simpa using hq
          clear hq
          go_wp2
          go_ret
          exact ⟨by rw [HC.out]; try rfl, HB.out⟩
        · have hq2 : (part == 0) = false := by simpa using hq
          clear hq
          by_cases hq3 : lvl < burst
          all_goals
            go_wp2
            go_ret
            exact ⟨by rw [HC.out]; try rfl, HB.out⟩
  | true =>
  go_wp2_with fail
  refine (isWithinOf burst 1 1073741824 _).mono ?_
  rintro x w1 ⟨rfl, rfl⟩
  cases hb : inR burst 1 1073741824 with
  | false =>
    have hx := inR_not hb
    have HC : Hid (chkB ⟨num, den, burst, lvl, part, at_⟩ = 130) := chkB_bad fun g => by have := g.n0; have := g.n1; have := g.d0; have := g.d1; have := g.b0; have := g.b1; have := g.l0; have := g.l1; have := g.p0; have := g.p1; have := g.f; have := g.a0; have := g.a1; simp only at *; omega
    clear hx hb
    go_wp2_with fail
    refine (isWithinOf _ _ _ _).mono ?_
    rintro x w1 ⟨rfl, rfl⟩
    generalize inR _ _ _ = z1
    cases z1 with
    | false =>
      go_wp2
      go_ret
      exact ⟨by rw [HC.out]; try rfl, HB.out⟩
    | true =>
      go_wp2_with fail
      refine (isWithinOf _ _ _ _).mono ?_
      rintro x w1 ⟨rfl, rfl⟩
      generalize inR _ _ _ = z2
      cases z2 with
      | false =>
        go_wp2
        go_ret
        exact ⟨by rw [HC.out]; try rfl, HB.out⟩
      | true =>
        by_cases hq : part = 0
        · have hq2 : (part == 0) = true := by simpa using hq
          clear hq
          go_wp2
          go_ret
          exact ⟨by rw [HC.out]; try rfl, HB.out⟩
        · have hq2 : (part == 0) = false := by simpa using hq
          clear hq
          by_cases hq3 : lvl < burst
          all_goals
            go_wp2
            go_ret
            exact ⟨by rw [HC.out]; try rfl, HB.out⟩
  | true =>
  have hwd : wrap64 (den - 1) = den - 1 := by have := inR_is hd; unfold wrap64; omega
  go_wp2_with fail
  refine (isWithinOf lvl 0 burst _).mono ?_
  rintro x w1 ⟨rfl, rfl⟩
  cases hl : inR lvl 0 burst with
  | false =>
    have hx := inR_not hl
    have HC : Hid (chkB ⟨num, den, burst, lvl, part, at_⟩ = 130) := chkB_bad fun g => by have := g.n0; have := g.n1; have := g.d0; have := g.d1; have := g.b0; have := g.b1; have := g.l0; have := g.l1; have := g.p0; have := g.p1; have := g.f; have := g.a0; have := g.a1; simp only at *; omega
    clear hx
    go_wp2
    go_ret
    exact ⟨by rw [HC.out]; try rfl, HB.out⟩
  | true =>
  go_wp2_with fail
  refine (isWithinOf part 0 (den - 1) _).mono ?_
  rintro x w1 ⟨rfl, rfl⟩
  cases hp : inR part 0 (den - 1) with
  | false =>
    have hx := inR_not hp
    have HC : Hid (chkB ⟨num, den, burst, lvl, part, at_⟩ = 130) := chkB_bad fun g => by have := g.n0; have := g.n1; have := g.d0; have := g.d1; have := g.b0; have := g.b1; have := g.l0; have := g.l1; have := g.p0; have := g.p1; have := g.f; have := g.a0; have := g.a1; simp only at *; omega
    clear hx
    go_wp2
    go_ret
    exact ⟨by rw [HC.out]; try rfl, HB.out⟩
  | true =>
  have yl := inR_is hl
  have yp := inR_is hp
  by_cases hq : part = 0
  · have hq2 : (part == 0) = true := by simpa using hq
    have HQ : Hid (part = 0) := hq
    clear hq
    go_wp2_with fail
    refine (isWithinOf at_ 0 1125899906842623 _).mono ?_
    rintro x w1 ⟨rfl, rfl⟩
    cases ha : inR at_ 0 1125899906842623 with
    | false =>
      have hx := inR_not ha
      have HC : Hid (chkB ⟨num, den, burst, lvl, part, at_⟩ = 130) := chkB_bad fun g => by have := g.n0; have := g.n1; have := g.d0; have := g.d1; have := g.b0; have := g.b1; have := g.l0; have := g.l1; have := g.p0; have := g.p1; have := g.f; have := g.a0; have := g.a1; simp only at *; omega
      clear hx
      go_wp2
      go_ret
      exact ⟨by rw [HC.out]; try rfl, HB.out⟩
    | true =>
      have HC : Hid (chkB ⟨num, den, burst, lvl, part, at_⟩ = 0) := chkB_good (by
        have := inR_is hn; have := inR_is hd; have := inR_is hb; have := inR_is hl; have := inR_is hp; have := inR_is ha; have := HQ.out
        constructor <;> (simp only; omega))
      go_wp2
      go_ret
      exact ⟨by rw [HC.out]; try rfl, HB.out⟩
  · have hq2 : (part == 0) = false := by simpa using hq
    by_cases hq3 : lvl < burst
    · skip
      go_wp2_with fail
      refine (isWithinOf at_ 0 1125899906842623 _).mono ?_
      rintro x w1 ⟨rfl, rfl⟩
      cases ha : inR at_ 0 1125899906842623 with
      | false =>
        have hx := inR_not ha
        have HC : Hid (chkB ⟨num, den, burst, lvl, part, at_⟩ = 130) := chkB_bad fun g => by have := g.n0; have := g.n1; have := g.d0; have := g.d1; have := g.b0; have := g.b1; have := g.l0; have := g.l1; have := g.p0; have := g.p1; have := g.f; have := g.a0; have := g.a1; simp only at *; omega
        clear hx
        go_wp2
        go_ret
        exact ⟨by rw [HC.out]; try rfl, HB.out⟩
      | true =>
        have HC : Hid (chkB ⟨num, den, burst, lvl, part, at_⟩ = 0) := chkB_good (by
          have := inR_is hn; have := inR_is hd; have := inR_is hb; have := inR_is hl; have := inR_is hp; have := inR_is ha
          constructor <;> (simp only; omega))
        go_wp2
        go_ret
        exact ⟨by rw [HC.out]; try rfl, HB.out⟩
    · skip
      have HC : Hid (chkB ⟨num, den, burst, lvl, part, at_⟩ = 130) := chkB_bad fun g => by have := g.n0; have := g.n1; have := g.d0; have := g.d1; have := g.b0; have := g.b1; have := g.l0; have := g.l1; have := g.p0; have := g.p1; have := g.f; have := g.a0; have := g.a1; simp only at *; omega
      clear hq
      go_wp2
      go_ret
      exact ⟨by rw [HC.out]; try rfl, HB.out⟩

theorem hresQnew : Try.f18.results = #[.cell 8 35, .tmp 9] := by kernel_rfl

theorem newOf (num den burst now : Int) (h1 : I64 num) (h2 : I64 den) (h3 : I64 burst) (h4 : I64 now) (w : World) : Calls Try.prog 18 #[.int .i64 num, .int .i64 den, .int .i64 burst, .int .i64 now] w
    fun e w' => e = .returned (.tuple #[(newB num den burst now).v, .int .i64 (chkB (fullB num den burst now))]) ∧ Below w.heap.size w w' := by
  have HK : Hid (fullB num den burst now).Ok := ⟨h1, h2, h3, h3, ⟨by unfold fullB; simp only; omega, by unfold fullB; simp only; omega⟩, h4⟩
  obtain ⟨w0, hw0⟩ : ∃ w0, w.alloc (.cells #[.int .i64 0, .int .i64 0, .int .i64 0, .int .i64 0, .int .i64 0, .int .i64 0] 35) = w0 := ⟨_, rfl⟩
  obtain ⟨w1, hw1⟩ : ∃ w1, w0.alloc (.cells #[.int .i64 num, .int .i64 den, .int .i64 burst, .int .i64 burst, .int .i64 0, .int .i64 now] 35) = w1 := ⟨_, rfl⟩
  have X0 : Box w w0 w.heap.size Bk.zero := by rw [← hw0]; exact Box.zero w
  have X1 : Box w0 w1 w0.heap.size (fullB num den burst now) := by rw [← hw1]; exact Box.new w0 (fullB num den burst now)
  have hsz : w0.heap.size = w.heap.size + 1 := by rw [← hw0]; simp
  have Y0 : Box w w1 w.heap.size Bk.zero := X0.later X1.bel
  have Y1 : Box w w1 (w.heap.size + 1) (fullB num den burst now) := by rw [← hsz]; exact X1.over X0.bel
  by_cases hg : (fullB num den burst now).Good
  · have HC : Hid (chkB (fullB num den burst now) = 0) := chkB_good hg
    have HN : Hid (newB num den burst now = fullB num den burst now) := by unfold Hid newB; rw [if_pos hg]
    have HY0 : Hid (Box w w1 w.heap.size Bk.zero) := Y0
    have HY1 : Hid (Box w w1 (w.heap.size + 1) (fullB num den burst now)) := Y1
    obtain ⟨z0, z1, z2, z3, z4, z5⟩ := Y0.at_
    obtain ⟨c0, c1, c2, c3, c4, c5⟩ := Y1.at_
    simp only [Bk.zero] at z0 z1 z2 z3 z4 z5
    simp only [fullB] at c0 c1 c2 c3 c4 c5
    clear h1 h2 h3 h4 hg X0 X1 Y0 Y1
    go_enter Try.func18, Try.ntmps18
    go_wp2_with fail
    refine (checkOf (fullB num den burst now) HK.out _).mono ?_
    rintro x w2 ⟨rfl, hb2⟩
    have HZ0 : Hid (Box w w2 w.heap.size Bk.zero) := HY0.out.later hb2
    have HZ1 : Hid (Box w w2 (w.heap.size + 1) (fullB num den burst now)) := HY1.out.later hb2
    clear z0 z1 z2 z3 z4 z5 c0 c1 c2 c3 c4 c5
    obtain ⟨z0, z1, z2, z3, z4, z5⟩ := HZ0.out.at_
    obtain ⟨c0, c1, c2, c3, c4, c5⟩ := HZ1.out.at_
    simp only [Bk.zero] at z0 z1 z2 z3 z4 z5
    simp only [fullB] at c0 c1 c2 c3 c4 c5
    have f0 := HZ0.out.fr 0
    have f1 := HZ0.out.fr 1
    have f2 := HZ0.out.fr 2
    have f3 := HZ0.out.fr 3
    have f4 := HZ0.out.fr 4
    have f5 := HZ0.out.fr 5
    rw [HC.out]
    go_wp2
    refine bodyPost_ret (v := .tuple #[(fullB num den burst now).v, .int .i64 0]) ?_ rfl ⟨by rw [HN.out, HC.out], putBk_below (fullB num den burst now) HZ0.out.bel (Nat.le_refl _)⟩
    simp only [results, hresQnew, fullB]
    go_simp
  · have HC : Hid (chkB (fullB num den burst now) = 130) := chkB_bad hg
    have HN : Hid (newB num den burst now = Bk.zero) := by unfold Hid newB; rw [if_neg hg]
    have HY0 : Hid (Box w w1 w.heap.size Bk.zero) := Y0
    have HY1 : Hid (Box w w1 (w.heap.size + 1) (fullB num den burst now)) := Y1
    obtain ⟨z0, z1, z2, z3, z4, z5⟩ := Y0.at_
    obtain ⟨c0, c1, c2, c3, c4, c5⟩ := Y1.at_
    simp only [Bk.zero] at z0 z1 z2 z3 z4 z5
    simp only [fullB] at c0 c1 c2 c3 c4 c5
    clear h1 h2 h3 h4 hg X0 X1 Y0 Y1
    go_enter Try.func18, Try.ntmps18
    go_wp2_with fail
    refine (checkOf (fullB num den burst now) HK.out _).mono ?_
    rintro x w2 ⟨rfl, hb2⟩
    have HZ0 : Hid (Box w w2 w.heap.size Bk.zero) := HY0.out.later hb2
    have HZ1 : Hid (Box w w2 (w.heap.size + 1) (fullB num den burst now)) := HY1.out.later hb2
    clear z0 z1 z2 z3 z4 z5 c0 c1 c2 c3 c4 c5
    obtain ⟨z0, z1, z2, z3, z4, z5⟩ := HZ0.out.at_
    obtain ⟨c0, c1, c2, c3, c4, c5⟩ := HZ1.out.at_
    simp only [Bk.zero] at z0 z1 z2 z3 z4 z5
    simp only [fullB] at c0 c1 c2 c3 c4 c5
    have f0 := HZ0.out.fr 0
    have f1 := HZ0.out.fr 1
    have f2 := HZ0.out.fr 2
    have f3 := HZ0.out.fr 3
    have f4 := HZ0.out.fr 4
    have f5 := HZ0.out.fr 5
    rw [HC.out]
    go_wp2
    refine bodyPost_ret (v := .tuple #[Bk.zero.v, .int .i64 130]) ?_ rfl ⟨by rw [HN.out, HC.out], putBk_below Bk.zero HZ0.out.bel (Nat.le_refl _)⟩
    simp only [results, hresQnew, Bk.zero]
    go_simp


end Go.Proofs.Ytbeaefokpggmpab
