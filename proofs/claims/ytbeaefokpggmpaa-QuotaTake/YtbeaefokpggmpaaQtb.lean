import Derived.Test.YtbeaefokpggmpaaQta
/-! quota: the document's Check and New. -/
namespace Go.Proofs.Ytbeaefokpggmpaa
open Go.RowKit
set_option linter.unusedVariables false

def inR (v a e : Int) : Bool := decide (a ≤ v) && decide (v ≤ e)
theorem inR_true {v a e : Int} (h : a ≤ v ∧ v ≤ e) : inR v a e = true := by simp [inR, h.1, h.2]
theorem inR_false {v a e : Int} (h : ¬ (a ≤ v ∧ v ≤ e)) : inR v a e = false := by simp [inR]; omega
theorem inR_is {v a e : Int} (h : inR v a e = true) : a ≤ v ∧ v ≤ e := by simpa [inR] using h
theorem inR_not {v a e : Int} (h : inR v a e = false) : ¬ (a ≤ v ∧ v ≤ e) := by simpa [inR] using h
theorem rwithinOf (v a e : Int) (w : World) : Calls Try.prog 19 #[.int .i64 v, .int .i64 a, .int .i64 e] w fun x w' => x = .returned (.bool (inR v a e)) ∧ w' = w := by
  by_cases h1 : a ≤ v
  · by_cases h2 : v ≤ e
    all_goals
      go_enter Try.func19, Try.ntmps19
      go_wp2
      go_ret
      exact ⟨by simp [inR, h1, h2], rfl⟩
  · go_enter Try.func19, Try.ntmps19
    go_wp2
    go_ret
    exact ⟨by simp [inR]; omega, rfl⟩

abbrev ChkPost (b : Bk) (w : World) : Ending → World → Prop := fun e w' => e = .returned (.int .i64 (chkB b)) ∧ Below w.heap.size w w'
set_option maxHeartbeats 2000000 in
theorem rcheckOf (b : Bk) (hb : b.Ok) (w : World) : Calls Try.prog 12 #[b.v] w (ChkPost b w) := by
  obtain ⟨num, den, burst, lvl, part, at_⟩ := b
  have HB : Hid (Below w.heap.size w (w.alloc (.cells #[.int .i64 num, .int .i64 den, .int .i64 burst, .int .i64 lvl, .int .i64 part, .int .i64 at_] 23))) := (Below.refl _ _).alloc (Nat.le_refl _) _
  have hden := hb.den
  clear hb
  unfold Bk.v
  go_enter Try.func12, Try.ntmps12
  go_wp2_with fail
  refine (rwithinOf num 1 (1073741824) _).mono ?_
  rintro x w1 ⟨rfl, rfl⟩
  cases hn : inR num 1 (1073741824) with
  | false =>
    have hx := inR_not hn
    have HC : Hid (chkB ⟨num, den, burst, lvl, part, at_⟩ = 130) := chkB_bad fun g => by have := g.n0; have := g.n1; have := g.d0; have := g.d1; have := g.b0; have := g.b1; have := g.l0; have := g.l1; have := g.p0; have := g.p1; have := g.f; have := g.a0; have := g.a1; simp only at *; omega
    go_wp2
    go_ret
    exact ⟨by rw [HC.out]; try rfl, HB.out⟩
  | true =>
  go_wp2_with fail
  refine (rwithinOf den 1 (1048576) _).mono ?_
  rintro x w1 ⟨rfl, rfl⟩
  cases hd : inR den 1 (1048576) with
  | false =>
    have hx := inR_not hd
    have HC : Hid (chkB ⟨num, den, burst, lvl, part, at_⟩ = 130) := chkB_bad fun g => by have := g.n0; have := g.n1; have := g.d0; have := g.d1; have := g.b0; have := g.b1; have := g.l0; have := g.l1; have := g.p0; have := g.p1; have := g.f; have := g.a0; have := g.a1; simp only at *; omega
    go_wp2
    go_ret
    exact ⟨by rw [HC.out]; try rfl, HB.out⟩
  | true =>
  go_wp2_with fail
  refine (rwithinOf burst 1 (1073741824) _).mono ?_
  rintro x w1 ⟨rfl, rfl⟩
  cases hb : inR burst 1 (1073741824) with
  | false =>
    have hx := inR_not hb
    have HC : Hid (chkB ⟨num, den, burst, lvl, part, at_⟩ = 130) := chkB_bad fun g => by have := g.n0; have := g.n1; have := g.d0; have := g.d1; have := g.b0; have := g.b1; have := g.l0; have := g.l1; have := g.p0; have := g.p1; have := g.f; have := g.a0; have := g.a1; simp only at *; omega
    go_wp2
    go_ret
    exact ⟨by rw [HC.out]; try rfl, HB.out⟩
  | true =>
  go_wp2_with fail
  refine (rwithinOf lvl 0 (burst) _).mono ?_
  rintro x w1 ⟨rfl, rfl⟩
  cases hl : inR lvl 0 (burst) with
  | false =>
    have hx := inR_not hl
    have HC : Hid (chkB ⟨num, den, burst, lvl, part, at_⟩ = 130) := chkB_bad fun g => by have := g.n0; have := g.n1; have := g.d0; have := g.d1; have := g.b0; have := g.b1; have := g.l0; have := g.l1; have := g.p0; have := g.p1; have := g.f; have := g.a0; have := g.a1; simp only at *; omega
    go_wp2
    go_ret
    exact ⟨by rw [HC.out]; try rfl, HB.out⟩
  | true =>
  have hwd : wrap64 (den - 1) = den - 1 := by have := inR_is hd; unfold wrap64; omega
  go_wp2_with fail
  refine (rwithinOf part 0 (den - 1) _).mono ?_
  rintro x w1 ⟨rfl, rfl⟩
  cases hp : inR part 0 (den - 1) with
  | false =>
    have hx := inR_not hp
    have HC : Hid (chkB ⟨num, den, burst, lvl, part, at_⟩ = 130) := chkB_bad fun g => by have := g.n0; have := g.n1; have := g.d0; have := g.d1; have := g.b0; have := g.b1; have := g.l0; have := g.l1; have := g.p0; have := g.p1; have := g.f; have := g.a0; have := g.a1; simp only at *; omega
    go_wp2
    go_ret
    exact ⟨by rw [HC.out]; try rfl, HB.out⟩
  | true =>
  have yl := inR_is hl
  by_cases hf : lvl = burst
  · have ef : (lvl == burst) = true := by simpa using hf
    have HF : Hid (lvl = burst) := hf
    clear hf
    by_cases hq : part > 0
    · have HC : Hid (chkB ⟨num, den, burst, lvl, part, at_⟩ = 130) := chkB_bad fun g => by have := HF.out; have := g.n0; have := g.n1; have := g.d0; have := g.d1; have := g.b0; have := g.b1; have := g.l0; have := g.l1; have := g.p0; have := g.p1; have := g.f; have := g.a0; have := g.a1; simp only at *; omega
      go_wp2
      go_ret
      exact ⟨by rw [HC.out]; try rfl, HB.out⟩
    · go_wp2_with fail
      refine (rwithinOf at_ 0 (1125899906842623) _).mono ?_
      rintro x w1 ⟨rfl, rfl⟩
      cases ha : inR at_ 0 (1125899906842623) with
      | false =>
        have hx := inR_not ha
        have HC : Hid (chkB ⟨num, den, burst, lvl, part, at_⟩ = 130) := chkB_bad fun g => by have := g.n0; have := g.n1; have := g.d0; have := g.d1; have := g.b0; have := g.b1; have := g.l0; have := g.l1; have := g.p0; have := g.p1; have := g.f; have := g.a0; have := g.a1; simp only at *; omega
        go_wp2
        go_ret
        exact ⟨by rw [HC.out]; try rfl, HB.out⟩
      | true =>
        have HC : Hid (chkB ⟨num, den, burst, lvl, part, at_⟩ = 0) := chkB_good (by
          have := inR_is hn; have := inR_is hd; have := inR_is hb; have := inR_is hl; have := inR_is hp; have := inR_is ha
          constructor <;> (have := HF.out; simp only; omega))
        go_wp2
        go_ret
        exact ⟨by rw [HC.out]; try rfl, HB.out⟩
  · have ef : (lvl == burst) = false := by simpa using hf
    go_wp2_with fail
    refine (rwithinOf at_ 0 (1125899906842623) _).mono ?_
    rintro x w1 ⟨rfl, rfl⟩
    cases ha : inR at_ 0 (1125899906842623) with
    | false =>
      have hx := inR_not ha
      have HC : Hid (chkB ⟨num, den, burst, lvl, part, at_⟩ = 130) := chkB_bad fun g => by have := g.n0; have := g.n1; have := g.d0; have := g.d1; have := g.b0; have := g.b1; have := g.l0; have := g.l1; have := g.p0; have := g.p1; have := g.f; have := g.a0; have := g.a1; simp only at *; omega
      go_wp2
      go_ret
      exact ⟨by rw [HC.out]; try rfl, HB.out⟩
    | true =>
      have HC : Hid (chkB ⟨num, den, burst, lvl, part, at_⟩ = 0) := chkB_good (by
        have := inR_is hn; have := inR_is hd; have := inR_is hb; have := inR_is hl; have := inR_is hp; have := inR_is ha
        constructor <;> (simp only; omega))
      go_wp2
      go_ret
      exact ⟨by rw [HC.out]; try rfl, HB.out⟩

end Go.Proofs.Ytbeaefokpggmpaa
