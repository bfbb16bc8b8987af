import Derived.Test.YtbeaefokpggmpabQtp
/-! quota: the law's works. -/
namespace Go.Proofs.Ytbeaefokpggmpab
open Go.RowKit
set_option linter.unusedVariables false

theorem good_full : Bk.Good (fullB 3 2 10 5) := by unfold fullB; constructor <;> simp
theorem good_two : Bk.Good ⟨3, 2, 10, 2, 0, 5⟩ := by constructor <;> simp
theorem new_works : newB 3 2 10 5 = ⟨3, 2, 10, 10, 0, 5⟩ := by unfold newB; rw [if_pos good_full]; rfl
theorem fill_full : fillP ⟨3, 2, 10, 10, 0, 5⟩ 5 = ⟨3, 2, 10, 10, 0, 5⟩ := by unfold fillP; rw [if_neg (by simp)]
theorem take_works : takeP ⟨3, 2, 10, 10, 0, 5⟩ 5 8 = (⟨3, 2, 10, 2, 0, 5⟩, 0) := by
  have h : Bk.Good ⟨3, 2, 10, 10, 0, 5⟩ := good_full
  unfold takeP
  rw [if_pos h, fill_full]
  simp
theorem fill_two : fillP ⟨3, 2, 10, 2, 0, 5⟩ 6 = ⟨3, 2, 10, 3, 1, 6⟩ := by
  unfold fillP
  rw [if_pos ⟨good_two, by simp⟩]
  rw [show min (6 : Int) 1125899906842623 = 6 from by omega]
  simp [Bk.withP, Bk.parts]
theorem take_two : takeP ⟨3, 2, 10, 2, 0, 5⟩ 6 4 = (⟨3, 2, 10, 3, 1, 6⟩, 1) := by
  unfold takeP
  rw [if_pos good_two, fill_two]
  simp [Bk.parts]
theorem ok_of {b : Bk} (h : b.Good) : b.Ok := h.ok
/-- A bucket is put in a box of its own. -/
theorem box_alloc {w w1 : World} (h : Below w.heap.size w w1) (num den burst lvl part at_ : Int) : ∃ v, w1.alloc (.cells #[.int .i64 num, .int .i64 den, .int .i64 burst, .int .i64 lvl, .int .i64 part, .int .i64 at_] 35) = v ∧ Box w v w1.heap.size ⟨num, den, burst, lvl, part, at_⟩ ∧ Below w1.heap.size w1 v :=
  ⟨_, rfl, (Box.new w1 ⟨num, den, burst, lvl, part, at_⟩).over h, (Box.new w1 ⟨num, den, burst, lvl, part, at_⟩).bel⟩
set_option maxHeartbeats 2000000 in
theorem worksOf (w : World) : Calls Try.prog 8 #[] w fun e w' => e = .returned (.bool true) ∧ Below w.heap.size w w' := by
  have HN : Hid (∀ u, Calls Try.prog 18 #[.int .i64 3, .int .i64 2, .int .i64 10, .int .i64 5] u fun e w' => e = .returned (.tuple #[Bk.v ⟨3, 2, 10, 10, 0, 5⟩, .int .i64 0]) ∧ Below u.heap.size u w') := fun u => by
    have h := newOf 3 2 10 5 (by unfold I64; omega) (by unfold I64; omega) (by unfold I64; omega) (by unfold I64; omega) u
    rw [new_works, chkB_good good_full] at h
    exact h
  have HT : Hid (∀ u, Calls Try.prog 19 #[Bk.v ⟨3, 2, 10, 10, 0, 5⟩, .int .i64 5, .int .i64 8] u fun e w' => e = .returned (.tuple #[Bk.v ⟨3, 2, 10, 2, 0, 5⟩, .int .i64 0]) ∧ Below u.heap.size u w') := fun u => by
    have h := takeOf ⟨3, 2, 10, 10, 0, 5⟩ good_full.ok 5 8 (by unfold I64; omega) (by unfold I64; omega) u
    unfold TakePost at h
    rw [take_works] at h
    exact h
  have HU : Hid (∀ u, Calls Try.prog 19 #[Bk.v ⟨3, 2, 10, 2, 0, 5⟩, .int .i64 6, .int .i64 4] u fun e w' => e = .returned (.tuple #[Bk.v ⟨3, 2, 10, 3, 1, 6⟩, .int .i64 1]) ∧ Below u.heap.size u w') := fun u => by
    have h := takeOf ⟨3, 2, 10, 2, 0, 5⟩ good_two.ok 6 4 (by unfold I64; omega) (by unfold I64; omega) u
    unfold TakePost at h
    rw [take_two] at h
    exact h
  go_enter Try.func8, Try.ntmps8
  go_wp2_with fail
  refine (HN.out _).mono ?_
  rintro x w1 ⟨rfl, hb1⟩
  obtain ⟨v1, hv1, B1, -⟩ := box_alloc hb1 3 2 10 10 0 5
  have HB1 : Hid (Box w v1 w1.heap.size ⟨3, 2, 10, 10, 0, 5⟩) := B1
  obtain ⟨c0, c1, c2, c3, c4, c5⟩ := B1.at_
  simp only at c0 c1 c2 c3 c4 c5
  clear B1
  go_wp2_with fail
  refine (HT.out _).mono ?_
  rintro x w2 ⟨rfl, hb2⟩
  clear c0 c1 c2 c3 c4 c5
  obtain ⟨v2, hv2, B2, h2⟩ := box_alloc (HB1.out.later hb2).bel 3 2 10 2 0 5
  have HB2 : Hid (Box w v2 w2.heap.size ⟨3, 2, 10, 2, 0, 5⟩) := B2
  obtain ⟨c0, c1, c2, c3, c4, c5⟩ := B2.at_
  simp only at c0 c1 c2 c3 c4 c5
  clear B2 h2
  go_wp2_with fail
  refine (HU.out _).mono ?_
  rintro x w3 ⟨rfl, hb3⟩
  clear c0 c1 c2 c3 c4 c5
  obtain ⟨v3, hv3, B3, h3⟩ := box_alloc (HB2.out.later hb3).bel 3 2 10 3 1 6
  have HB3 : Hid (Box w v3 w3.heap.size ⟨3, 2, 10, 3, 1, 6⟩) := B3
  obtain ⟨c0, c1, c2, c3, c4, c5⟩ := B3.at_
  obtain ⟨d0, d1, d2, d3, d4, d5⟩ := ((HB2.out.later hb3).later h3).at_
  simp only at c0 c1 c2 c3 c4 c5 d0 d1 d2 d3 d4 d5
  clear B3 h3
  go_wp2
  go_ret
  exact ⟨rfl, HB3.out.bel⟩
end Go.Proofs.Ytbeaefokpggmpab
