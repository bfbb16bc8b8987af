import Derived.Test.YtjefbcphefckiacRq2
/-! The document's reader: Raw, and what stands on it. -/
namespace Go.Proofs.Ytjefbcphefckiac
open Go.RowKit Plain
set_option linter.unusedVariables false

theorem Rs.rawOut_nat (s : Rs) (n : Nat) : s.rawOut (n : Int) = s.out n := by unfold Rs.rawOut; rw [if_neg (by omega)]; simp
theorem Rs.rawOn_nat (s : Rs) (n : Nat) : s.rawOn (n : Int) = s.on n := by unfold Rs.rawOn; rw [if_neg (by omega)]; simp

theorem qaRaw (w : World) (b g : Nat) (s : Rs) (n : Int) (h : QA w b s (some g)) :
    Calls Try.prog 40 #[.pointer (some ⟨b, 0, none⟩), .int .i64 n] w fun x w' => ∃ v r', x = .returned v ∧ Own w' v (s.rawOut n) r' ∧ QA w' b (s.rawOn n) (some g) ∧ w.grownBy w' (some b) ∧ (∀ q, r' = some q → w.heap.size ≤ q) := by
  by_cases hneg : n < 0
  · have HO : s.rawOut n = [] := by unfold Rs.rawOut; rw [if_pos hneg]
    have HN : s.rawOn n = s.fail 14 := by unfold Rs.rawOn; rw [if_pos hneg]
    refine (qaRawNeg w b s _ n hneg h).mono ?_
    rintro x w1 ⟨rfl, h1, h2⟩
    exact ⟨_, none, rfl, by rw [HO]; exact Own.nil _, by rw [HN]; exact h1, h2, by simp⟩
  · obtain ⟨m, rfl⟩ : ∃ m : Nat, n = (m : Int) := ⟨n.toNat, by omega⟩
    rw [s.rawOut_nat, s.rawOn_nat]
    by_cases h0 : s.e = 0
    · by_cases hle : m ≤ s.l.length - s.p
      · have HO : s.out m = (s.l.drop s.p).take m := s.out_ok m h0 hle
        have HN : s.on m = ⟨s.l, s.p + m, 0⟩ := by unfold Rs.on; rw [if_neg (by simp [h0]), if_pos hle]
        rw [HO, HN]
        rcases h with ⟨_, dv, h⟩ | ⟨h1, _⟩
        · obtain ⟨cap, rfl, hc1, hc2⟩ := h.ow.shape
          have hp := h.pl
          by_cases hpc : s.p < cap
          · refine (qaRawOkA w b g cap s m hle h hpc).mono ?_
            rintro x w1 ⟨v, q, rfl, h1, h2, h3, h4⟩
            exact ⟨v, some q, rfl, h1, .inl ⟨rfl, _, h3⟩, h4, by rintro q' e; simp at e; omega⟩
          · obtain rfl : cap = s.p := by omega
            refine (qaRawOkB w b g s m hle h).mono ?_
            rintro x w1 ⟨v, q, rfl, h1, h2, h3, h4⟩
            exact ⟨v, some q, rfl, h1, .inl ⟨rfl, _, h3⟩, h4, by rintro q' e; simp at e; omega⟩
        · exact absurd h0 h1
      · have HO : s.out m = [] := s.out_no m h0 hle
        have HN : s.on m = s.fail 10 := by unfold Rs.on Rs.fail; rw [if_neg (by simp [h0]), if_neg hle, if_neg (by simp [h0])]
        refine (qaRawShort w b s _ m h0 hle h).mono ?_
        rintro x w1 ⟨rfl, h1, h2⟩
        exact ⟨_, none, rfl, by rw [HO]; exact Own.nil _, by rw [HN]; exact h1, h2, by simp⟩
    · have HO : s.out m = [] := s.out_dead m h0
      have HN : s.on m = s := by unfold Rs.on; rw [if_pos h0]
      refine (qaRawDead w b s _ m h0 h).mono ?_
      rintro x w1 ⟨rfl, rfl⟩
      exact ⟨_, none, rfl, by rw [HO]; exact Own.nil _, by rw [HN]; exact h, ⟨rfl, rfl, rfl, Nat.le_refl _, fun _ _ _ => rfl⟩, by simp⟩

theorem qaByte (w : World) (b g : Nat) (s : Rs) (h : QA w b s (some g)) :
    Calls Try.prog 26 #[.pointer (some ⟨b, 0, none⟩)] w fun x w' => x = .returned (.int .u8 ((val 0 (s.out 1) : Int) % 256)) ∧ QA w' b (s.on 1) (some g) ∧ w.grownBy w' (some b) := by
  have HP : Hid (QA w b s (some g)) := h
  have hol := s.out_len 1
  clear h
  go_enter Try.func26, Try.ntmps26
  go_wp2_with fail
  refine (qaRaw w b g s ((1 : Nat) : Int) HP.out).mono ?_
  rw [s.rawOut_nat, s.rawOn_nat]
  rintro x w1 ⟨v1, r1, rfl, ho1, hp1, hg1, -⟩
  have H1 : Hid (QA w1 b (s.on 1) (some g)) := hp1
  have H2 : Hid (w.grownBy w1 (some b)) := hg1
  have HO1 : Hid (BytesAt w1 v1 (s.out 1)) := ho1.bytes
  clear hp1 hg1 ho1
  go_wp2_with fail
  refine (readFixed v1 _ w1 HO1.out (by omega)).mono ?_
  rintro x w2 ⟨rfl, rfl⟩
  go_wp2
  go_ret
  exact ⟨rfl, H1.out, H2.out⟩

theorem qaU32 (w : World) (b g : Nat) (s : Rs) (h : QA w b s (some g)) :
    Calls Try.prog 28 #[.pointer (some ⟨b, 0, none⟩)] w fun x w' => x = .returned (.int .u32 ((val 0 (s.out 4) : Int) % 4294967296)) ∧ QA w' b (s.on 4) (some g) ∧ w.grownBy w' (some b) := by
  have HP : Hid (QA w b s (some g)) := h
  have hol := s.out_len 4
  clear h
  go_enter Try.func28, Try.ntmps28
  go_wp2_with fail
  refine (qaRaw w b g s ((4 : Nat) : Int) HP.out).mono ?_
  rw [s.rawOut_nat, s.rawOn_nat]
  rintro x w1 ⟨v1, r1, rfl, ho1, hp1, hg1, -⟩
  have H1 : Hid (QA w1 b (s.on 4) (some g)) := hp1
  have H2 : Hid (w.grownBy w1 (some b)) := hg1
  have HO1 : Hid (BytesAt w1 v1 (s.out 4)) := ho1.bytes
  clear hp1 hg1 ho1
  go_wp2_with fail
  refine (readFixed v1 _ w1 HO1.out (by omega)).mono ?_
  rintro x w2 ⟨rfl, rfl⟩
  go_wp2
  go_ret
  exact ⟨rfl, H1.out, H2.out⟩

theorem qaU64 (w : World) (b g : Nat) (s : Rs) (h : QA w b s (some g)) :
    Calls Try.prog 29 #[.pointer (some ⟨b, 0, none⟩)] w fun x w' => x = .returned (.int .u64 (val 0 (s.out 8) : Int)) ∧ QA w' b (s.on 8) (some g) ∧ w.grownBy w' (some b) := by
  have HP : Hid (QA w b s (some g)) := h
  have hol := s.out_len 8
  clear h
  go_enter Try.func29, Try.ntmps29
  go_wp2_with fail
  refine (qaRaw w b g s ((8 : Nat) : Int) HP.out).mono ?_
  rw [s.rawOut_nat, s.rawOn_nat]
  rintro x w1 ⟨v1, r1, rfl, ho1, hp1, hg1, -⟩
  have H1 : Hid (QA w1 b (s.on 8) (some g)) := hp1
  have H2 : Hid (w.grownBy w1 (some b)) := hg1
  have HO1 : Hid (BytesAt w1 v1 (s.out 8)) := ho1.bytes
  clear hp1 hg1 ho1
  go_wp2_with fail
  refine (readFixed v1 _ w1 HO1.out (by omega)).mono ?_
  rintro x w2 ⟨rfl, rfl⟩
  go_wp2
  go_ret
  exact ⟨rfl, H1.out, H2.out⟩
end Go.Proofs.Ytjefbcphefckiac
