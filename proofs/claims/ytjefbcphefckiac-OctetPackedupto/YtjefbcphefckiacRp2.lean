import Derived.Test.YtjefbcphefckiacRp
namespace Go.Proofs.Ytjefbcphefckiac
open Go.RowKit Plain
set_option linter.unusedVariables false

theorem paByte (w : World) (b : Nat) (s : Rs) (r : Option Nat) (h : PA w b s r) :
    Calls Try.prog 32 #[.pointer (some ⟨b, 0, none⟩)] w fun x w' => x = .returned (.int .u8 ((val 0 (s.out 1) : Int) % 256)) ∧ PA w' b (s.on 1) r ∧ w.grownBy w' (some b) := by
  have HP : Hid (PA w b s r) := h
  clear h
  go_enter Try.func32, Try.ntmps32
  go_wp2_with fail
  refine (paFixed w b s r 1 (by decide) HP.out).mono ?_
  rintro x w1 ⟨rfl, hp1, hg1⟩
  have H1 : Hid (PA w1 b (s.on 1) r) := hp1
  have H2 : Hid (w.grownBy w1 (some b)) := hg1
  clear hp1 hg1
  go_wp2
  go_ret
  exact ⟨rfl, H1.out, H2.out⟩

theorem paU32 (w : World) (b : Nat) (s : Rs) (r : Option Nat) (h : PA w b s r) :
    Calls Try.prog 36 #[.pointer (some ⟨b, 0, none⟩)] w fun x w' => x = .returned (.int .u32 ((val 0 (s.out 4) : Int) % 4294967296)) ∧ PA w' b (s.on 4) r ∧ w.grownBy w' (some b) := by
  have HP : Hid (PA w b s r) := h
  clear h
  go_enter Try.func36, Try.ntmps36
  go_wp2_with fail
  refine (paFixed w b s r 4 (by decide) HP.out).mono ?_
  rintro x w1 ⟨rfl, hp1, hg1⟩
  have H1 : Hid (PA w1 b (s.on 4) r) := hp1
  have H2 : Hid (w.grownBy w1 (some b)) := hg1
  clear hp1 hg1
  go_wp2
  go_ret
  exact ⟨rfl, H1.out, H2.out⟩

theorem paU64 (w : World) (b : Nat) (s : Rs) (r : Option Nat) (h : PA w b s r) :
    Calls Try.prog 37 #[.pointer (some ⟨b, 0, none⟩)] w fun x w' => x = .returned (.int .u64 (val 0 (s.out 8) : Int)) ∧ PA w' b (s.on 8) r ∧ w.grownBy w' (some b) := by
  have HP : Hid (PA w b s r) := h
  clear h
  go_enter Try.func37, Try.ntmps37
  go_wp2_with fail
  refine (paFixed w b s r 8 (by decide) HP.out).mono ?_
  rintro x w1 ⟨rfl, hp1, hg1⟩
  have H1 : Hid (PA w1 b (s.on 8) r) := hp1
  have H2 : Hid (w.grownBy w1 (some b)) := hg1
  clear hp1 hg1
  go_wp2
  go_ret
  exact ⟨rfl, H1.out, H2.out⟩

/-- What the bytes that are left begin with. -/
def Rs.num (s : Rs) : Nat × Nat × Nat := if s.e ≠ 0 then (0, 0, 10) else rd (s.l.drop s.p)

theorem drop_take_all (l : List Nat) (p : Nat) : (l.drop p).take (l.length - p) = l.drop p := List.take_of_length_le (by simp)

set_option maxHeartbeats 400000 in
theorem paPeek (w : World) (b : Nat) (s : Rs) (r : Option Nat) (h : PA w b s r) :
    Calls Try.prog 51 #[.pointer (some ⟨b, 0, none⟩)] w fun x w' => x = .returned (.tuple #[.int .u64 s.num.1, .int .i64 s.num.2.1]) ∧ PA w' b (s.fail s.num.2.2) r ∧ w.grownBy w' (some b) := by
  have HP : Hid (PA w b s r) := h
  have hblt := h.lt
  rcases h with ⟨h0, dv, h⟩ | ⟨h0, h⟩
  · have HNUM : Hid (s.num = rd (s.l.drop s.p)) := by unfold Hid Rs.num; rw [if_neg (by simp [h0])]
    have hp := h.pl
    have hl := h.ll
    have c1 := h.c1
    have HO : Hid (BytesAt w dv s.l) := h.ow.bytes
    cases r with
    | none =>
      rcases h.ow.2 with ⟨rfl, hle, _⟩ | ⟨g, cap, e1, _⟩
      · have c0 := h.c0
        have hp0 : s.p = 0 := by rw [hle] at hp; simpa using hp
        have HB : Hid (BytesAt w (.slice none 0 0) (s.l.drop s.p)) := by unfold Hid; rw [hle]; simpa using BytesAt.nil w
        rw [hp0] at c1
        clear h hle hp0 hp hl
        go_enter Try.func51, Try.ntmps51
        go_wp2
        go_quiet ((go_at_call 57; exact Calls.quiet_of_same (readUvarint _ _ _ (HB.out.drewN _))))
        go_wp2_with fail
        rw [← HNUM.out]
        refine (paFail _ b s none _ (HP.out.later (below_drewN (Below.refl _ _) _))).mono ?_
        rintro x w3 ⟨rfl, hp3, hg3⟩
        have H1 : Hid (PA w3 b (s.fail (s.num.2.2 : Nat)) none) := hp3
        have H2 : Hid (w.grownBy w3 (some b)) := grow_trans (drewN_grow w _ _) hg3 (.inl rfl)
        clear hp3 hg3
        go_wp2
        go_ret2
        exact ⟨by first | rfl | (rw [HNUM.out]; rfl), H1.out, H2.out⟩
      · simp at e1
    | some g =>
      obtain ⟨cap, rfl, hc1, hc2⟩ := h.ow.shape
      have hc3 := hc2
      unfold maxLen at hc2
      have c0 := h.c0
      clear h
      by_cases hpc : s.p < cap
      · have HB : Hid (BytesAt w (.slice (some ⟨g, s.p, none⟩) (s.l.length - s.p) (cap - s.p)) (s.l.drop s.p)) := by
          have := BytesAt.sub HO.out s.p (s.l.length - s.p) (cap - s.p) (by omega) (by omega) (by omega)
          rw [drop_take_all] at this
          exact this
        clear HO
        go_enter Try.func51, Try.ntmps51
        go_wp2
        go_quiet ((go_at_call 57; exact Calls.quiet_of_same (readUvarint _ _ _ (HB.out.drewN _))))
        go_wp2_with fail
        rw [← HNUM.out]
        refine (paFail _ b s (some g) _ (HP.out.later (below_drewN (Below.refl _ _) _))).mono ?_
        rintro x w3 ⟨rfl, hp3, hg3⟩
        have H1 : Hid (PA w3 b (s.fail (s.num.2.2 : Nat)) (some g)) := hp3
        have H2 : Hid (w.grownBy w3 (some b)) := grow_trans (drewN_grow w _ _) hg3 (.inl rfl)
        clear hp3 hg3
        go_wp2
        go_ret2
        exact ⟨by first | rfl | (rw [HNUM.out]; rfl), H1.out, H2.out⟩
      · have hpe : s.p = cap := by omega
        have hle : s.l.length = cap := by omega
        have HB : Hid (BytesAt w (.slice (some ⟨g, 0, none⟩) 0 0) (s.l.drop s.p)) := by
          unfold Hid; rw [List.drop_eq_nil_of_le (by omega)]; exact BytesAt.empty w _ 0 (by decide)
        rw [hle] at c0
        rw [hpe] at c1
        clear HO hle hpe hp hl hc1 hpc
        go_enter Try.func51, Try.ntmps51
        go_wp2
        go_quiet ((go_at_call 57; exact Calls.quiet_of_same (readUvarint _ _ _ (HB.out.drewN _))))
        go_wp2_with fail
        rw [← HNUM.out]
        refine (paFail _ b s (some g) _ (HP.out.later (below_drewN (Below.refl _ _) _))).mono ?_
        rintro x w3 ⟨rfl, hp3, hg3⟩
        have H1 : Hid (PA w3 b (s.fail (s.num.2.2 : Nat)) (some g)) := hp3
        have H2 : Hid (w.grownBy w3 (some b)) := grow_trans (drewN_grow w _ _) hg3 (.inl rfl)
        clear hp3 hg3
        go_wp2
        go_ret2
        exact ⟨by first | rfl | (rw [HNUM.out]; rfl), H1.out, H2.out⟩
  · have HNUM : Hid (s.num = rd []) := by unfold Hid Rs.num; rw [if_pos h0]; rfl
    have c0 := h.c0
    have c1 := h.c1
    have HB : Hid (BytesAt w (.slice none 0 0) []) := BytesAt.nil w
    clear h
    go_enter Try.func51, Try.ntmps51
    go_wp2
    go_quiet ((go_at_call 57; exact Calls.quiet_of_same (readUvarint _ _ _ (HB.out.drewN _))))
    go_wp2_with fail
    rw [← HNUM.out]
    refine (paFail _ b s r _ (HP.out.later (below_drewN (Below.refl _ _) _))).mono ?_
    rintro x w3 ⟨rfl, hp3, hg3⟩
    have H1 : Hid (PA w3 b (s.fail (s.num.2.2 : Nat)) r) := hp3
    have H2 : Hid (w.grownBy w3 (some b)) := grow_trans (drewN_grow w _ _) hg3 (.inl rfl)
    clear hp3 hg3
    go_wp2
    go_ret2
    exact ⟨by first | rfl | (rw [HNUM.out]; rfl), H1.out, H2.out⟩
end Go.Proofs.Ytjefbcphefckiac
