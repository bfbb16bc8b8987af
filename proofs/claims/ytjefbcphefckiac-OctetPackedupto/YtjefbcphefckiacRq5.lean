import Derived.Test.YtjefbcphefckiacRq4
/-! The document's reader: Text. -/
namespace Go.Proofs.Ytjefbcphefckiac
open Go.RowKit Plain
set_option linter.unusedVariables false

set_option maxHeartbeats 400000 in
theorem qaTextDead (w : World) (b g : Nat) (s : Rs) (most : Int) (h0 : s.e ≠ 0) (h : QA w b s (some g)) :
    Calls Try.prog 30 #[.pointer (some ⟨b, 0, none⟩), .int .i64 most] w fun x w' => x = .returned (.string ⟨#[]⟩) ∧ w' = w := by
  rcases h with ⟨h1, _⟩ | ⟨_, dv, h⟩
  · exact absurd h1 h0
  have c2 := h.c2
  have he : (s.e != 0) = true := by simpa using h0
  clear h h0
  go_enter Try.func30, Try.ntmps30
  go_wp2
  go_ret
  exact ⟨rfl, rfl⟩

/-- What the bytes that are left begin with, as the document's function tells it. -/
theorem RAt.reads {w : World} {b g cap : Nat} {s : Rs} {nv nn ne : Nat} (hr : RAt w b (.slice (some ⟨g, 0, none⟩) s.l.length cap) s.l s.p 0 0 (some g)) (h0 : s.e = 0) (hN : s.num = (nv, nn, ne)) :
    ∀ q, Calls Try.prog 49 #[.slice (if cap = s.p then some ⟨g, 0, none⟩ else some ⟨g, s.p, none⟩) (s.l.length - s.p) (cap - s.p)] (w.drewN q) fun e w' => e = .returned (.tuple #[.int .u64 nv, .int .i64 nn, .int .i64 ne]) ∧ ∃ m, w' = w.drewN m := by
  intro q
  have key : rd (s.l.drop s.p) = (nv, nn, ne) := by rw [← hN]; unfold Rs.num; rw [if_neg (by simp [h0])]
  have := refReadUvarint _ _ (w.drewN q) (hr.left.drewN q)
  rw [key] at this
  exact this.mono fun _ _ ⟨h1, h2⟩ => ⟨h1, q, h2⟩

set_option maxHeartbeats 800000 in
theorem qaTextBad (w : World) (b g cap : Nat) (s : Rs) (most : Int) (hm1 : -9223372036854775808 ≤ most) (hm2 : most ≤ 9223372036854775807) (nv nn ne : Nat) (hN : s.num = (nv, nn, ne)) (h0 : s.e = 0) (hr : RAt w b (.slice (some ⟨g, 0, none⟩) s.l.length cap) s.l s.p 0 0 (some g)) (hz : ne ≠ 0) :
    Calls Try.prog 30 #[.pointer (some ⟨b, 0, none⟩), .int .i64 most] w fun x w' => x = .returned (.string ⟨#[]⟩) ∧ QA w' b (s.fail ne) (some g) ∧ w.grownBy w' (some b) := by
  have HP : Hid (QA w b s (some g)) := .inl ⟨h0, _, hr⟩
  have HR : Hid (RAt w b (.slice (some ⟨g, 0, none⟩) s.l.length cap) s.l s.p 0 0 (some g)) := hr
  have hnl := Rs.num_le' (s := s) (fun _ => ⟨hr.pl, hr.ll, hr.ow.1⟩)
  have HREST : s.rest = s.l.length - s.p := by unfold Rs.rest; rw [if_pos h0]
  obtain ⟨hn1, hn2, hn3, hn4, -⟩ := hnl
  rw [HREST] at hn1
  rw [hN] at hn1 hn2 hn3 hn4
  simp only at hn1 hn2 hn3 hn4
  have hp := hr.pl
  have hl := hr.ll
  have hblt := hr.lt
  obtain ⟨cap', e, hc1, hc2⟩ := hr.ow.shape
  simp only [Value.slice.injEq, true_and] at e
  subst e
  unfold maxLen at hc2
  have HRD : Hid (∀ q, Calls Try.prog 49 #[.slice (if cap = s.p then some ⟨g, 0, none⟩ else some ⟨g, s.p, none⟩) (s.l.length - s.p) (cap - s.p)] (w.drewN q) fun e w' => e = .returned (.tuple #[.int .u64 nv, .int .i64 nn, .int .i64 ne]) ∧ ∃ m, w' = w.drewN m) := hr.reads h0 hN
  have c0 := hr.c0
  have c1 := hr.c1
  have c2 := hr.c2
  have hze : (((ne : Nat) : Int) == 0) = false := by simp; omega
  have hzn : (((ne : Nat) : Int) != 0) = true := by simp; omega
  clear hr HREST hn4 hN hz
  by_cases hcp : cap = s.p
  · subst hcp
    have hle : s.l.length = s.p := by omega
    rw [hle] at c0
    rw [if_pos rfl, hle, Nat.sub_self] at HRD
    clear hle
    go_enter Try.func30, Try.ntmps30
    go_wp2
    go_quiet ((go_at_call 49; exact HRD.out _))
    go_wp2
    go_quiet (fail)
    go_wp2_with fail
    refine (qaFail _ b s (some g) _ (HP.out.later (below_drewN (Below.refl _ _) _))).mono ?_
    rintro x w3 ⟨rfl, hp3, hg3⟩
    have HG : Hid (w.grownBy w3 (some b)) := grow_trans (drewN_grow w _ _) hg3 (.inl rfl)
    have HP3 : Hid (QA w3 b (s.fail ne) (some g)) := hp3
    clear hp3 hg3
    go_wp2
    go_ret
    exact ⟨rfl, HP3.out, HG.out⟩
  · rw [if_neg hcp] at HRD
    have hlt : s.p < cap := by omega
    go_enter Try.func30, Try.ntmps30
    go_wp2
    go_quiet ((go_at_call 49; exact HRD.out _))
    go_wp2
    go_quiet (fail)
    go_wp2_with fail
    refine (qaFail _ b s (some g) _ (HP.out.later (below_drewN (Below.refl _ _) _))).mono ?_
    rintro x w3 ⟨rfl, hp3, hg3⟩
    have HG : Hid (w.grownBy w3 (some b)) := grow_trans (drewN_grow w _ _) hg3 (.inl rfl)
    have HP3 : Hid (QA w3 b (s.fail ne) (some g)) := hp3
    clear hp3 hg3
    go_wp2
    go_ret
    exact ⟨rfl, HP3.out, HG.out⟩

set_option maxHeartbeats 800000 in
theorem qaTextMuch (w : World) (b g cap : Nat) (s : Rs) (most : Int) (hm1 : -9223372036854775808 ≤ most) (hm2 : most ≤ 9223372036854775807) (nv nn : Nat) (hN : s.num = (nv, nn, 0)) (h0 : s.e = 0) (hr : RAt w b (.slice (some ⟨g, 0, none⟩) s.l.length cap) s.l s.p 0 0 (some g)) (hv : max most 0 < (nv : Int)) :
    Calls Try.prog 30 #[.pointer (some ⟨b, 0, none⟩), .int .i64 most] w fun x w' => x = .returned (.string ⟨#[]⟩) ∧ QA w' b (s.fail 14) (some g) ∧ w.grownBy w' (some b) := by
  have HP : Hid (QA w b s (some g)) := .inl ⟨h0, _, hr⟩
  have HR : Hid (RAt w b (.slice (some ⟨g, 0, none⟩) s.l.length cap) s.l s.p 0 0 (some g)) := hr
  have hnl := Rs.num_le' (s := s) (fun _ => ⟨hr.pl, hr.ll, hr.ow.1⟩)
  have HREST : s.rest = s.l.length - s.p := by unfold Rs.rest; rw [if_pos h0]
  obtain ⟨hn1, hn2, hn3, hn4, -⟩ := hnl
  rw [HREST] at hn1
  rw [hN] at hn1 hn2 hn3 hn4
  simp only at hn1 hn2 hn3 hn4
  have hp := hr.pl
  have hl := hr.ll
  have hblt := hr.lt
  obtain ⟨cap', e, hc1, hc2⟩ := hr.ow.shape
  simp only [Value.slice.injEq, true_and] at e
  subst e
  unfold maxLen at hc2
  have HRD : Hid (∀ q, Calls Try.prog 49 #[.slice (if cap = s.p then some ⟨g, 0, none⟩ else some ⟨g, s.p, none⟩) (s.l.length - s.p) (cap - s.p)] (w.drewN q) fun e w' => e = .returned (.tuple #[.int .u64 nv, .int .i64 nn, .int .i64 ((0 : Nat) : Int)]) ∧ ∃ m, w' = w.drewN m) := hr.reads h0 hN
  have c0 := hr.c0
  have c1 := hr.c1
  have c2 := hr.c2
  have hlt : s.p < cap := by
    rcases Nat.lt_or_ge s.p cap with h | h
    · exact h
    · exfalso
      have hd : s.l.drop s.p = [] := List.drop_eq_nil_of_le (by omega)
      have : s.num = rd [] := by unfold Rs.num; rw [if_neg (by simp [h0]), hd]
      rw [hN] at this
      simp [rd, rdGo] at this
  rw [if_neg (by omega)] at HRD
  clear hr HREST hn4 hN
  by_cases hmo : most < 0
  all_goals
    have hVm : (if most < 0 then 0 else most) < (nv : Int) := by split <;> omega
    go_enter Try.func30, Try.ntmps30
    go_wp2
    go_quiet ((go_at_call 49; exact HRD.out _))
    go_wp2
    go_quiet (fail)
    go_wp2_with fail
    refine (qaFail _ b s (some g) _ (HP.out.later (below_drewN (Below.refl _ _) _))).mono ?_
    rintro x w3 ⟨rfl, hp3, hg3⟩
    have HG : Hid (w.grownBy w3 (some b)) := grow_trans (drewN_grow w _ _) hg3 (.inl rfl)
    have HP3 : Hid (QA w3 b (s.fail 14) (some g)) := hp3
    clear hp3 hg3
    go_wp2
    go_ret
    exact ⟨rfl, HP3.out, HG.out⟩

set_option maxHeartbeats 800000 in
theorem qaTextShort (w : World) (b g cap : Nat) (s : Rs) (most : Int) (hm1 : -9223372036854775808 ≤ most) (hm2 : most ≤ 9223372036854775807) (nv nn : Nat) (hN : s.num = (nv, nn, 0)) (h0 : s.e = 0) (hr : RAt w b (.slice (some ⟨g, 0, none⟩) s.l.length cap) s.l s.p 0 0 (some g)) (hv : (nv : Int) ≤ max most 0) (hs : s.l.length - s.p - nn < nv) :
    Calls Try.prog 30 #[.pointer (some ⟨b, 0, none⟩), .int .i64 most] w fun x w' => x = .returned (.string ⟨#[]⟩) ∧ QA w' b (s.fail 10) (some g) ∧ w.grownBy w' (some b) := by
  have HP : Hid (QA w b s (some g)) := .inl ⟨h0, _, hr⟩
  have HR : Hid (RAt w b (.slice (some ⟨g, 0, none⟩) s.l.length cap) s.l s.p 0 0 (some g)) := hr
  have hnl := Rs.num_le' (s := s) (fun _ => ⟨hr.pl, hr.ll, hr.ow.1⟩)
  have HREST : s.rest = s.l.length - s.p := by unfold Rs.rest; rw [if_pos h0]
  obtain ⟨hn1, hn2, hn3, hn4, -⟩ := hnl
  rw [HREST] at hn1
  rw [hN] at hn1 hn2 hn3 hn4
  simp only at hn1 hn2 hn3 hn4
  have hp := hr.pl
  have hl := hr.ll
  have hblt := hr.lt
  obtain ⟨cap', e, hc1, hc2⟩ := hr.ow.shape
  simp only [Value.slice.injEq, true_and] at e
  subst e
  unfold maxLen at hc2
  have HRD : Hid (∀ q, Calls Try.prog 49 #[.slice (if cap = s.p then some ⟨g, 0, none⟩ else some ⟨g, s.p, none⟩) (s.l.length - s.p) (cap - s.p)] (w.drewN q) fun e w' => e = .returned (.tuple #[.int .u64 nv, .int .i64 nn, .int .i64 ((0 : Nat) : Int)]) ∧ ∃ m, w' = w.drewN m) := hr.reads h0 hN
  have c0 := hr.c0
  have c1 := hr.c1
  have c2 := hr.c2
  have hlt : s.p < cap := by
    rcases Nat.lt_or_ge s.p cap with h | h
    · exact h
    · exfalso
      have hd : s.l.drop s.p = [] := List.drop_eq_nil_of_le (by omega)
      have : s.num = rd [] := by unfold Rs.num; rw [if_neg (by simp [h0]), hd]
      rw [hN] at this
      simp [rd, rdGo] at this
  rw [if_neg (by omega)] at HRD
  clear hr HREST hn4 hN
  have hmo : ¬ most < 0 := by omega
  have hVm : (nv : Int) ≤ most := by omega
  go_enter Try.func30, Try.ntmps30
  go_wp2
  go_quiet ((go_at_call 49; exact HRD.out _))
  go_wp2
  go_quiet (fail)
  go_wp2_with fail
  refine (qaFail _ b s (some g) _ (HP.out.later (below_drewN (Below.refl _ _) _))).mono ?_
  rintro x w3 ⟨rfl, hp3, hg3⟩
  have HG : Hid (w.grownBy w3 (some b)) := grow_trans (drewN_grow w _ _) hg3 (.inl rfl)
  have HP3 : Hid (QA w3 b (s.fail 10) (some g)) := hp3
  clear hp3 hg3
  go_wp2
  go_ret
  exact ⟨rfl, HP3.out, HG.out⟩

end Go.Proofs.Ytjefbcphefckiac
