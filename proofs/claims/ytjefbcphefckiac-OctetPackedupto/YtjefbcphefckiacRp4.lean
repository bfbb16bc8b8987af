import Derived.Test.YtjefbcphefckiacRp3
namespace Go.Proofs.Ytjefbcphefckiac
open Go.RowKit Plain
set_option linter.unusedVariables false

def strOf (l : List Nat) : ByteArray := ⟨(l.map UInt8.ofNat).toArray⟩
theorem bytesOf_strOf (l : List Nat) (h : ∀ c ∈ l, c < 256) : bytesOf (strOf l) = l := by
  unfold bytesOf strOf
  simp only [List.map_map]
  conv => rhs; rw [← List.map_id l]
  apply List.map_congr_left
  intro c hc
  have := h c hc
  simp [Nat.mod_eq_of_lt this]

theorem Rs.fail_dead (s : Rs) (x : Int) (h : s.e ≠ 0) : s.fail x = s := by unfold Rs.fail; rw [if_pos (.inl h)]
theorem Rs.fail_ok (s : Rs) : s.fail 0 = s := by unfold Rs.fail; rw [if_pos (.inr rfl)]
theorem Rs.fail_live (s : Rs) (x : Int) (h : s.e = 0) (hx : x ≠ 0) : s.fail x = ⟨s.l, s.p, x⟩ := by unfold Rs.fail; rw [if_neg (by simp [h, hx])]
theorem Rs.rest_dead (s : Rs) (h : s.e ≠ 0) : s.rest = 0 := by unfold Rs.rest; rw [if_neg h]

set_option maxHeartbeats 800000 in
theorem paTextDead (w : World) (b : Nat) (s s1 : Rs) (r : Option Nat) (most : Int) (hm1 : -9223372036854775808 ≤ most) (hm2 : most ≤ 9223372036854775807) (h : PA w b s r) (hn : s.num.1 = 0 ∧ s.num.2.1 = 0) (hf : s.fail s.num.2.2 = s1) (h1 : s1.e ≠ 0) :
    Calls Try.prog 38 #[.pointer (some ⟨b, 0, none⟩), .int .i64 most] w fun x w' => x = .returned (.string ⟨#[]⟩) ∧ PA w' b s1 r ∧ w.grownBy w' (some b) := by
  have HP : Hid (PA w b s r) := h
  have HNE : Hid (s1.e ≠ 0) := h1
  clear h h1
  by_cases hmo : most < 0
  all_goals
    go_enter Try.func38, Try.ntmps38
    go_wp2_with fail
    refine (paPeek w b s r HP.out).mono ?_
    rw [hn.1, hn.2, hf]
    rintro x w1 ⟨rfl, hp1, hg1⟩
    have H1 : Hid (PA w1 b s1 r) := hp1
    have HG1 : Hid (w.grownBy w1 (some b)) := hg1
    clear hp1 hg1 hf hn
    go_wp2_with fail
    refine (paRest w1 b s1 r H1.out).mono ?_
    rw [s1.rest_dead HNE.out]
    rintro x w2 ⟨rfl, n2, rfl⟩
    go_wp2_with fail
    refine (paTake _ b s1 r 0 (by decide) (H1.out.later (below_drewN (Below.refl _ _) n2))).mono ?_
    rw [s1.on_dead 0 HNE.out]
    rintro x w3 ⟨v3, rfl, hb3, hp3, hg3⟩
    have H3 : Hid (PA w3 b s1 r) := hp3
    have HG3 : Hid (w.grownBy w3 (some b)) := grow_trans (grow_trans HG1.out (drewN_grow w1 n2 none) (.inr (.inl rfl))) hg3 (.inl rfl)
    clear hb3 hp3 hg3
    go_wp2_with fail
    refine (paTake w3 b s1 r 0 (by decide) H3.out).mono ?_
    rw [s1.on_dead 0 HNE.out, s1.out_dead 0 HNE.out]
    rintro x w4 ⟨v4, rfl, hb4, hp4, hg4⟩
    have H4 : Hid (PA w4 b s1 r) := hp4
    have HG4 : Hid (w.grownBy w4 (some b)) := grow_trans HG3.out hg4 (.inl rfl)
    obtain ⟨a4, cap4, hv4⟩ : ∃ a cap, v4 = .slice a 0 cap := by
      obtain ⟨a, cap, e, _⟩ := hb4
      exact ⟨a, cap, e⟩
    subst hv4
    have hstr := run_to_string ⟨#[]⟩ _ w4 hb4
    clear hb4 hp4 hg4
    go_wp2
    go_ret
    exact ⟨rfl, H4.out, HG4.out⟩

set_option maxHeartbeats 800000 in
theorem paTextMuch (w : World) (b : Nat) (s : Rs) (r : Option Nat) (most : Int) (hm1 : -9223372036854775808 ≤ most) (hm2 : most ≤ 9223372036854775807) (h : PA w b s r) (h0 : s.num.2.2 = 0) (hv : max most 0 < (s.num.1 : Int)) :
    Calls Try.prog 38 #[.pointer (some ⟨b, 0, none⟩), .int .i64 most] w fun x w' => x = .returned (.string ⟨#[]⟩) ∧ PA w' b (s.fail 14) r ∧ w.grownBy w' (some b) := by
  have HP : Hid (PA w b s r) := h
  obtain ⟨_, hn1, hn2, _, _⟩ := h.num_le
  have HF : Hid (s.fail s.num.2.2 = s) := by unfold Hid; rw [h0]; exact s.fail_ok
  generalize hV : s.num.1 = V at hv hn2
  have HV : Hid (s.num.1 = V) := hV
  clear h h0 hV
  by_cases hmo : most < 0
  all_goals
    have hVm : (if most < 0 then 0 else most) < (V : Int) := by split <;> omega
    go_enter Try.func38, Try.ntmps38
    go_wp2_with fail
    refine (paPeek w b s r HP.out).mono ?_
    rw [HF.out, HV.out]
    rintro x w1 ⟨rfl, hp1, hg1⟩
    have H1 : Hid (PA w1 b s r) := hp1
    have HG1 : Hid (w.grownBy w1 (some b)) := hg1
    clear hp1 hg1
    go_wp2_with fail
    refine (paFail w1 b s r 14 H1.out).mono ?_
    rintro x w2 ⟨rfl, hp2, hg2⟩
    have H2 : Hid (PA w2 b (s.fail 14) r) := hp2
    have HG2 : Hid (w.grownBy w2 (some b)) := grow_trans HG1.out hg2 (.inl rfl)
    clear hp2 hg2
    go_wp2
    go_ret
    exact ⟨rfl, H2.out, HG2.out⟩

set_option maxHeartbeats 800000 in
theorem paTextShort (w : World) (b : Nat) (s : Rs) (r : Option Nat) (most : Int) (hm1 : -9223372036854775808 ≤ most) (hm2 : most ≤ 9223372036854775807) (h : PA w b s r) (h0 : s.num.2.2 = 0) (hv : (s.num.1 : Int) ≤ max most 0) (hs : s.rest - s.num.2.1 < s.num.1) :
    Calls Try.prog 38 #[.pointer (some ⟨b, 0, none⟩), .int .i64 most] w fun x w' => x = .returned (.string ⟨#[]⟩) ∧ PA w' b (s.fail 10) r ∧ w.grownBy w' (some b) := by
  have HP : Hid (PA w b s r) := h
  obtain ⟨hn0, hn1, hn2, _, _⟩ := h.num_le
  have HF : Hid (s.fail s.num.2.2 = s) := by unfold Hid; rw [h0]; exact s.fail_ok
  have hrl : s.rest ≤ 140737488351232 := by
    unfold Rs.rest
    split
    · rename_i he; have := h.len he; omega
    · omega
  generalize hV : s.num.1 = V at hv hn2 hs
  generalize hN : s.num.2.1 = N at hn0 hn1 hs
  generalize hR : s.rest = R at hn0 hs hrl
  have HV : Hid (s.num.1 = V) := hV
  have HN : Hid (s.num.2.1 = N) := hN
  have HR : Hid (s.rest = R) := hR
  clear h h0 hV hN hR
  by_cases hmo : most < 0
  · have : V = 0 := by omega
    omega
  · have hlt : (V : Int) ≤ most := by omega
    go_enter Try.func38, Try.ntmps38
    go_wp2_with fail
    refine (paPeek w b s r HP.out).mono ?_
    rw [HF.out, HV.out, HN.out]
    rintro x w1 ⟨rfl, hp1, hg1⟩
    have H1 : Hid (PA w1 b s r) := hp1
    have HG1 : Hid (w.grownBy w1 (some b)) := hg1
    clear hp1 hg1
    go_wp2_with fail
    refine (paRest w1 b s r H1.out).mono ?_
    rw [HR.out]
    rintro x w2 ⟨rfl, n2, rfl⟩
    go_wp2_with fail
    all_goals
      refine (paFail _ b s r 10 (H1.out.later (below_drewN (Below.refl _ _) n2))).mono ?_
      rintro x w3 ⟨rfl, hp2, hg2⟩
      have H2 : Hid (PA w3 b (s.fail 10) r) := hp2
      have HG2 : Hid (w.grownBy w3 (some b)) := grow_trans (grow_trans HG1.out (drewN_grow w1 n2 none) (.inr (.inl rfl))) hg2 (.inl rfl)
      clear hp2 hg2
      go_wp2
      go_ret
      exact ⟨rfl, H2.out, HG2.out⟩

set_option maxHeartbeats 800000 in
theorem paTextOk (w : World) (b : Nat) (s : Rs) (r : Option Nat) (most : Int) (hm1 : -9223372036854775808 ≤ most) (hm2 : most ≤ 9223372036854775807) (h : PA w b s r) (h0 : s.num.2.2 = 0) (hv : (s.num.1 : Int) ≤ max most 0) (hs : s.num.1 ≤ s.rest - s.num.2.1) :
    Calls Try.prog 38 #[.pointer (some ⟨b, 0, none⟩), .int .i64 most] w fun x w' => x = .returned (.string (strOf ((s.on s.num.2.1).out s.num.1))) ∧ PA w' b ((s.on s.num.2.1).on s.num.1) r ∧ w.grownBy w' (some b) := by
  have HP : Hid (PA w b s r) := h
  obtain ⟨hn0, hn1, hn2, _, _⟩ := h.num_le
  have HF : Hid (s.fail s.num.2.2 = s) := by unfold Hid; rw [h0]; exact s.fail_ok
  have hrl : s.rest ≤ 140737488351232 := by
    unfold Rs.rest
    split
    · rename_i he; have := h.len he; omega
    · omega
  generalize hV : s.num.1 = V at hv hn2 hs
  generalize hN : s.num.2.1 = N at hn0 hn1 hs
  generalize hR : s.rest = R at hn0 hs hrl
  have HV : Hid (s.num.1 = V) := hV
  have HN : Hid (s.num.2.1 = N) := hN
  have HR : Hid (s.rest = R) := hR
  clear h h0 hV hN hR
  by_cases hmo : most < 0
  all_goals
    have hlt : (V : Int) ≤ most ∨ V = 0 := by omega
    have hVm : (V : Int) ≤ if most < 0 then 0 else most := by split <;> omega
    go_enter Try.func38, Try.ntmps38
    go_wp2_with fail
    refine (paPeek w b s r HP.out).mono ?_
    rw [HF.out, HV.out, HN.out]
    rintro x w1 ⟨rfl, hp1, hg1⟩
    have H1 : Hid (PA w1 b s r) := hp1
    have HG1 : Hid (w.grownBy w1 (some b)) := hg1
    clear hp1 hg1
    go_wp2_with fail
    refine (paRest w1 b s r H1.out).mono ?_
    rw [HR.out]
    rintro x w2 ⟨rfl, n2, rfl⟩
    go_wp2_with fail
    refine (paTake _ b s r N (by omega) (H1.out.later (below_drewN (Below.refl _ _) n2))).mono ?_
    rintro x w3 ⟨v3, rfl, hb3, hp3, hg3⟩
    have H3 : Hid (PA w3 b (s.on N) r) := hp3
    have HG3 : Hid (w.grownBy w3 (some b)) := grow_trans (grow_trans HG1.out (drewN_grow w1 n2 none) (.inr (.inl rfl))) hg3 (.inl rfl)
    clear hb3 hp3 hg3
    go_wp2_with fail
    refine (paTake w3 b (s.on N) r V (by omega) H3.out).mono ?_
    rintro x w4 ⟨v4, rfl, hb4, hp4, hg4⟩
    have H4 : Hid (PA w4 b ((s.on N).on V) r) := hp4
    have HG4 : Hid (w.grownBy w4 (some b)) := grow_trans HG3.out hg4 (.inl rfl)
    obtain ⟨a4, cap4, hv4⟩ : ∃ a cap, v4 = .slice a ((s.on N).out V).length cap := by
      obtain ⟨a, cap, e, _⟩ := hb4
      exact ⟨a, cap, e⟩
    subst hv4
    have hstr := run_to_string (strOf ((s.on N).out V)) _ w4 (by rw [bytesOf_strOf _ hb4.byte]; exact hb4)
    clear hb4 hp4 hg4
    go_wp2
    go_ret
    exact ⟨rfl, H4.out, HG4.out⟩
end Go.Proofs.Ytjefbcphefckiac
