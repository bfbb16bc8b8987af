import Derived.Test.YtjefbcphefckiacRq5
/-! The document's reader: Text, where there is one. -/
namespace Go.Proofs.Ytjefbcphefckiac
open Go.RowKit Plain
set_option linter.unusedVariables false

set_option maxHeartbeats 1600000 in
theorem qaTextOk (w : World) (b g cap : Nat) (s : Rs) (most : Int) (hm1 : -9223372036854775808 ≤ most) (hm2 : most ≤ 9223372036854775807) (nv nn : Nat) (hN : s.num = (nv, nn, 0)) (h0 : s.e = 0) (hr : RAt w b (.slice (some ⟨g, 0, none⟩) s.l.length cap) s.l s.p 0 0 (some g)) (hv : (nv : Int) ≤ max most 0) (hs : nv ≤ s.l.length - s.p - nn) :
    Calls Try.prog 30 #[.pointer (some ⟨b, 0, none⟩), .int .i64 most] w fun x w' => x = .returned (.string (strOf ((s.l.drop (s.p + nn)).take nv))) ∧ QA w' b ⟨s.l, s.p + nn + nv, 0⟩ (some g) ∧ w.grownBy w' (some b) := by
  have HP : Hid (QA w b s (some g)) := .inl ⟨h0, _, hr⟩
  have HR : Hid (RAt w b (.slice (some ⟨g, 0, none⟩) s.l.length cap) s.l s.p 0 0 (some g)) := hr
  have hnl := Rs.num_le' (s := s) (fun _ => ⟨hr.pl, hr.ll, hr.ow.1⟩)
  have HREST : s.rest = s.l.length - s.p := by unfold Rs.rest; rw [if_pos h0]
  obtain ⟨hn1, hn2, hn3, hn4, -⟩ := hnl
  rw [HREST] at hn1
  rw [hN] at hn1 hn2 hn3 hn4
  simp only at hn1 hn2 hn3 hn4
  have hp := hr.pl
  have hl := hr.ll
  have hblt := hr.lt
  obtain ⟨cap', e, hc1, hc2⟩ := hr.ow.shape
  simp only [Value.slice.injEq, true_and] at e
  subst e
  unfold maxLen at hc2
  have HRD : Hid (∀ q, Calls Try.prog 49 #[.slice (if cap = s.p then some ⟨g, 0, none⟩ else some ⟨g, s.p, none⟩) (s.l.length - s.p) (cap - s.p)] (w.drewN q) fun e w' => e = .returned (.tuple #[.int .u64 nv, .int .i64 nn, .int .i64 ((0 : Nat) : Int)]) ∧ ∃ m, w' = w.drewN m) := hr.reads h0 hN
  have c0 := hr.c0
  have c1 := hr.c1
  have c2 := hr.c2
  have hlt : s.p < cap := by
    rcases Nat.lt_or_ge s.p cap with h | h
    · exact h
    · exfalso
      have hd : s.l.drop s.p = [] := List.drop_eq_nil_of_le (by omega)
      have : s.num = rd [] := by unfold Rs.num; rw [if_neg (by simp [h0]), hd]
      rw [hN] at this
      simp [rd, rdGo] at this
  rw [if_neg (by omega)] at HRD
  clear hr HREST hn4 hN
  obtain ⟨F, hF, hFn⟩ : ∃ F : Nat, (s.p : Int) + (nn : Int) = (F : Int) ∧ F = s.p + nn := ⟨s.p + nn, by omega, rfl⟩
  obtain ⟨A, hA, hAn⟩ : ∃ A : Nat, (F : Int) + (nv : Int) = (A : Int) ∧ A = s.p + nn + nv := ⟨s.p + nn + nv, by omega, rfl⟩
  have HFn : Hid (F = s.p + nn) := hFn
  have HAn : Hid (A = s.p + nn + nv) := hAn
  have a1 : F ≤ A := by omega
  have a2 : A ≤ cap := by omega
  have a3 : A ≤ s.l.length := by omega
  rw [← hAn, ← hFn]
  have HRX : Hid (∀ k j, RAt (((w.drewN k).setCell ⟨b, 1, none⟩ (.int .i64 (A : Int))).drewN j) b (.slice (some ⟨g, 0, none⟩) s.l.length cap) s.l A 0 0 (some g)) := fun k j => ((HR.out.drewN k).move A a3).drewN j
  have HGX : Hid (∀ k j, w.grownBy (((w.drewN k).setCell ⟨b, 1, none⟩ (.int .i64 (A : Int))).drewN j) (some b)) := fun k j => grow_drewN (grow_trans (drewN_grow w k (some b)) (grow_set _ b 1 _) (.inl rfl)) j
  have hstr : ∀ k j, (convert 24 9 (.slice (if cap = F then some ⟨g, 0, none⟩ else some ⟨g, F, none⟩) (A - F) (cap - F))).run Try.prog (((w.drewN k).setCell ⟨b, 1, none⟩ (.int .i64 (A : Int))).drewN j) = .ok (.string (strOf ((s.l.drop F).take nv))) (((w.drewN k).setCell ⟨b, 1, none⟩ (.int .i64 (A : Int))).drewN j) := by
    intro k j
    have hb := (HRX.out k j).ow.bytes
    have e0 : A - F = nv := by omega
    rw [e0]
    by_cases hcf : cap = F
    · obtain rfl : nv = 0 := by omega
      rw [if_pos hcf, List.take_zero, hcf, Nat.sub_self]
      exact run_to_string _ _ _ (BytesAt.empty _ _ 0 (by decide))
    · rw [if_neg hcf]
      have h2 := BytesAt.sub hb F nv (cap - F) (by omega) (by omega) (by omega)
      exact run_to_string _ _ _ (by rw [bytesOf_strOf _ h2.byte]; exact h2)
  have f1 := HR.out.f1
  have HR2 : Hid (RAt (w.setCell ⟨b, 1, none⟩ (.int .i64 (A : Int))) b (.slice (some ⟨g, 0, none⟩) s.l.length cap) s.l A 0 0 (some g)) := HR.out.move A a3
  have d0 := HR2.out.c0
  have d1 := HR2.out.c1
  clear hFn hAn
  by_cases hcf : cap = F
  · have HCF : Hid (cap = F) := hcf
    simp only [if_pos hcf] at hstr
    simp only [hcf, Nat.sub_self] at hstr
    clear hcf
    by_cases hmo : most < 0
    all_goals
      have hVm : (nv : Int) ≤ if most < 0 then 0 else most := by split <;> omega
      have hlt2 : (nv : Int) ≤ most ∨ nv = 0 := by omega
      go_enter Try.func30, Try.ntmps30
      go_wp2
      go_quiet ((go_at_call 49; exact HRD.out _))
      go_wp2
      go_quiet (fail)
      clear HRD HP
      have hcf := HCF.out
      go_wp2
      go_quiet (fail)
      go_wp2
      go_ret
      exact ⟨rfl, .inl ⟨rfl, _, HRX.out _ _⟩, HGX.out _ _⟩
  · simp only [if_neg hcf] at hstr
    by_cases hmo : most < 0
    all_goals
      have hVm : (nv : Int) ≤ if most < 0 then 0 else most := by split <;> omega
      have hlt2 : (nv : Int) ≤ most ∨ nv = 0 := by omega
      go_enter Try.func30, Try.ntmps30
      go_wp2
      go_quiet ((go_at_call 49; exact HRD.out _))
      go_wp2
      go_quiet (fail)
      clear HRD HP
      go_wp2
      go_quiet (fail)
      go_wp2
      go_ret
      exact ⟨rfl, .inl ⟨rfl, _, HRX.out _ _⟩, HGX.out _ _⟩
end Go.Proofs.Ytjefbcphefckiac
