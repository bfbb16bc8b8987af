import Derived.Test.YtklfmgkfcacfkaaNc
/-! The document's same. -/
namespace Go.Proofs.Ytklfmgkfcacfkaa
open Go.RowKit Plain
set_option linter.unusedVariables false
set_option linter.unusedSimpArgs false

set_option maxHeartbeats 400000 in
theorem refSame (va vb : Value) (la lb : List Nat) (w : World) (ha : BytesAt w va la) (hb : BytesAt w vb lb) :
    Calls Try.prog 47 #[va, vb] w fun e w' => e = .returned (.bool (decide (la = lb))) ∧ ∃ n, w' = w.drewN n := by
  obtain ⟨a, cap, rfl, hlc, hcm, hby, hcells⟩ := ha
  obtain ⟨a', cap', rfl, hlc', hcm', hby', hcells'⟩ := hb
  unfold maxLen at hcm hcm'
  clear hby hby'
  by_cases hlen : la.length = lb.length
  · by_cases hnil : la = []
    · subst hnil
      have : lb = [] := List.length_eq_zero_iff.mp hlen.symm
      subst this
      clear hcells hcells' hlen
      go_enter Try.func47, Try.ntmps47
      go_wp2
      refine wp_loop_rounds 1 ?_
      rw [rounds_succ]
      go_wp2
      go_ret
      exact ⟨rfl, 0, rfl⟩
    · obtain ⟨b, off, rfl, hc⟩ := hcells hnil
      obtain ⟨b', off', rfl, hc'⟩ := hcells' (by rintro rfl; simp at hlen; exact hnil hlen)
      clear hcells hcells' hnil
      have hne : ((la.length : Int) != (lb.length : Int)) = false := by simp; omega
      have HL : Hid (la.length = lb.length) := hlen
      clear hlen
      go_enter Try.func47, Try.ntmps47
      go_wp2
      go_loopw [5] (fun i w' => ∃ k n : Nat, w' = w.drewN n ∧ k ≤ la.length ∧ i = .int .i64 k ∧ la.take k = lb.take k) (fun i _ => la.length - (intOf i).toNat)
      case atStart => exact ⟨0, 0, rfl, by omega, rfl, rfl⟩
      case round =>
        obtain ⟨k, n, rfl, hk, rfl, ht⟩ := hrel
        have HT : Hid (la.take k = lb.take k) := ht
        clear ht
        by_cases hlt : k < la.length
        · have hcell := hc k hlt
          have hcell' := hc' k (by rw [← HL.out]; exact hlt)
          have hlt' : k < lb.length := by rw [← HL.out]; exact hlt
          obtain ⟨x, hx⟩ : ∃ x, la.getD k 0 = x := ⟨_, rfl⟩
          obtain ⟨y, hy⟩ : ∃ y, lb.getD k 0 = y := ⟨_, rfl⟩
          rw [hx] at hcell
          rw [hy] at hcell'
          have HS : Hid (x = y → la.take (k + 1) = lb.take (k + 1)) := fun e => by
            rw [take_snoc hlt, take_snoc hlt', HT.out, hx, hy, e]
          have HN : Hid (x ≠ y → la ≠ lb) := fun e h => by subst h; exact e (by rw [← hx, ← hy])
          clear hx hy hc hc' HT
          by_cases hxy : x = y
          · have h2 : ((x : Int) != (y : Int)) = false := by simp; omega
            have HS2 := HS.out hxy
            have HS3 : Hid (la.take (k + 1) = lb.take (k + 1)) := HS2
            clear HS HS2 HN hxy
            go_wp2
            go_quiet (fail)
            go_wp2
            go_roundw
            case rel => exact ⟨k + 1, _, rfl, by omega, by go_num, HS3.out⟩
            case measure => simp [intOf]; omega
          · have h2 : ((x : Int) != (y : Int)) = true := by simp; omega
            have HN2 : Hid (la ≠ lb) := HN.out hxy
            clear HS HN hxy
            go_wp2
            go_quiet (fail)
            go_wp2
            go_ret
            exact ⟨by rw [decide_eq_false HN2.out]; rfl, dn2 _ _ _⟩
        · have HE : Hid (la = lb) := by
            have := HT.out
            rw [List.take_of_length_le (by omega), List.take_of_length_le (by rw [← HL.out]; omega)] at this
            exact this
          clear hc hc' HT
          go_wp2
          go_ret
          exact ⟨by rw [decide_eq_true HE.out]; rfl, _, rfl⟩
  · have hne : ((la.length : Int) != (lb.length : Int)) = true := by simp; omega
    have HN : Hid (la ≠ lb) := fun h => hlen (by rw [h])
    clear hcells hcells' hlen
    go_enter Try.func47, Try.ntmps47
    go_wp2
    go_ret
    exact ⟨by rw [decide_eq_false HN.out]; rfl, 0, rfl⟩
end Go.Proofs.Ytklfmgkfcacfkaa
