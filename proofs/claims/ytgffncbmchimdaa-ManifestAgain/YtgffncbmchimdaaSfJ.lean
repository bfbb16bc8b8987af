import Derived.Test.YtgffncbmchimdaaSfI
/-! Rename. -/
namespace Go.Proofs.Ytgffncbmchimdaa
open Go.RowKit Go.Maps Plain
set_option linter.unusedVariables false
set_option linter.unusedSimpArgs false

theorem keys_ne {a b : ByteArray} (h : ¬ a = b) : (a.toList == b.toList) = false := by
  rw [beq_eq_false_iff_ne, ByteArray.toList_eq, ByteArray.toList_eq]
  exact fun e => h (WideShapes.bytes_inj e)

def renameK (k : Dk) (s t : ByteArray) : Int × Dk := if rdy k.dead [s, t] ≠ 0 then (rdy k.dead [s, t], k) else if s = t then (3, k) else if (fnd k.dead k.L s).2 = 0 then (if k.can then (0, (k.spent.uses (k.used - sizeK k t)).did (DC.mv s.data.toList t.data.toList)) else (34, k.spent)) else ((fnd k.dead k.L s).2, k)

set_option maxHeartbeats 4000000 in
set_option maxRecDepth 1000000 in
theorem renameOf (d : Nat) (k : Dk) (n : Nat) (S : Nat → Prop) (s t : ByteArray) (hs : s.size ≤ maxLen) (ht : t.size ≤ maxLen) (w : World) (h : DiskAt w d k S) (hk : k.Dok n) (hu : k.Uok) (hn : n ≤ 4398046511103) : Calls Try.prog 27 #[.pointer (some ⟨d, 0, none⟩), .string s, .string t] w (OpPost d (renameK k s t) S w) := by
  have HB0 : Hid (Below w.heap.size w (w.alloc (.cells #[.string s, .string t] 9))) := (Below.refl _ _).alloc (Nat.le_refl _) _
  have HS0 : Hid (St S w d k (w.alloc (.cells #[.string s, .string t] 9))) := (St.start h).below HB0.out
  have HR : Hid (Calls Try.prog 29 #[.pointer (some ⟨d, 0, none⟩), .slice (some ⟨w.heap.size, 0, none⟩) 2 2] (w.alloc (.cells #[.string s, .string t] 9)) fun e w' => e = .returned (.int .i64 (rdy k.dead [s, t])) ∧ w' = w.alloc (.cells #[.string s, .string t] 9)) := by
    obtain ⟨ms, md, vc, rc, Sf, hm⟩ := HS0.out.at
    exact readyOf d k.dead [s, t] _ _ hm.at0.2 (StrsAt.two w s t 9 hs ht)
  obtain ⟨u1, u2⟩ := hu.used
  have q3 := look_sum hu t
  clear h
  by_cases hr : rdy k.dead [s, t] = 0
  · rw [hr] at HR
    by_cases hst : s = t
    · have HE : Hid (renameK k s t = (3, k)) := by unfold Hid renameK; rw [if_neg (by simpa using hr), if_pos hst]
      rw [HE.out]
      subst hst
      clear hr hk hu u1 u2
      go_enter Try.func27, Try.ntmps27
      go_wp2_with fail
      refine HR.out.mono ?_
      rintro e w1 ⟨rfl, rfl⟩
      go_wp2
      go_ret
      exact ⟨rfl, HS0.out⟩
    · have HRN : Hid (renameK k s t = if (fnd k.dead k.L s).2 = 0 then (if k.can then (0, (k.spent.uses (k.used - sizeK k t)).did (DC.mv s.data.toList t.data.toList)) else (34, k.spent)) else ((fnd k.dead k.L s).2, k)) := by unfold Hid renameK; rw [if_neg (by simpa using hr), if_neg hst]
      have hst2 := keys_ne hst
      obtain ⟨W0, hW0⟩ : ∃ W0, w.alloc (.cells #[.string s, .string t] 9) = W0 := ⟨_, rfl⟩
      have HFD : Hid (Calls Try.prog 31 #[.pointer (some ⟨d, 0, none⟩), .string s] W0 fun e w' => e = .returned (.tuple #[(fnd k.dead k.L s).1, .int .i64 (fnd k.dead k.L s).2]) ∧ w' = W0.alloc (.cells #[.string s] 9)) := by rw [← hW0]; exact findSt HS0.out s hs
      have HB1 : Hid (Below W0.heap.size W0 (W0.alloc (.cells #[.string s] 9))) := (Below.refl _ _).alloc (Nat.le_refl _) _
      have HS : Hid (St S w d k (W0.alloc (.cells #[.string s] 9))) := by rw [hW0] at HS0; exact HS0.out.below HB1.out
      rw [hW0] at HR
      have HW0 : Hid (w.alloc (.cells #[.string s, .string t] 9) = W0) := hW0
      obtain ⟨W1, hW1⟩ : ∃ W1, W0.alloc (.cells #[.string s] 9) = W1 := ⟨_, rfl⟩
      rw [hW1] at HFD HB1 HS
      clear hW1 hr HS0 HB0
      by_cases h0 : (fnd k.dead k.L s).2 = 0
      · obtain ⟨G, hl, hfe⟩ := fnd_ok h0
        rw [hfe] at HFD
        have HC : Hid (∀ w', St S w d k.spent w' → w'.cell? ⟨d, 3, none⟩ = some (.int .i64 k.used) ∧ w'.frozen? ⟨d, 3, none⟩ = false) := fun w' h' => ⟨h'.cells.1, h'.cells.2.2⟩
        have HSP : Hid (Calls Try.prog 32 #[.pointer (some ⟨d, 0, none⟩)] W1 fun e w' => e = .returned (.bool k.can) ∧ St S w d k.spent w') := SpendAfter HS.out hk.ok hn
        have HDO : Hid (∀ u w', St S w d (k.spent.uses u) w' → Calls Try.prog 46 #[.pointer (some ⟨d, 0, none⟩), .iface 110 (.agg #[.string s, .string t])] w' fun e w2 => e = .returned (.tuple #[]) ∧ St S w d ((k.spent.uses u).did (DC.mv s.data.toList t.data.toList)) w2) := fun u w' h' => by
          have := doDOf w' d (k.spent.uses u) _ (DC.mv s.data.toList t.data.toList) h'.1 ⟨by rw [Array.length_toList]; exact hs, by rw [Array.length_toList]; exact ht, G, hl⟩ (by show k.L.length < _; have := hk.few; omega) (by show k.chg.length ≤ _; have := hk.cnt; omega)
          rw [DC.val_mv, str_of, str_of] at this
          refine this.mono ?_
          rintro e w2 ⟨rfl, h2⟩
          exact ⟨rfl, h'.next h2⟩
        have HKO : Hid (k.Ok n) := hk.ok
        have HAP : Hid (renameK k s t = if k.can then (0, (k.spent.uses (k.used - sizeK k t)).did (DC.mv s.data.toList t.data.toList)) else (34, k.spent)) := by unfold Hid; rw [HRN.out, if_pos h0]
        have HDS : Hid (∀ w', St S w d k.spent w' → Calls Try.prog 51 #[.pointer (some ⟨d, 0, none⟩), .string t] w' fun e w2 => e = .returned (.int .i64 (sizeK k t : Int)) ∧ w2 = w') := fun w' h' => h'.lkup HKO.out t ht
        clear hk hu h0 hl hfe HRN
        obtain ⟨U, hU⟩ : ∃ U, k.used = U := ⟨_, rfl⟩
        obtain ⟨N, hN⟩ : ∃ N, sizeK k t = N := ⟨_, rfl⟩
        rw [hU] at u1 u2 q3 HC HAP
        rw [hN] at q3 HAP HDS
        clear hU hN
        cases hc : k.can with
        | false =>
          rw [HAP.out, hc, if_neg (by simp)]
          rw [hc] at HSP
          clear hc HAP HC HDO
          go_enter Try.func27, Try.ntmps27
          go_wp2_with fail
          refine HR.out.mono ?_
          rintro e w0 ⟨rfl, rfl⟩
          go_wp2_with fail
          refine HFD.out.mono ?_
          rintro e w1 ⟨rfl, rfl⟩
          go_wp2_with fail
          refine HSP.out.mono ?_
          rintro e w2 ⟨rfl, hs2⟩
          have HS2 : Hid (St S w d k.spent w2) := hs2
          clear hs2
          go_wp2
          go_ret
          exact ⟨rfl, HS2.out⟩
        | true =>
          rw [HAP.out, hc, if_pos rfl]
          rw [hc] at HSP
          clear hc HAP
          go_enter Try.func27, Try.ntmps27
          go_wp2_with fail
          refine HR.out.mono ?_
          rintro e w0 ⟨rfl, rfl⟩
          go_wp2_with fail
          refine HFD.out.mono ?_
          rintro e w1 ⟨rfl, rfl⟩
          go_wp2_with fail
          refine HSP.out.mono ?_
          rintro e w2 ⟨rfl, hs2⟩
          obtain ⟨d3, y3⟩ := HC.out w2 hs2
          have HS2 : Hid (St S w d k.spent w2.drew) := hs2.below (Below.refl _ _).drew
          have HDS2 : Hid (Calls Try.prog 51 #[.pointer (some ⟨d, 0, none⟩), .string t] w2.drew fun e w2' => e = .returned (.int .i64 (N : Int)) ∧ w2' = w2.drew) := HDS.out _ HS2.out
          clear hs2 HC HSP HDS
          go_wp2
          go_region_with (
            go_at_call 51
            refine HDS2.out.mono ?_
            rintro e w3 ⟨rfl, rfl⟩)
          all_goals
            go_wp2_with fail
            refine (HDO.out (U - N) _ (usesSt HS2.out _)).mono ?_
            rintro e w4 ⟨rfl, hs4⟩
            have HS4 : Hid (St S w d ((k.spent.uses (U - N)).did (DC.mv s.data.toList t.data.toList)) w4) := hs4
            clear hs4
            go_wp2
            go_ret
            exact ⟨rfl, HS4.out⟩
      · rw [HRN.out, if_neg h0]
        have hp := fnd_bad h0
        rw [hp] at HFD
        obtain ⟨z, hz⟩ : ∃ z, (fnd k.dead k.L s).2 = z := ⟨_, rfl⟩
        rw [hz] at HFD h0 ⊢
        have hne : (z != 0) = true := by simpa using h0
        have hne2 : (z == 0) = false := beq_eq_false_iff_ne.mpr h0
        clear hz hp h0 hk hu u1 u2 HRN
        go_enter Try.func27, Try.ntmps27
        go_wp2_with fail
        refine HR.out.mono ?_
        rintro e w0 ⟨rfl, rfl⟩
        go_wp2_with fail
        refine HFD.out.mono ?_
        rintro e w1 ⟨rfl, rfl⟩
        go_wp2
        go_ret
        exact ⟨rfl, HS.out⟩
  · have HE : Hid (renameK k s t = (rdy k.dead [s, t], k)) := by unfold Hid renameK; rw [if_pos (by simpa using hr)]
    rw [HE.out]
    obtain ⟨z, hz⟩ : ∃ z, rdy k.dead [s, t] = z := ⟨_, rfl⟩
    rw [hz] at HR hr ⊢
    have hne : (z != 0) = true := by simpa using hr
    have hne2 : (z == 0) = false := beq_eq_false_iff_ne.mpr hr
    clear hz hr hk hu u1 u2 HE
    go_enter Try.func27, Try.ntmps27
    go_wp2_with fail
    refine HR.out.mono ?_
    rintro e w1 ⟨rfl, rfl⟩
    go_wp2
    go_ret
    exact ⟨rfl, HS0.out⟩
end Go.Proofs.Ytgffncbmchimdaa
