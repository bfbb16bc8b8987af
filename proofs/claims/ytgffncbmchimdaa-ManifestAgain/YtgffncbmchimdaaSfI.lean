import Derived.Test.YtgffncbmchimdaaSfH
/-! Rename, Remove. -/
namespace Go.Proofs.Ytgffncbmchimdaa
open Go.RowKit Go.Maps Plain
set_option linter.unusedVariables false
set_option linter.unusedSimpArgs false

theorem look_sum {k : Dk} (hu : k.Uok) (s : ByteArray) : (sizeK k s : Int) ≤ k.used := by
  unfold sizeK
  cases hl : look k.L s.data.toList with
  | none => exact hu.used.1
  | some G => exact hu.each _ (look_mem hl)
theorem St.lkup {S : Nat → Prop} {w w1 : World} {d n : Nat} {k : Dk} (h : St S w d k.spent w1) (hk : k.Ok n) (s : ByteArray) (hs : s.size ≤ maxLen) : Calls Try.prog 51 #[.pointer (some ⟨d, 0, none⟩), .string s] w1 fun e w' => e = .returned (.int .i64 (sizeK k s : Int)) ∧ w' = w1 := by
  obtain ⟨ms, md, vc, rc, Sf, hm⟩ := h.at
  have hlk := lookO w1 ms k.spent.L hm.seen s hs
  have c0 := hm.at0.1
  cases hl : look k.L s.data.toList with
  | none =>
    have HE : Hid (sizeK k s = 0) := by unfold Hid sizeK; rw [hl]; rfl
    rw [show look k.spent.L s.data.toList = none from hl] at hlk
    simp only [ptrO, Option.elim] at hlk
    clear hm h hk hl
    go_enter Try.func51, Try.ntmps51
    go_wp2
    go_ret
    exact ⟨by rw [HE.out]; rfl, rfl⟩
  | some G =>
    obtain ⟨fa, fc, g0, g1, g2, _⟩ := h.fcell (G := G) (hk.refs _ (look_mem hl))
    have HE : Hid (sizeK k s = (k.file G).seen.length) := by unfold Hid sizeK; rw [hl]; rfl
    rw [show look k.spent.L s.data.toList = some G from hl] at hlk
    simp only [ptrO, Option.elim] at hlk
    have g0' : w1.cell? ⟨G, 0, none⟩ = some (.slice fa (k.file G).seen.length fc) := g0
    have g1' : (k.file G).seen.length ≤ fc := g1
    clear g0 g1
    generalize (k.file G).seen.length = N at g0' g1' HE
    clear hm h hk hl
    go_enter Try.func51, Try.ntmps51
    go_wp2
    go_ret
    exact ⟨by rw [HE.out]; rfl, rfl⟩

def removeK (k : Dk) (s : ByteArray) : Int × Dk := if (fnd k.dead k.L s).2 = 0 then (if k.can then (0, (k.spent.uses (k.used - sizeK k s)).did (DC.rm s.data.toList)) else (34, k.spent)) else ((fnd k.dead k.L s).2, k)

set_option maxHeartbeats 4000000 in
set_option maxRecDepth 1000000 in
theorem removeOf (d : Nat) (k : Dk) (n : Nat) (S : Nat → Prop) (s : ByteArray) (hs : s.size ≤ maxLen) (w : World) (h : DiskAt w d k S) (hk : k.Dok n) (hu : k.Uok) (hn : n ≤ 4398046511103) : Calls Try.prog 28 #[.pointer (some ⟨d, 0, none⟩), .string s] w (OpPost d (removeK k s) S w) := by
  have HB1 : Hid (Below w.heap.size w (w.alloc (.cells #[.string s] 9))) := (Below.refl _ _).alloc (Nat.le_refl _) _
  have HFD : Hid (Calls Try.prog 31 #[.pointer (some ⟨d, 0, none⟩), .string s] w fun e w' => e = .returned (.tuple #[(fnd k.dead k.L s).1, .int .i64 (fnd k.dead k.L s).2]) ∧ w' = w.alloc (.cells #[.string s] 9)) := findSt (St.start h) s hs
  have HS : Hid (St S w d k (w.alloc (.cells #[.string s] 9))) := (St.start h).below HB1.out
  obtain ⟨u1, u2⟩ := hu.used
  have q3 := look_sum hu s
  obtain ⟨W1, hW1⟩ : ∃ W1, w.alloc (.cells #[.string s] 9) = W1 := ⟨_, rfl⟩
  rw [hW1] at HFD HB1 HS
  clear hW1 h
  by_cases h0 : (fnd k.dead k.L s).2 = 0
  · obtain ⟨G, hl, hfe⟩ := fnd_ok h0
    rw [hfe] at HFD
    have HC : Hid (∀ w', St S w d k.spent w' → w'.cell? ⟨d, 3, none⟩ = some (.int .i64 k.used) ∧ w'.frozen? ⟨d, 3, none⟩ = false) := fun w' h' => ⟨h'.cells.1, h'.cells.2.2⟩
    have HSP : Hid (Calls Try.prog 32 #[.pointer (some ⟨d, 0, none⟩)] W1 fun e w' => e = .returned (.bool k.can) ∧ St S w d k.spent w') := SpendAfter HS.out hk.ok hn
    have HDO : Hid (∀ u w', St S w d (k.spent.uses u) w' → Calls Try.prog 46 #[.pointer (some ⟨d, 0, none⟩), .iface 112 (.agg #[.string s])] w' fun e w2 => e = .returned (.tuple #[]) ∧ St S w d ((k.spent.uses u).did (DC.rm s.data.toList)) w2) := fun u w' h' => by
      have := doDOf w' d (k.spent.uses u) _ (DC.rm s.data.toList) h'.1 ⟨by rw [Array.length_toList]; exact hs, G, hl⟩ (by show k.L.length < _; have := hk.few; omega) (by show k.chg.length ≤ _; have := hk.cnt; omega)
      rw [DC.val_rm, str_of] at this
      refine this.mono ?_
      rintro e w2 ⟨rfl, h2⟩
      exact ⟨rfl, h'.next h2⟩
    have HKO : Hid (k.Ok n) := hk.ok
    have HAP : Hid (removeK k s = if k.can then (0, (k.spent.uses (k.used - sizeK k s)).did (DC.rm s.data.toList)) else (34, k.spent)) := by unfold Hid removeK; rw [if_pos h0]
    have HDS : Hid (∀ w', St S w d k.spent w' → Calls Try.prog 51 #[.pointer (some ⟨d, 0, none⟩), .string s] w' fun e w2 => e = .returned (.int .i64 (sizeK k s : Int)) ∧ w2 = w') := fun w' h' => h'.lkup HKO.out s hs
    clear hk hu h0 hl hfe
    obtain ⟨U, hU⟩ : ∃ U, k.used = U := ⟨_, rfl⟩
    obtain ⟨N, hN⟩ : ∃ N, sizeK k s = N := ⟨_, rfl⟩
    rw [hU] at u1 u2 q3 HC HAP
    rw [hN] at q3 HAP HDS
    clear hU hN
    cases hc : k.can with
    | false =>
      rw [HAP.out, hc, if_neg (by simp)]
      rw [hc] at HSP
      clear hc HAP HC HDO
      go_enter Try.func28, Try.ntmps28
      go_wp2_with fail
      refine HFD.out.mono ?_
      rintro e w1 ⟨rfl, rfl⟩
      go_wp2_with fail
      refine HSP.out.mono ?_
      rintro e w2 ⟨rfl, hs2⟩
      have HS2 : Hid (St S w d k.spent w2) := hs2
      clear hs2
      go_wp2
      go_ret
      exact ⟨rfl, HS2.out⟩
    | true =>
      rw [HAP.out, hc, if_pos rfl]
      rw [hc] at HSP
      clear hc HAP
      go_enter Try.func28, Try.ntmps28
      go_wp2_with fail
      refine HFD.out.mono ?_
      rintro e w1 ⟨rfl, rfl⟩
      go_wp2_with fail
      refine HSP.out.mono ?_
      rintro e w2 ⟨rfl, hs2⟩
      obtain ⟨d3, y3⟩ := HC.out w2 hs2
      have HS2 : Hid (St S w d k.spent w2.drew) := hs2.below (Below.refl _ _).drew
      have HDS2 : Hid (Calls Try.prog 51 #[.pointer (some ⟨d, 0, none⟩), .string s] w2.drew fun e w2' => e = .returned (.int .i64 (N : Int)) ∧ w2' = w2.drew) := HDS.out _ HS2.out
      clear hs2 HC HSP HDS
      go_wp2
      go_region_with (
        go_at_call 51
        refine HDS2.out.mono ?_
        rintro e w3 ⟨rfl, rfl⟩)
      all_goals
        go_wp2_with fail
        refine (HDO.out (U - N) _ (usesSt HS2.out _)).mono ?_
        rintro e w4 ⟨rfl, hs4⟩
        have HS4 : Hid (St S w d ((k.spent.uses (U - N)).did (DC.rm s.data.toList)) w4) := hs4
        clear hs4
        go_wp2
        go_ret
        exact ⟨rfl, HS4.out⟩
  · have HE : Hid (removeK k s = ((fnd k.dead k.L s).2, k)) := by unfold Hid removeK; rw [if_neg h0]
    rw [HE.out]
    have hp := fnd_bad h0
    rw [hp] at HFD
    obtain ⟨z, hz⟩ : ∃ z, (fnd k.dead k.L s).2 = z := ⟨_, rfl⟩
    rw [hz] at HFD h0 ⊢
    have hne : (z != 0) = true := by simpa using h0
    have hne2 : (z == 0) = false := beq_eq_false_iff_ne.mpr h0
    clear hz hp h0 hk hu u1 u2
    go_enter Try.func28, Try.ntmps28
    go_wp2_with fail
    refine HFD.out.mono ?_
    rintro e w1 ⟨rfl, rfl⟩
    go_wp2
    go_ret
    exact ⟨rfl, HS.out⟩
end Go.Proofs.Ytgffncbmchimdaa
