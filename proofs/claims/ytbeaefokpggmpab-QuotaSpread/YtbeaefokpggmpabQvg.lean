import Derived.Test.YtbeaefokpggmpabQvf
/-! quota: a stable sort: merging where the right one is one alone. -/
namespace Go.Proofs.Ytbeaefokpggmpab
open Go.RowKit Plain
set_option linter.unusedVariables false

set_option maxHeartbeats 8000000 in
set_option maxRecDepth 1000000 in
theorem symRight {W0 W : World} {g gb n cap a m b : Nat} {f : Nat → Nat} {rem : Nat → Int} (h : SRow W0 W g n f) (hr : RemAt W0 g gb n rem) (hn : n ≤ 64) (h1 : a + 1 < m) (h2 : b = m + 1) (h3 : b ≤ n) (hv : ∀ k, k < n → f k < n) (hs1 : Srt rem a m f) (hsep : Sep a m b f) :
    Calls Try.prog 45 #[.slice (some ⟨g, 0, none⟩) n cap, .int .i64 a, .int .i64 m, .int .i64 b, remFn gb] W (SymPost W0 g n a b f rem) := by
  have HR : Hid (SRow W0 W g n f) := h
  have HM : Hid (RemAt W0 g gb n rem) := hr
  have HV : Hid (∀ k, k < n → f k < n) := hv
  have HS : Hid (Srt rem a m f) := hs1
  have HP : Hid (Sep a m b f) := hsep
  have HMB : Hid (b = m + 1) := h2
  have h4 : m < b := by omega
  have h5 : ((m : Int) - (a : Int) == 1) = false := by rw [beq_eq_false_iff_ne]; omega
  have h6 : ((b : Int) - (m : Int) == 1) = true := by rw [beq_iff_eq]; omega
  clear h hr hv hs1 hsep h2
  have eg := enter_rem
  unfold remFn
  go_enter Try.func45, Try.ntmps45
  go_wp2
  go_loopw [14, 15] (fun s t wr => ∃ (i j : Nat), s = .int .i64 i ∧ t = .int .i64 j ∧ a ≤ i ∧ i ≤ j ∧ j ≤ m ∧ Hid (SRow W0 wr g n f) ∧ Hid (∀ h, a ≤ h → h < i → Ahd rem (f h) (f m)) ∧ Hid (∀ h, j ≤ h → h < m → Ahd rem (f m) (f h))) (fun i j _ => (intOf j - intOf i).toNat)
  case atStart => exact ⟨a, m, rfl, rfl, Nat.le_refl _, by omega, Nat.le_refl _, HR, fun h k1 k2 => by omega, fun h k1 k2 => by omega⟩
  case round =>
    obtain ⟨i, j, rfl, rfl, hi, hij, hj, HRi, HL, HH⟩ := hrel
    by_cases hA : i < j
    · have hki : (i : Int) < (j : Int) := by omega
      obtain ⟨c, hc⟩ : ∃ c : Nat, ((i : Int) + (j : Int)) / 2 = (c : Int) := ⟨(i + j) / 2, by omega⟩
      have hic : i ≤ c := by omega
      have hcj : c < j := by omega
      have hcn : (c : Int) < (n : Int) := by omega
      have han : (m : Int) < (n : Int) := by omega
      have cA := HRi.out.cl m (by omega)
      have cB := HRi.out.cl c (by omega)
      obtain ⟨C, hC, HC⟩ := remCmpAt HM.out HRi.out hn HV.out (x := m) (y := c) (by omega) (by omega)
      by_cases hl : rem (f c) < rem (f m)
      · have hd : C < 0 := hC.mpr hl
        have hd2 : decide (C < 0) = true := decide_eq_true hd
        have HH2 : Hid (∀ h, c ≤ h → h < m → Ahd rem (f m) (f h)) := fun h k1 k2 => by
          by_cases e : h = c
          · rw [e]; exact Ahd.of_lt hl
          · exact (Ahd.of_lt hl).trans (HS.out c h (by omega) (by omega) (by omega))
        clear hl hC
        generalize f c = x at *
        generalize f m = y at *
        go_wp2
        clear hc
        go_quiet ((go_at_fn 33; exact quiet_one (HC.out _)))
        have HS2 : Hid (SRow W0 (wr.drewN nq) g n f) := HRi.out.drewN nq
        clear cA cB HC HRi
        generalize wr.drewN nq = w2 at HS2 ⊢
        go_wp2
        refine ⟨⟨i, c, rfl, rfl, hi, hic, by omega, HS2, HL, HH2⟩, ?_⟩
        simp [intOf]; omega
      · have hd : ¬ C < 0 := fun h => hl (hC.mp h)
        have hd2 : decide (C < 0) = false := decide_eq_false hd
        have HL2 : Hid (∀ h, a ≤ h → h < c + 1 → Ahd rem (f h) (f m)) := fun h k1 k2 => by
          have q : Ahd rem (f c) (f m) := Ahd.of_not hl (HP.out c m (by omega) (by omega) (Nat.le_refl _) h4)
          by_cases e : h = c
          · rw [e]; exact q
          · exact (HS.out h c k1 (by omega) (by omega)).trans q
        clear hl hC
        generalize f c = x at *
        generalize f m = y at *
        go_wp2
        clear hc
        go_quiet ((go_at_fn 33; exact quiet_one (HC.out _)))
        have HS2 : Hid (SRow W0 (wr.drewN nq) g n f) := HRi.out.drewN nq
        clear cA cB HC HRi
        generalize wr.drewN nq = w2 at HS2 ⊢
        go_wp2
        refine ⟨⟨c + 1, j, by simp, rfl, by omega, by omega, hj, HS2, HL2, HH⟩, ?_⟩
        simp [intOf]; omega
    · have hki : ¬ (i : Int) < (j : Int) := by omega
      have hje : j = i := by omega
      subst hje
      have HSRT : Hid (Srt rem a b (shR f m j)) := merge_right HMB.out hi hj HS.out HL.out HH.out
      have HPRM : Hid (∀ k, a ≤ k → k ≤ m → PermOn a b f (shR f m k)) := fun k k1 k2 => by
        have := shR_perm f a m b h4 (m - k) (by omega) (by omega)
        rw [show m - (m - k) = k by omega] at this
        exact this
      clear HL HH
      go_wp2
      go_loopw [17] (fun s wq => ∃ k : Nat, s = .int .i64 k ∧ j ≤ k ∧ k ≤ m ∧ Hid (SRow W0 wq g n (shR f m k))) (fun k _ => (intOf k).toNat)
      case atStart => exact ⟨m, rfl, hj, Nat.le_refl _, by unfold Hid; rw [shR_start]; exact HRi.out⟩
      case round =>
        obtain ⟨k, rfl, hjk, hkm, HRk⟩ := hrel
        by_cases hB : j < k
        · obtain ⟨q, rfl⟩ : ∃ q, k = q + 1 := ⟨k - 1, by omega⟩
          have hkk : (j : Int) < (q : Int) + 1 := by omega
          have HS3 : Hid (SRow W0 ((wr.setCell ⟨g, q + 1, none⟩ (.int .i64 (shR f m (q + 1) q : Int))).setCell ⟨g, q, none⟩ (.int .i64 (shR f m (q + 1) (q + 1) : Int))) g n (shR f m q)) := by
            have := HRk.out.swap (i := q + 1) (j := q) (by omega) (by omega) (by omega)
            rw [shR_step f hkm] at this
            exact this
          have cA := HRk.out.cl (q + 1) (by omega)
          have cB := HRk.out.cl q (by omega)
          have fA := HRk.out.fr (q + 1) (by omega)
          have fB := HRk.out.fr q (by omega)
          generalize shR f m (q + 1) (q + 1) = x at *
          generalize shR f m (q + 1) q = y at *
          obtain ⟨I, hI⟩ : ∃ I, I = q + 1 := ⟨_, rfl⟩
          have cC : (wr.setCell ⟨g, I, none⟩ (.int .i64 (y : Int))).cell? ⟨g, q, none⟩ = some (.int .i64 (y : Int)) := by
            rw [World.cell?_setCell_other _ _ _ _ (by intro q; injection q with q1 q2; omega)]; exact cB
          have ea : ((q : Int) + 1).toNat = I := by omega
          have pa : (0 : Int) ≤ (q : Int) + 1 := by omega
          have ba : (q : Int) + 1 < (n : Int) := by omega
          have bb : (q : Int) < (n : Int) := by omega
          have ra : IntKind.i64.wrap ((q : Int) + 1) = (q : Int) + 1 := IntWalk.i64_in _ (by omega)
          have rc : IntKind.i64.wrap ((q : Int)) = (q : Int) := IntWalk.i64_in _ (by omega)
          rw [← hI] at cA fA
          have HS4 : Hid (SRow W0 ((wr.setCell ⟨g, I, none⟩ (.int .i64 (y : Int))).setCell ⟨g, q, none⟩ (.int .i64 (x : Int))) g n (shR f m q)) := by rw [hI]; exact HS3.out
          clear hI HS3
          go_wp2_with fail
          go_region
          all_goals go_wp2
          refine ⟨⟨q, rfl, by omega, by omega, HS4.out.drew⟩, ?_⟩
          simp [intOf]
        · have hkk : ¬ (j : Int) < (k : Int) := by omega
          have HF : Hid (∃ f', SRow W0 wr g n f' ∧ PermOn a b f f' ∧ Srt rem a b f') := by
            have e : k = j := by omega
            rw [e] at HRk
            exact ⟨_, HRk.out, HPRM.out _ (by omega) (by omega), HSRT.out⟩
          go_wp2
          refine bodyPost_ret (results_none rfl _ _ _) rfl ?_
          exact ⟨rfl, HF.out⟩
end Go.Proofs.Ytbeaefokpggmpab
