import Derived.Test.YtbeaefokpggmpabQve
/-! quota: a stable sort: merging where the left one is one alone. -/
namespace Go.Proofs.Ytbeaefokpggmpab
open Go.RowKit Plain
set_option linter.unusedVariables false

/-- What a merge answers. -/
def SymPost (W0 : World) (g n a b : Nat) (f : Nat → Nat) (rem : Nat → Int) : Ending → World → Prop := fun e w' => e = .returned (.tuple #[]) ∧ ∃ f', SRow W0 w' g n f' ∧ PermOn a b f f' ∧ Srt rem a b f'
theorem remCmpAt {W0 W : World} {g gb n : Nat} {rem : Nat → Int} {f : Nat → Nat} (hr : RemAt W0 g gb n rem) (hs : SRow W0 W g n f) (hn : n ≤ 64) (hv : ∀ k, k < n → f k < n) {x y : Nat} (hx : x < n) (hy : y < n) :
    ∃ C : Int, (C < 0 ↔ rem (f y) < rem (f x)) ∧ Hid (∀ q, Calls Try.prog 33 #[.int .i64 (f x : Int), .int .i64 (f y : Int), .pointer (some ⟨gb, 0, none⟩)] (W.drewN q) fun e w' => e = .returned (.int .i64 C) ∧ ∃ m, w' = (W.drewN q).drewN m) := by
  refine ⟨cmpZ (rem (f y)) (rem (f x)), ?_, fun q => remCmpOf hr (hs.drewN q).gr hn _ _ (hv _ hx) (hv _ hy)⟩
  have := cmpZ_lt (rem (f y)) (rem (f x))
  simpa using this
set_option maxHeartbeats 8000000 in
set_option maxRecDepth 1000000 in
theorem symLeft {W0 W : World} {g gb n cap a m b : Nat} {f : Nat → Nat} {rem : Nat → Int} (h : SRow W0 W g n f) (hr : RemAt W0 g gb n rem) (hn : n ≤ 64) (h1 : m = a + 1) (h2 : m < b) (h3 : b ≤ n) (hv : ∀ k, k < n → f k < n) (hs2 : Srt rem m b f) (hsep : Sep a m b f) :
    Calls Try.prog 45 #[.slice (some ⟨g, 0, none⟩) n cap, .int .i64 a, .int .i64 m, .int .i64 b, remFn gb] W (SymPost W0 g n a b f rem) := by
  have HR : Hid (SRow W0 W g n f) := h
  have HM : Hid (RemAt W0 g gb n rem) := hr
  have HV : Hid (∀ k, k < n → f k < n) := hv
  have HS : Hid (Srt rem m b f) := hs2
  have HP : Hid (Sep a m b f) := hsep
  have HMA : Hid (m = a + 1) := h1
  have h4 : a < m := by omega
  have h5 : ((m : Int) - (a : Int) == 1) = true := by rw [beq_iff_eq]; omega
  clear h hr hv hs2 hsep h1
  have eg := enter_rem
  unfold remFn
  go_enter Try.func45, Try.ntmps45
  go_wp2
  go_loopw [10, 11] (fun s t wr => ∃ (i j : Nat), s = .int .i64 i ∧ t = .int .i64 j ∧ m ≤ i ∧ i ≤ j ∧ j ≤ b ∧ Hid (SRow W0 wr g n f) ∧ Hid (∀ h, m ≤ h → h < i → Ahd rem (f h) (f a)) ∧ Hid (∀ h, j ≤ h → h < b → Ahd rem (f a) (f h))) (fun i j _ => (intOf j - intOf i).toNat)
  case atStart => exact ⟨m, b, rfl, rfl, Nat.le_refl _, by omega, Nat.le_refl _, HR, fun h k1 k2 => by omega, fun h k1 k2 => by omega⟩
  case round =>
    obtain ⟨i, j, rfl, rfl, hi, hij, hj, HRi, HL, HH⟩ := hrel
    by_cases hA : i < j
    · have hki : (i : Int) < (j : Int) := by omega
      obtain ⟨c, hc⟩ : ∃ c : Nat, ((i : Int) + (j : Int)) / 2 = (c : Int) := ⟨(i + j) / 2, by omega⟩
      have hic : i ≤ c := by omega
      have hcj : c < j := by omega
      have hcn : (c : Int) < (n : Int) := by omega
      have han : (a : Int) < (n : Int) := by omega
      have cA := HRi.out.cl c (by omega)
      have cB := HRi.out.cl a (by omega)
      obtain ⟨C, hC, HC⟩ := remCmpAt HM.out HRi.out hn HV.out (x := c) (y := a) (by omega) (by omega)
      by_cases hl : rem (f a) < rem (f c)
      · have hd : C < 0 := hC.mpr hl
        have HL2 : Hid (∀ h, m ≤ h → h < c + 1 → Ahd rem (f h) (f a)) := fun h k1 k2 => by
          by_cases e : h = c
          · rw [e]; exact Ahd.of_lt hl
          · exact (HS.out h c k1 (by omega) (by omega)).trans (Ahd.of_lt hl)
        clear hl hC
        generalize f c = x at *
        generalize f a = y at *
        go_wp2
        clear hc
        go_quiet ((go_at_fn 33; exact quiet_one (HC.out _)))
        have HS2 : Hid (SRow W0 (wr.drewN nq) g n f) := HRi.out.drewN nq
        clear cA cB HC HRi
        generalize wr.drewN nq = w2 at HS2 ⊢
        go_wp2
        refine ⟨⟨c + 1, j, by simp, rfl, by omega, by omega, hj, HS2, HL2, HH⟩, ?_⟩
        simp [intOf]; omega
      · have hd : ¬ C < 0 := fun h => hl (hC.mp h)
        have HH2 : Hid (∀ h, c ≤ h → h < b → Ahd rem (f a) (f h)) := fun h k1 k2 => by
          have q : Ahd rem (f a) (f c) := Ahd.of_not hl (HP.out a c (Nat.le_refl _) h4 (by omega) (by omega))
          by_cases e : h = c
          · rw [e]; exact q
          · exact q.trans (HS.out c h (by omega) (by omega) k2)
        clear hl hC
        generalize f c = x at *
        generalize f a = y at *
        go_wp2
        clear hc
        go_quiet ((go_at_fn 33; exact quiet_one (HC.out _)))
        have HS2 : Hid (SRow W0 (wr.drewN nq) g n f) := HRi.out.drewN nq
        clear cA cB HC HRi
        generalize wr.drewN nq = w2 at HS2 ⊢
        go_wp2
        refine ⟨⟨i, c, rfl, rfl, hi, hic, by omega, HS2, HL, HH2⟩, ?_⟩
        simp [intOf]; omega
    · have hki : ¬ (i : Int) < (j : Int) := by omega
      have hje : j = i := by omega
      subst hje
      have HSRT : Hid (Srt rem a b (shL f a (j - 1))) := merge_left HMA.out hi hj HS.out HL.out HH.out
      have HPRM : Hid (∀ k, a ≤ k → k < b → PermOn a b f (shL f a k)) := fun k k1 k2 => by
        have := shL_perm f a b (k - a) (by omega)
        rw [show a + (k - a) = k by omega] at this
        exact this
      clear HL HH
      go_wp2
      go_loopw [13] (fun s wq => ∃ k : Nat, s = .int .i64 k ∧ a ≤ k ∧ k + 1 ≤ j ∧ Hid (SRow W0 wq g n (shL f a k))) (fun k _ => j - (intOf k).toNat)
      case atStart => exact ⟨a, rfl, Nat.le_refl _, by omega, by unfold Hid; rw [shL_start]; exact HRi.out⟩
      case round =>
        obtain ⟨k, rfl, hak, hkj, HRk⟩ := hrel
        by_cases hB : k + 1 < j
        · have hkk : (k : Int) < (j : Int) - 1 := by omega
          have HS3 : Hid (SRow W0 ((wr.setCell ⟨g, k, none⟩ (.int .i64 (shL f a k (k + 1) : Int))).setCell ⟨g, k + 1, none⟩ (.int .i64 (shL f a k k : Int))) g n (shL f a (k + 1))) := by
            have := HRk.out.swap (i := k) (j := k + 1) (by omega) (by omega) (by omega)
            rw [shL_step f hak] at this
            exact this
          have cA := HRk.out.cl k (by omega)
          have cB := HRk.out.cl (k + 1) (by omega)
          have fA := HRk.out.fr k (by omega)
          have fB := HRk.out.fr (k + 1) (by omega)
          generalize shL f a k k = x at *
          generalize shL f a k (k + 1) = y at *
          obtain ⟨I, hI⟩ : ∃ I, I = k + 1 := ⟨_, rfl⟩
          have cC : (wr.setCell ⟨g, k, none⟩ (.int .i64 (y : Int))).cell? ⟨g, I, none⟩ = some (.int .i64 (y : Int)) := by
            rw [World.cell?_setCell_other _ _ _ _ (by intro q; injection q with q1 q2; omega), hI]; exact cB
          have ea : ((k : Int) + 1).toNat = I := by omega
          have pa : (0 : Int) ≤ (k : Int) + 1 := by omega
          have ba : (k : Int) + 1 < (n : Int) := by omega
          have bb : (k : Int) < (n : Int) := by omega
          have ra : IntKind.i64.wrap ((k : Int) + 1) = (k : Int) + 1 := IntWalk.i64_in _ (by omega)
          rw [← hI] at cB fB
          have HS4 : Hid (SRow W0 ((wr.setCell ⟨g, k, none⟩ (.int .i64 (y : Int))).setCell ⟨g, I, none⟩ (.int .i64 (x : Int))) g n (shL f a (k + 1))) := by rw [hI]; exact HS3.out
          clear hI HS3
          go_wp2_with fail
          go_region
          all_goals go_wp2
          refine ⟨⟨k + 1, by simp, by omega, by omega, HS4.out.drew⟩, ?_⟩
          simp [intOf]; omega
        · have hkk : ¬ (k : Int) < (j : Int) - 1 := by omega
          have HF : Hid (∃ f', SRow W0 wr g n f' ∧ PermOn a b f f' ∧ Srt rem a b f') := by
            have e : k = j - 1 := by omega
            rw [e] at HRk
            exact ⟨_, HRk.out, HPRM.out _ (by omega) (by omega), HSRT.out⟩
          go_wp2
          refine bodyPost_ret (results_none rfl _ _ _) rfl ?_
          exact ⟨rfl, HF.out⟩
end Go.Proofs.Ytbeaefokpggmpab
