import Derived.Test.YtbeaefokpggmpabQvd
import Derived.Shelf.Abstract
/-! quota: a stable sort: insertion. -/
namespace Go.Proofs.Ytbeaefokpggmpab
open Go.RowKit Plain
set_option linter.unusedVariables false

theorem enter_rem : ∀ (args : Array Value) (w : World), (callFunc 33 args).run Try.prog w = .ok (.enter 33 args) w := enters_of Try.func33 (by kernel_rfl) rfl
theorem quiet_one {P : Program} {f : FuncId} {args : Array Value} {w : World} {x : Nat} {v : Value}
    (h : Calls P f args (w.drewN x) fun e w' => e = .returned v ∧ ∃ m, w' = (w.drewN x).drewN m) : Calls P f args (w.drewN x) fun e w'' => e = .returned v ∧ ∃ n, w'' = w.drewN n :=
  h.mono fun _ _ ⟨he, m, hm⟩ => ⟨he, x + m, by rw [hm, World.drewN_drewN]⟩
abbrev remFn (gb : Nat) : Value := .func (.func 33) #[] #[.pointer (some ⟨gb, 0, none⟩)]

set_option maxHeartbeats 4000000 in
theorem sInsOf {W0 W : World} {g gb n cap a b : Nat} {f : Nat → Nat} {rem : Nat → Int} (h : SRow W0 W g n f) (hr : RemAt W0 g gb n rem) (hn : n ≤ 64) (h1 : a ≤ b) (h2 : b ≤ n) (hv : ∀ k, k < n → f k < n) (hinc : ∀ p q, a ≤ p → p < q → q < b → f p < f q) :
    Calls Try.prog 44 #[.slice (some ⟨g, 0, none⟩) n cap, .int .i64 a, .int .i64 b, remFn gb] W fun e w' => e = .returned (.tuple #[]) ∧ ∃ f', SRow W0 w' g n f' ∧ PermOn a b f f' ∧ Srt rem a b f' := by
  have HR : Hid (SRow W0 W g n f) := h
  have HM : Hid (RemAt W0 g gb n rem) := hr
  have HV : Hid (∀ k, k < n → f k < n) := hv
  have HI : Hid (∀ p q, a ≤ p → p < q → q < b → f p < f q) := hinc
  clear h hr hv hinc
  have eg := enter_rem
  unfold remFn
  go_enter Try.func44, Try.ntmps44
  go_wp2
  go_loopw [8] (fun s wr => ∃ (i : Nat) (fi : Nat → Nat), s = .int .i64 i ∧ a < i ∧ (i ≤ b ∨ i = a + 1) ∧ Hid (SRow W0 wr g n fi) ∧ Hid (PermOn a i f fi) ∧ Hid (Srt rem a i fi)) (fun i _ => b + 1 - (intOf i).toNat)
  case atStart => exact ⟨a + 1, f, by simp, by omega, by omega, HR, PermOn.refl _ _ _, fun p q h1 h2 h3 => by omega⟩
  case round =>
    obtain ⟨i, fi, rfl, hai, hib, HRi, HPi, HSi⟩ := hrel
    by_cases hA : i < b
    · have hki : (i : Int) < (b : Int) := by omega
      go_wp2
      go_loopw [9] (fun s wq => ∃ (j : Nat) (fj : Nat → Nat), s = .int .i64 j ∧ j ≤ i ∧ a ≤ j ∧ Hid (SRow W0 wq g n fj) ∧ Hid (Ins rem a i j f fj)) (fun j _ => (intOf j).toNat)
      case atStart => exact ⟨i, fi, rfl, Nat.le_refl _, by omega, HRi, Ins.start HPi.out HSi.out (by omega) (fun p q k1 k2 k3 => HI.out p q k1 k2 (by omega))⟩
      case round =>
        obtain ⟨j, fj, rfl, hji, haj, HRj, HJ⟩ := hrel
        have HVj : Hid (∀ k, k < n → fj k < n) := fun k hk => (HJ.out.perm.mono (Nat.zero_le _) (show i + 1 ≤ n by omega)).all (Q := fun z => z < n) (fun k _ hk => HV.out k hk) (Nat.zero_le _) hk
        have HOUT : Hid ((j = a ∨ ¬ rem (fj (j - 1)) < rem (fj j)) → ∃ (i' : Nat) (fi : Nat → Nat), Value.int .i64 ((i : Int) + 1) = .int .i64 i' ∧ a < i' ∧ (i' ≤ b ∨ i' = a + 1) ∧ Hid (SRow W0 wr g n fj → True) ∧ Hid (PermOn a i' f fj) ∧ Hid (Srt rem a i' fj)) := fun hs =>
          ⟨i + 1, fj, by simp, by omega, .inl (by omega), fun _ => trivial, HJ.out.perm, HJ.out.done hs⟩
        by_cases hja : a < j
        · obtain ⟨jp, rfl⟩ : ∃ q, j = q + 1 := ⟨j - 1, by omega⟩
          have hjai : (a : Int) < (jp : Int) + 1 := by omega
          have hjn : (jp : Int) + 1 < (n : Int) := by omega
          have hjm : (jp : Int) < (n : Int) := by omega
          have cA := HRj.out.cl (jp + 1) (by omega)
          have cB := HRj.out.cl jp (by omega)
          have HC : Hid (∀ q, Calls Try.prog 33 #[.int .i64 (fj (jp + 1) : Int), .int .i64 (fj jp : Int), .pointer (some ⟨gb, 0, none⟩)] (wr.drewN q) fun e w' => e = .returned (.int .i64 (cmpZ (rem (fj jp)) (rem (fj (jp + 1))))) ∧ ∃ m, w' = (wr.drewN q).drewN m) := fun q =>
            remCmpOf HM.out (HRj.out.drewN q).gr hn _ _ (HVj.out _ (by omega)) (HVj.out _ (by omega))
          by_cases hl : rem (fj jp) < rem (fj (jp + 1))
          · have hC : cmpZ (rem (fj jp)) (rem (fj (jp + 1))) < 0 := of_decide_eq_true (by rw [cmpZ_lt]; exact decide_eq_true hl)
            have HJ2 : Hid (Ins rem a i jp f (swpF fj (jp + 1) jp)) := HJ.out.step hja hl
            have HSW : Hid (∀ u, SRow W0 u g n fj → SRow W0 ((u.setCell ⟨g, jp + 1, none⟩ (.int .i64 (fj jp : Int))).setCell ⟨g, jp, none⟩ (.int .i64 (fj (jp + 1) : Int))) g n (swpF fj (jp + 1) jp)) := fun u hu => hu.swap (by omega) (by omega) (by omega)
            clear hl HOUT
            generalize cmpZ (rem (fj jp)) (rem (fj (jp + 1))) = C at HC hC
            obtain ⟨x, hx⟩ : ∃ x, fj (jp + 1) = x := ⟨_, rfl⟩
            obtain ⟨y, hy⟩ : ∃ y, fj jp = y := ⟨_, rfl⟩
            rw [hx, hy] at HC HSW
            rw [hx] at cA
            rw [hy] at cB
            have HX : Hid (fj (jp + 1) = x) := hx
            have HY : Hid (fj jp = y) := hy
            clear hx hy
            have hjad : decide ((jp : Int) + 1 > (a : Int)) = true := decide_eq_true (by omega)
            obtain ⟨I, hI⟩ : ∃ I, I = jp + 1 := ⟨_, rfl⟩
            have ea : ((jp : Int) + 1).toNat = I := by omega
            have pa : (0 : Int) ≤ (jp : Int) + 1 := by omega
            have ra : IntKind.i64.wrap ((jp : Int) + 1) = (jp : Int) + 1 := IntWalk.i64_in _ (by omega)
            have ec : ((jp : Int)).toNat = jp := by omega
            have pc : (0 : Int) ≤ (jp : Int) := by omega
            have rc : IntKind.i64.wrap ((jp : Int)) = (jp : Int) := IntWalk.i64_in _ (by omega)
            have hd : decide (C < 0) = true := decide_eq_true hC
            rw [← hI] at cA
            have HIh : Hid (I = jp + 1) := hI
            clear hI
            go_wp2_with fail
            go_quiet ((go_at_fn 33; exact quiet_one (HC.out _)))
            have HS2 : Hid (SRow W0 (wr.drewN nq) g n fj) := HRj.out.drewN nq
            clear cA cB HC hd hC HRj
            generalize wr.drewN nq = w2 at HS2 ⊢
            have cA := HS2.out.cl (jp + 1) (by omega)
            rw [HX.out] at cA
            have cB := HS2.out.cl jp (by omega)
            rw [HY.out] at cB
            have fA := HS2.out.fr (jp + 1) (by omega)
            have fB := HS2.out.fr jp (by omega)
            have HS3 : Hid (SRow W0 ((w2.setCell ⟨g, I, none⟩ (.int .i64 (y : Int))).setCell ⟨g, jp, none⟩ (.int .i64 (x : Int))) g n (swpF fj (jp + 1) jp)) := by rw [HIh.out]; exact HSW.out w2 HS2.out
            have cC : (w2.setCell ⟨g, I, none⟩ (.int .i64 (y : Int))).cell? ⟨g, jp, none⟩ = some (.int .i64 (y : Int)) := by
              rw [World.cell?_setCell_other _ _ _ _ (by intro q; injection q with q1 q2; have := HIh.out; omega)]; exact cB
            rw [← HIh.out] at cA fA
            go_wp2_with fail
            go_region
            all_goals go_wp2
            refine ⟨⟨jp, _, rfl, by omega, by omega, HS3.out.drew, HJ2⟩, ?_⟩
            simp [intOf]
          · have hC : ¬ cmpZ (rem (fj jp)) (rem (fj (jp + 1))) < 0 := of_decide_eq_false (by rw [cmpZ_lt]; exact decide_eq_false hl)
            have HOK := HOUT.out (.inr hl)
            clear hl HOUT
            generalize cmpZ (rem (fj jp)) (rem (fj (jp + 1))) = C at HC hC
            obtain ⟨x, hx⟩ : ∃ x, fj (jp + 1) = x := ⟨_, rfl⟩
            obtain ⟨y, hy⟩ : ∃ y, fj jp = y := ⟨_, rfl⟩
            rw [hx, hy] at HC
            rw [hx] at cA
            rw [hy] at cB
            clear hx hy
            have hjad : decide ((jp : Int) + 1 > (a : Int)) = true := decide_eq_true (by omega)
            obtain ⟨I, hI⟩ : ∃ I, I = jp + 1 := ⟨_, rfl⟩
            have ea : ((jp : Int) + 1).toNat = I := by omega
            have pa : (0 : Int) ≤ (jp : Int) + 1 := by omega
            have ra : IntKind.i64.wrap ((jp : Int) + 1) = (jp : Int) + 1 := IntWalk.i64_in _ (by omega)
            have ec : ((jp : Int)).toNat = jp := by omega
            have pc : (0 : Int) ≤ (jp : Int) := by omega
            have rc : IntKind.i64.wrap ((jp : Int)) = (jp : Int) := IntWalk.i64_in _ (by omega)
            have hd : decide (C < 0) = false := decide_eq_false hC
            rw [← hI] at cA
            clear hI
            go_wp2_with fail
            go_quiet ((go_at_fn 33; exact quiet_one (HC.out _)))
            have HS2 : Hid (SRow W0 (wr.drewN nq) g n fj) := HRj.out.drewN nq
            clear cA cB HC hd hC HRj
            generalize wr.drewN nq = w2 at HS2 ⊢
            go_wp2
            refine ⟨?_, ?_⟩
            · obtain ⟨i', fi', e1, e2, e3, -, e5, e6⟩ := HOK
              exact ⟨i', _, e1, e2, e3, HS2, e5, e6⟩
            · simp [intOf]; omega
        · have hje : j = a := by omega
          have HOK := HOUT.out (.inl hje)
          clear HOUT
          subst hje
          have hjad : decide ((j : Int) > (j : Int)) = false := decide_eq_false (by omega)
          go_wp2_with fail
          go_region
          all_goals go_wp2
          refine ⟨?_, ?_⟩
          · obtain ⟨i', fi', e1, e2, e3, -, e5, e6⟩ := HOK
            exact ⟨i', _, e1, e2, e3, HRj.out.drew, e5, e6⟩
          · simp [intOf]; omega
    · have hki : ¬ (i : Int) < (b : Int) := by omega
      have HF : Hid (∃ f', SRow W0 wr g n f' ∧ PermOn a b f f' ∧ Srt rem a b f') := by
        rcases hib with hib | hib
        · have : i = b := by omega
          subst this
          exact ⟨fi, HRi.out, HPi.out, HSi.out⟩
        · refine ⟨fi, HRi.out, ?_, fun p q k1 k2 k3 => by omega⟩
          by_cases hab : a = b
          · obtain ⟨σ, s1, s2, s3, s4⟩ := HPi.out
            refine ⟨id, fun k => ?_, fun k k1 k2 => ⟨k1, k2⟩, fun _ _ => rfl, fun _ _ e => e⟩
            rw [s1]
            by_cases hk : a ≤ k ∧ k < i
            · have := s2 k hk.1 hk.2
              rw [show σ k = k by omega]; rfl
            · rw [s3 k hk]; rfl
          · have : i = b := by omega
            subst this
            exact HPi.out
      go_wp2
      exact ⟨rfl, _, results_none rfl _ _ _, rfl, HF.out⟩
end Go.Proofs.Ytbeaefokpggmpab
