import Derived.Test.YtbeaefokpggmpabQvg
/-! quota: a stable sort: merging, in general. -/
namespace Go.Proofs.Ytbeaefokpggmpab
open Go.RowKit Plain
set_option linter.unusedVariables false

/-- Merging of at most s places. -/
def SymAt (s : Nat) : Prop := ∀ (W0 W : World) (g gb n cap a m b : Nat) (f : Nat → Nat) (rem : Nat → Int), b - a ≤ s → SRow W0 W g n f → RemAt W0 g gb n rem → n ≤ 64 → a < m → m < b → b ≤ n → (∀ k, k < n → f k < n) → Srt rem a m f → Srt rem m b f → Sep a m b f →
  Calls Try.prog 45 #[.slice (some ⟨g, 0, none⟩) n cap, .int .i64 a, .int .i64 m, .int .i64 b, remFn gb] W (SymPost W0 g n a b f rem)
theorem PermOn.small {a b n : Nat} {f g : Nat → Nat} (p : PermOn a b f g) (hb : b ≤ n) (hv : ∀ k, k < n → f k < n) : ∀ k, k < n → g k < n := fun k hk =>
  (p.mono (Nat.zero_le _) hb).all (Q := fun z => z < n) (fun k _ hk => hv k hk) (Nat.zero_le _) hk
/-- What is left to do behind the turn, and what it comes to. -/
structure Mid (rem : Nat → Int) (f g : Nat → Nat) (a st mid E b n : Nat) : Prop where
  H : Halves rem g a st mid E b
  p : PermOn a b f g
  v : ∀ k, k < n → g k < n
  am : a ≤ mid
  mb : mid ≤ b
theorem Mid.right {rem : Nat → Int} {f g g2 : Nat → Nat} {a st mid E b n : Nat} (h : Mid rem f g a st mid E b n) (hE : mid ≤ E) (p1 : PermOn a mid g g2) : Srt rem mid E g2 ∧ Srt rem E b g2 ∧ Sep mid E b g2 := by
  have e : ∀ k, mid ≤ k → g2 k = g k := fun k hk => p1.out (by omega)
  refine ⟨h.H.s3.congr fun k k1 k2 => e k k1, h.H.s4.congr fun k k1 k2 => e k (by omega), fun i j k1 k2 k3 k4 => ?_⟩
  rw [e i k1, e j (by omega)]
  exact h.H.p2 i j k1 k2 k3 k4
theorem Mid.fin {rem : Nat → Int} {f g g2 g3 : Nat → Nat} {a st mid E b n : Nat} {W0 w : World} {gg : Nat} (h : Mid rem f g a st mid E b n) (p1 : PermOn a mid g g2) (q1 : Srt rem a mid g2) (p2 : PermOn mid b g2 g3) (q2 : Srt rem mid b g3) (hs : SRow W0 w gg n g3) : ∃ f', SRow W0 w gg n f' ∧ PermOn a b f f' ∧ Srt rem a b f' := by
  have := halves_end h.H h.am h.mb p1 q1 p2 q2
  exact ⟨g3, hs, h.p.trans this.1, this.2⟩
theorem mid_c {mid m st : Nat} (h : st ≤ mid + m) : ((mid + m - st : Nat) : Int) = (mid : Int) + (m : Int) - (st : Int) := by omega
set_option maxHeartbeats 16000000 in
set_option maxRecDepth 1000000 in
theorem symMidA (s : Nat) (IH : SymAt s) {W0 W : World} {g gb n cap a m b mid : Nat} {f : Nat → Nat} {rem : Nat → Int} (hsz : b - a ≤ s + 1) (h : SRow W0 W g n f) (hr : RemAt W0 g gb n rem) (hn : n ≤ 64) (h1 : a + 1 < m) (h2 : m + 1 < b) (h3 : b ≤ n) (hv : ∀ k, k < n → f k < n) (hs1 : Srt rem a m f) (hs2 : Srt rem m b f) (hsep : Sep a m b f) (hmid : mid = (a + b) / 2) (hcase : mid < m) :
    Calls Try.prog 45 #[.slice (some ⟨g, 0, none⟩) n cap, .int .i64 a, .int .i64 m, .int .i64 b, remFn gb] W (SymPost W0 g n a b f rem) := by
  have HR : Hid (SRow W0 W g n f) := h
  have HM : Hid (RemAt W0 g gb n rem) := hr
  have HV : Hid (∀ k, k < n → f k < n) := hv
  have HS1 : Hid (Srt rem a m f) := hs1
  have HS2 : Hid (Srt rem m b f) := hs2
  have HP : Hid (Sep a m b f) := hsep
  have HMID : Hid (mid = (a + b) / 2) := hmid
  have HSZ : Hid (b - a ≤ s + 1) := hsz
  have hm1 : a + 1 < mid ∧ mid + 1 < b := by omega
  have hmi : ((a : Int) + (b : Int)) / 2 = (mid : Int) := by omega
  have h5 : ((m : Int) - (a : Int) == 1) = false := by rw [beq_eq_false_iff_ne]; omega
  have h6 : ((b : Int) - (m : Int) == 1) = false := by rw [beq_eq_false_iff_ne]; omega
  have hci : (mid : Int) < (m : Int) := by omega
  obtain ⟨lo, hlo⟩ : ∃ lo, lo = mid + m - b := ⟨_, rfl⟩
  have HLO : Hid (lo = mid + m - b) := hlo
  have hlb : a ≤ lo ∧ lo ≤ mid ∧ mid + m ≤ lo + b := by omega
  have HPC : Hid (∀ c, lo ≤ c → c < mid → m ≤ mid + m - 1 - c ∧ mid + m - 1 - c < b ∧ c ≤ mid + m - 1) := fun c k1 k2 => by have := HLO.out; omega
  clear h hr hv hs1 hs2 hsep hmid hsz hlo
  have eg := enter_rem
  unfold remFn
  go_enter Try.func45, Try.ntmps45
  go_wp2
  go_loopw [20, 21] (fun s t wr => ∃ (i j : Nat), s = .int .i64 i ∧ t = .int .i64 j ∧ lo ≤ i ∧ i ≤ j ∧ j ≤ mid ∧ Hid (SRow W0 wr g n f) ∧ Hid (Sch rem f lo mid (mid + m - 1) i j)) (fun i j _ => (intOf j - intOf i).toNat)
  case atStart => exact ⟨lo, mid, (show Value.int .i64 ((mid : Int) + (m : Int) - (b : Int)) = Value.int .i64 (lo : Int) from congrArg _ (by have := HLO.out; omega)), rfl, Nat.le_refl _, hlb.2.1, Nat.le_refl _, HR, Sch.start hlb.2.1⟩
  case round =>
    obtain ⟨i, j, rfl, rfl, hi, hij, hj, HRi, HSC⟩ := hrel
    by_cases hA : i < j
    · have hki : (i : Int) < (j : Int) := by omega
      obtain ⟨c, hc⟩ : ∃ c : Nat, ((i : Int) + (j : Int)) / 2 = (c : Int) := ⟨(i + j) / 2, by omega⟩
      have hic : i ≤ c := by omega
      have hcj : c < j := by omega
      have hq := HPC.out c (by omega) (by omega)
      obtain ⟨D, hD⟩ : ∃ D, D = mid + m - 1 - c := ⟨_, rfl⟩
      have ea : ((mid : Int) + (m : Int) - 1 - (c : Int)).toNat = D := by omega
      have pa : (0 : Int) ≤ (mid : Int) + (m : Int) - 1 - (c : Int) := by omega
      have ba : (mid : Int) + (m : Int) - 1 - (c : Int) < (n : Int) := by omega
      have ra : IntKind.i64.wrap ((mid : Int) + (m : Int) - 1 - (c : Int)) = (mid : Int) + (m : Int) - 1 - (c : Int) := IntWalk.i64_in _ (by omega)
      have hcn : (c : Int) < (n : Int) := by omega
      have cA := HRi.out.cl D (by omega)
      have cB := HRi.out.cl c (by omega)
      obtain ⟨C, hC, HC⟩ := remCmpAt HM.out HRi.out hn HV.out (x := D) (y := c) (by omega) (by omega)
      have HD : Hid (D = mid + m - 1 - c) := hD
      clear hD hq
      by_cases hl : rem (f c) < rem (f D)
      · have hd : C < 0 := hC.mpr hl
        have hd2 : decide (C < 0) = true := decide_eq_true hd
        have HN : Hid (Sch rem f lo mid (mid + m - 1) i c) := HSC.out.down HS1.out HS2.out hlb.1 (by omega) HPC.out hic hcj (by rw [← HD.out]; exact hl)
        clear hl hC
        generalize f c = x at *
        generalize f D = y at *
        go_wp2
        clear hc
        go_quiet ((go_at_fn 33; exact quiet_one (HC.out _)))
        have HS2x : Hid (SRow W0 (wr.drewN nq) g n f) := HRi.out.drewN nq
        clear cA cB HC HRi
        generalize wr.drewN nq = w2 at HS2x ⊢
        go_wp2
        refine ⟨⟨i, c, rfl, rfl, hi, hic, by omega, HS2x, HN⟩, ?_⟩
        clear ra ea
        simp [intOf]; omega
      · have hd : ¬ C < 0 := fun h => hl (hC.mp h)
        have hd2 : decide (C < 0) = false := decide_eq_false hd
        have HN : Hid (Sch rem f lo mid (mid + m - 1) (c + 1) j) := HSC.out.up HS1.out HS2.out HP.out hlb.1 (by omega) HPC.out hic hcj (by rw [← HD.out]; exact hl)
        clear hl hC
        generalize f c = x at *
        generalize f D = y at *
        go_wp2
        clear hc
        go_quiet ((go_at_fn 33; exact quiet_one (HC.out _)))
        have HS2x : Hid (SRow W0 (wr.drewN nq) g n f) := HRi.out.drewN nq
        clear cA cB HC HRi
        generalize wr.drewN nq = w2 at HS2x ⊢
        go_wp2
        refine ⟨⟨c + 1, j, by simp, rfl, by omega, by omega, hj, HS2x, HN⟩, ?_⟩
        clear ra ea
        simp [intOf]; omega
    · have hki : ¬ (i : Int) < (j : Int) := by omega
      have hje : j = i := by omega
      subst hje
      obtain ⟨HAL, b1, b2, b3, b4, b5⟩ := HSC.out.halves (by omega) (by omega) HMID.out (.inl ⟨hcase, HLO.out, rfl⟩) HS1.out HS2.out HP.out
      obtain ⟨E, hE⟩ : ∃ E, E = mid + m - j := ⟨_, rfl⟩
      rw [← hE] at HAL b3 b4
      have HMD : Hid (Mid rem f (rotF f j m E) a j mid E b n) := ⟨HAL, (rotF_perm b2 b3).mono b1 b4, (rotF_perm b2 b3).small (by omega) HV.out, by omega, by omega⟩
      have HEE : Hid (E = mid + m - j) := hE
      have HEI : Hid ((E : Int) = (mid : Int) + (m : Int) - (j : Int)) := by unfold Hid; omega
      have HJ : Hid (a ≤ j ∧ j ≤ m ∧ m ≤ E ∧ E ≤ b ∧ j ≤ mid ∧ lo ≤ j ∧ j ≤ mid ∧ a + 1 < mid ∧ mid + 1 < b ∧ a + 1 < m ∧ m + 1 < b ∧ b ≤ n) := by unfold Hid; omega
      clear HSC HAL hE hij
      have hsub : (j = mid) ∨ (lo < j ∧ j < mid) ∨ (j = lo ∧ lo < mid ∧ a < lo) ∨ (j = lo ∧ lo < mid ∧ a = lo) := by
        have := HLO.out; have := HEE.out; have := HMID.out
        omega
      clear hi hj b1 b2 b3 b4 b5
      rcases hsub with hs | hs | hs | hs
      · -- j = mid
        have hfa : j ≤ m ∧ m ≤ E ∧ E ≤ b ∧ j ≤ mid ∧ mid ≤ E ∧ a ≤ j := by have := HJ.out; have := HEE.out; have := HLO.out; have := HMID.out; omega
        have tU : (j : Int) ≤ (m : Int) := by have := HJ.out; have := HEE.out; have := HLO.out; have := HMID.out; omega
        have tA : (j : Int) < (m : Int) := by have := HJ.out; have := HEE.out; have := HLO.out; have := HMID.out; omega
        have tB : ¬ (m : Int) < (mid : Int) + (m : Int) - (j : Int) := by have := HJ.out; have := HEE.out; have := HLO.out; have := HMID.out; omega
        have tC : (a : Int) < (j : Int) := by have := HJ.out; have := HEE.out; have := HLO.out; have := HMID.out; omega
        have tB2 : ¬ (j : Int) < (mid : Int) := by have := HJ.out; have := HEE.out; have := HLO.out; have := HMID.out; omega
        have tA2 : (mid : Int) < (mid : Int) + (m : Int) - (j : Int) := by have := HJ.out; have := HEE.out; have := HLO.out; have := HMID.out; omega
        have tD : (mid : Int) + (m : Int) - (j : Int) < (b : Int) := by have := HJ.out; have := HEE.out; have := HLO.out; have := HMID.out; omega
        have HGE : Hid ((rotF f j m E) = f) := rotF_none (by have := HEI.out; omega) hfa.1 hfa.2.1
        have HQ1 : Hid (Srt rem a mid (rotF f j m E)) := HMD.out.H.s1.joins HMD.out.H.s2 (by omega)
        have HRT : Hid (∀ u g2, SRow W0 u g n g2 → PermOn a mid (rotF f j m E) g2 → Calls Try.prog 45 #[.slice (some ⟨g, 0, none⟩) n cap, .int .i64 mid, .int .i64 ((mid : Int) + (m : Int) - (j : Int)), .int .i64 b, .func (.func 33) #[] #[.pointer (some ⟨gb, 0, none⟩)]] u (SymPost W0 g n mid b g2 rem)) := fun u g2 hu hp => by
          have q := HMD.out.right hfa.2.2.2.2.1 hp
          have := IH W0 u g gb n cap mid E b g2 rem (by have := HSZ.out; have := HJ.out; omega) hu HM.out hn (by have := HEI.out; omega) (by have := HEI.out; omega) h3 (hp.small (by have := HJ.out; omega) HMD.out.v) q.1 q.2.1 q.2.2
          rw [HEI.out] at this
          exact this
        clear hs hfa
        have HG1 : Hid (SRow W0 wr g n (rotF f j m E)) := by unfold Hid; rw [HGE.out]; exact HRi.out
        have HG2 := HG1
        have HP1 : Hid (PermOn a mid (rotF f j m E) (rotF f j m E)) := PermOn.refl _ _ _
        go_wp2_with fail
        refine (HRT.out _ _ HG2.out HP1.out).mono ?_
        rintro e w3 ⟨rfl, g3, hz1, hz2, hz3⟩
        have HF := HMD.out.fin HP1.out HQ1.out hz2 hz3 hz1
        have HFF : Hid (∃ f', SRow W0 w3 g n f' ∧ PermOn a b f f' ∧ Srt rem a b f') := HF
        clear hz1 hz2 hz3 HF
        go_wp2
        exact ⟨rfl, _, results_none rfl _ _ _, rfl, HFF.out⟩
      · -- lo < j ∧ j < mid
        have hfa : j ≤ m ∧ m ≤ E ∧ E ≤ b ∧ j ≤ mid ∧ mid ≤ E ∧ a ≤ j := by have := HJ.out; have := HEE.out; have := HLO.out; have := HMID.out; omega
        have tU : (j : Int) ≤ (m : Int) := by have := HJ.out; have := HEE.out; have := HLO.out; have := HMID.out; omega
        have tA : (j : Int) < (m : Int) := by have := HJ.out; have := HEE.out; have := HLO.out; have := HMID.out; omega
        have tB : (m : Int) < (mid : Int) + (m : Int) - (j : Int) := by have := HJ.out; have := HEE.out; have := HLO.out; have := HMID.out; omega
        have tC : (a : Int) < (j : Int) := by have := HJ.out; have := HEE.out; have := HLO.out; have := HMID.out; omega
        have tB2 : (j : Int) < (mid : Int) := by have := HJ.out; have := HEE.out; have := HLO.out; have := HMID.out; omega
        have tA2 : (mid : Int) < (mid : Int) + (m : Int) - (j : Int) := by have := HJ.out; have := HEE.out; have := HLO.out; have := HMID.out; omega
        have tD : (mid : Int) + (m : Int) - (j : Int) < (b : Int) := by have := HJ.out; have := HEE.out; have := HLO.out; have := HMID.out; omega
        have HROT : Hid (∀ u, SRow W0 u g n f → Calls Try.prog 57 #[.slice (some ⟨g, 0, none⟩) n cap, .int .i64 j, .int .i64 m, .int .i64 ((mid : Int) + (m : Int) - (j : Int)), .func (.func 33) #[] #[.pointer (some ⟨gb, 0, none⟩)]] u fun e w' => e = .returned (.tuple #[]) ∧ SRow W0 w' g n (rotF f j m E)) := fun u hu => by
          have := sRotOf (cap := cap) (a := j) (m := m) (b := E) (.func (.func 33) #[] #[.pointer (some ⟨gb, 0, none⟩)]) hu hn (by omega) (by have := HEI.out; omega) (by have := HJ.out; omega)
          rw [HEI.out] at this
          exact this
        have HLF : Hid (∀ u, SRow W0 u g n (rotF f j m E) → Calls Try.prog 45 #[.slice (some ⟨g, 0, none⟩) n cap, .int .i64 a, .int .i64 j, .int .i64 mid, .func (.func 33) #[] #[.pointer (some ⟨gb, 0, none⟩)]] u (SymPost W0 g n a mid (rotF f j m E) rem)) := fun u hu =>
          IH W0 u g gb n cap a j mid (rotF f j m E) rem (by have := HSZ.out; have := HJ.out; omega) hu HM.out hn (by omega) (by omega) (by have := HJ.out; omega) HMD.out.v HMD.out.H.s1 HMD.out.H.s2 HMD.out.H.p1
        have HRT : Hid (∀ u g2, SRow W0 u g n g2 → PermOn a mid (rotF f j m E) g2 → Calls Try.prog 45 #[.slice (some ⟨g, 0, none⟩) n cap, .int .i64 mid, .int .i64 ((mid : Int) + (m : Int) - (j : Int)), .int .i64 b, .func (.func 33) #[] #[.pointer (some ⟨gb, 0, none⟩)]] u (SymPost W0 g n mid b g2 rem)) := fun u g2 hu hp => by
          have q := HMD.out.right hfa.2.2.2.2.1 hp
          have := IH W0 u g gb n cap mid E b g2 rem (by have := HSZ.out; have := HJ.out; omega) hu HM.out hn (by have := HEI.out; omega) (by have := HEI.out; omega) h3 (hp.small (by have := HJ.out; omega) HMD.out.v) q.1 q.2.1 q.2.2
          rw [HEI.out] at this
          exact this
        clear hs hfa
        go_wp2_with fail
        refine (HROT.out _ HRi.out).mono ?_
        rintro e w1 ⟨rfl, hz⟩
        have HG1 : Hid (SRow W0 w1 g n (rotF f j m E)) := hz
        clear hz
        go_wp2_with fail
        refine (HLF.out _ HG1.out).mono ?_
        rintro e w2 ⟨rfl, g2, hz1, hz2, hz3⟩
        have HG2 : Hid (SRow W0 w2 g n g2) := hz1
        have HP1 : Hid (PermOn a mid (rotF f j m E) g2) := hz2
        have HQ1 : Hid (Srt rem a mid g2) := hz3
        clear hz1 hz2 hz3
        go_wp2_with fail
        refine (HRT.out _ _ HG2.out HP1.out).mono ?_
        rintro e w3 ⟨rfl, g3, hz1, hz2, hz3⟩
        have HF := HMD.out.fin HP1.out HQ1.out hz2 hz3 hz1
        have HFF : Hid (∃ f', SRow W0 w3 g n f' ∧ PermOn a b f f' ∧ Srt rem a b f') := HF
        clear hz1 hz2 hz3 HF
        go_wp2
        exact ⟨rfl, _, results_none rfl _ _ _, rfl, HFF.out⟩
      · -- j = lo ∧ lo < mid ∧ a < lo
        have hfa : j ≤ m ∧ m ≤ E ∧ E ≤ b ∧ j ≤ mid ∧ mid ≤ E ∧ a ≤ j := by have := HJ.out; have := HEE.out; have := HLO.out; have := HMID.out; omega
        have tU : (j : Int) ≤ (m : Int) := by have := HJ.out; have := HEE.out; have := HLO.out; have := HMID.out; omega
        have tA : (j : Int) < (m : Int) := by have := HJ.out; have := HEE.out; have := HLO.out; have := HMID.out; omega
        have tB : (m : Int) < (mid : Int) + (m : Int) - (j : Int) := by have := HJ.out; have := HEE.out; have := HLO.out; have := HMID.out; omega
        have tC : (a : Int) < (j : Int) := by have := HJ.out; have := HEE.out; have := HLO.out; have := HMID.out; omega
        have tB2 : (j : Int) < (mid : Int) := by have := HJ.out; have := HEE.out; have := HLO.out; have := HMID.out; omega
        have tA2 : (mid : Int) < (mid : Int) + (m : Int) - (j : Int) := by have := HJ.out; have := HEE.out; have := HLO.out; have := HMID.out; omega
        have tD : ¬ (mid : Int) + (m : Int) - (j : Int) < (b : Int) := by have := HJ.out; have := HEE.out; have := HLO.out; have := HMID.out; omega
        have HROT : Hid (∀ u, SRow W0 u g n f → Calls Try.prog 57 #[.slice (some ⟨g, 0, none⟩) n cap, .int .i64 j, .int .i64 m, .int .i64 ((mid : Int) + (m : Int) - (j : Int)), .func (.func 33) #[] #[.pointer (some ⟨gb, 0, none⟩)]] u fun e w' => e = .returned (.tuple #[]) ∧ SRow W0 w' g n (rotF f j m E)) := fun u hu => by
          have := sRotOf (cap := cap) (a := j) (m := m) (b := E) (.func (.func 33) #[] #[.pointer (some ⟨gb, 0, none⟩)]) hu hn (by omega) (by have := HEI.out; omega) (by have := HJ.out; omega)
          rw [HEI.out] at this
          exact this
        have HLF : Hid (∀ u, SRow W0 u g n (rotF f j m E) → Calls Try.prog 45 #[.slice (some ⟨g, 0, none⟩) n cap, .int .i64 a, .int .i64 j, .int .i64 mid, .func (.func 33) #[] #[.pointer (some ⟨gb, 0, none⟩)]] u (SymPost W0 g n a mid (rotF f j m E) rem)) := fun u hu =>
          IH W0 u g gb n cap a j mid (rotF f j m E) rem (by have := HSZ.out; have := HJ.out; omega) hu HM.out hn (by omega) (by omega) (by have := HJ.out; omega) HMD.out.v HMD.out.H.s1 HMD.out.H.s2 HMD.out.H.p1
        have HQ2 : Hid (∀ g2, PermOn a mid (rotF f j m E) g2 → Srt rem mid b g2) := fun g2 hp => by
          have q := HMD.out.right hfa.2.2.2.2.1 hp
          exact q.1.joins q.2.1 (by have := HEI.out; omega)
        clear hs hfa
        go_wp2_with fail
        refine (HROT.out _ HRi.out).mono ?_
        rintro e w1 ⟨rfl, hz⟩
        have HG1 : Hid (SRow W0 w1 g n (rotF f j m E)) := hz
        clear hz
        go_wp2_with fail
        refine (HLF.out _ HG1.out).mono ?_
        rintro e w2 ⟨rfl, g2, hz1, hz2, hz3⟩
        have HG2 : Hid (SRow W0 w2 g n g2) := hz1
        have HP1 : Hid (PermOn a mid (rotF f j m E) g2) := hz2
        have HQ1 : Hid (Srt rem a mid g2) := hz3
        clear hz1 hz2 hz3
        have HF := HMD.out.fin HP1.out HQ1.out (PermOn.refl _ _ _) (HQ2.out _ HP1.out) HG2.out
        have HFF : Hid (∃ f', SRow W0 w2 g n f' ∧ PermOn a b f f' ∧ Srt rem a b f') := HF
        clear HF
        go_wp2
        exact ⟨rfl, _, results_none rfl _ _ _, rfl, HFF.out⟩
      · -- j = lo ∧ lo < mid ∧ a = lo
        have hfa : j ≤ m ∧ m ≤ E ∧ E ≤ b ∧ j ≤ mid ∧ mid ≤ E ∧ a ≤ j := by have := HJ.out; have := HEE.out; have := HLO.out; have := HMID.out; omega
        have tU : (j : Int) ≤ (m : Int) := by have := HJ.out; have := HEE.out; have := HLO.out; have := HMID.out; omega
        have tA : (j : Int) < (m : Int) := by have := HJ.out; have := HEE.out; have := HLO.out; have := HMID.out; omega
        have tB : (m : Int) < (mid : Int) + (m : Int) - (j : Int) := by have := HJ.out; have := HEE.out; have := HLO.out; have := HMID.out; omega
        have tC : ¬ (a : Int) < (j : Int) := by have := HJ.out; have := HEE.out; have := HLO.out; have := HMID.out; omega
        have tB2 : (j : Int) < (mid : Int) := by have := HJ.out; have := HEE.out; have := HLO.out; have := HMID.out; omega
        have tA2 : (mid : Int) < (mid : Int) + (m : Int) - (j : Int) := by have := HJ.out; have := HEE.out; have := HLO.out; have := HMID.out; omega
        have tD : ¬ (mid : Int) + (m : Int) - (j : Int) < (b : Int) := by have := HJ.out; have := HEE.out; have := HLO.out; have := HMID.out; omega
        have HROT : Hid (∀ u, SRow W0 u g n f → Calls Try.prog 57 #[.slice (some ⟨g, 0, none⟩) n cap, .int .i64 j, .int .i64 m, .int .i64 ((mid : Int) + (m : Int) - (j : Int)), .func (.func 33) #[] #[.pointer (some ⟨gb, 0, none⟩)]] u fun e w' => e = .returned (.tuple #[]) ∧ SRow W0 w' g n (rotF f j m E)) := fun u hu => by
          have := sRotOf (cap := cap) (a := j) (m := m) (b := E) (.func (.func 33) #[] #[.pointer (some ⟨gb, 0, none⟩)]) hu hn (by omega) (by have := HEI.out; omega) (by have := HJ.out; omega)
          rw [HEI.out] at this
          exact this
        have HQ1 : Hid (Srt rem a mid (rotF f j m E)) := HMD.out.H.s1.joins HMD.out.H.s2 (by omega)
        have HQ2 : Hid (∀ g2, PermOn a mid (rotF f j m E) g2 → Srt rem mid b g2) := fun g2 hp => by
          have q := HMD.out.right hfa.2.2.2.2.1 hp
          exact q.1.joins q.2.1 (by have := HEI.out; omega)
        clear hs hfa
        go_wp2_with fail
        refine (HROT.out _ HRi.out).mono ?_
        rintro e w1 ⟨rfl, hz⟩
        have HG1 : Hid (SRow W0 w1 g n (rotF f j m E)) := hz
        clear hz
        have HG2 := HG1
        have HP1 : Hid (PermOn a mid (rotF f j m E) (rotF f j m E)) := PermOn.refl _ _ _
        have HF := HMD.out.fin HP1.out HQ1.out (PermOn.refl _ _ _) (HQ2.out _ HP1.out) HG2.out
        have HFF : Hid (∃ f', SRow W0 w1 g n f' ∧ PermOn a b f f' ∧ Srt rem a b f') := HF
        clear HF
        go_wp2
        exact ⟨rfl, _, results_none rfl _ _ _, rfl, HFF.out⟩
set_option maxHeartbeats 16000000 in
set_option maxRecDepth 1000000 in
theorem symMidB (s : Nat) (IH : SymAt s) {W0 W : World} {g gb n cap a m b mid : Nat} {f : Nat → Nat} {rem : Nat → Int} (hsz : b - a ≤ s + 1) (h : SRow W0 W g n f) (hr : RemAt W0 g gb n rem) (hn : n ≤ 64) (h1 : a + 1 < m) (h2 : m + 1 < b) (h3 : b ≤ n) (hv : ∀ k, k < n → f k < n) (hs1 : Srt rem a m f) (hs2 : Srt rem m b f) (hsep : Sep a m b f) (hmid : mid = (a + b) / 2) (hcase : m ≤ mid) :
    Calls Try.prog 45 #[.slice (some ⟨g, 0, none⟩) n cap, .int .i64 a, .int .i64 m, .int .i64 b, remFn gb] W (SymPost W0 g n a b f rem) := by
  have HR : Hid (SRow W0 W g n f) := h
  have HM : Hid (RemAt W0 g gb n rem) := hr
  have HV : Hid (∀ k, k < n → f k < n) := hv
  have HS1 : Hid (Srt rem a m f) := hs1
  have HS2 : Hid (Srt rem m b f) := hs2
  have HP : Hid (Sep a m b f) := hsep
  have HMID : Hid (mid = (a + b) / 2) := hmid
  have HSZ : Hid (b - a ≤ s + 1) := hsz
  have hm1 : a + 1 < mid ∧ mid + 1 < b := by omega
  have hmi : ((a : Int) + (b : Int)) / 2 = (mid : Int) := by omega
  have h5 : ((m : Int) - (a : Int) == 1) = false := by rw [beq_eq_false_iff_ne]; omega
  have h6 : ((b : Int) - (m : Int) == 1) = false := by rw [beq_eq_false_iff_ne]; omega
  have hci : ¬ (mid : Int) < (m : Int) := by omega
  obtain ⟨lo, hlo⟩ : ∃ lo, lo = a := ⟨_, rfl⟩
  have HLO : Hid (lo = a) := hlo
  have hlb : a ≤ lo ∧ lo ≤ m ∧ mid + m ≤ lo + b := by omega
  have HPC : Hid (∀ c, lo ≤ c → c < m → m ≤ mid + m - 1 - c ∧ mid + m - 1 - c < b ∧ c ≤ mid + m - 1) := fun c k1 k2 => by have := HLO.out; omega
  clear h hr hv hs1 hs2 hsep hmid hsz hlo
  have eg := enter_rem
  unfold remFn
  go_enter Try.func45, Try.ntmps45
  go_wp2
  go_loopw [20, 21] (fun s t wr => ∃ (i j : Nat), s = .int .i64 i ∧ t = .int .i64 j ∧ lo ≤ i ∧ i ≤ j ∧ j ≤ m ∧ Hid (SRow W0 wr g n f) ∧ Hid (Sch rem f lo m (mid + m - 1) i j)) (fun i j _ => (intOf j - intOf i).toNat)
  case atStart => exact ⟨lo, m, (show Value.int .i64 (a : Int) = Value.int .i64 (lo : Int) from congrArg _ (by have := HLO.out; omega)), rfl, Nat.le_refl _, hlb.2.1, Nat.le_refl _, HR, Sch.start hlb.2.1⟩
  case round =>
    obtain ⟨i, j, rfl, rfl, hi, hij, hj, HRi, HSC⟩ := hrel
    by_cases hA : i < j
    · have hki : (i : Int) < (j : Int) := by omega
      obtain ⟨c, hc⟩ : ∃ c : Nat, ((i : Int) + (j : Int)) / 2 = (c : Int) := ⟨(i + j) / 2, by omega⟩
      have hic : i ≤ c := by omega
      have hcj : c < j := by omega
      have hq := HPC.out c (by omega) (by omega)
      obtain ⟨D, hD⟩ : ∃ D, D = mid + m - 1 - c := ⟨_, rfl⟩
      have ea : ((mid : Int) + (m : Int) - 1 - (c : Int)).toNat = D := by omega
      have pa : (0 : Int) ≤ (mid : Int) + (m : Int) - 1 - (c : Int) := by omega
      have ba : (mid : Int) + (m : Int) - 1 - (c : Int) < (n : Int) := by omega
      have ra : IntKind.i64.wrap ((mid : Int) + (m : Int) - 1 - (c : Int)) = (mid : Int) + (m : Int) - 1 - (c : Int) := IntWalk.i64_in _ (by omega)
      have hcn : (c : Int) < (n : Int) := by omega
      have cA := HRi.out.cl D (by omega)
      have cB := HRi.out.cl c (by omega)
      obtain ⟨C, hC, HC⟩ := remCmpAt HM.out HRi.out hn HV.out (x := D) (y := c) (by omega) (by omega)
      have HD : Hid (D = mid + m - 1 - c) := hD
      clear hD hq
      by_cases hl : rem (f c) < rem (f D)
      · have hd : C < 0 := hC.mpr hl
        have hd2 : decide (C < 0) = true := decide_eq_true hd
        have HN : Hid (Sch rem f lo m (mid + m - 1) i c) := HSC.out.down HS1.out HS2.out hlb.1 (by omega) HPC.out hic hcj (by rw [← HD.out]; exact hl)
        clear hl hC
        generalize f c = x at *
        generalize f D = y at *
        go_wp2
        clear hc
        go_quiet ((go_at_fn 33; exact quiet_one (HC.out _)))
        have HS2x : Hid (SRow W0 (wr.drewN nq) g n f) := HRi.out.drewN nq
        clear cA cB HC HRi
        generalize wr.drewN nq = w2 at HS2x ⊢
        go_wp2
        refine ⟨⟨i, c, rfl, rfl, hi, hic, by omega, HS2x, HN⟩, ?_⟩
        clear ra ea
        simp [intOf]; omega
      · have hd : ¬ C < 0 := fun h => hl (hC.mp h)
        have hd2 : decide (C < 0) = false := decide_eq_false hd
        have HN : Hid (Sch rem f lo m (mid + m - 1) (c + 1) j) := HSC.out.up HS1.out HS2.out HP.out hlb.1 (by omega) HPC.out hic hcj (by rw [← HD.out]; exact hl)
        clear hl hC
        generalize f c = x at *
        generalize f D = y at *
        go_wp2
        clear hc
        go_quiet ((go_at_fn 33; exact quiet_one (HC.out _)))
        have HS2x : Hid (SRow W0 (wr.drewN nq) g n f) := HRi.out.drewN nq
        clear cA cB HC HRi
        generalize wr.drewN nq = w2 at HS2x ⊢
        go_wp2
        refine ⟨⟨c + 1, j, by simp, rfl, by omega, by omega, hj, HS2x, HN⟩, ?_⟩
        clear ra ea
        simp [intOf]; omega
    · have hki : ¬ (i : Int) < (j : Int) := by omega
      have hje : j = i := by omega
      subst hje
      obtain ⟨HAL, b1, b2, b3, b4, b5⟩ := HSC.out.halves (by omega) (by omega) HMID.out (.inr ⟨hcase, HLO.out, rfl⟩) HS1.out HS2.out HP.out
      obtain ⟨E, hE⟩ : ∃ E, E = mid + m - j := ⟨_, rfl⟩
      rw [← hE] at HAL b3 b4
      have HMD : Hid (Mid rem f (rotF f j m E) a j mid E b n) := ⟨HAL, (rotF_perm b2 b3).mono b1 b4, (rotF_perm b2 b3).small (by omega) HV.out, by omega, by omega⟩
      have HEE : Hid (E = mid + m - j) := hE
      have HEI : Hid ((E : Int) = (mid : Int) + (m : Int) - (j : Int)) := by unfold Hid; omega
      have HJ : Hid (a ≤ j ∧ j ≤ m ∧ m ≤ E ∧ E ≤ b ∧ j ≤ mid ∧ lo ≤ j ∧ j ≤ m ∧ a + 1 < mid ∧ mid + 1 < b ∧ a + 1 < m ∧ m + 1 < b ∧ b ≤ n) := by unfold Hid; omega
      clear HSC HAL hE hij
      have hsub : (j = a ∧ E < b) ∨ (j = a ∧ b ≤ E) ∨ (a < j ∧ j < m) ∨ (j = m ∧ m < mid) ∨ (j = m ∧ m = mid) := by
        have := HLO.out; have := HEE.out; have := HMID.out
        omega
      clear hi hj b1 b2 b3 b4 b5
      rcases hsub with hs | hs | hs | hs | hs
      · -- j = a ∧ E < b
        have hfa : j ≤ m ∧ m ≤ E ∧ E ≤ b ∧ j ≤ mid ∧ mid ≤ E ∧ a ≤ j := by have := HJ.out; have := HEE.out; have := HLO.out; have := HMID.out; omega
        have tU : (j : Int) ≤ (m : Int) := by have := HJ.out; have := HEE.out; have := HLO.out; have := HMID.out; omega
        have tA : (j : Int) < (m : Int) := by have := HJ.out; have := HEE.out; have := HLO.out; have := HMID.out; omega
        have tB : (m : Int) < (mid : Int) + (m : Int) - (j : Int) := by have := HJ.out; have := HEE.out; have := HLO.out; have := HMID.out; omega
        have tC : ¬ (a : Int) < (j : Int) := by have := HJ.out; have := HEE.out; have := HLO.out; have := HMID.out; omega
        have tB2 : (j : Int) < (mid : Int) := by have := HJ.out; have := HEE.out; have := HLO.out; have := HMID.out; omega
        have tA2 : (mid : Int) < (mid : Int) + (m : Int) - (j : Int) := by have := HJ.out; have := HEE.out; have := HLO.out; have := HMID.out; omega
        have tD : (mid : Int) + (m : Int) - (j : Int) < (b : Int) := by have := HJ.out; have := HEE.out; have := HLO.out; have := HMID.out; omega
        have HROT : Hid (∀ u, SRow W0 u g n f → Calls Try.prog 57 #[.slice (some ⟨g, 0, none⟩) n cap, .int .i64 j, .int .i64 m, .int .i64 ((mid : Int) + (m : Int) - (j : Int)), .func (.func 33) #[] #[.pointer (some ⟨gb, 0, none⟩)]] u fun e w' => e = .returned (.tuple #[]) ∧ SRow W0 w' g n (rotF f j m E)) := fun u hu => by
          have := sRotOf (cap := cap) (a := j) (m := m) (b := E) (.func (.func 33) #[] #[.pointer (some ⟨gb, 0, none⟩)]) hu hn (by omega) (by have := HEI.out; omega) (by have := HJ.out; omega)
          rw [HEI.out] at this
          exact this
        have HQ1 : Hid (Srt rem a mid (rotF f j m E)) := HMD.out.H.s1.joins HMD.out.H.s2 (by omega)
        have HRT : Hid (∀ u g2, SRow W0 u g n g2 → PermOn a mid (rotF f j m E) g2 → Calls Try.prog 45 #[.slice (some ⟨g, 0, none⟩) n cap, .int .i64 mid, .int .i64 ((mid : Int) + (m : Int) - (j : Int)), .int .i64 b, .func (.func 33) #[] #[.pointer (some ⟨gb, 0, none⟩)]] u (SymPost W0 g n mid b g2 rem)) := fun u g2 hu hp => by
          have q := HMD.out.right hfa.2.2.2.2.1 hp
          have := IH W0 u g gb n cap mid E b g2 rem (by have := HSZ.out; have := HJ.out; omega) hu HM.out hn (by have := HEI.out; omega) (by have := HEI.out; omega) h3 (hp.small (by have := HJ.out; omega) HMD.out.v) q.1 q.2.1 q.2.2
          rw [HEI.out] at this
          exact this
        clear hs hfa
        go_wp2_with fail
        refine (HROT.out _ HRi.out).mono ?_
        rintro e w1 ⟨rfl, hz⟩
        have HG1 : Hid (SRow W0 w1 g n (rotF f j m E)) := hz
        clear hz
        have HG2 := HG1
        have HP1 : Hid (PermOn a mid (rotF f j m E) (rotF f j m E)) := PermOn.refl _ _ _
        go_wp2_with fail
        refine (HRT.out _ _ HG2.out HP1.out).mono ?_
        rintro e w3 ⟨rfl, g3, hz1, hz2, hz3⟩
        have HF := HMD.out.fin HP1.out HQ1.out hz2 hz3 hz1
        have HFF : Hid (∃ f', SRow W0 w3 g n f' ∧ PermOn a b f f' ∧ Srt rem a b f') := HF
        clear hz1 hz2 hz3 HF
        go_wp2
        exact ⟨rfl, _, results_none rfl _ _ _, rfl, HFF.out⟩
      · -- j = a ∧ b ≤ E
        have hfa : j ≤ m ∧ m ≤ E ∧ E ≤ b ∧ j ≤ mid ∧ mid ≤ E ∧ a ≤ j := by have := HJ.out; have := HEE.out; have := HLO.out; have := HMID.out; omega
        have tU : (j : Int) ≤ (m : Int) := by have := HJ.out; have := HEE.out; have := HLO.out; have := HMID.out; omega
        have tA : (j : Int) < (m : Int) := by have := HJ.out; have := HEE.out; have := HLO.out; have := HMID.out; omega
        have tB : (m : Int) < (mid : Int) + (m : Int) - (j : Int) := by have := HJ.out; have := HEE.out; have := HLO.out; have := HMID.out; omega
        have tC : ¬ (a : Int) < (j : Int) := by have := HJ.out; have := HEE.out; have := HLO.out; have := HMID.out; omega
        have tB2 : (j : Int) < (mid : Int) := by have := HJ.out; have := HEE.out; have := HLO.out; have := HMID.out; omega
        have tA2 : (mid : Int) < (mid : Int) + (m : Int) - (j : Int) := by have := HJ.out; have := HEE.out; have := HLO.out; have := HMID.out; omega
        have tD : ¬ (mid : Int) + (m : Int) - (j : Int) < (b : Int) := by have := HJ.out; have := HEE.out; have := HLO.out; have := HMID.out; omega
        have HROT : Hid (∀ u, SRow W0 u g n f → Calls Try.prog 57 #[.slice (some ⟨g, 0, none⟩) n cap, .int .i64 j, .int .i64 m, .int .i64 ((mid : Int) + (m : Int) - (j : Int)), .func (.func 33) #[] #[.pointer (some ⟨gb, 0, none⟩)]] u fun e w' => e = .returned (.tuple #[]) ∧ SRow W0 w' g n (rotF f j m E)) := fun u hu => by
          have := sRotOf (cap := cap) (a := j) (m := m) (b := E) (.func (.func 33) #[] #[.pointer (some ⟨gb, 0, none⟩)]) hu hn (by omega) (by have := HEI.out; omega) (by have := HJ.out; omega)
          rw [HEI.out] at this
          exact this
        have HQ1 : Hid (Srt rem a mid (rotF f j m E)) := HMD.out.H.s1.joins HMD.out.H.s2 (by omega)
        have HQ2 : Hid (∀ g2, PermOn a mid (rotF f j m E) g2 → Srt rem mid b g2) := fun g2 hp => by
          have q := HMD.out.right hfa.2.2.2.2.1 hp
          exact q.1.joins q.2.1 (by have := HEI.out; omega)
        clear hs hfa
        go_wp2_with fail
        refine (HROT.out _ HRi.out).mono ?_
        rintro e w1 ⟨rfl, hz⟩
        have HG1 : Hid (SRow W0 w1 g n (rotF f j m E)) := hz
        clear hz
        have HG2 := HG1
        have HP1 : Hid (PermOn a mid (rotF f j m E) (rotF f j m E)) := PermOn.refl _ _ _
        have HF := HMD.out.fin HP1.out HQ1.out (PermOn.refl _ _ _) (HQ2.out _ HP1.out) HG2.out
        have HFF : Hid (∃ f', SRow W0 w1 g n f' ∧ PermOn a b f f' ∧ Srt rem a b f') := HF
        clear HF
        go_wp2
        exact ⟨rfl, _, results_none rfl _ _ _, rfl, HFF.out⟩
      · -- a < j ∧ j < m
        have hfa : j ≤ m ∧ m ≤ E ∧ E ≤ b ∧ j ≤ mid ∧ mid ≤ E ∧ a ≤ j := by have := HJ.out; have := HEE.out; have := HLO.out; have := HMID.out; omega
        have tU : (j : Int) ≤ (m : Int) := by have := HJ.out; have := HEE.out; have := HLO.out; have := HMID.out; omega
        have tA : (j : Int) < (m : Int) := by have := HJ.out; have := HEE.out; have := HLO.out; have := HMID.out; omega
        have tB : (m : Int) < (mid : Int) + (m : Int) - (j : Int) := by have := HJ.out; have := HEE.out; have := HLO.out; have := HMID.out; omega
        have tC : (a : Int) < (j : Int) := by have := HJ.out; have := HEE.out; have := HLO.out; have := HMID.out; omega
        have tB2 : (j : Int) < (mid : Int) := by have := HJ.out; have := HEE.out; have := HLO.out; have := HMID.out; omega
        have tA2 : (mid : Int) < (mid : Int) + (m : Int) - (j : Int) := by have := HJ.out; have := HEE.out; have := HLO.out; have := HMID.out; omega
        have tD : (mid : Int) + (m : Int) - (j : Int) < (b : Int) := by have := HJ.out; have := HEE.out; have := HLO.out; have := HMID.out; omega
        have HROT : Hid (∀ u, SRow W0 u g n f → Calls Try.prog 57 #[.slice (some ⟨g, 0, none⟩) n cap, .int .i64 j, .int .i64 m, .int .i64 ((mid : Int) + (m : Int) - (j : Int)), .func (.func 33) #[] #[.pointer (some ⟨gb, 0, none⟩)]] u fun e w' => e = .returned (.tuple #[]) ∧ SRow W0 w' g n (rotF f j m E)) := fun u hu => by
          have := sRotOf (cap := cap) (a := j) (m := m) (b := E) (.func (.func 33) #[] #[.pointer (some ⟨gb, 0, none⟩)]) hu hn (by omega) (by have := HEI.out; omega) (by have := HJ.out; omega)
          rw [HEI.out] at this
          exact this
        have HLF : Hid (∀ u, SRow W0 u g n (rotF f j m E) → Calls Try.prog 45 #[.slice (some ⟨g, 0, none⟩) n cap, .int .i64 a, .int .i64 j, .int .i64 mid, .func (.func 33) #[] #[.pointer (some ⟨gb, 0, none⟩)]] u (SymPost W0 g n a mid (rotF f j m E) rem)) := fun u hu =>
          IH W0 u g gb n cap a j mid (rotF f j m E) rem (by have := HSZ.out; have := HJ.out; omega) hu HM.out hn (by omega) (by omega) (by have := HJ.out; omega) HMD.out.v HMD.out.H.s1 HMD.out.H.s2 HMD.out.H.p1
        have HRT : Hid (∀ u g2, SRow W0 u g n g2 → PermOn a mid (rotF f j m E) g2 → Calls Try.prog 45 #[.slice (some ⟨g, 0, none⟩) n cap, .int .i64 mid, .int .i64 ((mid : Int) + (m : Int) - (j : Int)), .int .i64 b, .func (.func 33) #[] #[.pointer (some ⟨gb, 0, none⟩)]] u (SymPost W0 g n mid b g2 rem)) := fun u g2 hu hp => by
          have q := HMD.out.right hfa.2.2.2.2.1 hp
          have := IH W0 u g gb n cap mid E b g2 rem (by have := HSZ.out; have := HJ.out; omega) hu HM.out hn (by have := HEI.out; omega) (by have := HEI.out; omega) h3 (hp.small (by have := HJ.out; omega) HMD.out.v) q.1 q.2.1 q.2.2
          rw [HEI.out] at this
          exact this
        clear hs hfa
        go_wp2_with fail
        refine (HROT.out _ HRi.out).mono ?_
        rintro e w1 ⟨rfl, hz⟩
        have HG1 : Hid (SRow W0 w1 g n (rotF f j m E)) := hz
        clear hz
        go_wp2_with fail
        refine (HLF.out _ HG1.out).mono ?_
        rintro e w2 ⟨rfl, g2, hz1, hz2, hz3⟩
        have HG2 : Hid (SRow W0 w2 g n g2) := hz1
        have HP1 : Hid (PermOn a mid (rotF f j m E) g2) := hz2
        have HQ1 : Hid (Srt rem a mid g2) := hz3
        clear hz1 hz2 hz3
        go_wp2_with fail
        refine (HRT.out _ _ HG2.out HP1.out).mono ?_
        rintro e w3 ⟨rfl, g3, hz1, hz2, hz3⟩
        have HF := HMD.out.fin HP1.out HQ1.out hz2 hz3 hz1
        have HFF : Hid (∃ f', SRow W0 w3 g n f' ∧ PermOn a b f f' ∧ Srt rem a b f') := HF
        clear hz1 hz2 hz3 HF
        go_wp2
        exact ⟨rfl, _, results_none rfl _ _ _, rfl, HFF.out⟩
      · -- j = m ∧ m < mid
        have hfa : j ≤ m ∧ m ≤ E ∧ E ≤ b ∧ j ≤ mid ∧ mid ≤ E ∧ a ≤ j := by have := HJ.out; have := HEE.out; have := HLO.out; have := HMID.out; omega
        have tU : (j : Int) ≤ (m : Int) := by have := HJ.out; have := HEE.out; have := HLO.out; have := HMID.out; omega
        have tA : ¬ (j : Int) < (m : Int) := by have := HJ.out; have := HEE.out; have := HLO.out; have := HMID.out; omega
        have tB : (m : Int) < (mid : Int) + (m : Int) - (j : Int) := by have := HJ.out; have := HEE.out; have := HLO.out; have := HMID.out; omega
        have tC : (a : Int) < (j : Int) := by have := HJ.out; have := HEE.out; have := HLO.out; have := HMID.out; omega
        have tB2 : (j : Int) < (mid : Int) := by have := HJ.out; have := HEE.out; have := HLO.out; have := HMID.out; omega
        have tA2 : ¬ (mid : Int) < (mid : Int) + (m : Int) - (j : Int) := by have := HJ.out; have := HEE.out; have := HLO.out; have := HMID.out; omega
        have HGE : Hid ((rotF f j m E) = f) := rotF_none (by have := HEI.out; omega) hfa.1 hfa.2.1
        have HLF : Hid (∀ u, SRow W0 u g n (rotF f j m E) → Calls Try.prog 45 #[.slice (some ⟨g, 0, none⟩) n cap, .int .i64 a, .int .i64 j, .int .i64 mid, .func (.func 33) #[] #[.pointer (some ⟨gb, 0, none⟩)]] u (SymPost W0 g n a mid (rotF f j m E) rem)) := fun u hu =>
          IH W0 u g gb n cap a j mid (rotF f j m E) rem (by have := HSZ.out; have := HJ.out; omega) hu HM.out hn (by omega) (by omega) (by have := HJ.out; omega) HMD.out.v HMD.out.H.s1 HMD.out.H.s2 HMD.out.H.p1
        have HQ2 : Hid (∀ g2, PermOn a mid (rotF f j m E) g2 → Srt rem mid b g2) := fun g2 hp => by
          have q := HMD.out.right hfa.2.2.2.2.1 hp
          exact q.1.joins q.2.1 (by have := HEI.out; omega)
        clear hs hfa
        have HG1 : Hid (SRow W0 wr g n (rotF f j m E)) := by unfold Hid; rw [HGE.out]; exact HRi.out
        go_wp2_with fail
        refine (HLF.out _ HG1.out).mono ?_
        rintro e w2 ⟨rfl, g2, hz1, hz2, hz3⟩
        have HG2 : Hid (SRow W0 w2 g n g2) := hz1
        have HP1 : Hid (PermOn a mid (rotF f j m E) g2) := hz2
        have HQ1 : Hid (Srt rem a mid g2) := hz3
        clear hz1 hz2 hz3
        have HF := HMD.out.fin HP1.out HQ1.out (PermOn.refl _ _ _) (HQ2.out _ HP1.out) HG2.out
        have HFF : Hid (∃ f', SRow W0 w2 g n f' ∧ PermOn a b f f' ∧ Srt rem a b f') := HF
        clear HF
        go_wp2
        exact ⟨rfl, _, results_none rfl _ _ _, rfl, HFF.out⟩
      · -- j = m ∧ m = mid
        have hfa : j ≤ m ∧ m ≤ E ∧ E ≤ b ∧ j ≤ mid ∧ mid ≤ E ∧ a ≤ j := by have := HJ.out; have := HEE.out; have := HLO.out; have := HMID.out; omega
        have tU : (j : Int) ≤ (m : Int) := by have := HJ.out; have := HEE.out; have := HLO.out; have := HMID.out; omega
        have tA : ¬ (j : Int) < (m : Int) := by have := HJ.out; have := HEE.out; have := HLO.out; have := HMID.out; omega
        have tB : ¬ (m : Int) < (mid : Int) + (m : Int) - (j : Int) := by have := HJ.out; have := HEE.out; have := HLO.out; have := HMID.out; omega
        have tC : (a : Int) < (j : Int) := by have := HJ.out; have := HEE.out; have := HLO.out; have := HMID.out; omega
        have tB2 : ¬ (j : Int) < (mid : Int) := by have := HJ.out; have := HEE.out; have := HLO.out; have := HMID.out; omega
        have tA2 : ¬ (mid : Int) < (mid : Int) + (m : Int) - (j : Int) := by have := HJ.out; have := HEE.out; have := HLO.out; have := HMID.out; omega
        have HGE : Hid ((rotF f j m E) = f) := rotF_none (by have := HEI.out; omega) hfa.1 hfa.2.1
        have HQ1 : Hid (Srt rem a mid (rotF f j m E)) := HMD.out.H.s1.joins HMD.out.H.s2 (by omega)
        have HQ2 : Hid (∀ g2, PermOn a mid (rotF f j m E) g2 → Srt rem mid b g2) := fun g2 hp => by
          have q := HMD.out.right hfa.2.2.2.2.1 hp
          exact q.1.joins q.2.1 (by have := HEI.out; omega)
        clear hs hfa
        have HG1 : Hid (SRow W0 wr g n (rotF f j m E)) := by unfold Hid; rw [HGE.out]; exact HRi.out
        have HG2 := HG1
        have HP1 : Hid (PermOn a mid (rotF f j m E) (rotF f j m E)) := PermOn.refl _ _ _
        have HF := HMD.out.fin HP1.out HQ1.out (PermOn.refl _ _ _) (HQ2.out _ HP1.out) HG2.out
        have HFF : Hid (∃ f', SRow W0 wr g n f' ∧ PermOn a b f f' ∧ Srt rem a b f') := HF
        clear HF
        go_wp2
        exact ⟨rfl, _, results_none rfl _ _ _, rfl, HFF.out⟩
theorem symAll : ∀ s, SymAt s
  | 0 => fun W0 W g gb n cap a m b f rem hsz h hr hn h1 h2 h3 hv hs1 hs2 hsep => by omega
  | s + 1 => fun W0 W g gb n cap a m b f rem hsz h hr hn h1 h2 h3 hv hs1 hs2 hsep => by
    by_cases e1 : m = a + 1
    · exact symLeft h hr hn e1 h2 h3 hv hs2 hsep
    · by_cases e2 : b = m + 1
      · exact symRight h hr hn (by omega) e2 h3 hv hs1 hsep
      · by_cases e3 : (a + b) / 2 < m
        · exact symMidA s (symAll s) (mid := (a + b) / 2) hsz h hr hn (by omega) (by omega) h3 hv hs1 hs2 hsep rfl e3
        · exact symMidB s (symAll s) (mid := (a + b) / 2) hsz h hr hn (by omega) (by omega) h3 hv hs1 hs2 hsep rfl (by omega)
end Go.Proofs.Ytbeaefokpggmpab
