import Derived.Test.YtelhjdplghpnbaaSeB
/-! The law on service: its walk. -/
namespace Go.Proofs.Ytelhjdplghpnbaa
open Go.RowKit Plain
set_option linter.unusedVariables false
set_option linter.unusedSimpArgs false

theorem boundR_succ (t : Tr) (i : Nat) (first : Int) (m : Nat) : boundR t i first (m + 1) = boundR t i first m + ((first / (t.q i).quantum + 2) * (t.q m).quantum + (t.q m).deficit) := by unfold boundR; rw [sumTo_succ]
theorem serve_term {t : Tr} (ok : OkR t) {i : Nat} (hi : i < t.qs.length) {first : Int} (h1 : 1 ≤ first ∧ first ≤ 1048576) {m : Nat} (hm : m < t.qs.length) : (2 ≤ first / (t.q i).quantum + 2 ∧ first / (t.q i).quantum + 2 ≤ 1048578) ∧ (0 ≤ (first / (t.q i).quantum + 2) * (t.q m).quantum ∧ (first / (t.q i).quantum + 2) * (t.q m).quantum ≤ 68719607808) ∧ (0 ≤ (t.q m).deficit ∧ (t.q m).deficit ≤ 1114111) := by
  have bi := badQ_is (ok.q i hi)
  have bm := badQ_is (ok.q m hm)
  have h2 : t.most m ≤ 1114111 := by unfold Tr.most; split <;> omega
  have h3 : 0 ≤ first / (t.q i).quantum := Int.ediv_nonneg (by omega) (by omega)
  have h4 : first / (t.q i).quantum ≤ first := Int.ediv_le_self _ (by omega)
  have h5 := mul_lo (a := first / (t.q i).quantum + 2) (b := (t.q m).quantum) (by omega) (by omega)
  have h6 := mul_hi (a := first / (t.q i).quantum + 2) (b := (t.q m).quantum) (A := 1048578) (B := 65536) (by omega) (by omega) (by omega) (by omega)
  exact ⟨⟨by omega, by omega⟩, ⟨h5, by omega⟩, bm.2.2.2.2.1, by omega⟩
theorem boundR_in {t : Tr} (ok : OkR t) {i : Nat} (hi : i < t.qs.length) {first : Int} (h1 : 1 ≤ first ∧ first ≤ 1048576) : ∀ m, m ≤ t.qs.length → 0 ≤ boundR t i first m ∧ boundR t i first m ≤ (m : Int) * 68720721919
  | 0, _ => by simp [boundR, sumTo]
  | m + 1, hm => by
    have ih := boundR_in ok hi h1 m (by omega)
    have ht := serve_term ok hi h1 (m := m) (by omega)
    rw [boundR_succ]
    push_cast
    omega
set_option maxHeartbeats 16000000 in
set_option maxRecDepth 100000 in
theorem servesWalk (hK : CheckOk) (hS : SchedOk) (t : Tr) (i : Int) (hi : I64 i) (v : Value) (w : World) (h : TrAt w v t) : Calls Try.prog 6 #[turV v t, .int .i64 i] w fun e w' => e = .returned (.bool true) ∧ Below w.heap.size w w' := by
  obtain ⟨a, cap, rfl⟩ := h.shape
  have HW : Hid (∀ u, Calls Try.prog 21 #[] u fun e w' => e = .returned (.bool true) ∧ Below u.heap.size u w') := fun u => worksOf hS u
  have HCK : Hid (∀ (t1 : Tr) a1 c1 u, TrAt u (.slice a1 t1.qs.length c1) t1 → Calls Try.prog 19 #[.agg #[.slice a1 t1.qs.length c1, .int .i64 t1.at', .bool t1.fresh]] u fun e w' => e = .returned (.int .i64 (chkT t1)) ∧ Below u.heap.size u w') := fun t1 a1 c1 u h => hK t1 _ u h
  have HNX : Hid (∀ (t1 : Tr) a1 c1 u, TrAt u (.slice a1 t1.qs.length c1) t1 → Calls Try.prog 12 #[.agg #[.slice a1 t1.qs.length c1, .int .i64 t1.at', .bool t1.fresh]] u (NxtA t1 u)) := fun t1 a1 c1 u h => hS.next t1 _ u h
  have HNM : Hid (∀ u, Calls Try.prog 12 #[.agg #[.slice none 0 0, .int .i64 (-1), .bool false]] u fun e w' => ∃ a N c z f i k, e = .returned (.tuple #[.agg #[.slice a N c, .int .i64 z, .bool f], .int .i64 i, .int .i64 k, .bool false]) ∧ Below u.heap.size u w') := fun u => by
    have ht : TrAt u (.slice none 0 0) ⟨[], -1, false⟩ := ⟨(turZero u).row, by constructor <;> simp only <;> omega⟩
    refine (hS.next ⟨[], -1, false⟩ _ u ht).mono ?_
    rintro e w' ⟨a', c', t', id, k, ok, rfl, h1, h2, h3⟩
    have := (h2.bad (by decide)).2.2.2
    subst this
    exact ⟨_, _, _, _, _, _, _, rfl, h3⟩
  have HWI : Hid (∀ (t1 : Tr) a1 c1 (I : Int) u, 0 ≤ I → I ≤ 9223372036854775807 → TrAt u (.slice a1 t1.qs.length c1) t1 → Calls Try.prog 20 #[.agg #[.slice a1 t1.qs.length c1, .int .i64 t1.at', .bool t1.fresh], .int .i64 I] u fun e w' => e = .returned (.bool (waitB t1 I)) ∧ Below u.heap.size u w') := fun t1 a1 c1 I u h1 h2 h => lwaitingOf t1 I h1 h2 _ u h
  clear hK hS
  have HT := Hid.mkT h
  clear h
  obtain ⟨l, z, f⟩ := t
  unfold turV
  simp only at *
  obtain ⟨w0, hw0⟩ : ∃ w0, w.alloc (.cells #[.slice a l.length cap, .int .i64 z, .bool f] 34) = w0 := ⟨_, rfl⟩
  obtain ⟨B, hB⟩ : ∃ B, w.heap.size = B := ⟨_, rfl⟩
  have HL0 : Hid (LtS w w0 B (.slice a l.length cap) ⟨l, z, f⟩) := by
    have hb := (turBox w (.slice a l.length cap) z f).1
    have hx := BoxT.new w (.slice a l.length cap) ⟨l, z, f⟩ z f rfl rfl
    rw [hw0] at hb hx
    rw [hB] at hx
    exact ⟨hx, HT.out.later hb, hb, by omega⟩
  obtain ⟨b0, b1, b2, -, -⟩ := HL0.out.box
  simp only at b1 b2
  go_enter Try.func6, Try.ntmps6
  go_wp2_with fail
  refine (HCK.out ⟨l, z, f⟩ _ _ _ HL0.out.rd).mono ?_
  rintro e w1 ⟨rfl, hb1⟩
  have HL1 := Hid.mkT (HL0.out.later hb1)
  clear hb1 b0 b1 b2
  obtain ⟨b0, b1, b2, -, -⟩ := HL1.out.box
  simp only at b1 b2
  have HOK : Hid (chkT ⟨l, z, f⟩ = 0 → OkR ⟨l, z, f⟩) := chk_ok.mp
  generalize chkT ⟨l, z, f⟩ = A at *
  by_cases g0 : A = 0
  case neg =>
    have g0' : (A == 0) = false := by simpa using g0
    go_wp2_with fail
    refine (HNM.out _).mono ?_
    rintro e wy ⟨ya, yN, yc, yz, yf, yi, yk, rfl, hby⟩
    obtain ⟨wz, hwz⟩ : ∃ wz, wy.alloc (.cells #[.slice ya yN yc, .int .i64 yz, .bool yf] 34) = wz := ⟨_, rfl⟩
    have hbz : Below wy.heap.size wy wz := by have := (turBox wy (.slice ya yN yc) yz yf).1; rw [hwz] at this; exact this
    have HFZ := Hid.mkT (below_of HL1.out.below (below_of hby hbz))
    clear hby hbz
    go_wp2_with fail
    refine (HW.out _).mono ?_
    rintro e wx ⟨rfl, hbx⟩
    have HF := Hid.mkT (below_of HFZ.out hbx)
    clear hbx
    go_wp2
    go_ret
    exact ⟨by first | rfl | simp, by first | exact HF.out | (rw [← hB]; exact HF.out)⟩
  have ok := HOK.out g0
  have g0' : (A == 0) = true := by rw [g0]; rfl
  subst g0
  by_cases g1 : i < 0
  · have g1' : decide (i < 0) = true := decide_eq_true g1
    go_wp2_with fail
    refine (HNM.out _).mono ?_
    rintro e wy ⟨ya, yN, yc, yz, yf, yi, yk, rfl, hby⟩
    obtain ⟨wz, hwz⟩ : ∃ wz, wy.alloc (.cells #[.slice ya yN yc, .int .i64 yz, .bool yf] 34) = wz := ⟨_, rfl⟩
    have hbz : Below wy.heap.size wy wz := by have := (turBox wy (.slice ya yN yc) yz yf).1; rw [hwz] at this; exact this
    have HFZ := Hid.mkT (below_of HL1.out.below (below_of hby hbz))
    clear hby hbz
    go_wp2_with fail
    refine (HW.out _).mono ?_
    rintro e wx ⟨rfl, hbx⟩
    have HF := Hid.mkT (below_of HFZ.out hbx)
    clear hbx
    go_wp2
    go_ret
    exact ⟨by first | rfl | simp, by first | exact HF.out | (rw [← hB]; exact HF.out)⟩
  have g1' : decide (i < 0) = false := decide_eq_false g1
  obtain ⟨I, rfl⟩ : ∃ I : Nat, i = (I : Int) := ⟨i.toNat, by omega⟩
  have hi2 := hi.2
  have HOKR := Hid.mkT ok
  clear ok HOK
  go_wp2_with fail
  refine (HWI.out ⟨l, z, f⟩ _ _ _ _ (by omega) (by omega) HL1.out.rd).mono ?_
  rintro e w2 ⟨rfl, hb2⟩
  have HL2 := Hid.mkT (HL1.out.later hb2)
  clear hb2 b0 b1 b2
  obtain ⟨b0, b1, b2, -, -⟩ := HL2.out.box
  simp only at b1 b2
  have HWX : Hid (waitB ⟨l, z, f⟩ (I : Int) = true → I < (Tr.mk l z f).qs.length ∧ ((Tr.mk l z f).q I).costs ≠ []) := waitB_is
  generalize waitB ⟨l, z, f⟩ (I : Int) = W1 at *
  cases W1 with
  | false =>
    go_wp2_with fail
    refine (HNM.out _).mono ?_
    rintro e wy ⟨ya, yN, yc, yz, yf, yi, yk, rfl, hby⟩
    obtain ⟨wz, hwz⟩ : ∃ wz, wy.alloc (.cells #[.slice ya yN yc, .int .i64 yz, .bool yf] 34) = wz := ⟨_, rfl⟩
    have hbz : Below wy.heap.size wy wz := by have := (turBox wy (.slice ya yN yc) yz yf).1; rw [hwz] at this; exact this
    have HFZ := Hid.mkT (below_of HL2.out.below (below_of hby hbz))
    clear hby hbz
    go_wp2_with fail
    refine (HW.out _).mono ?_
    rintro e wx ⟨rfl, hbx⟩
    have HF := Hid.mkT (below_of HFZ.out hbx)
    clear hbx
    go_wp2
    go_ret
    exact ⟨by first | rfl | simp, by first | exact HF.out | (rw [← hB]; exact HF.out)⟩
  | true =>
  obtain ⟨hIl, hIw⟩ := HWX.out rfl
  simp only at hIl
  obtain ⟨first, rest, hcs⟩ : ∃ first rest, ((Tr.mk l z f).q I).costs = first :: rest := by
    cases e : ((Tr.mk l z f).q I).costs with
    | nil => exact absurd e hIw
    | cons c cs => exact ⟨c, cs, rfl⟩
  clear HWX hIw
  have hfst := HOKR.out.cost_ok (x := I) hIl hcs
  have HSE : Hid (SeI ⟨l, z, f⟩ ⟨l, z, f⟩ I first 0) := SeI.start HOKR.out hIl hcs
  obtain ⟨qb, qo, qa, qc, rfl, hq1, hq2, hq3, hq4⟩ := HL2.out.rd.row.at hIl
  obtain ⟨⟨x0, x1, x2, x3⟩, xin⟩ := hq1 _ (Below.refl _ _)
  simp only at x0 x1 x2 x3
  change (l.getD I Qu.zero).costs = first :: rest at hcs
  rw [hcs] at xin x3
  obtain ⟨cb, co, rfl, y0, yi⟩ := xin.cell (i := 0) (by simp)
  simp only [Nat.add_zero, List.getD_cons_zero] at y0 yi
  have hqu := (badQ_is (HOKR.out.q I hIl)).2.2
  have HBR := Hid.mkT (boundR_in HOKR.out (i := I) hIl hfst)
  have HTM : Hid (∀ m, m < l.length → (2 ≤ first / (l.getD I Qu.zero).quantum + 2 ∧ first / (l.getD I Qu.zero).quantum + 2 ≤ 1048578) ∧ (0 ≤ (first / (l.getD I Qu.zero).quantum + 2) * (l.getD m Qu.zero).quantum ∧ (first / (l.getD I Qu.zero).quantum + 2) * (l.getD m Qu.zero).quantum ≤ 68719607808) ∧ (0 ≤ (l.getD m Qu.zero).deficit ∧ (l.getD m Qu.zero).deficit ≤ 1114111) ∧ boundR ⟨l, z, f⟩ I first (m + 1) = boundR ⟨l, z, f⟩ I first m + ((first / (l.getD I Qu.zero).quantum + 2) * (l.getD m Qu.zero).quantum + (l.getD m Qu.zero).deficit)) := fun m hm => by
    obtain ⟨a1, a2, a3⟩ := serve_term HOKR.out (i := I) hIl hfst (m := m) hm
    exact ⟨a1, a2, a3, boundR_succ _ _ _ _⟩
  have HB0 : Hid (boundR ⟨l, z, f⟩ I first 0 = 0) := rfl
  have HLESS : Hid (∀ T n, SeI ⟨l, z, f⟩ T I first n → n < boundR ⟨l, z, f⟩ I first l.length) := fun T n hh => hh.less HOKR.out
  simp only at HBR
  generalize hbo : (fun m => boundR ⟨l, z, f⟩ I first m) = bo at *
  have HBO : Hid (∀ m, boundR ⟨l, z, f⟩ I first m = bo m) := fun m => by rw [← hbo]
  have HBR2 : Hid (∀ m, m ≤ l.length → 0 ≤ bo m ∧ bo m ≤ (m : Int) * 68720721919) := fun m hm => by rw [← HBO.out]; exact HBR.out m hm
  have HLE2 : Hid (∀ T n, SeI ⟨l, z, f⟩ T I first n → n < bo l.length) := fun T n hh => by rw [← HBO.out]; exact HLESS.out T n hh
  have HB02 : Hid (bo 0 = 0) := by rw [Hid, ← HBO.out]; exact HB0.out
  have HID : Hid (((Tr.mk l z f).q I).id = (l.getD I Qu.zero).id) := rfl
  obtain ⟨xi, hxi⟩ : ∃ xi, (l.getD I Qu.zero).id = xi := ⟨_, rfl⟩
  obtain ⟨xq, hxq⟩ : ∃ xq, (l.getD I Qu.zero).quantum = xq := ⟨_, rfl⟩
  have hq : 1 ≤ xq ∧ xq ≤ 65536 := by rw [← hxq]; exact ⟨hqu.1, hqu.2.1⟩
  rw [hxi] at x0 HID
  rw [hxq] at x1 HTM
  have HTM2 : Hid (∀ m, m < l.length → (0 ≤ (first / xq + 2) * (l.getD m Qu.zero).quantum ∧ (first / xq + 2) * (l.getD m Qu.zero).quantum ≤ 68719607808) ∧ (0 ≤ (l.getD m Qu.zero).deficit ∧ (l.getD m Qu.zero).deficit ≤ 1114111) ∧ bo (m + 1) = bo m + ((first / xq + 2) * (l.getD m Qu.zero).quantum + (l.getD m Qu.zero).deficit)) := fun m hm => by
    obtain ⟨-, a2, a3, a4⟩ := HTM.out m hm
    rw [HBO.out, HBO.out] at a4
    exact ⟨a2, a3, a4⟩
  have hR := (HTM.out I hIl).1
  have htd : first.tdiv xq = first / xq := Int.tdiv_eq_ediv_of_nonneg (by omega)
  generalize hRR : first / xq + 2 = R at *
  have hqz : ¬ xq = 0 := by omega
  obtain ⟨D, hD⟩ : ∃ D, first / xq = D := ⟨_, rfl⟩
  have hD2 : D + 2 = R := by rw [← hD]; exact hRR
  rw [hD] at htd
  have hIi : (I : Int) < (l.length : Int) := by omega
  have hfew : l.length ≤ 32 := HOKR.out.few
  clear hxi hxq hq1 hq2 hq3 hq4 xin x2 hqu HTM HBR HB0 HLESS hbo hRR hD HBO hcs yi
  have v1 : IntKind.i64.wrap D = D := IntWalk.i64_in _ ⟨by omega, by omega⟩
  have v2 : IntKind.i64.wrap (D + 2) = D + 2 := IntWalk.i64_in _ ⟨by omega, by omega⟩
  go_wp2
  go_loopw [12, 13] (fun s12 s13 u => ∃ (m : Nat), m ≤ l.length ∧ s12 = .int .i64 (bo m) ∧ s13 = .int .i64 m ∧ Hid (LtS w u B (.slice (some ⟨qb, qo, none⟩) l.length cap) ⟨l, z, f⟩)) (fun _ s13 _ => l.length - (intOf s13).toNat)
  case atStart => exact ⟨0, by omega, by rw [HB02.out], rfl, HL2.out⟩
  case round =>
    obtain ⟨m, hm, rfl, rfl, HL⟩ := hrel
    clear b0 b1 b2 x0 x1 x3 y0
    obtain ⟨b0, b1, b2, -, -⟩ := HL.out.box
    simp only at b1 b2
    by_cases hml : m < l.length
    · have hmi : (m : Int) < (l.length : Int) := by omega
      obtain ⟨qb', qo', qa', qc', e2, hq1, -, -, -⟩ := HL.out.rd.row.at hml
      simp only [Option.some.injEq, Addr.mk.injEq, and_true] at e2
      obtain ⟨rfl, rfl⟩ := e2
      obtain ⟨⟨-, x1, x2, -⟩, -⟩ := hq1 _ (Below.refl _ _)
      simp only at x1 x2
      obtain ⟨⟨m1, m2⟩, ⟨m3, m4⟩, hsc⟩ := HTM2.out m hml
      have hbm := HBR2.out m hm
      obtain ⟨bm, hbm2⟩ : ∃ bm, bo m = bm := ⟨_, rfl⟩
      have HSC := Hid.mkT hsc
      rw [hbm2] at hbm HSC
      rw [hbm2]
      clear hq1 hsc hbm2
      obtain ⟨uq, huq⟩ : ∃ uq, (l.getD m Qu.zero).quantum = uq := ⟨_, rfl⟩
      obtain ⟨ud, hud⟩ : ∃ ud, (l.getD m Qu.zero).deficit = ud := ⟨_, rfl⟩
      rw [huq] at x1 m1 m2 HSC
      rw [hud] at x2 m3 m4 HSC
      clear huq hud
      obtain ⟨X, hX⟩ : ∃ X, R * uq = X := ⟨_, rfl⟩
      rw [hX] at m1 m2 HSC
      have hX2 : (D + 2) * uq = X := by rw [hD2]; exact hX
      have v3 : IntKind.i64.wrap X = X := IntWalk.i64_in _ ⟨by omega, by omega⟩
      have v4 : IntKind.i64.wrap (bm + X) = bm + X := IntWalk.i64_in _ ⟨by omega, by omega⟩
      have v5 : IntKind.i64.wrap (bm + X + ud) = bm + X + ud := IntWalk.i64_in _ ⟨by omega, by omega⟩
      have HDX : Hid (∀ n, LtS w (wr.drewN n) B (.slice (some ⟨qb, qo, none⟩) l.length cap) ⟨l, z, f⟩) := fun n => HL.out.later (below_drawn wr n)
      go_wp2
      go_quiet (fail)
      go_wp2
      go_roundw
      case rel => exact ⟨m + 1, by omega, by rw [HSC.out]; first | rfl | (congr 1; omega), by go_num, HDX.out _⟩
      case measure => simp only [intOf]; omega
    · have hmn : l.length = m := by omega
      have HMN := Hid.mkT hmn
      have hbm := HBR2.out m hm
      have HLT : Hid (∀ T n, SeI ⟨l, z, f⟩ T I first n → n < bo m) := fun T n hh => by have := HLE2.out T n hh; rw [hmn] at this; exact this
      have hm32 : m ≤ 32 := by omega
      clear hmn
      have hmn : ¬ (m : Int) < (l.length : Int) := by have := HMN.out; omega
      obtain ⟨bd, hbd⟩ : ∃ bd, bo m = bd := ⟨_, rfl⟩
      rw [hbd] at hbm HLT
      rw [hbd]
      have hbd2 : bd ≤ 2199063101408 := by omega
      clear hbd HLE2 HBR2 HTM2 HB02
      go_wp2
      go_loopw [14] (fun s14 u => ∃ (n : Nat) (T : Tr) (ta : Option Addr) (tc : Nat), s14 = .int .i64 n ∧ Hid (LtS w u B (.slice ta T.qs.length tc) T) ∧ Hid (SeI ⟨l, z, f⟩ T I first n)) (fun s14 _ => bd.toNat - (intOf s14).toNat)
      case atStart => exact ⟨0, ⟨l, z, f⟩, _, _, rfl, HL.out, HSE.out⟩
      case round =>
        obtain ⟨n, T, ta, tc, rfl, HLT2, HSI⟩ := hrel
        clear b0 b1 b2
        obtain ⟨b0, b1, b2, -, -⟩ := HLT2.out.box
        have hnb := HLT.out T n HSI.out
        go_wp2_with fail
        refine (HNX.out _ _ _ _ HLT2.out.rd).mono ?_
        rintro e w5 ⟨na, nc, T', id, k, okB, rfl, hnew, hnxt, hb5⟩
        obtain ⟨rfl, hok', hlen, ⟨x, hsv, hxl⟩, ⟨hk1, hk2⟩, hse⟩ := HSI.out.step hnxt
        have HLEN := Hid.mkT hlen
        have HCK0 : Hid (chkT T' = 0) := chk_ok.mpr hok'
        have HSE' := Hid.mkT hse
        have HSV := Hid.mkT hsv
        have HTL : Hid (T.qs.length ≤ 32) := HSI.out.ok.few
        have HIDE : Hid (∀ k, k < T.qs.length → ((T.q k).id = id ↔ k = x)) := fun k hk => by
          have : id = (T.q x).id := hsv.id_
          rw [this]
          exact HSI.out.ok.ids_eq hk hxl
        clear hnxt hse hok' hsv hlen
        have hBl := HLT2.out.box.lt
        obtain ⟨l', z', f'⟩ := T'
        obtain ⟨lt, zt, ft⟩ := T
        unfold turV
        simp only at *
        obtain ⟨w6, hw6⟩ : ∃ w6, w5.alloc (.cells #[.slice na l'.length nc, .int .i64 z', .bool f'] 34) = w6 := ⟨_, rfl⟩
        obtain ⟨A1, hA1⟩ : ∃ A1, w5.heap.size = A1 := ⟨_, rfl⟩
        have hb6 : Below w5.heap.size w5 w6 := by have := (turBox w5 (.slice na l'.length nc) z' f').1; rw [hw6] at this; exact this
        have HX6 : Hid (BoxT w6 A1 (.slice na l'.length nc) ⟨l', z', f'⟩) := by have := BoxT.new w5 (.slice na l'.length nc) ⟨l', z', f'⟩ z' f' rfl rfl; rw [hw6, hA1] at this; exact this
        have HL6 := Hid.mkT (HLT2.out.later (below_of hb5 hb6))
        have HN6 := Hid.mkT (hnew.later hb6)
        clear hnew hb5 hb6 b0 b1 b2
        obtain ⟨d0, d1, d2, -, -⟩ := HX6.out
        simp only at d1 d2
        go_wp2_with fail
        refine (HCK.out ⟨l', z', f'⟩ _ _ _ HN6.out.reads).mono ?_
        rintro e w8 ⟨rfl, hb8⟩
        rw [HCK0.out]
        have HL8 := Hid.mkT (HL6.out.later hb8)
        have HN8 := Hid.mkT (HN6.out.later hb8)
        have HX8 := Hid.mkT (HX6.out.later hb8)
        clear hb8 d0 d1 d2 HL6 HN6 HX6
        have HLE : Hid (l'.length = lt.length) := HLEN.out
        obtain ⟨b0, b1, b2, -, -⟩ := HL8.out.box
        obtain ⟨d0, d1, d2, -, -⟩ := HX8.out
        simp only at b1 b2 d1 d2
        have hll : ((l'.length : Int) != (lt.length : Int)) = false := by rw [HLE.out]; simp
        have hlt32 := HTL.out
        go_wp2
        go_loopw [19] (fun s19 u => ∃ (k : Nat), k ≤ lt.length ∧ s19 = .int .i64 k ∧ Hid (Below w8.heap.size w8 u)) (fun s19 _ => lt.length - (intOf s19).toNat)
        case atStart => exact ⟨0, by omega, rfl, Below.refl _ _⟩
        case round =>
          obtain ⟨kk, hkk, rfl, HBW⟩ := hrel
          have HL9 := Hid.mkT (HL8.out.later HBW.out)
          have HX9 := Hid.mkT (HX8.out.later HBW.out)
          clear b0 b1 b2 d0 d1 d2
          obtain ⟨b0, b1, b2, bf, -⟩ := HL9.out.box
          obtain ⟨d0, d1, d2, -, -⟩ := HX9.out
          simp only at b1 b2 d1 d2
          by_cases hkl : kk < lt.length
          · have hki : (kk : Int) < (lt.length : Int) := by omega
            have hkl' : kk < l'.length := by rw [HLE.out]; exact hkl
            have hki' : (kk : Int) < (l'.length : Int) := by omega
            obtain ⟨pb, po, pa, pc, rfl, hp1, -, -, -⟩ := HL8.out.rd.row.at hkl
            obtain ⟨ub, uo, ua, uc, rfl, hu1, -, -, -⟩ := HN8.out.reads.row.at hkl'
            have HP := Hid.mkT hp1
            have HU := Hid.mkT hu1
            obtain ⟨⟨p0, p1, p2, p3⟩, pin⟩ := hp1 _ HBW.out
            have hcm := pin.most
            clear hp1 hu1 pin
            have HS1 : Hid ((l'.getD kk Qu.zero).id = (lt.getD kk Qu.zero).id ∧ (l'.getD kk Qu.zero).quantum = (lt.getD kk Qu.zero).quantum) := HSV.out.same kk
            have HS2 : Hid (kk = x → (lt.getD kk Qu.zero).costs = k :: (l'.getD kk Qu.zero).costs) := fun e => by rw [e]; exact HSV.out.cost
            have HS3 : Hid (kk ≠ x → (l'.getD kk Qu.zero).costs = (lt.getD kk Qu.zero).costs) := fun e => HSV.out.oth kk e
            have HS4 : Hid ((lt.getD kk Qu.zero).id = id ↔ kk = x) := HIDE.out kk hkl
            obtain ⟨P, hP⟩ : ∃ P, lt.getD kk Qu.zero = P := ⟨_, rfl⟩
            obtain ⟨U, hU⟩ : ∃ U, l'.getD kk Qu.zero = U := ⟨_, rfl⟩
            rw [hP] at p0 p1 p2 p3 HP HS1 HS2 HS3 HS4 hcm
            rw [hU] at HU HS1 HS2 HS3
            clear hP hU
            obtain ⟨Pi, Pq, Pd, Pc⟩ := P
            obtain ⟨Ui, Uq, Ud, Uc⟩ := U
            simp only at p0 p1 p2 p3 HP HU HS1 HS2 HS3 HS4 hcm
            obtain ⟨rfl, rfl⟩ := HS1.out
            obtain ⟨wa, hwa⟩ : ∃ wa, wr.alloc (.cells #[.int .i64 Ui, .int .i64 Uq, .int .i64 Pd, .slice pa Pc.length pc] 47) = wa := ⟨_, rfl⟩
            obtain ⟨wb, hwb⟩ : ∃ wb, wa.alloc (.cells #[.int .i64 Ui, .int .i64 Uq, .int .i64 Ud, .slice ua Uc.length uc] 47) = wb := ⟨_, rfl⟩
            obtain ⟨D1, hD1⟩ : ∃ D1, wr.heap.size = D1 := ⟨_, rfl⟩
            have sa : wa.heap.size = D1 + 1 := by rw [← hwa, ← hD1]; simp
            obtain ⟨q1', q2'⟩ := queBox wr Ui Uq Pd (.slice pa Pc.length pc)
            obtain ⟨q3', q4'⟩ := queBox wa Ui Uq Ud (.slice ua Uc.length uc)
            rw [hwa] at q1' q2'
            rw [hwb] at q3' q4'
            rw [hD1] at q2'
            rw [sa] at q4'
            have HBa : Hid (Below w8.heap.size w8 wa) := below_of HBW.out q1'
            have HBb : Hid (Below w8.heap.size w8 wb) := below_of HBa.out q3'
            have HQ : Hid (∀ u, Below wb.heap.size wb u → (u.cell? ⟨D1, 0, none⟩ = some (.int .i64 Ui) ∧ u.cell? ⟨D1, 1, none⟩ = some (.int .i64 Uq) ∧ u.cell? ⟨D1, 2, none⟩ = some (.int .i64 Pd) ∧ u.cell? ⟨D1, 3, none⟩ = some (.slice pa Pc.length pc)) ∧ u.cell? ⟨D1 + 1, 0, none⟩ = some (.int .i64 Ui) ∧ u.cell? ⟨D1 + 1, 1, none⟩ = some (.int .i64 Uq) ∧ u.cell? ⟨D1 + 1, 2, none⟩ = some (.int .i64 Ud) ∧ u.cell? ⟨D1 + 1, 3, none⟩ = some (.slice ua Uc.length uc)) := fun u hu => ⟨q2' u (below_of q3' hu), q4' u hu⟩
            obtain ⟨n0, n1, n2, -, -⟩ := HX8.out.later HBa.out
            simp only at n1 n2
            obtain ⟨⟨r0, r1, r2, r3⟩, uin⟩ := HU.out wa HBa.out
            simp only at r0 r1 r2 r3
            have hum := uin.most
            obtain ⟨⟨s0, s1, s2, s3⟩, t0, t1, t2, t3⟩ := HQ.out wb (Below.refl _ _)
            clear q1' q2' q3' q4' uin HW HNX HNM HWI HCK HSE HLT HSE' HLEN HN8 HT HL0 HL1 HL2 HOKR
            by_cases hkx : kk = x
            · have hcs := HS2.out hkx
              have hPn : Pc.length = Uc.length + 1 := by rw [hcs]; simp
              have HCS := Hid.mkT hcs
              have e1 : (Ui == id) = true := by simpa using HS4.out.mpr hkx
              obtain ⟨pyb, pyo, rfl, py, -⟩ := (HP.out wb HBb.out).2.cell (i := 0) (by omega)
              have py0 : Pc.getD 0 0 = k := by rw [hcs]; rfl
              rw [py0, Nat.add_zero] at py
              have hPi : (Pc.length : Int) = (Uc.length : Int) + 1 := by omega
              have hPi2 : ((Pc.length : Int) != (Uc.length : Int) + 1) = false := by rw [hPi]; simp
              have hP0 : 0 < Pc.length := by omega
              have hP0i : (0 : Int) < (Pc.length : Int) := by omega
              have v6 : IntKind.i64.wrap ((Uc.length : Int) + 1) = (Uc.length : Int) + 1 := IntWalk.i64_in _ ⟨by omega, by omega⟩
              have HPN := Hid.mkT hPn
              clear hcs py0 hPi hPn hkx
              go_wp2
              go_loopw [23] (fun s23 u => ∃ m2 : Nat, m2 ≤ Uc.length ∧ s23 = .int .i64 m2 ∧ Hid (Below wb.heap.size wb u)) (fun s23 _ => Uc.length - (intOf s23).toNat)
              case atStart => exact ⟨0, by omega, rfl, Below.refl _ _⟩
              case round =>
                obtain ⟨m2, hm2, rfl, HBV⟩ := hrel
                clear s0 s1 s2 s3 t0 t1 t2 t3 py
                obtain ⟨⟨s0, s1, s2, s3⟩, t0, t1, t2, t3⟩ := HQ.out wr HBV.out
                have HBX : Hid (Below w8.heap.size w8 wr) := below_of HBb.out HBV.out
                by_cases hml2 : m2 < Uc.length
                · obtain ⟨cb2, co2, rfl, y2, -⟩ := (HU.out wr HBX.out).2.cell (i := m2) hml2
                  have hmi2 : (m2 : Int) < (Uc.length : Int) := by omega
                  obtain ⟨cb3, co3, e3, y3, -⟩ := (HP.out wr HBX.out).2.cell (i := m2 + 1) (by rw [HPN.out]; omega)
                  simp only [Option.some.injEq, Addr.mk.injEq, and_true] at e3
                  obtain ⟨rfl, rfl⟩ := e3
                  have ey : Pc.getD (m2 + 1) 0 = Uc.getD m2 0 := by rw [HCS.out]; rfl
                  rw [ey] at y3
                  clear ey
                  generalize Uc.getD m2 0 = y at *
                  obtain ⟨m3, hm3⟩ : ∃ m3 : Nat, m2 + 1 = m3 := ⟨_, rfl⟩
                  rw [hm3] at y3
                  have hm3i : (m2 : Int) + 1 = (m3 : Int) := by omega
                  have v7 : IntKind.i64.wrap (m3 : Int) = (m3 : Int) := IntWalk.i64_in _ ⟨by omega, by omega⟩
                  have hm3l : (m3 : Int) < (Pc.length : Int) := by have := HPN.out; omega
                  have hm3n : m3 < Pc.length := by have := HPN.out; omega
                  have HDX2 : Hid (∀ n, Below wb.heap.size wb (wr.drewN n)) := fun n => below_of HBV.out (below_drawn wr n)
                  go_wp2
                  go_quiet (fail)
                  go_wp2
                  go_roundw
                  case rel => exact ⟨m2 + 1, by omega, by go_num, HDX2.out _⟩
                  case measure => simp only [intOf]; omega
                · have hmn2 : ¬ (m2 : Int) < (Uc.length : Int) := by omega
                  go_wp2
                  go_roundw
                  case rel => exact ⟨kk + 1, by omega, by go_num, HBX.out⟩
                  case measure => simp only [intOf]; omega
            · have hcs := HS3.out hkx
              have e1 : (Ui == id) = false := by simpa using fun e => hkx (HS4.out.mp e)
              subst hcs
              clear hkx
              have v6 : IntKind.i64.wrap (Uc.length : Int) = (Uc.length : Int) := IntWalk.i64_in _ ⟨by omega, by omega⟩
              go_wp2
              go_loopw [23] (fun s23 u => ∃ m2 : Nat, m2 ≤ Uc.length ∧ s23 = .int .i64 m2 ∧ Hid (Below wb.heap.size wb u)) (fun s23 _ => Uc.length - (intOf s23).toNat)
              case atStart => exact ⟨0, by omega, rfl, Below.refl _ _⟩
              case round =>
                obtain ⟨m2, hm2, rfl, HBV⟩ := hrel
                clear s0 s1 s2 s3 t0 t1 t2 t3
                obtain ⟨⟨s0, s1, s2, s3⟩, t0, t1, t2, t3⟩ := HQ.out wr HBV.out
                have HBX : Hid (Below w8.heap.size w8 wr) := below_of HBb.out HBV.out
                by_cases hml2 : m2 < Uc.length
                · obtain ⟨cb2, co2, rfl, y2, -⟩ := (HU.out wr HBX.out).2.cell (i := m2) hml2
                  have hmi2 : (m2 : Int) < (Uc.length : Int) := by omega
                  obtain ⟨cb3, co3, rfl, y3, -⟩ := (HP.out wr HBX.out).2.cell (i := m2) hml2
                  generalize Uc.getD m2 0 = y at *
                  have v7 : IntKind.i64.wrap (m2 : Int) = (m2 : Int) := IntWalk.i64_in _ ⟨by omega, by omega⟩
                  have HDX2 : Hid (∀ n, Below wb.heap.size wb (wr.drewN n)) := fun n => below_of HBV.out (below_drawn wr n)
                  go_wp2
                  go_quiet (fail)
                  go_wp2
                  go_roundw
                  case rel => exact ⟨m2 + 1, by omega, by go_num, HDX2.out _⟩
                  case measure => simp only [intOf]; omega
                · have hmn2 : ¬ (m2 : Int) < (Uc.length : Int) := by omega
                  go_wp2
                  go_roundw
                  case rel => exact ⟨kk + 1, by omega, by go_num, HBX.out⟩
                  case measure => simp only [intOf]; omega
          · have hkn : ¬ (kk : Int) < (lt.length : Int) := by omega
            rcases HSE'.out with ⟨e1, e2⟩ | ⟨e1, e2⟩
            · have e1' : (id == xi) = true := by rw [e1, HID.out]; simp
              have e2' : (k == first) = true := by rw [e2]; simp
              have HF := Hid.mkT HL9.out.below
              clear e1 e2
              go_wp2
              go_ret
              exact ⟨by first | rfl | simp, by first | exact HF.out | (rw [← hB]; exact HF.out)⟩
            · have e1' : (id == xi) = false := by rw [HID.out] at e1; simpa using e1
              have bf0 := bf 0 (by omega)
              have bf1 := bf 1 (by omega)
              have bf2 := bf 2 (by omega)
              have HL10 : Hid (LtS w (((wr.setCell ⟨B, 0, none⟩ (.slice na l'.length nc)).setCell ⟨B, 1, none⟩ (.int .i64 z')).setCell ⟨B, 2, none⟩ (.bool f')) B (.slice na l'.length nc) ⟨l', z', f'⟩) := HL9.out.store (HN8.out.later HBW.out) hBl
              have HS10 := Hid.mkT e2
              clear e1 e2 bf
              go_wp2
              go_roundw
              case rel => exact ⟨n + 1, ⟨l', z', f'⟩, _, _, by go_num, HL10.out, by push_cast; exact HS10.out⟩
              case measure => simp only [intOf]; omega
end Go.Proofs.Ytelhjdplghpnbaa
