import Derived.Test.YtelhjdplghpnbaaSdZ
import Derived.Test.YtelhjdplghpnbaaSdS
/-! The law on fairness: its walk. -/
namespace Go.Proofs.Ytelhjdplghpnbaa
open Go.RowKit Plain
set_option linter.unusedVariables false
set_option linter.unusedSimpArgs false

theorem waitB_is {t : Tr} {I : Nat} (h : waitB t (I : Int) = true) : I < t.qs.length ∧ (t.q I).costs ≠ [] := by
  unfold waitB at h
  simp only [Int.toNat_natCast, Bool.and_eq_true, decide_eq_true_eq] at h
  refine ⟨by omega, fun e => ?_⟩
  have : (t.qs.getD I Qu.zero).costs = [] := e
  rw [this] at h
  simp at h
theorem mul_lo {a b : Int} (ha : 0 ≤ a) (hb : 0 ≤ b) : 0 ≤ a * b := Int.mul_nonneg ha hb
theorem mul_hi {a b A B : Int} (ha : 0 ≤ a) (hb : 0 ≤ b) (h1 : a ≤ A) (h2 : b ≤ B) : a * b ≤ A * B := Int.mul_le_mul h1 h2 hb (by omega)
/-- What is reckoned of the two queues. -/
theorem fair_nums {si sj p q C : Int} (h1 : 0 ≤ si ∧ si ≤ 10486808576) (h2 : 0 ≤ sj ∧ sj ≤ 10486808576) (h3 : 1 ≤ p ∧ p ≤ 65536 ∧ 1 ≤ q ∧ q ≤ 65536) (h4 : 0 ≤ C ∧ C ≤ 1114111) :
    (0 ≤ si * q ∧ si * q ≤ 687263486836736) ∧ (0 ≤ sj * p ∧ sj * p ≤ 687263486836736) ∧ (0 ≤ 3 * p * q ∧ 3 * p * q ≤ 12884901888) ∧ (0 ≤ C * (p + q) ∧ C * (p + q) ≤ 146028756992) := by
  obtain ⟨p1, p2, q1, q2⟩ := h3
  have a1 := mul_hi h1.1 (by omega : 0 ≤ q) h1.2 q2
  have a2 := mul_hi h2.1 (by omega : 0 ≤ p) h2.2 p2
  have a3 := mul_hi (by omega : 0 ≤ 3 * p) (by omega : 0 ≤ q) (by omega : 3 * p ≤ 196608) q2
  have a4 := mul_hi h4.1 (by omega : 0 ≤ p + q) h4.2 (by omega : p + q ≤ 131072)
  have b1 := mul_lo h1.1 (by omega : 0 ≤ q)
  have b2 := mul_lo h2.1 (by omega : 0 ≤ p)
  have b3 := mul_lo (by omega : 0 ≤ 3 * p) (by omega : 0 ≤ q)
  have b4 := mul_lo h4.1 (by omega : 0 ≤ p + q)
  refine ⟨⟨b1, by omega⟩, ⟨b2, by omega⟩, ⟨b3, by omega⟩, ⟨b4, by omega⟩⟩
set_option maxHeartbeats 16000000 in
set_option maxRecDepth 100000 in
theorem fairWalk (hK : CheckOk) (hS : SchedOk) (t : Tr) (i j calls : Int) (hi : I64 i) (hj : I64 j) (hc : I64 calls) (v : Value) (w : World) (h : TrAt w v t) : Calls Try.prog 7 #[turV v t, .int .i64 i, .int .i64 j, .int .i64 calls] w fun e w' => e = .returned (.bool true) ∧ Below w.heap.size w w' := by
  obtain ⟨a, cap, rfl⟩ := h.shape
  have HW : Hid (∀ u, Calls Try.prog 21 #[] u fun e w' => e = .returned (.bool true) ∧ Below u.heap.size u w') := fun u => worksOf hS u
  have HCK : Hid (∀ u, TrAt u (.slice a t.qs.length cap) t → Calls Try.prog 19 #[.agg #[.slice a t.qs.length cap, .int .i64 t.at', .bool t.fresh]] u fun e w' => e = .returned (.int .i64 (chkT t)) ∧ Below u.heap.size u w') := fun u h => hK t _ u h
  have HNX : Hid (∀ (t1 : Tr) a1 c1 u, TrAt u (.slice a1 t1.qs.length c1) t1 → Calls Try.prog 12 #[.agg #[.slice a1 t1.qs.length c1, .int .i64 t1.at', .bool t1.fresh]] u (NxtA t1 u)) := fun t1 a1 c1 u h => hS.next t1 _ u h
  have HWI : Hid (∀ (t1 : Tr) a1 c1 (I : Int) u, 0 ≤ I → I ≤ 9223372036854775807 → TrAt u (.slice a1 t1.qs.length c1) t1 → Calls Try.prog 20 #[.agg #[.slice a1 t1.qs.length c1, .int .i64 t1.at', .bool t1.fresh], .int .i64 I] u fun e w' => e = .returned (.bool (waitB t1 I)) ∧ Below u.heap.size u w') := fun t1 a1 c1 I u h1 h2 h => lwaitingOf t1 I h1 h2 _ u h
  have HG : Hid (∀ u, OkR t → TrAt u (.slice a t.qs.length cap) t → Calls Try.prog 22 #[.agg #[.slice a t.qs.length cap, .int .i64 t.at', .bool t.fresh]] u (GrP t.qs 1114111 u)) := fun u ok h => lgreatestOf t 1114111 (by omega) (by omega) (fun k hk => by
    refine ⟨?_, fun c hc => ?_⟩
    · have h1 := (badQ_is (ok.q k hk)).2.2.2.2.2.1
      have h2 : t.most k ≤ 1114111 := by unfold Tr.most; split <;> omega
      exact Int.le_trans h1 h2
    · have := (ok.c k hk c hc).2
      omega) _ u h
  clear hK hS
  have HT := Hid.mkT h
  clear h
  obtain ⟨l, z, f⟩ := t
  unfold turV
  simp only at *
  obtain ⟨w0, hw0⟩ : ∃ w0, w.alloc (.cells #[.slice a l.length cap, .int .i64 z, .bool f] 34) = w0 := ⟨_, rfl⟩
  obtain ⟨B, hB⟩ : ∃ B, w.heap.size = B := ⟨_, rfl⟩
  have HL0 : Hid (LtS w w0 B (.slice a l.length cap) ⟨l, z, f⟩) := by
    have hb := (turBox w (.slice a l.length cap) z f).1
    have hx := BoxT.new w (.slice a l.length cap) ⟨l, z, f⟩ z f rfl rfl
    rw [hw0] at hb hx
    rw [hB] at hx
    exact ⟨hx, HT.out.later hb, hb, by omega⟩
  obtain ⟨b0, b1, b2, -, -⟩ := HL0.out.box
  simp only at b1 b2
  go_enter Try.func7, Try.ntmps7
  go_wp2_with fail
  refine (HCK.out _ HL0.out.rd).mono ?_
  rintro e w1 ⟨rfl, hb1⟩
  have HL1 := Hid.mkT (HL0.out.later hb1)
  clear hb1 b0 b1 b2 HCK
  obtain ⟨b0, b1, b2, -, -⟩ := HL1.out.box
  simp only at b1 b2
  have HOK : Hid (chkT ⟨l, z, f⟩ = 0 → OkR ⟨l, z, f⟩) := chk_ok.mp
  generalize chkT ⟨l, z, f⟩ = A at *
  by_cases g0 : A = 0
  case neg =>
    have g0' : (A == 0) = false := by simpa using g0
    go_wp2_with fail
    refine (HW.out _).mono ?_
    rintro e wz ⟨rfl, hbz⟩
    have HF := Hid.mkT (below_of HL1.out.below hbz)
    clear hbz
    go_wp2
    go_ret
    exact ⟨by first | rfl | simp, by first | exact HF.out | (rw [← hB]; exact HF.out)⟩
  have ok := HOK.out g0
  have g0' : (A == 0) = true := by rw [g0]; rfl
  subst g0
  by_cases g1 : i < 0
  · have g1' : decide (i < 0) = true := decide_eq_true g1
    go_wp2_with fail
    refine (HW.out _).mono ?_
    rintro e wz ⟨rfl, hbz⟩
    have HF := Hid.mkT (below_of HL1.out.below hbz)
    clear hbz
    go_wp2
    go_ret
    exact ⟨by first | rfl | simp, by first | exact HF.out | (rw [← hB]; exact HF.out)⟩
  have g1' : decide (i < 0) = false := decide_eq_false g1
  by_cases g2 : j < 0
  · have g2' : decide (j < 0) = true := decide_eq_true g2
    go_wp2_with fail
    refine (HW.out _).mono ?_
    rintro e wz ⟨rfl, hbz⟩
    have HF := Hid.mkT (below_of HL1.out.below hbz)
    clear hbz
    go_wp2
    go_ret
    exact ⟨by first | rfl | simp, by first | exact HF.out | (rw [← hB]; exact HF.out)⟩
  have g2' : decide (j < 0) = false := decide_eq_false g2
  by_cases g3 : i = j
  · have g3' : (i == j) = true := by rw [g3]; simp
    clear g3
    go_wp2_with fail
    refine (HW.out _).mono ?_
    rintro e wz ⟨rfl, hbz⟩
    have HF := Hid.mkT (below_of HL1.out.below hbz)
    clear hbz
    go_wp2
    go_ret
    exact ⟨by first | rfl | simp, by first | exact HF.out | (rw [← hB]; exact HF.out)⟩
  have g3' : (i == j) = false := by simpa using g3
  by_cases g4 : 10000 < calls
  · have g4' : decide (10000 < calls) = true := decide_eq_true g4
    go_wp2_with fail
    refine (HW.out _).mono ?_
    rintro e wz ⟨rfl, hbz⟩
    have HF := Hid.mkT (below_of HL1.out.below hbz)
    clear hbz
    go_wp2
    go_ret
    exact ⟨by first | rfl | simp, by first | exact HF.out | (rw [← hB]; exact HF.out)⟩
  have g4' : decide (10000 < calls) = false := decide_eq_false g4
  obtain ⟨I, rfl⟩ : ∃ I : Nat, i = (I : Int) := ⟨i.toNat, by omega⟩
  obtain ⟨J, rfl⟩ : ∃ J : Nat, j = (J : Int) := ⟨j.toNat, by omega⟩
  have HIJ : Hid (I ≠ J) := fun e => g3 (by rw [e])
  have hi2 := hi.2
  have hj2 := hj.2
  clear g3
  have HOKR := Hid.mkT ok
  clear ok HOK
  go_wp2_with fail
  refine (HG.out _ HOKR.out HL1.out.rd).mono ?_
  rintro e w2 ⟨C, rfl, hC0, hC1, hCG, hb2⟩
  have HL2 := Hid.mkT (HL1.out.later hb2)
  have HST : Hid (I < l.length → J < l.length → FaI ⟨l, z, f⟩ I J ((Tr.mk l z f).q I).quantum ((Tr.mk l z f).q J).quantum C 0 0 0) := fun h1 h2 => FaI.start (t := ⟨l, z, f⟩) HOKR.out h1 h2 hC0 hCG
  generalize ((Tr.mk l z f).q I).quantum = P at *
  generalize ((Tr.mk l z f).q J).quantum = Q at *
  clear hb2 hCG b0 b1 b2 HG
  obtain ⟨b0, b1, b2, -, -⟩ := HL2.out.box
  simp only at b1 b2
  go_wp2
  go_loopw [10, 11, 12] (fun s10 s11 s12 u => ∃ (n : Nat) (si sj : Int) (T : Tr) (ta : Option Addr) (tc : Nat), n ≤ 10000 ∧ s10 = .int .i64 si ∧ s11 = .int .i64 sj ∧ s12 = .int .i64 n ∧ Hid (LtS w u B (.slice ta T.qs.length tc) T) ∧ Hid (OkR T) ∧ Hid (I < T.qs.length → J < T.qs.length → FaI T I J P Q C n si sj)) (fun _ _ s12 _ => calls.toNat - (intOf s12).toNat)
  case atStart => exact ⟨0, 0, 0, ⟨l, z, f⟩, a, cap, by omega, rfl, rfl, rfl, HL2.out, HOKR.out, HST.out⟩
  case round =>
    obtain ⟨n, si, sj, T, ta, tc, hn, rfl, rfl, rfl, HL, HO, HF0⟩ := hrel
    clear b0 b1 b2
    obtain ⟨b0, b1, b2, -, -⟩ := HL.out.box
    by_cases hlt : (n : Int) < calls
    case neg =>
      have hlt' : decide ((n : Int) < calls) = false := decide_eq_false hlt
      go_wp2_with fail
      refine (HW.out _).mono ?_
      rintro e wz ⟨rfl, hbz⟩
      have HF := Hid.mkT (below_of HL.out.below hbz)
      clear hbz
      go_wp2
      go_ret
      exact ⟨by first | rfl | simp, by first | exact HF.out | (rw [← hB]; exact HF.out)⟩
    have hlt' : decide ((n : Int) < calls) = true := decide_eq_true hlt
    go_wp2_with fail
    refine (HWI.out _ _ _ _ _ (by omega) (by omega) HL.out.rd).mono ?_
    rintro e w3 ⟨rfl, hb3⟩
    have HL3 := Hid.mkT (HL.out.later hb3)
    clear hb3 b0 b1 b2
    obtain ⟨b0, b1, b2, -, -⟩ := HL3.out.box
    have HWX : Hid (waitB T (I : Int) = true → I < T.qs.length ∧ (T.q I).costs ≠ []) := waitB_is
    generalize waitB T (I : Int) = W1 at *
    cases W1 with
    | false =>
      go_wp2_with fail
      refine (HW.out _).mono ?_
      rintro e wz ⟨rfl, hbz⟩
      have HF := Hid.mkT (below_of HL3.out.below hbz)
      clear hbz
      go_wp2
      go_ret
      exact ⟨by first | rfl | simp, by first | exact HF.out | (rw [← hB]; exact HF.out)⟩
    | true =>
    obtain ⟨hIl, hIw⟩ := HWX.out rfl
    have HIW := Hid.mkT hIw
    clear HWX hIw
    go_wp2_with fail
    refine (HWI.out _ _ _ _ _ (by omega) (by omega) HL3.out.rd).mono ?_
    rintro e w4 ⟨rfl, hb4⟩
    have HL4 := Hid.mkT (HL3.out.later hb4)
    clear hb4 b0 b1 b2
    obtain ⟨b0, b1, b2, -, -⟩ := HL4.out.box
    have HWX : Hid (waitB T (J : Int) = true → J < T.qs.length ∧ (T.q J).costs ≠ []) := waitB_is
    generalize waitB T (J : Int) = W2 at *
    cases W2 with
    | false =>
      go_wp2_with fail
      refine (HW.out _).mono ?_
      rintro e wz ⟨rfl, hbz⟩
      have HF := Hid.mkT (below_of HL4.out.below hbz)
      clear hbz
      go_wp2
      go_ret
      exact ⟨by first | rfl | simp, by first | exact HF.out | (rw [← hB]; exact HF.out)⟩
    | true =>
    obtain ⟨hJl, hJw⟩ := HWX.out rfl
    have HJW := Hid.mkT hJw
    clear HWX hJw
    have HFI := Hid.mkT (HF0.out hIl hJl)
    clear HF0
    go_wp2_with fail
    refine (HNX.out _ _ _ _ HL4.out.rd).mono ?_
    rintro e w5 ⟨na, nc, T', id, k, okB, rfl, hnew, hnxt, hb5⟩
    obtain ⟨rfl, hlen, ⟨hk1, hk2⟩, hok', hfi⟩ := HFI.out.step HIJ.out hnxt HIW.out HJW.out
    have HLEN := Hid.mkT hlen
    have HOK' := Hid.mkT hok'
    have HFI' := Hid.mkT hfi
    clear hnxt hfi hok' hlen
    have hBl := HL4.out.box.lt
    obtain ⟨l', z', f'⟩ := T'
    unfold turV
    simp only at *
    obtain ⟨w6, hw6⟩ : ∃ w6, w5.alloc (.cells #[.slice na l'.length nc, .int .i64 z', .bool f'] 34) = w6 := ⟨_, rfl⟩
    obtain ⟨A1, hA1⟩ : ∃ A1, w5.heap.size = A1 := ⟨_, rfl⟩
    have hb6 : Below w5.heap.size w5 w6 := by have := (turBox w5 (.slice na l'.length nc) z' f').1; rw [hw6] at this; exact this
    have HX6 : Hid (BoxT w6 A1 (.slice na l'.length nc) ⟨l', z', f'⟩) := by have := BoxT.new w5 (.slice na l'.length nc) ⟨l', z', f'⟩ z' f' rfl rfl; rw [hw6, hA1] at this; exact this
    have HL6 := Hid.mkT (HL4.out.later (below_of hb5 hb6))
    have HN6 := Hid.mkT (hnew.later hb6)
    have HL7 : Hid (LtS w (((w6.setCell ⟨B, 0, none⟩ (.slice na l'.length nc)).setCell ⟨B, 1, none⟩ (.int .i64 z')).setCell ⟨B, 2, none⟩ (.bool f')) B (.slice na l'.length nc) ⟨l', z', f'⟩) := HL6.out.store HN6.out hBl
    obtain ⟨w7, hw7⟩ : ∃ w7, ((w6.setCell ⟨B, 0, none⟩ (.slice na l'.length nc)).setCell ⟨B, 1, none⟩ (.int .i64 z')).setCell ⟨B, 2, none⟩ (.bool f') = w7 := ⟨_, rfl⟩
    rw [hw7] at HL7
    obtain ⟨h70, h71, h72, -, -⟩ := HL7.out.box
    simp only at h71 h72
    clear hnew hb5 hb6 b0 b1 b2 HN6 hBl
    obtain ⟨b0, b1, b2, bf, -⟩ := HL6.out.box
    have bf0 := bf 0 (by omega)
    have bf1 := bf 1 (by omega)
    have bf2 := bf 2 (by omega)
    clear bf
    obtain ⟨d0, d1, d2, -, -⟩ := HX6.out
    simp only at d1 d2
    obtain ⟨qb, qo, qa, qc, rfl, hq1, -, -, -⟩ := HL6.out.rd.row.at hIl
    have x0 := (hq1 _ (Below.refl _ _)).1.c0
    obtain ⟨qb', qo', qa', qc', e2, hq2, -, -, -⟩ := HL6.out.rd.row.at hJl
    simp only [Option.some.injEq, Addr.mk.injEq, and_true] at e2
    obtain ⟨rfl, rfl⟩ := e2
    have y0 := (hq2 _ (Below.refl _ _)).1.c0
    simp only at x0 y0
    have hIi : (I : Int) < (T.qs.length : Int) := by omega
    have hJi : (J : Int) < (T.qs.length : Int) := by omega
    clear hq1 hq2
    have HFS : Hid (∀ si' sj', (si' = if id = (T.qs.getD I Qu.zero).id then si + k else si) → (sj' = if id = (T.qs.getD J Qu.zero).id then sj + k else sj) → ((Tr.mk l' z' f').q I).costs ≠ [] → ((Tr.mk l' z' f').q J).costs ≠ [] → FaI ⟨l', z', f'⟩ I J P Q C (n + 1) si' sj' ∧ ((Tr.mk l' z' f').q I).quantum = P ∧ ((Tr.mk l' z' f').q J).quantum = Q) := fun si' sj' e1 e2 h1 h2 => by rw [e1, e2]; exact HFI'.out h1 h2
    have HBI := Hid.mkT HFI.out.bi
    have HBJ := Hid.mkT HFI.out.bj
    have HDI : Hid ((T.qs.getD I Qu.zero).id = (T.qs.getD J Qu.zero).id → False) := fun e => HIJ.out ((HO.out.ids_eq hIl hJl).mp e)
    have hsb := HBI.out
    have hsb2 := HBJ.out
    clear HFI'
    generalize (T.qs.getD I Qu.zero).id = xi at *
    generalize (T.qs.getD J Qu.zero).id = xj at *
    have hsi1 : 0 ≤ si ∧ si ≤ 10485760000 := by omega
    have hsj1 : 0 ≤ sj ∧ sj ≤ 10485760000 := by omega
    clear hsb hsb2
    by_cases e1 : id = xi
    case pos =>
      have e2 : ¬ id = xj := fun e => HDI.out (by rw [← e1, e])
      have e1' : (id == xi) = true := by rw [e1]; simp
      have e2' : (id == xj) = false := by simpa using e2
      have hkk : IntKind.i64.wrap (si + k) = si + k := IntWalk.i64_in _ ⟨by omega, by omega⟩
      have HFN : Hid (((Tr.mk l' z' f').q I).costs ≠ [] → ((Tr.mk l' z' f').q J).costs ≠ [] → FaI ⟨l', z', f'⟩ I J P Q C (n + 1) (si + k) (sj) ∧ ((Tr.mk l' z' f').q I).quantum = P ∧ ((Tr.mk l' z' f').q J).quantum = Q) := HFS.out _ _ (by rw [if_pos e1]) (by rw [if_neg e2])
      clear HFS e1 e2
      go_wp2_with fail
      refine (HWI.out ⟨l', z', f'⟩ _ _ _ _ (by omega) (by omega) HL7.out.rd).mono ?_
      rintro e w8 ⟨rfl, hb8⟩
      have HL8 := Hid.mkT (HL7.out.later hb8)
      clear hb8 b0 b1 b2 d0 d1 d2 x0 y0 bf0 bf1 bf2 h70 h71 h72
      obtain ⟨b0, b1, b2, -, -⟩ := HL8.out.box
      have HWX : Hid (waitB ⟨l', z', f'⟩ (I : Int) = true → I < (Tr.mk l' z' f').qs.length ∧ ((Tr.mk l' z' f').q I).costs ≠ []) := waitB_is
      generalize waitB ⟨l', z', f'⟩ (I : Int) = W3 at *
      cases W3 with
      | false =>
        have HF := Hid.mkT HL8.out.below
        go_wp2
        go_ret
        exact ⟨by first | rfl | simp, by first | exact HF.out | (rw [← hB]; exact HF.out)⟩
      | true =>
      obtain ⟨hIl', hIw'⟩ := HWX.out rfl
      have HIW' := Hid.mkT hIw'
      clear HWX hIw'
      simp only at hIl' b1 b2
      go_wp2_with fail
      refine (HWI.out ⟨l', z', f'⟩ _ _ _ _ (by omega) (by omega) HL8.out.rd).mono ?_
      rintro e w9 ⟨rfl, hb9⟩
      have HL9 := Hid.mkT (HL8.out.later hb9)
      clear hb9 b0 b1 b2
      obtain ⟨b0, b1, b2, -, -⟩ := HL9.out.box
      have HWX : Hid (waitB ⟨l', z', f'⟩ (J : Int) = true → J < (Tr.mk l' z' f').qs.length ∧ ((Tr.mk l' z' f').q J).costs ≠ []) := waitB_is
      generalize waitB ⟨l', z', f'⟩ (J : Int) = W4 at *
      cases W4 with
      | false =>
        have HF := Hid.mkT HL9.out.below
        go_wp2
        go_ret
        exact ⟨by first | rfl | simp, by first | exact HF.out | (rw [← hB]; exact HF.out)⟩
      | true =>
      obtain ⟨hJl', hJw'⟩ := HWX.out rfl
      have HJW' := Hid.mkT hJw'
      clear HWX hJw'
      simp only at hJl' b1 b2
      obtain ⟨hfi, hqi, hqj⟩ := HFN.out HIW'.out HJW'.out
      obtain ⟨ub, uo, ua, uc, e3, hq1, -, -, -⟩ := HL9.out.rd.row.at hIl'
      have x1 := (hq1 _ (Below.refl _ _)).1.c1
      obtain ⟨ub', uo', ua', uc', e4, hq2, -, -, -⟩ := HL9.out.rd.row.at hJl'
      have y1 := (hq2 _ (Below.refl _ _)).1.c1
      subst e3
      simp only [Option.some.injEq, Addr.mk.injEq, and_true] at e4
      obtain ⟨rfl, rfl⟩ := e4
      simp only at x1 y1
      change ((l'.getD I Qu.zero).quantum = P) at hqi
      change ((l'.getD J Qu.zero).quantum = Q) at hqj
      rw [hqi] at x1
      rw [hqj] at y1
      have hpq := hfi.pq
      have hfa := hfi.fair
      have HFN2 := Hid.mkT hfi
      have hnum := fair_nums (show 0 ≤ si + k ∧ si + k ≤ 10486808576 by omega) (show 0 ≤ sj ∧ sj ≤ 10486808576 by omega) hpq ⟨hC0, hC1⟩
      clear hq1 hq2 hfi hqi hqj
      have hIi' : (I : Int) < (l'.length : Int) := by omega
      have hJi' : (J : Int) < (l'.length : Int) := by omega
      obtain ⟨⟨m1, m2⟩, ⟨m3, m4⟩, ⟨m5, m6⟩, ⟨m7, m8⟩⟩ := hnum
      obtain ⟨n1, n2⟩ := hfa
      obtain ⟨p1, p2, q1, q2⟩ := hpq
      generalize hX1 : (si + k) * Q = X1 at *
      generalize hX2 : (sj) * P = X2 at *
      generalize hX4 : C * (P + Q) = X4 at *
      have hX3' : (3 * P) * Q = 3 * P * Q := rfl
      generalize hX3 : 3 * P * Q = X3 at *
      have v1 : IntKind.i64.wrap X1 = X1 := IntWalk.i64_in _ ⟨by omega, by omega⟩
      have v2 : IntKind.i64.wrap X2 = X2 := IntWalk.i64_in _ ⟨by omega, by omega⟩
      have v3 : IntKind.i64.wrap X3 = X3 := IntWalk.i64_in _ ⟨by omega, by omega⟩
      have v4 : IntKind.i64.wrap X4 = X4 := IntWalk.i64_in _ ⟨by omega, by omega⟩
      have t1 : ¬ X3 + X4 < X1 - X2 := by omega
      have t2 : ¬ X1 - X2 < -(X3 + X4) := by omega
      go_wp2

      go_roundw
      case rel => exact ⟨n + 1, si + k, sj, ⟨l', z', f'⟩, _, _, by omega, rfl, rfl, by go_num, HL9.out, HOK'.out, fun _ _ => HFN2.out⟩
      case measure => simp only [intOf]; omega
    by_cases e2 : id = xj
    case pos =>
      have e1' : (id == xi) = false := by simpa using e1
      have e2' : (id == xj) = true := by rw [e2]; simp
      have hkk : IntKind.i64.wrap (sj + k) = sj + k := IntWalk.i64_in _ ⟨by omega, by omega⟩
      have HFN : Hid (((Tr.mk l' z' f').q I).costs ≠ [] → ((Tr.mk l' z' f').q J).costs ≠ [] → FaI ⟨l', z', f'⟩ I J P Q C (n + 1) (si) (sj + k) ∧ ((Tr.mk l' z' f').q I).quantum = P ∧ ((Tr.mk l' z' f').q J).quantum = Q) := HFS.out _ _ (by rw [if_neg e1]) (by rw [if_pos e2])
      clear HFS e1 e2
      go_wp2_with fail
      refine (HWI.out ⟨l', z', f'⟩ _ _ _ _ (by omega) (by omega) HL7.out.rd).mono ?_
      rintro e w8 ⟨rfl, hb8⟩
      have HL8 := Hid.mkT (HL7.out.later hb8)
      clear hb8 b0 b1 b2 d0 d1 d2 x0 y0 bf0 bf1 bf2 h70 h71 h72
      obtain ⟨b0, b1, b2, -, -⟩ := HL8.out.box
      have HWX : Hid (waitB ⟨l', z', f'⟩ (I : Int) = true → I < (Tr.mk l' z' f').qs.length ∧ ((Tr.mk l' z' f').q I).costs ≠ []) := waitB_is
      generalize waitB ⟨l', z', f'⟩ (I : Int) = W3 at *
      cases W3 with
      | false =>
        have HF := Hid.mkT HL8.out.below
        go_wp2
        go_ret
        exact ⟨by first | rfl | simp, by first | exact HF.out | (rw [← hB]; exact HF.out)⟩
      | true =>
      obtain ⟨hIl', hIw'⟩ := HWX.out rfl
      have HIW' := Hid.mkT hIw'
      clear HWX hIw'
      simp only at hIl' b1 b2
      go_wp2_with fail
      refine (HWI.out ⟨l', z', f'⟩ _ _ _ _ (by omega) (by omega) HL8.out.rd).mono ?_
      rintro e w9 ⟨rfl, hb9⟩
      have HL9 := Hid.mkT (HL8.out.later hb9)
      clear hb9 b0 b1 b2
      obtain ⟨b0, b1, b2, -, -⟩ := HL9.out.box
      have HWX : Hid (waitB ⟨l', z', f'⟩ (J : Int) = true → J < (Tr.mk l' z' f').qs.length ∧ ((Tr.mk l' z' f').q J).costs ≠ []) := waitB_is
      generalize waitB ⟨l', z', f'⟩ (J : Int) = W4 at *
      cases W4 with
      | false =>
        have HF := Hid.mkT HL9.out.below
        go_wp2
        go_ret
        exact ⟨by first | rfl | simp, by first | exact HF.out | (rw [← hB]; exact HF.out)⟩
      | true =>
      obtain ⟨hJl', hJw'⟩ := HWX.out rfl
      have HJW' := Hid.mkT hJw'
      clear HWX hJw'
      simp only at hJl' b1 b2
      obtain ⟨hfi, hqi, hqj⟩ := HFN.out HIW'.out HJW'.out
      obtain ⟨ub, uo, ua, uc, e3, hq1, -, -, -⟩ := HL9.out.rd.row.at hIl'
      have x1 := (hq1 _ (Below.refl _ _)).1.c1
      obtain ⟨ub', uo', ua', uc', e4, hq2, -, -, -⟩ := HL9.out.rd.row.at hJl'
      have y1 := (hq2 _ (Below.refl _ _)).1.c1
      subst e3
      simp only [Option.some.injEq, Addr.mk.injEq, and_true] at e4
      obtain ⟨rfl, rfl⟩ := e4
      simp only at x1 y1
      change ((l'.getD I Qu.zero).quantum = P) at hqi
      change ((l'.getD J Qu.zero).quantum = Q) at hqj
      rw [hqi] at x1
      rw [hqj] at y1
      have hpq := hfi.pq
      have hfa := hfi.fair
      have HFN2 := Hid.mkT hfi
      have hnum := fair_nums (show 0 ≤ si ∧ si ≤ 10486808576 by omega) (show 0 ≤ sj + k ∧ sj + k ≤ 10486808576 by omega) hpq ⟨hC0, hC1⟩
      clear hq1 hq2 hfi hqi hqj
      have hIi' : (I : Int) < (l'.length : Int) := by omega
      have hJi' : (J : Int) < (l'.length : Int) := by omega
      obtain ⟨⟨m1, m2⟩, ⟨m3, m4⟩, ⟨m5, m6⟩, ⟨m7, m8⟩⟩ := hnum
      obtain ⟨n1, n2⟩ := hfa
      obtain ⟨p1, p2, q1, q2⟩ := hpq
      generalize hX1 : (si) * Q = X1 at *
      generalize hX2 : (sj + k) * P = X2 at *
      generalize hX4 : C * (P + Q) = X4 at *
      have hX3' : (3 * P) * Q = 3 * P * Q := rfl
      generalize hX3 : 3 * P * Q = X3 at *
      have v1 : IntKind.i64.wrap X1 = X1 := IntWalk.i64_in _ ⟨by omega, by omega⟩
      have v2 : IntKind.i64.wrap X2 = X2 := IntWalk.i64_in _ ⟨by omega, by omega⟩
      have v3 : IntKind.i64.wrap X3 = X3 := IntWalk.i64_in _ ⟨by omega, by omega⟩
      have v4 : IntKind.i64.wrap X4 = X4 := IntWalk.i64_in _ ⟨by omega, by omega⟩
      have t1 : ¬ X3 + X4 < X1 - X2 := by omega
      have t2 : ¬ X1 - X2 < -(X3 + X4) := by omega
      go_wp2

      go_roundw
      case rel => exact ⟨n + 1, si, sj + k, ⟨l', z', f'⟩, _, _, by omega, rfl, rfl, by go_num, HL9.out, HOK'.out, fun _ _ => HFN2.out⟩
      case measure => simp only [intOf]; omega
    have e1' : (id == xi) = false := by simpa using e1
    have e2' : (id == xj) = false := by simpa using e2
    have HFN : Hid (((Tr.mk l' z' f').q I).costs ≠ [] → ((Tr.mk l' z' f').q J).costs ≠ [] → FaI ⟨l', z', f'⟩ I J P Q C (n + 1) (si) (sj) ∧ ((Tr.mk l' z' f').q I).quantum = P ∧ ((Tr.mk l' z' f').q J).quantum = Q) := HFS.out _ _ (by rw [if_neg e1]) (by rw [if_neg e2])
    clear HFS e1 e2
    go_wp2_with fail
    refine (HWI.out ⟨l', z', f'⟩ _ _ _ _ (by omega) (by omega) HL7.out.rd).mono ?_
    rintro e w8 ⟨rfl, hb8⟩
    have HL8 := Hid.mkT (HL7.out.later hb8)
    clear hb8 b0 b1 b2 d0 d1 d2 x0 y0 bf0 bf1 bf2 h70 h71 h72
    obtain ⟨b0, b1, b2, -, -⟩ := HL8.out.box
    have HWX : Hid (waitB ⟨l', z', f'⟩ (I : Int) = true → I < (Tr.mk l' z' f').qs.length ∧ ((Tr.mk l' z' f').q I).costs ≠ []) := waitB_is
    generalize waitB ⟨l', z', f'⟩ (I : Int) = W3 at *
    cases W3 with
    | false =>
      have HF := Hid.mkT HL8.out.below
      go_wp2
      go_ret
      exact ⟨by first | rfl | simp, by first | exact HF.out | (rw [← hB]; exact HF.out)⟩
    | true =>
    obtain ⟨hIl', hIw'⟩ := HWX.out rfl
    have HIW' := Hid.mkT hIw'
    clear HWX hIw'
    simp only at hIl' b1 b2
    go_wp2_with fail
    refine (HWI.out ⟨l', z', f'⟩ _ _ _ _ (by omega) (by omega) HL8.out.rd).mono ?_
    rintro e w9 ⟨rfl, hb9⟩
    have HL9 := Hid.mkT (HL8.out.later hb9)
    clear hb9 b0 b1 b2
    obtain ⟨b0, b1, b2, -, -⟩ := HL9.out.box
    have HWX : Hid (waitB ⟨l', z', f'⟩ (J : Int) = true → J < (Tr.mk l' z' f').qs.length ∧ ((Tr.mk l' z' f').q J).costs ≠ []) := waitB_is
    generalize waitB ⟨l', z', f'⟩ (J : Int) = W4 at *
    cases W4 with
    | false =>
      have HF := Hid.mkT HL9.out.below
      go_wp2
      go_ret
      exact ⟨by first | rfl | simp, by first | exact HF.out | (rw [← hB]; exact HF.out)⟩
    | true =>
    obtain ⟨hJl', hJw'⟩ := HWX.out rfl
    have HJW' := Hid.mkT hJw'
    clear HWX hJw'
    simp only at hJl' b1 b2
    obtain ⟨hfi, hqi, hqj⟩ := HFN.out HIW'.out HJW'.out
    obtain ⟨ub, uo, ua, uc, e3, hq1, -, -, -⟩ := HL9.out.rd.row.at hIl'
    have x1 := (hq1 _ (Below.refl _ _)).1.c1
    obtain ⟨ub', uo', ua', uc', e4, hq2, -, -, -⟩ := HL9.out.rd.row.at hJl'
    have y1 := (hq2 _ (Below.refl _ _)).1.c1
    subst e3
    simp only [Option.some.injEq, Addr.mk.injEq, and_true] at e4
    obtain ⟨rfl, rfl⟩ := e4
    simp only at x1 y1
    change ((l'.getD I Qu.zero).quantum = P) at hqi
    change ((l'.getD J Qu.zero).quantum = Q) at hqj
    rw [hqi] at x1
    rw [hqj] at y1
    have hpq := hfi.pq
    have hfa := hfi.fair
    have HFN2 := Hid.mkT hfi
    have hnum := fair_nums (show 0 ≤ si ∧ si ≤ 10486808576 by omega) (show 0 ≤ sj ∧ sj ≤ 10486808576 by omega) hpq ⟨hC0, hC1⟩
    clear hq1 hq2 hfi hqi hqj
    have hIi' : (I : Int) < (l'.length : Int) := by omega
    have hJi' : (J : Int) < (l'.length : Int) := by omega
    obtain ⟨⟨m1, m2⟩, ⟨m3, m4⟩, ⟨m5, m6⟩, ⟨m7, m8⟩⟩ := hnum
    obtain ⟨n1, n2⟩ := hfa
    obtain ⟨p1, p2, q1, q2⟩ := hpq
    generalize hX1 : (si) * Q = X1 at *
    generalize hX2 : (sj) * P = X2 at *
    generalize hX4 : C * (P + Q) = X4 at *
    have hX3' : (3 * P) * Q = 3 * P * Q := rfl
    generalize hX3 : 3 * P * Q = X3 at *
    have v1 : IntKind.i64.wrap X1 = X1 := IntWalk.i64_in _ ⟨by omega, by omega⟩
    have v2 : IntKind.i64.wrap X2 = X2 := IntWalk.i64_in _ ⟨by omega, by omega⟩
    have v3 : IntKind.i64.wrap X3 = X3 := IntWalk.i64_in _ ⟨by omega, by omega⟩
    have v4 : IntKind.i64.wrap X4 = X4 := IntWalk.i64_in _ ⟨by omega, by omega⟩
    have t1 : ¬ X3 + X4 < X1 - X2 := by omega
    have t2 : ¬ X1 - X2 < -(X3 + X4) := by omega
    go_wp2

    go_roundw
    case rel => exact ⟨n + 1, si, sj, ⟨l', z', f'⟩, _, _, by omega, rfl, rfl, by go_num, HL9.out, HOK'.out, fun _ _ => HFN2.out⟩
    case measure => simp only [intOf]; omega
end Go.Proofs.Ytelhjdplghpnbaa
