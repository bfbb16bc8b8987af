import Derived.Test.YtelhjdplghpnbabQz
import Derived.Test.YtelhjdplghpnbabSdR
import Derived.Lib.QuietBelow
/-! The law on Check, Enter, Leave, Ask against the document's own: its walk. -/
namespace Go.Proofs.Ytelhjdplghpnbab
open Go.RowKit Plain
set_option linter.unusedVariables false
set_option linter.unusedSimpArgs false

theorem below_onz {n m : Nat} {a b c : World} (h : Below n a b) (k : Below m b c) (hnm : n ≤ m) : Below n a c := h.trans (k.mono hnm)
set_option maxHeartbeats 32000000 in
set_option maxRecDepth 100000 in
theorem changesWalk (hC : CheckOk) (hE : EnterOk) (hL : LeaveOk) (hA : AskOk) (rC : RCheckOk) (rE : REnterOk) (rL : RLeaveOk) (rA : RAskOk) (t : Tr) (id n : Int) (hid : I64 id) (hn : I64 n) (v : Value) (w : World) (h : TrAt w v t) (hfew : t.qs.length ≤ 2932031007317) (hlc : ∀ j, j < t.qs.length → (t.q j).costs.length ≤ 17592186043904) : Calls Try.prog 3 #[turV v t, .int .i64 id, .int .i64 n] w fun e w' => e = .returned (.bool true) ∧ Below w.heap.size w w' := by
  obtain ⟨a, cap, rfl⟩ := h.shape
  have HT : Hid (∀ u, Below w.heap.size w u → TrAt u (.slice a t.qs.length cap) t) := fun u hu => h.later hu
  have HRO : Hid (∀ u, Below w.heap.size w u → Calls Try.prog 4 #[.agg #[.slice a t.qs.length cap, .int .i64 t.at', .bool t.fresh]] u (RooP t u)) := fun u hu => lroomyOf t _ u (h.later hu) hfew hlc
  have HDC : Hid (∀ u, Below w.heap.size w u → Calls Try.prog 11 #[.agg #[.slice a t.qs.length cap, .int .i64 t.at', .bool t.fresh]] u fun e w' => e = .returned (.int .i64 (chkT t)) ∧ Below u.heap.size u w') := fun u hu => rC t _ u (h.later hu)
  have HDE : Hid (∀ u, Below w.heap.size w u → Calls Try.prog 12 #[.agg #[.slice a t.qs.length cap, .int .i64 t.at', .bool t.fresh], .int .i64 id, .int .i64 n] u (ansT (entT t id n).1 (entT t id n).2 u)) := fun u hu => rE t id n _ u (h.later hu) hid hn
  have HDL : Hid (∀ u, Below w.heap.size w u → Calls Try.prog 14 #[.agg #[.slice a t.qs.length cap, .int .i64 t.at', .bool t.fresh], .int .i64 id] u (ansT (levT t id).1 (levT t id).2 u)) := fun u hu => rL t id _ u (h.later hu) hid
  have HDA : Hid (∀ u, Below w.heap.size w u → Calls Try.prog 15 #[.agg #[.slice a t.qs.length cap, .int .i64 t.at', .bool t.fresh], .int .i64 id, .int .i64 n] u (ansT (askT t id n).1 (askT t id n).2 u)) := fun u hu => rA t id n _ u (h.later hu) hlc hid hn
  have HQC : Hid (∀ (t1 : Tr) a1 n1 c1 u, TrAt u (.slice a1 n1 c1) t1 → Calls Try.prog 6 #[.agg #[.slice a1 n1 c1, .int .i64 t1.at', .bool t1.fresh]] u fun e w' => e = .returned (.int .i64 (chkT t1)) ∧ Below u.heap.size u w') := fun t1 a1 n1 c1 u h => hC t1 _ u h
  have HQE : Hid (∀ (t1 : Tr) a1 n1 c1 u, TrAt u (.slice a1 n1 c1) t1 → Calls Try.prog 7 #[.agg #[.slice a1 n1 c1, .int .i64 t1.at', .bool t1.fresh], .int .i64 id, .int .i64 n] u (ansT (entT t1 id n).1 (entT t1 id n).2 u)) := fun t1 a1 n1 c1 u h => hE t1 id n _ u h hid hn
  have HQL : Hid (∀ (t1 : Tr) a1 n1 c1 u, TrAt u (.slice a1 n1 c1) t1 → Calls Try.prog 8 #[.agg #[.slice a1 n1 c1, .int .i64 t1.at', .bool t1.fresh], .int .i64 id] u (ansT (levT t1 id).1 (levT t1 id).2 u)) := fun t1 a1 n1 c1 u h => hL t1 id _ u h hid
  have HQA : Hid (∀ (t1 : Tr) a1 n1 c1 u, TrAt u (.slice a1 n1 c1) t1 → (∀ j, j < t1.qs.length → (t1.q j).costs.length ≤ 17592186043904) → Calls Try.prog 9 #[.agg #[.slice a1 n1 c1, .int .i64 t1.at', .bool t1.fresh], .int .i64 id, .int .i64 n] u (ansT (askT t1 id n).1 (askT t1 id n).2 u)) := fun t1 a1 n1 c1 u h hl => hA t1 id n _ u h hl hid hn
  have HLC := Hid.mkT hlc
  clear hC hE hL hA rC rE rL rA h hfew hlc
  obtain ⟨l, z, f⟩ := t
  unfold turV
  simp only at *
  obtain ⟨w0, hw0⟩ : ∃ w0, w.alloc (.cells #[.slice a l.length cap, .int .i64 z, .bool f] 24) = w0 := ⟨_, rfl⟩
  obtain ⟨B, hB⟩ : ∃ B, w.heap.size = B := ⟨_, rfl⟩
  have HB0 : Hid (Below w.heap.size w w0) := by have := (turBox w (.slice a l.length cap) z f).1; rw [hw0] at this; exact this
  have HXB : Hid (BoxT w0 B (.slice a l.length cap) ⟨l, z, f⟩) := by have := BoxT.new w (.slice a l.length cap) ⟨l, z, f⟩ z f rfl rfl; rw [hw0, hB] at this; exact this
  obtain ⟨p0, p1, p2, -, -⟩ := HXB.out
  simp only at p1 p2
  go_enter Try.func3, Try.ntmps3
  go_wp2_with fail
  refine (HRO.out _ HB0.out).mono ?_
  rintro e w1 ⟨g, rc, vs, rs, rfl, hrm, hb1⟩
  simp only at hrm
  -- c's box
  obtain ⟨w2, hw2⟩ : ∃ w2, w1.alloc (.cells #[.slice (some ⟨g, 0, none⟩) l.length rc, .int .i64 z, .bool f] 24) = w2 := ⟨_, rfl⟩
  obtain ⟨C, hC⟩ : ∃ C, w1.heap.size = C := ⟨_, rfl⟩
  have hb2 : Below w1.heap.size w1 w2 := by have := (turBox w1 (.slice (some ⟨g, 0, none⟩) l.length rc) z f).1; rw [hw2] at this; exact this
  have HXC : Hid (BoxT w2 C (.slice (some ⟨g, 0, none⟩) l.length rc) ⟨l, z, f⟩) := by have := BoxT.new w1 (.slice (some ⟨g, 0, none⟩) l.length rc) ⟨l, z, f⟩ z f rfl rfl; rw [hw2, hC] at this; exact this
  have HLIM : Hid (g ≠ C ∧ g ≠ B ∧ ∀ j, j < l.length → rs.getD j none ≠ some C ∧ rs.getD j none ≠ some B) := by
    have hg1 := hrm.mem.row.lt
    have hg2 := hrm.mem.new g rfl
    have hBl := HXB.out.lt
    have hb1s := hb1.size
    refine ⟨by omega, by omega, fun j hj => ⟨fun e => ?_, fun e => ?_⟩⟩
    · have := hrm.row hj
      rw [e] at this
      have := this.lt
      omega
    · have := hrm.mem.newc j (by simpa using hj) B e
      omega
  have HRM2 := Hid.mkT (hrm.later hb2)
  have HB02 : Hid (Below w0.heap.size w0 w2) := below_of hb1 hb2
  clear hrm hb1 hb2 HRO p0 p1 p2
  obtain ⟨c0, c1, c2, -, -⟩ := HXC.out
  simp only at c1 c2
  go_wp2_with fail
  refine (lmovedOf w0.heap.size g l.length rc ⟨l, z, f⟩ vs rs w2 HRM2.out).mono ?_
  rintro e w3 ⟨t3, vs3, rfl, hlk, hrm3, hb3, hfr3⟩
  obtain ⟨l3, z3, f3⟩ := t3
  have ez : z3 = z := hlk.at_
  have ef : f3 = f := hlk.fr
  subst ez ef
  simp only
  have HLK := Hid.mkT hlk
  have HL3 : Hid (∀ j, j < l3.length → ((⟨l3, z3, f3⟩ : Tr).q j).costs.length ≤ 17592186043904) := fun j hj => by
    have hl := hlk.len
    simp only at hl
    rw [(hlk.same j (by show j < l.length; omega)).2.2]
    exact HLC.out j (by omega)
  have HXC3 := Hid.mkT (HXC.out.block (hfr3 C HXC.out.lt (Ne.symm HLIM.out.1) (fun j hj => (HLIM.out.2.2 j hj).1)) hb3.size)
  have HB03 : Hid (Below w0.heap.size w0 w3) := HB02.out.trans hb3
  have HRM3 := Hid.mkT hrm3
  have HBM0 : Hid (Below w3.heap.size w3 w3) := Below.refl _ _
  clear hlk hrm3 hb3 hfr3 c0 c1 c2 HRM2
  obtain ⟨c0, c1, c2, -, -⟩ := HXC3.out.later HBM0.out
  simp only at c1 c2
  go_wp2_with fail
  refine (HQC.out ⟨l3, z3, f3⟩ _ _ _ _ (HRM3.out.later HBM0.out).reads).mono ?_
  rintro e m1 ⟨rfl, hbm⟩
  have HBM1 : Hid (Below w3.heap.size w3 m1) := below_of HBM0.out hbm
  clear hbm c0 c1 c2
  obtain ⟨c0, c1, c2, -, -⟩ := HXC3.out.later HBM1.out
  simp only at c1 c2
  go_wp2_with fail
  refine (HQE.out ⟨l3, z3, f3⟩ _ _ _ _ (HRM3.out.later HBM1.out).reads).mono ?_
  rintro e m2 ⟨a_1, c_1, rfl, -, hbm⟩
  unfold turV
  have HBM2 : Hid (Below w3.heap.size w3 m2) := below_of HBM1.out hbm
  clear hbm c0 c1 c2
  obtain ⟨c0, c1, c2, -, -⟩ := HXC3.out.later HBM2.out
  simp only at c1 c2
  go_wp2_with fail
  refine (HQL.out ⟨l3, z3, f3⟩ _ _ _ _ (HRM3.out.later HBM2.out).reads).mono ?_
  rintro e m3 ⟨a_2, c_2, rfl, -, hbm⟩
  unfold turV
  have HBM3 : Hid (Below w3.heap.size w3 m3) := below_of HBM2.out hbm
  clear hbm c0 c1 c2
  obtain ⟨c0, c1, c2, -, -⟩ := HXC3.out.later HBM3.out
  simp only at c1 c2
  go_wp2_with fail
  refine (HQA.out ⟨l3, z3, f3⟩ _ _ _ _ (HRM3.out.later HBM3.out).reads HL3.out).mono ?_
  rintro e m4 ⟨a_3, c_3, rfl, -, hbm⟩
  unfold turV
  have HBM4 : Hid (Below w3.heap.size w3 m4) := below_of HBM3.out hbm
  clear hbm c0 c1 c2
  have HRM4 := Hid.mkT (HRM3.out.later HBM4.out)
  have HXC4 := Hid.mkT (HXC3.out.later HBM4.out)
  have HB04 : Hid (Below w0.heap.size w0 m4) := below_onz HB03.out HBM4.out HB03.out.size
  have HXB4 := Hid.mkT (HXB.out.block (HB04.out.block B HXB.out.lt) HB04.out.size)
  have HTB : Hid (∀ u, Below w0.heap.size m4 u → TrAt u (.slice a l.length cap) ⟨l, z3, f3⟩) := fun u hu => HT.out u (below_of HB0.out (HB04.out.trans hu))
  obtain ⟨c0, c1, c2, -, -⟩ := HXC4.out
  obtain ⟨p0, p1, p2, -, -⟩ := HXB4.out
  simp only at c1 c2 p1 p2
  go_wp2_with fail
  refine (lbackOf w0.heap.size g l.length rc ⟨l, z3, f3⟩ ⟨l3, z3, f3⟩ vs3 rs _ m4 HRM4.out HLK.out HTB.out).mono ?_
  rintro e w5 ⟨vs5, rfl, hrm5, hb5, hfr5⟩
  have HXC5 := Hid.mkT (HXC4.out.block (hfr5 C HXC4.out.lt (Ne.symm HLIM.out.1) (fun j hj => (HLIM.out.2.2 j hj).1)) hb5.size)
  have HB05 : Hid (Below w0.heap.size w0 w5) := HB04.out.trans hb5
  have HRM5 := Hid.mkT hrm5
  have HXB5 := Hid.mkT (HXB.out.block (HB05.out.block B HXB.out.lt) HB05.out.size)
  have HBW5 : Hid (Below w.heap.size w w5) := below_onz HB0.out HB05.out HB0.out.size
  clear hrm5 hb5 hfr5 c0 c1 c2 p0 p1 p2 HRM3 HRM4 HXC3 HXC4 HXB4 HTB HB03 HB04 HLK HXC HB02 HBM0 HBM1 HBM2 HBM3 HBM4 HL3
  obtain ⟨c0, c1, c2, -, -⟩ := HXC5.out
  obtain ⟨p0, p1, p2, -, -⟩ := HXB5.out
  simp only at c1 c2 p1 p2
  -- both Checks
  have r0 := cell_regrown c0
  have r1 := cell_regrown c1
  have r2 := cell_regrown c2
  have s0 := cell_regrown p0
  have s1 := cell_regrown p1
  have s2 := cell_regrown p2
  obtain ⟨EC, hEC⟩ : ∃ EC, chkT ⟨l, z3, f3⟩ = EC := ⟨_, rfl⟩
  have cA : ∀ d os, Calls Try.prog 6 #[.agg #[.slice (some ⟨g, 0, none⟩) l.length rc, .int .i64 z3, .bool f3]] (Go.Sort.grow (redrawn w5 d) os) fun e w'' => e = .returned (.int .i64 EC) ∧ ∃ p : Regrown, w'' = Go.Sort.grow (redrawn w5 p.d) p.os := fun d os => Calls.regrown_of (by rw [← hEC]; exact HQC.out ⟨l, z3, f3⟩ _ _ _ _ (HRM5.out.later (below_regrown w5 d os)).reads)
  have cB : ∀ d os, Calls Try.prog 11 #[.agg #[.slice a l.length cap, .int .i64 z3, .bool f3]] (Go.Sort.grow (redrawn w5 d) os) fun e w'' => e = .returned (.int .i64 EC) ∧ ∃ p : Regrown, w'' = Go.Sort.grow (redrawn w5 p.d) p.os := fun d os => Calls.regrown_of (by rw [← hEC]; exact HDC.out _ (below_of HBW5.out (below_regrown w5 d os)))
  have hee : decide (EC ≠ EC) = false := by simp
  have hee2 : (EC != EC) = false := by simp
  clear hEC
  go_wp2_with fail
  refine wp_region_quiet_below (by kernel_rfl) (by kernel_rfl) ?_
  repeat (go_big_quiet_step (first | exact cA _ _ | exact cB _ _))
  refine wpQuiet_nil ?_
  intro _ hw'
  obtain ⟨⟨dq, osq⟩, hw''⟩ := hw'
  subst hw''
  obtain ⟨x0, hx0⟩ : ∃ u, Go.Sort.grow (redrawn w5 dq) osq = u := ⟨_, rfl⟩
  have HBX0 : Hid (Below w5.heap.size w5 x0) := by rw [← hx0]; exact below_regrown w5 dq osq
  rw [hx0]
  clear r0 r1 r2 s0 s1 s2 cA cB hx0 c0 c1 c2 p0 p1 p2
  have h32E := ent_few ⟨l, z3, f3⟩ id n
  have h32L := lev_few ⟨l, z3, f3⟩ id
  have h32A := ask_few ⟨l, z3, f3⟩ id n
  have HKE : Hid (∀ u, Below w5.heap.size w5 u → Calls Try.prog 7 #[.agg #[.slice (some ⟨g, 0, none⟩) l.length rc, .int .i64 z3, .bool f3], .int .i64 id, .int .i64 n] u (ansT (entT ⟨l, z3, f3⟩ id n).1 (entT ⟨l, z3, f3⟩ id n).2 u)) := fun u hu => HQE.out ⟨l, z3, f3⟩ _ _ _ u (HRM5.out.later hu).reads
  have HJE : Hid (∀ u, Below w5.heap.size w5 u → Calls Try.prog 12 #[.agg #[.slice a l.length cap, .int .i64 z3, .bool f3], .int .i64 id, .int .i64 n] u (ansT (entT ⟨l, z3, f3⟩ id n).1 (entT ⟨l, z3, f3⟩ id n).2 u)) := fun u hu => HDE.out u (below_of HBW5.out hu)
  obtain ⟨TE, hTE⟩ : ∃ T, (entT ⟨l, z3, f3⟩ id n).1 = T := ⟨_, rfl⟩
  obtain ⟨EE, hEE⟩ : ∃ T, (entT ⟨l, z3, f3⟩ id n).2 = T := ⟨_, rfl⟩
  rw [hTE] at h32E
  rw [hTE, hEE] at HKE HJE
  clear hTE hEE HDE
  obtain ⟨lE, zE, fE⟩ := TE
  simp only at h32E
  have heE : decide (EE ≠ EE) = false := by simp
  have hfE : (EE != EE) = false := by simp
  have HKL : Hid (∀ u, Below w5.heap.size w5 u → Calls Try.prog 8 #[.agg #[.slice (some ⟨g, 0, none⟩) l.length rc, .int .i64 z3, .bool f3], .int .i64 id] u (ansT (levT ⟨l, z3, f3⟩ id).1 (levT ⟨l, z3, f3⟩ id).2 u)) := fun u hu => HQL.out ⟨l, z3, f3⟩ _ _ _ u (HRM5.out.later hu).reads
  have HJL : Hid (∀ u, Below w5.heap.size w5 u → Calls Try.prog 14 #[.agg #[.slice a l.length cap, .int .i64 z3, .bool f3], .int .i64 id] u (ansT (levT ⟨l, z3, f3⟩ id).1 (levT ⟨l, z3, f3⟩ id).2 u)) := fun u hu => HDL.out u (below_of HBW5.out hu)
  obtain ⟨TL, hTL⟩ : ∃ T, (levT ⟨l, z3, f3⟩ id).1 = T := ⟨_, rfl⟩
  obtain ⟨EL, hEL⟩ : ∃ T, (levT ⟨l, z3, f3⟩ id).2 = T := ⟨_, rfl⟩
  rw [hTL] at h32L
  rw [hTL, hEL] at HKL HJL
  clear hTL hEL HDL
  obtain ⟨lL, zL, fL⟩ := TL
  simp only at h32L
  have heL : decide (EL ≠ EL) = false := by simp
  have hfL : (EL != EL) = false := by simp
  have HKA : Hid (∀ u, Below w5.heap.size w5 u → Calls Try.prog 9 #[.agg #[.slice (some ⟨g, 0, none⟩) l.length rc, .int .i64 z3, .bool f3], .int .i64 id, .int .i64 n] u (ansT (askT ⟨l, z3, f3⟩ id n).1 (askT ⟨l, z3, f3⟩ id n).2 u)) := fun u hu => HQA.out ⟨l, z3, f3⟩ _ _ _ u (HRM5.out.later hu).reads HLC.out
  have HJA : Hid (∀ u, Below w5.heap.size w5 u → Calls Try.prog 15 #[.agg #[.slice a l.length cap, .int .i64 z3, .bool f3], .int .i64 id, .int .i64 n] u (ansT (askT ⟨l, z3, f3⟩ id n).1 (askT ⟨l, z3, f3⟩ id n).2 u)) := fun u hu => HDA.out u (below_of HBW5.out hu)
  obtain ⟨TA, hTA⟩ : ∃ T, (askT ⟨l, z3, f3⟩ id n).1 = T := ⟨_, rfl⟩
  obtain ⟨EA, hEA⟩ : ∃ T, (askT ⟨l, z3, f3⟩ id n).2 = T := ⟨_, rfl⟩
  rw [hTA] at h32A
  rw [hTA, hEA] at HKA HJA
  clear hTA hEA HDA
  obtain ⟨lA, zA, fA⟩ := TA
  simp only at h32A
  have heA : decide (EA ≠ EA) = false := by simp
  have hfA : (EA != EA) = false := by simp
  clear HQC HQE HQL HQA HDC HLC
  obtain ⟨c0, c1, c2, -, -⟩ := HXC5.out.later HBX0.out
  simp only at c1 c2
  go_wp2_with fail
  refine (HKE.out _ HBX0.out).mono ?_
  rintro e y0 ⟨a0, k0, rfl, hnew, hbn⟩
  simp only at hnew
  unfold turV
  simp only
  obtain ⟨u0, hwb0⟩ : ∃ u, y0.alloc (.cells #[.slice a0 lE.length k0, .int .i64 zE, .bool fE] 24) = u := ⟨_, rfl⟩
  obtain ⟨X0, hX0⟩ : ∃ X, y0.heap.size = X := ⟨_, rfl⟩
  have hbb : Below y0.heap.size y0 u0 := by have := (turBox y0 (.slice a0 lE.length k0) zE fE).1; rw [hwb0] at this; exact this
  have HXX0 : Hid (BoxT u0 X0 (.slice a0 lE.length k0) ⟨lE, zE, fE⟩) := by have := BoxT.new y0 (.slice a0 lE.length k0) ⟨lE, zE, fE⟩ zE fE rfl rfl; rw [hwb0, hX0] at this; exact this
  have HTN0 : Hid (TN x0.heap.size X0 u0 (.slice a0 lE.length k0) ⟨lE, zE, fE⟩) := by have := (TN.of hnew).later hbb; rw [hX0] at this; exact this
  have hsz0 : x0.heap.size ≤ X0 ∧ X0 < u0.heap.size := ⟨by rw [← hX0]; exact hbn.size, HXX0.out.lt⟩
  have HS0 : Hid (Below x0.heap.size x0 u0) := below_of hbn hbb
  have HBU0 : Hid (Below w5.heap.size w5 u0) := below_of HBX0.out HS0.out
  clear hnew hbn hbb c0 c1 c2
  obtain ⟨c0, c1, c2, -, -⟩ := HXB5.out.later HBU0.out
  simp only at c1 c2
  go_wp2_with fail
  refine (HJE.out _ HBU0.out).mono ?_
  rintro e y1 ⟨a1, k1, rfl, hnew, hbn⟩
  simp only at hnew
  unfold turV
  simp only
  obtain ⟨u1, hwb1⟩ : ∃ u, y1.alloc (.cells #[.slice a1 lE.length k1, .int .i64 zE, .bool fE] 24) = u := ⟨_, rfl⟩
  obtain ⟨X1, hX1⟩ : ∃ X, y1.heap.size = X := ⟨_, rfl⟩
  have hbb : Below y1.heap.size y1 u1 := by have := (turBox y1 (.slice a1 lE.length k1) zE fE).1; rw [hwb1] at this; exact this
  have HXX1 : Hid (BoxT u1 X1 (.slice a1 lE.length k1) ⟨lE, zE, fE⟩) := by have := BoxT.new y1 (.slice a1 lE.length k1) ⟨lE, zE, fE⟩ zE fE rfl rfl; rw [hwb1, hX1] at this; exact this
  have HTN1 : Hid (TN u0.heap.size X1 u1 (.slice a1 lE.length k1) ⟨lE, zE, fE⟩) := by have := (TN.of hnew).later hbb; rw [hX1] at this; exact this
  have hsz1 : u0.heap.size ≤ X1 ∧ X1 < u1.heap.size := ⟨by rw [← hX1]; exact hbn.size, HXX1.out.lt⟩
  have HS1 : Hid (Below u0.heap.size u0 u1) := below_of hbn hbb
  have HBU1 : Hid (Below w5.heap.size w5 u1) := below_of HBU0.out HS1.out
  clear hnew hbn hbb c0 c1 c2
  have hla : Below u0.heap.size u0 u1 := HS1.out
  have hlb : Below u1.heap.size u1 u1 := Below.refl _ _
  obtain ⟨c0, c1, c2, -, -⟩ := HXX0.out.later hla
  obtain ⟨p0, p1, p2, -, -⟩ := HXX1.out.later hlb
  simp only at c1 c2 p1 p2
  have HSM := Hid.mkT (lsameOf ⟨lE, zE, fE⟩ _ _ u1 (HTN0.out.later hla).reads (HTN1.out.later hlb).reads)
  unfold turV at HSM
  simp only at HSM
  clear hla hlb
  go_wp2_with fail
  refine HSM.out.mono ?_
  rintro e v2 ⟨rfl, hbm⟩
  have HS2 : Hid (Below u1.heap.size u1 v2) := hbm
  have hsz2 : u1.heap.size ≤ v2.heap.size := hbm.size
  have HBU2 : Hid (Below w5.heap.size w5 v2) := below_of HBU1.out HS2.out
  clear hbm c0 c1 c2 p0 p1 p2 HSM
  obtain ⟨c0, c1, c2, -, -⟩ := HXC5.out.later HBU2.out
  simp only at c1 c2
  go_wp2_with fail
  refine (HKL.out _ HBU2.out).mono ?_
  rintro e y3 ⟨a3, k3, rfl, hnew, hbn⟩
  simp only at hnew
  unfold turV
  simp only
  obtain ⟨u3, hwb3⟩ : ∃ u, y3.alloc (.cells #[.slice a3 lL.length k3, .int .i64 zL, .bool fL] 24) = u := ⟨_, rfl⟩
  obtain ⟨X3, hX3⟩ : ∃ X, y3.heap.size = X := ⟨_, rfl⟩
  have hbb : Below y3.heap.size y3 u3 := by have := (turBox y3 (.slice a3 lL.length k3) zL fL).1; rw [hwb3] at this; exact this
  have HXX3 : Hid (BoxT u3 X3 (.slice a3 lL.length k3) ⟨lL, zL, fL⟩) := by have := BoxT.new y3 (.slice a3 lL.length k3) ⟨lL, zL, fL⟩ zL fL rfl rfl; rw [hwb3, hX3] at this; exact this
  have HTN3 : Hid (TN v2.heap.size X3 u3 (.slice a3 lL.length k3) ⟨lL, zL, fL⟩) := by have := (TN.of hnew).later hbb; rw [hX3] at this; exact this
  have hsz3 : v2.heap.size ≤ X3 ∧ X3 < u3.heap.size := ⟨by rw [← hX3]; exact hbn.size, HXX3.out.lt⟩
  have HS3 : Hid (Below v2.heap.size v2 u3) := below_of hbn hbb
  have HBU3 : Hid (Below w5.heap.size w5 u3) := below_of HBU2.out HS3.out
  clear hnew hbn hbb c0 c1 c2
  obtain ⟨c0, c1, c2, -, -⟩ := HXB5.out.later HBU3.out
  simp only at c1 c2
  go_wp2_with fail
  refine (HJL.out _ HBU3.out).mono ?_
  rintro e y4 ⟨a4, k4, rfl, hnew, hbn⟩
  simp only at hnew
  unfold turV
  simp only
  obtain ⟨u4, hwb4⟩ : ∃ u, y4.alloc (.cells #[.slice a4 lL.length k4, .int .i64 zL, .bool fL] 24) = u := ⟨_, rfl⟩
  obtain ⟨X4, hX4⟩ : ∃ X, y4.heap.size = X := ⟨_, rfl⟩
  have hbb : Below y4.heap.size y4 u4 := by have := (turBox y4 (.slice a4 lL.length k4) zL fL).1; rw [hwb4] at this; exact this
  have HXX4 : Hid (BoxT u4 X4 (.slice a4 lL.length k4) ⟨lL, zL, fL⟩) := by have := BoxT.new y4 (.slice a4 lL.length k4) ⟨lL, zL, fL⟩ zL fL rfl rfl; rw [hwb4, hX4] at this; exact this
  have HTN4 : Hid (TN u3.heap.size X4 u4 (.slice a4 lL.length k4) ⟨lL, zL, fL⟩) := by have := (TN.of hnew).later hbb; rw [hX4] at this; exact this
  have hsz4 : u3.heap.size ≤ X4 ∧ X4 < u4.heap.size := ⟨by rw [← hX4]; exact hbn.size, HXX4.out.lt⟩
  have HS4 : Hid (Below u3.heap.size u3 u4) := below_of hbn hbb
  have HBU4 : Hid (Below w5.heap.size w5 u4) := below_of HBU3.out HS4.out
  clear hnew hbn hbb c0 c1 c2
  have hla : Below u3.heap.size u3 u4 := HS4.out
  have hlb : Below u4.heap.size u4 u4 := Below.refl _ _
  obtain ⟨c0, c1, c2, -, -⟩ := HXX3.out.later hla
  obtain ⟨p0, p1, p2, -, -⟩ := HXX4.out.later hlb
  simp only at c1 c2 p1 p2
  have HSM := Hid.mkT (lsameOf ⟨lL, zL, fL⟩ _ _ u4 (HTN3.out.later hla).reads (HTN4.out.later hlb).reads)
  unfold turV at HSM
  simp only at HSM
  clear hla hlb
  go_wp2_with fail
  refine HSM.out.mono ?_
  rintro e v5 ⟨rfl, hbm⟩
  have HS5 : Hid (Below u4.heap.size u4 v5) := hbm
  have hsz5 : u4.heap.size ≤ v5.heap.size := hbm.size
  have HBU5 : Hid (Below w5.heap.size w5 v5) := below_of HBU4.out HS5.out
  clear hbm c0 c1 c2 p0 p1 p2 HSM
  obtain ⟨c0, c1, c2, -, -⟩ := HXC5.out.later HBU5.out
  simp only at c1 c2
  go_wp2_with fail
  refine (HKA.out _ HBU5.out).mono ?_
  rintro e y6 ⟨a6, k6, rfl, hnew, hbn⟩
  simp only at hnew
  unfold turV
  simp only
  obtain ⟨u6, hwb6⟩ : ∃ u, y6.alloc (.cells #[.slice a6 lA.length k6, .int .i64 zA, .bool fA] 24) = u := ⟨_, rfl⟩
  obtain ⟨X6, hX6⟩ : ∃ X, y6.heap.size = X := ⟨_, rfl⟩
  have hbb : Below y6.heap.size y6 u6 := by have := (turBox y6 (.slice a6 lA.length k6) zA fA).1; rw [hwb6] at this; exact this
  have HXX6 : Hid (BoxT u6 X6 (.slice a6 lA.length k6) ⟨lA, zA, fA⟩) := by have := BoxT.new y6 (.slice a6 lA.length k6) ⟨lA, zA, fA⟩ zA fA rfl rfl; rw [hwb6, hX6] at this; exact this
  have HTN6 : Hid (TN v5.heap.size X6 u6 (.slice a6 lA.length k6) ⟨lA, zA, fA⟩) := by have := (TN.of hnew).later hbb; rw [hX6] at this; exact this
  have hsz6 : v5.heap.size ≤ X6 ∧ X6 < u6.heap.size := ⟨by rw [← hX6]; exact hbn.size, HXX6.out.lt⟩
  have HS6 : Hid (Below v5.heap.size v5 u6) := below_of hbn hbb
  have HBU6 : Hid (Below w5.heap.size w5 u6) := below_of HBU5.out HS6.out
  clear hnew hbn hbb c0 c1 c2
  obtain ⟨c0, c1, c2, -, -⟩ := HXB5.out.later HBU6.out
  simp only at c1 c2
  go_wp2_with fail
  refine (HJA.out _ HBU6.out).mono ?_
  rintro e y7 ⟨a7, k7, rfl, hnew, hbn⟩
  simp only at hnew
  unfold turV
  simp only
  obtain ⟨u7, hwb7⟩ : ∃ u, y7.alloc (.cells #[.slice a7 lA.length k7, .int .i64 zA, .bool fA] 24) = u := ⟨_, rfl⟩
  obtain ⟨X7, hX7⟩ : ∃ X, y7.heap.size = X := ⟨_, rfl⟩
  have hbb : Below y7.heap.size y7 u7 := by have := (turBox y7 (.slice a7 lA.length k7) zA fA).1; rw [hwb7] at this; exact this
  have HXX7 : Hid (BoxT u7 X7 (.slice a7 lA.length k7) ⟨lA, zA, fA⟩) := by have := BoxT.new y7 (.slice a7 lA.length k7) ⟨lA, zA, fA⟩ zA fA rfl rfl; rw [hwb7, hX7] at this; exact this
  have HTN7 : Hid (TN u6.heap.size X7 u7 (.slice a7 lA.length k7) ⟨lA, zA, fA⟩) := by have := (TN.of hnew).later hbb; rw [hX7] at this; exact this
  have hsz7 : u6.heap.size ≤ X7 ∧ X7 < u7.heap.size := ⟨by rw [← hX7]; exact hbn.size, HXX7.out.lt⟩
  have HS7 : Hid (Below u6.heap.size u6 u7) := below_of hbn hbb
  have HBU7 : Hid (Below w5.heap.size w5 u7) := below_of HBU6.out HS7.out
  clear hnew hbn hbb c0 c1 c2
  have hla : Below u6.heap.size u6 u7 := HS7.out
  have hlb : Below u7.heap.size u7 u7 := Below.refl _ _
  obtain ⟨c0, c1, c2, -, -⟩ := HXX6.out.later hla
  obtain ⟨p0, p1, p2, -, -⟩ := HXX7.out.later hlb
  simp only at c1 c2 p1 p2
  have HSM := Hid.mkT (lsameOf ⟨lA, zA, fA⟩ _ _ u7 (HTN6.out.later hla).reads (HTN7.out.later hlb).reads)
  unfold turV at HSM
  simp only at HSM
  clear hla hlb
  go_wp2_with fail
  refine HSM.out.mono ?_
  rintro e v8 ⟨rfl, hbm⟩
  have HS8 : Hid (Below u7.heap.size u7 v8) := hbm
  have hsz8 : u7.heap.size ≤ v8.heap.size := hbm.size
  have HBU8 : Hid (Below w5.heap.size w5 v8) := below_of HBU7.out HS8.out
  clear hbm c0 c1 c2 p0 p1 p2 HSM
  obtain ⟨c0, c1, c2, -, -⟩ := HXC5.out.later HBU8.out
  simp only at c1 c2
  go_wp2_with fail
  refine (HKE.out _ HBU8.out).mono ?_
  rintro e y9 ⟨a9, k9, rfl, hnew, hbn⟩
  simp only at hnew
  unfold turV
  simp only
  obtain ⟨u9, hwb9⟩ : ∃ u, y9.alloc (.cells #[.slice a9 lE.length k9, .int .i64 zE, .bool fE] 24) = u := ⟨_, rfl⟩
  obtain ⟨X9, hX9⟩ : ∃ X, y9.heap.size = X := ⟨_, rfl⟩
  have hbb : Below y9.heap.size y9 u9 := by have := (turBox y9 (.slice a9 lE.length k9) zE fE).1; rw [hwb9] at this; exact this
  have HXX9 : Hid (BoxT u9 X9 (.slice a9 lE.length k9) ⟨lE, zE, fE⟩) := by have := BoxT.new y9 (.slice a9 lE.length k9) ⟨lE, zE, fE⟩ zE fE rfl rfl; rw [hwb9, hX9] at this; exact this
  have HTN9 : Hid (TN v8.heap.size X9 u9 (.slice a9 lE.length k9) ⟨lE, zE, fE⟩) := by have := (TN.of hnew).later hbb; rw [hX9] at this; exact this
  have hsz9 : v8.heap.size ≤ X9 ∧ X9 < u9.heap.size := ⟨by rw [← hX9]; exact hbn.size, HXX9.out.lt⟩
  have HS9 : Hid (Below v8.heap.size v8 u9) := below_of hbn hbb
  have HBU9 : Hid (Below w5.heap.size w5 u9) := below_of HBU8.out HS9.out
  clear hnew hbn hbb c0 c1 c2
  obtain ⟨c0, c1, c2, -, -⟩ := HXC5.out.later HBU9.out
  simp only at c1 c2
  go_wp2_with fail
  refine (HKL.out _ HBU9.out).mono ?_
  rintro e y10 ⟨a10, k10, rfl, hnew, hbn⟩
  simp only at hnew
  unfold turV
  simp only
  obtain ⟨u10, hwb10⟩ : ∃ u, y10.alloc (.cells #[.slice a10 lL.length k10, .int .i64 zL, .bool fL] 24) = u := ⟨_, rfl⟩
  obtain ⟨X10, hX10⟩ : ∃ X, y10.heap.size = X := ⟨_, rfl⟩
  have hbb : Below y10.heap.size y10 u10 := by have := (turBox y10 (.slice a10 lL.length k10) zL fL).1; rw [hwb10] at this; exact this
  have HXX10 : Hid (BoxT u10 X10 (.slice a10 lL.length k10) ⟨lL, zL, fL⟩) := by have := BoxT.new y10 (.slice a10 lL.length k10) ⟨lL, zL, fL⟩ zL fL rfl rfl; rw [hwb10, hX10] at this; exact this
  have HTN10 : Hid (TN u9.heap.size X10 u10 (.slice a10 lL.length k10) ⟨lL, zL, fL⟩) := by have := (TN.of hnew).later hbb; rw [hX10] at this; exact this
  have hsz10 : u9.heap.size ≤ X10 ∧ X10 < u10.heap.size := ⟨by rw [← hX10]; exact hbn.size, HXX10.out.lt⟩
  have HS10 : Hid (Below u9.heap.size u9 u10) := below_of hbn hbb
  have HBU10 : Hid (Below w5.heap.size w5 u10) := below_of HBU9.out HS10.out
  clear hnew hbn hbb c0 c1 c2
  obtain ⟨c0, c1, c2, -, -⟩ := HXC5.out.later HBU10.out
  simp only at c1 c2
  go_wp2_with fail
  refine (HKA.out _ HBU10.out).mono ?_
  rintro e y11 ⟨a11, k11, rfl, hnew, hbn⟩
  simp only at hnew
  unfold turV
  simp only
  obtain ⟨u11, hwb11⟩ : ∃ u, y11.alloc (.cells #[.slice a11 lA.length k11, .int .i64 zA, .bool fA] 24) = u := ⟨_, rfl⟩
  obtain ⟨X11, hX11⟩ : ∃ X, y11.heap.size = X := ⟨_, rfl⟩
  have hbb : Below y11.heap.size y11 u11 := by have := (turBox y11 (.slice a11 lA.length k11) zA fA).1; rw [hwb11] at this; exact this
  have HXX11 : Hid (BoxT u11 X11 (.slice a11 lA.length k11) ⟨lA, zA, fA⟩) := by have := BoxT.new y11 (.slice a11 lA.length k11) ⟨lA, zA, fA⟩ zA fA rfl rfl; rw [hwb11, hX11] at this; exact this
  have HTN11 : Hid (TN u10.heap.size X11 u11 (.slice a11 lA.length k11) ⟨lA, zA, fA⟩) := by have := (TN.of hnew).later hbb; rw [hX11] at this; exact this
  have hsz11 : u10.heap.size ≤ X11 ∧ X11 < u11.heap.size := ⟨by rw [← hX11]; exact hbn.size, HXX11.out.lt⟩
  have HS11 : Hid (Below u10.heap.size u10 u11) := below_of hbn hbb
  have HBU11 : Hid (Below w5.heap.size w5 u11) := below_of HBU10.out HS11.out
  clear hnew hbn hbb c0 c1 c2
  -- all at u11
  have HG0 : Hid (BoxT u11 X0 (.slice a0 lE.length k0) ⟨lE, zE, fE⟩) := HXX0.out.later ((below_of (below_of (below_of (below_of (below_of (below_of (below_of (below_of (below_of (below_of HS1.out HS2.out) HS3.out) HS4.out) HS5.out) HS6.out) HS7.out) HS8.out) HS9.out) HS10.out) HS11.out))
  have HG1 : Hid (BoxT u11 X1 (.slice a1 lE.length k1) ⟨lE, zE, fE⟩) := HXX1.out.later ((below_of (below_of (below_of (below_of (below_of (below_of (below_of (below_of (below_of HS2.out HS3.out) HS4.out) HS5.out) HS6.out) HS7.out) HS8.out) HS9.out) HS10.out) HS11.out))
  have HG3 : Hid (BoxT u11 X3 (.slice a3 lL.length k3) ⟨lL, zL, fL⟩) := HXX3.out.later ((below_of (below_of (below_of (below_of (below_of (below_of (below_of HS4.out HS5.out) HS6.out) HS7.out) HS8.out) HS9.out) HS10.out) HS11.out))
  have HG4 : Hid (BoxT u11 X4 (.slice a4 lL.length k4) ⟨lL, zL, fL⟩) := HXX4.out.later ((below_of (below_of (below_of (below_of (below_of (below_of HS5.out HS6.out) HS7.out) HS8.out) HS9.out) HS10.out) HS11.out))
  have HG6 : Hid (BoxT u11 X6 (.slice a6 lA.length k6) ⟨lA, zA, fA⟩) := HXX6.out.later ((below_of (below_of (below_of (below_of HS7.out HS8.out) HS9.out) HS10.out) HS11.out))
  have HG7 : Hid (BoxT u11 X7 (.slice a7 lA.length k7) ⟨lA, zA, fA⟩) := HXX7.out.later ((below_of (below_of (below_of HS8.out HS9.out) HS10.out) HS11.out))
  have HG9 : Hid (BoxT u11 X9 (.slice a9 lE.length k9) ⟨lE, zE, fE⟩) := HXX9.out.later ((below_of HS10.out HS11.out))
  have HG10 : Hid (BoxT u11 X10 (.slice a10 lL.length k10) ⟨lL, zL, fL⟩) := HXX10.out.later (HS11.out)
  have HG11 : Hid (BoxT u11 X11 (.slice a11 lA.length k11) ⟨lA, zA, fA⟩) := HXX11.out.later (Below.refl _ _)
  obtain ⟨p0, p1, p2, -, -⟩ := HXB5.out.later HBU11.out
  obtain ⟨c0, c1, c2, -, -⟩ := HXC5.out.later HBU11.out
  simp only at p1 p2 c1 c2
  have HKP := Hid.mkT (lkeptOf w0.heap.size g l.length rc ⟨l, z3, f3⟩ vs5 rs _ u11 (HRM5.out.later HBU11.out) (HT.out u11 (below_of HBW5.out HBU11.out)))
  unfold turV at HKP
  simp only at HKP
  go_wp2_with fail
  refine HKP.out.mono ?_
  rintro e s0 ⟨rfl, hbm⟩
  have HF0 : Hid (Below u11.heap.size u11 s0) := hbm
  clear hbm HKP p0 p1 p2 c0 c1 c2
  have hs0 : u11.heap.size ≤ s0.heap.size := HF0.out.size
  have hx05 : w5.heap.size ≤ x0.heap.size := HBX0.out.size
  have HB00 : Hid (BoxT s0 X0 (.slice a0 lE.length k0) ⟨lE, zE, fE⟩) := HG0.out.later HF0.out
  have HT00 : Hid (TN x0.heap.size X0 s0 (.slice a0 lE.length k0) ⟨lE, zE, fE⟩) := (HTN0.out.later ((below_of (below_of (below_of (below_of (below_of (below_of (below_of (below_of (below_of (below_of HS1.out HS2.out) HS3.out) HS4.out) HS5.out) HS6.out) HS7.out) HS8.out) HS9.out) HS10.out) HS11.out))).later HF0.out
  have HB01 : Hid (BoxT s0 X1 (.slice a1 lE.length k1) ⟨lE, zE, fE⟩) := HG1.out.later HF0.out
  have HT01 : Hid (TN u0.heap.size X1 s0 (.slice a1 lE.length k1) ⟨lE, zE, fE⟩) := (HTN1.out.later ((below_of (below_of (below_of (below_of (below_of (below_of (below_of (below_of (below_of HS2.out HS3.out) HS4.out) HS5.out) HS6.out) HS7.out) HS8.out) HS9.out) HS10.out) HS11.out))).later HF0.out
  have HB03 : Hid (BoxT s0 X3 (.slice a3 lL.length k3) ⟨lL, zL, fL⟩) := HG3.out.later HF0.out
  have HT03 : Hid (TN v2.heap.size X3 s0 (.slice a3 lL.length k3) ⟨lL, zL, fL⟩) := (HTN3.out.later ((below_of (below_of (below_of (below_of (below_of (below_of (below_of HS4.out HS5.out) HS6.out) HS7.out) HS8.out) HS9.out) HS10.out) HS11.out))).later HF0.out
  have HB04 : Hid (BoxT s0 X4 (.slice a4 lL.length k4) ⟨lL, zL, fL⟩) := HG4.out.later HF0.out
  have HT04 : Hid (TN u3.heap.size X4 s0 (.slice a4 lL.length k4) ⟨lL, zL, fL⟩) := (HTN4.out.later ((below_of (below_of (below_of (below_of (below_of (below_of HS5.out HS6.out) HS7.out) HS8.out) HS9.out) HS10.out) HS11.out))).later HF0.out
  have HB06 : Hid (BoxT s0 X6 (.slice a6 lA.length k6) ⟨lA, zA, fA⟩) := HG6.out.later HF0.out
  have HT06 : Hid (TN v5.heap.size X6 s0 (.slice a6 lA.length k6) ⟨lA, zA, fA⟩) := (HTN6.out.later ((below_of (below_of (below_of (below_of HS7.out HS8.out) HS9.out) HS10.out) HS11.out))).later HF0.out
  have HB07 : Hid (BoxT s0 X7 (.slice a7 lA.length k7) ⟨lA, zA, fA⟩) := HG7.out.later HF0.out
  have HT07 : Hid (TN u6.heap.size X7 s0 (.slice a7 lA.length k7) ⟨lA, zA, fA⟩) := (HTN7.out.later ((below_of (below_of (below_of HS8.out HS9.out) HS10.out) HS11.out))).later HF0.out
  have HB09 : Hid (BoxT s0 X9 (.slice a9 lE.length k9) ⟨lE, zE, fE⟩) := HG9.out.later HF0.out
  have HT09 : Hid (TN v8.heap.size X9 s0 (.slice a9 lE.length k9) ⟨lE, zE, fE⟩) := (HTN9.out.later ((below_of HS10.out HS11.out))).later HF0.out
  have HB010 : Hid (BoxT s0 X10 (.slice a10 lL.length k10) ⟨lL, zL, fL⟩) := HG10.out.later HF0.out
  have HT010 : Hid (TN u9.heap.size X10 s0 (.slice a10 lL.length k10) ⟨lL, zL, fL⟩) := (HTN10.out.later (HS11.out)).later HF0.out
  have HB011 : Hid (BoxT s0 X11 (.slice a11 lA.length k11) ⟨lA, zA, fA⟩) := HG11.out.later HF0.out
  have HT011 : Hid (TN u10.heap.size X11 s0 (.slice a11 lA.length k11) ⟨lA, zA, fA⟩) := (HTN11.out.later (Below.refl _ _)).later HF0.out
  have HQ0 : Hid (∀ k, k < s0.heap.size → s0.heap[k]? = s0.heap[k]?) := fun _ _ => rfl
  have HBS0 : Hid (Below w5.heap.size w5 s0) := below_of HBU11.out HF0.out
  obtain ⟨c0, c1, c2, -, -⟩ := HB00.out
  have htn := HT00.out
  simp only at c1 c2
  have HSP := Hid.mkT (htn.spoil (by omega) h32E)
  unfold turV at HSP
  simp only at HSP
  clear htn
  go_wp2_with fail
  refine HSP.out.mono ?_
  rintro e s1 ⟨zz0, rfl, hzz0, hbm, hfm⟩
  have hd0 : decide (0 ≤ zz0) = true := by simpa using hzz0
  have HZ1 : Hid (s0.heap.size ≤ s1.heap.size) := hbm.size
  have HQ1 : Hid (∀ k, k < s0.heap.size → ¬ (x0.heap.size ≤ k ∧ k < X0) → s1.heap[k]? = s0.heap[k]?) := fun k h0 h1 => hfm k h0 h1
  have HBS1 : Hid (Below w5.heap.size w5 s1) := below_onz HBS0.out hbm hx05
  clear hbm hfm HSP c0 c1 c2
  obtain ⟨c0, c1, c2, -, -⟩ := HB03.out.block (HQ1.out X3 (by omega) (by omega)) HZ1.out
  have htn := HT03.out.range HZ1.out (fun k q1 q2 => HQ1.out k (by omega) (by omega))
  simp only at c1 c2
  have HSP := Hid.mkT (htn.spoil (by have := HZ1.out; omega) h32L)
  unfold turV at HSP
  simp only at HSP
  clear htn
  go_wp2_with fail
  refine HSP.out.mono ?_
  rintro e s2 ⟨zz1, rfl, hzz1, hbm, hfm⟩
  have hd1 : decide (0 ≤ zz1) = true := by simpa using hzz1
  have HZ2 : Hid (s0.heap.size ≤ s2.heap.size) := Nat.le_trans HZ1.out hbm.size
  have HQ2 : Hid (∀ k, k < s0.heap.size → ¬ (x0.heap.size ≤ k ∧ k < X0) → ¬ (v2.heap.size ≤ k ∧ k < X3) → s2.heap[k]? = s0.heap[k]?) := fun k h0 h1 h2 => (hfm k (Nat.lt_of_lt_of_le h0 HZ1.out) h2).trans (HQ1.out k h0 h1)
  have HBS2 : Hid (Below w5.heap.size w5 s2) := below_onz HBS1.out hbm (by omega)
  clear hbm hfm HSP c0 c1 c2
  obtain ⟨c0, c1, c2, -, -⟩ := HB06.out.block (HQ2.out X6 (by omega) (by omega) (by omega)) HZ2.out
  have htn := HT06.out.range HZ2.out (fun k q1 q2 => HQ2.out k (by omega) (by omega) (by omega))
  simp only at c1 c2
  have HSP := Hid.mkT (htn.spoil (by have := HZ2.out; omega) h32A)
  unfold turV at HSP
  simp only at HSP
  clear htn
  go_wp2_with fail
  refine HSP.out.mono ?_
  rintro e s3 ⟨zz2, rfl, hzz2, hbm, hfm⟩
  have hd2 : decide (0 ≤ zz2) = true := by simpa using hzz2
  have HZ3 : Hid (s0.heap.size ≤ s3.heap.size) := Nat.le_trans HZ2.out hbm.size
  have HQ3 : Hid (∀ k, k < s0.heap.size → ¬ (x0.heap.size ≤ k ∧ k < X0) → ¬ (v2.heap.size ≤ k ∧ k < X3) → ¬ (v5.heap.size ≤ k ∧ k < X6) → s3.heap[k]? = s0.heap[k]?) := fun k h0 h1 h2 h3 => (hfm k (Nat.lt_of_lt_of_le h0 HZ2.out) h3).trans (HQ2.out k h0 h1 h2)
  have HBS3 : Hid (Below w5.heap.size w5 s3) := below_onz HBS2.out hbm (by omega)
  clear hbm hfm HSP c0 c1 c2
  obtain ⟨p0, p1, p2, -, -⟩ := HXB5.out.later HBS3.out
  obtain ⟨c0, c1, c2, -, -⟩ := HXC5.out.later HBS3.out
  simp only at p1 p2 c1 c2
  have HKP := Hid.mkT (lkeptOf w0.heap.size g l.length rc ⟨l, z3, f3⟩ vs5 rs _ s3 (HRM5.out.later HBS3.out) (HT.out s3 (below_of HBW5.out HBS3.out)))
  unfold turV at HKP
  simp only at HKP
  go_wp2_with fail
  refine HKP.out.mono ?_
  rintro e s4 ⟨rfl, hbm⟩
  have HV0 : Hid (Below s3.heap.size s3 s4) := hbm
  clear hbm HKP p0 p1 p2 c0 c1 c2
  obtain ⟨c0, c1, c2, -, -⟩ := (HB09.out.block (HQ3.out X9 (by omega) (by omega) (by omega) (by omega)) HZ3.out).later HV0.out
  obtain ⟨p0, p1, p2, -, -⟩ := (HB01.out.block (HQ3.out X1 (by omega) (by omega) (by omega) (by omega)) HZ3.out).later HV0.out
  simp only at c1 c2 p1 p2
  have HSM := Hid.mkT (lsameOf ⟨lE, zE, fE⟩ _ _ s4 ((HT09.out.range HZ3.out (fun k q1 q2 => HQ3.out k (by omega) (by omega) (by omega) (by omega))).later HV0.out).reads ((HT01.out.range HZ3.out (fun k q1 q2 => HQ3.out k (by omega) (by omega) (by omega) (by omega))).later HV0.out).reads)
  unfold turV at HSM
  simp only at HSM
  go_wp2_with fail
  refine HSM.out.mono ?_
  rintro e s5 ⟨rfl, hbm⟩
  have HV1 : Hid (Below s3.heap.size s3 s5) := below_of HV0.out hbm
  clear hbm HSM c0 c1 c2 p0 p1 p2
  obtain ⟨c0, c1, c2, -, -⟩ := (HB010.out.block (HQ3.out X10 (by omega) (by omega) (by omega) (by omega)) HZ3.out).later HV1.out
  obtain ⟨p0, p1, p2, -, -⟩ := (HB04.out.block (HQ3.out X4 (by omega) (by omega) (by omega) (by omega)) HZ3.out).later HV1.out
  simp only at c1 c2 p1 p2
  have HSM := Hid.mkT (lsameOf ⟨lL, zL, fL⟩ _ _ s5 ((HT010.out.range HZ3.out (fun k q1 q2 => HQ3.out k (by omega) (by omega) (by omega) (by omega))).later HV1.out).reads ((HT04.out.range HZ3.out (fun k q1 q2 => HQ3.out k (by omega) (by omega) (by omega) (by omega))).later HV1.out).reads)
  unfold turV at HSM
  simp only at HSM
  go_wp2_with fail
  refine HSM.out.mono ?_
  rintro e s6 ⟨rfl, hbm⟩
  have HV2 : Hid (Below s3.heap.size s3 s6) := below_of HV1.out hbm
  clear hbm HSM c0 c1 c2 p0 p1 p2
  obtain ⟨c0, c1, c2, -, -⟩ := (HB011.out.block (HQ3.out X11 (by omega) (by omega) (by omega) (by omega)) HZ3.out).later HV2.out
  obtain ⟨p0, p1, p2, -, -⟩ := (HB07.out.block (HQ3.out X7 (by omega) (by omega) (by omega) (by omega)) HZ3.out).later HV2.out
  simp only at c1 c2 p1 p2
  have HSM := Hid.mkT (lsameOf ⟨lA, zA, fA⟩ _ _ s6 ((HT011.out.range HZ3.out (fun k q1 q2 => HQ3.out k (by omega) (by omega) (by omega) (by omega))).later HV2.out).reads ((HT07.out.range HZ3.out (fun k q1 q2 => HQ3.out k (by omega) (by omega) (by omega) (by omega))).later HV2.out).reads)
  unfold turV at HSM
  simp only at HSM
  go_wp2_with fail
  refine HSM.out.mono ?_
  rintro e s7 ⟨rfl, hbm⟩
  have HV3 : Hid (Below s3.heap.size s3 s7) := below_of HV2.out hbm
  clear hbm HSM c0 c1 c2 p0 p1 p2
  have HFF : Hid (Below w.heap.size w s7) := below_of HBW5.out (below_of HBS3.out HV3.out)
  go_wp2
  go_ret
  exact ⟨by first | rfl | simp, by first | exact HFF.out | (rw [← hB]; exact HFF.out)⟩
end Go.Proofs.Ytelhjdplghpnbab

/-! The document's Ask, walked. -/
namespace Go.Proofs.Ytelhjdplghpnbab
open Go.RowKit Plain
set_option linter.unusedVariables false
set_option linter.unusedSimpArgs false

set_option maxHeartbeats 8000000 in
set_option maxRecDepth 100000 in
theorem raskOk : RAskOk := by
  intro t id n v w h hlc hid hn
  have HT := Hid.mkT h
  obtain ⟨l, z, f⟩ := t
  obtain ⟨hrow, hz1, hz2⟩ := h
  simp only at hrow hz1 hz2
  obtain ⟨a, cap, rfl, hl⟩ := hrow.shape
  have HROW := Hid.mkT hrow
  clear hrow
  unfold turV
  simp only
  obtain ⟨w1, hw1⟩ : ∃ w1, w.alloc (.cells #[.slice a l.length cap, .int .i64 z, .bool f] 24) = w1 := ⟨_, rfl⟩
  obtain ⟨w2, hw2⟩ : ∃ w2, w1.alloc (.cells #[.slice none 0 0, .int .i64 0, .bool false] 24) = w2 := ⟨_, rfl⟩
  obtain ⟨hb2, hs1, hs2, ht2, hr2⟩ := boxes w (.slice a l.length cap) z f w1 w2 hw1 hw2
  obtain ⟨B, hB⟩ : ∃ B, w.heap.size = B := ⟨_, rfl⟩
  rw [hB] at hs1 hs2 ht2 hr2
  have HB2 := Hid.mkT hb2
  have HTB := Hid.mkT ht2
  have HRB := Hid.mkT hr2
  obtain ⟨m0, m1, m2, -⟩ := ht2
  clear hr2 hb2
  have HCK := Hid.mkT (rcheckOf ⟨l, z, f⟩ (.slice a l.length cap) w2 (HT.out.later HB2.out))
  unfold turV at HCK
  simp only at HCK
  obtain ⟨PA, hPA⟩ : ∃ PA, askT ⟨l, z, f⟩ id n = PA := ⟨_, rfl⟩
  have HPA := Hid.mkT hPA
  rw [hPA]
  clear hPA
  go_enter Try.func15, Try.ntmps15
  go_wp2_with fail
  refine HCK.out.mono ?_
  rintro e w3 ⟨rfl, hb3⟩
  have HB3 := Hid.mkT (below_of HB2.out hb3)
  have HT3 := Hid.mkT (HTB.out.later hb3)
  have HR3 := Hid.mkT (HRB.out.later hb3)
  have hs3 := hb3.size
  rw [hs2] at hs3
  clear m0 m1 m2 hb3 HCK HTB HRB
  obtain ⟨m0, m1, m2, mf⟩ := HT3.out
  obtain ⟨r0, r1, r2, rf⟩ := HR3.out
  have rf0 := rf 0 (by omega)
  have rf1 := rf 1 (by omega)
  have rf2 := rf 2 (by omega)
  clear mf rf
  by_cases hck : chkT ⟨l, z, f⟩ = 0
  · have HC0 := Hid.mkT hck
    rw [hck]
    have hok := chk_ok.mp hck
    have hfew : l.length ≤ 32 := hok.few
    have HOK := Hid.mkT hok
    have HFN := Hid.mkT (rplaceOf ⟨l, z, f⟩ id hid (.slice a l.length cap) w3 (HT.out.later HB3.out))
    unfold turV at HFN
    simp only at HFN
    clear hck hok
    obtain ⟨PL, hPL⟩ : ∃ PL, placeL l id = PL := ⟨_, rfl⟩
    have HPL := Hid.mkT hPL
    rw [hPL] at HFN
    clear hPL
    go_wp2_with fail
    refine HFN.out.mono ?_
    rintro e w4 ⟨rfl, hb4⟩
    have HT4 := Hid.mkT (HT3.out.later hb4)
    have HR4 := Hid.mkT (HR3.out.later hb4)
    have HB4 := Hid.mkT (below_of HB3.out hb4)
    have hs4 : B + 1 + 1 ≤ w4.heap.size := by have := hb4.size; omega
    clear m0 m1 m2 r0 r1 r2 rf0 rf1 rf2 HFN HT3 HR3 hb4
    obtain ⟨m0, m1, m2, mf⟩ := HT4.out
    obtain ⟨r0, r1, r2, rf⟩ := HR4.out
    have rf0 := rf 0 (by omega)
    have rf1 := rf 1 (by omega)
    have rf2 := rf 2 (by omega)
    have mf0 := mf 0 (by omega)
    have mf1 := mf 1 (by omega)
    have mf2 := mf 2 (by omega)
    clear mf rf
    rcases place_cases (l := l) id with hp | ⟨k, hp, hkl2⟩
    · obtain rfl : PL = -1 := by rw [← HPL.out]; exact hp
      obtain ⟨U, hU⟩ : ∃ U, ((w4.setCell ⟨B + 1, 0, none⟩ (.slice none 0 0)).setCell ⟨B + 1, 1, none⟩ (.int .i64 0)).setCell ⟨B + 1, 2, none⟩ (.bool false) = U := ⟨_, rfl⟩
      obtain ⟨ha, hg⟩ := HR4.out.ans (.slice none 0 0) 0 false
      rw [hU] at ha hg
      obtain ⟨q0, q1, q2, -⟩ := ha
      have HF : Hid (ansT PA.1 PA.2 w (.returned (.tuple #[.agg #[.slice none 0 0, .int .i64 0, .bool false], .int .i64 190])) U) := by
        have he : PA = (Tr.zero, 190) := by rw [← HPA.out]; exact ask_none id n HC0.out HPL.out
        rw [he]
        exact ans_none rfl (HB4.out.grown hg HB4.out.size (fun g' e => by simp at e; omega))
      clear hg
      go_wp2
      refine bodyPost_ret (v := .tuple #[.agg #[.slice none 0 0, .int .i64 0, .bool false], .int .i64 190]) ?hres rfl ?_
      case hres =>
        rw [results_cell_tmp rfl]
        go_simp
      exact HF.out
    obtain rfl : PL = (k : Int) := by rw [← HPL.out]; exact hp
    by_cases hcn : n < 1 ∨ 1048576 < n
    · rcases (by omega : n < 1 ∨ (¬ n < 1 ∧ 1048576 < n)) with hc1 | ⟨hc1, hc2⟩
      · obtain ⟨U, hU⟩ : ∃ U, ((w4.setCell ⟨B + 1, 0, none⟩ (.slice none 0 0)).setCell ⟨B + 1, 1, none⟩ (.int .i64 0)).setCell ⟨B + 1, 2, none⟩ (.bool false) = U := ⟨_, rfl⟩
        obtain ⟨ha, hg⟩ := HR4.out.ans (.slice none 0 0) 0 false
        rw [hU] at ha hg
        obtain ⟨q0, q1, q2, -⟩ := ha
        have HF : Hid (ansT PA.1 PA.2 w (.returned (.tuple #[.agg #[.slice none 0 0, .int .i64 0, .bool false], .int .i64 191])) U) := by
          have he : PA = (Tr.zero, 191) := by rw [← HPA.out]; exact ask_cost id n HC0.out HPL.out hcn
          rw [he]
          exact ans_none rfl (HB4.out.grown hg HB4.out.size (fun g' e => by simp at e; omega))
        clear hg
        go_wp2
        refine bodyPost_ret (v := .tuple #[.agg #[.slice none 0 0, .int .i64 0, .bool false], .int .i64 191]) ?hres rfl ?_
        case hres =>
          rw [results_cell_tmp rfl]
          go_simp
        exact HF.out
      · obtain ⟨U, hU⟩ : ∃ U, ((w4.setCell ⟨B + 1, 0, none⟩ (.slice none 0 0)).setCell ⟨B + 1, 1, none⟩ (.int .i64 0)).setCell ⟨B + 1, 2, none⟩ (.bool false) = U := ⟨_, rfl⟩
        obtain ⟨ha, hg⟩ := HR4.out.ans (.slice none 0 0) 0 false
        rw [hU] at ha hg
        obtain ⟨q0, q1, q2, -⟩ := ha
        have HF : Hid (ansT PA.1 PA.2 w (.returned (.tuple #[.agg #[.slice none 0 0, .int .i64 0, .bool false], .int .i64 191])) U) := by
          have he : PA = (Tr.zero, 191) := by rw [← HPA.out]; exact ask_cost id n HC0.out HPL.out hcn
          rw [he]
          exact ans_none rfl (HB4.out.grown hg HB4.out.size (fun g' e => by simp at e; omega))
        clear hg
        go_wp2
        refine bodyPost_ret (v := .tuple #[.agg #[.slice none 0 0, .int .i64 0, .bool false], .int .i64 191]) ?hres rfl ?_
        case hres =>
          rw [results_cell_tmp rfl]
          go_simp
        exact HF.out
    have HEQ : Hid (PA = (⟨l.set k ((l.getD k Qu.zero).more n), z, f⟩, 0)) := by unfold Hid; rw [← HPA.out]; exact ask_ok id n HC0.out HPL.out hcn
    have hc1 : ¬ n < 1 := by omega
    have hc2 : ¬ 1048576 < n := by omega
    clear hp
    have HCP := Hid.mkT (rcopiedOf ⟨l, z, f⟩ (.slice a l.length cap) w4 (HT.out.later HB4.out))
    unfold turV at HCP
    simp only at HCP
    go_wp2_with fail
    refine HCP.out.mono ?_
    rintro e w5 ⟨ca, cN, cc, vs, r, rs, rfl, hm5, hl5, hsm5, hb5⟩
    simp only at hm5 hl5 hsm5
    have HTN := Hid.mkT (CopP.tur (w0 := w) HROW.out hm5 hl5 hsm5 z f ⟨hz1, hz2⟩)
    have HT5 := Hid.mkT (HT4.out.later hb5)
    have HR5 := Hid.mkT (HR4.out.later hb5)
    have HB5 := Hid.mkT (below_of HB4.out hb5)
    have hs5 := hb5.size
    clear m0 m1 m2 mf0 mf1 mf2 r0 r1 r2 rf0 rf1 rf2 HCP hm5 hl5 hsm5 hb5
    obtain ⟨g, cc', rfl, ecv⟩ := HTN.out.mem.row.some (by rw [HTN.out.len]; show 0 < l.length; omega)
    have hvl : vs.length = l.length := HTN.out.len
    rw [hvl] at ecv
    simp only [Value.slice.injEq] at ecv
    obtain ⟨rfl, rfl, rfl⟩ := ecv
    have hg5 : w4.heap.size ≤ g := HTN.out.mem.new g rfl
    obtain ⟨w6, hw6⟩ : ∃ w6, w5.alloc (.cells #[.slice (some ⟨g, 0, none⟩) l.length cc, .int .i64 z, .bool f] 24) = w6 := ⟨_, rfl⟩
    have b6 : Below w5.heap.size w5 w6 := by rw [← hw6]; exact (Below.refl _ _).alloc (Nat.le_refl _) _
    obtain ⟨C, hC⟩ : ∃ C, w5.heap.size = C := ⟨_, rfl⟩
    have HC6 : Hid (TuB w6 C (.slice (some ⟨g, 0, none⟩) l.length cc) z f) := by have := TuB.new w5 (.slice (some ⟨g, 0, none⟩) l.length cc) z f; rw [hw6, hC] at this; exact this
    have hglt : g < C := by rw [← hC]; exact HTN.out.mem.lts.1 g rfl
    have hn6 := HTN.out.later b6
    obtain ⟨ka, kc, c3, f3, hrow⟩ := hn6.at hkl2
    obtain ⟨w7, hw7⟩ : ∃ w7, w6.drew.alloc (.cells #[.int .i64 n] 3) = w7 := ⟨_, rfl⟩
    have b7 : Below w6.heap.size w6 w7 := by rw [← hw7]; exact (Below.drew (Below.refl _ _)).alloc (Nat.le_refl _) _
    obtain ⟨D, hD⟩ : ∃ D, w6.heap.size = D := ⟨_, rfl⟩
    have HSO : Hid (Src Try.prog 1 35 (.slice (some ⟨D, 0, none⟩) 1 1) [n].length (ints [n]) w7) := by
      have := srcOne w6.drew n
      rw [hw7] at this
      rw [← hD]; exact this
    have HN7 := Hid.mkT (hn6.later b7)
    obtain ⟨ka7, kc7, c37, f37, hrow7⟩ := HN7.out.at hkl2
    rw [show w7.cell? ⟨g, k * 4 + 3, none⟩ = w6.cell? ⟨g, k * 4 + 3, none⟩ from b7.cell (p := ⟨g, k * 4 + 3, none⟩) (cell_lt c3), c3] at c37
    simp only [Option.some.injEq, Value.slice.injEq, true_and] at c37
    obtain ⟨rfl, rfl⟩ := c37
    have HROWK := Hid.mkT hrow7
    have HC7 := Hid.mkT (HC6.out.later b7)
    have HR7 := Hid.mkT ((HR5.out.later b6).later b7)
    have HB7 := Hid.mkT (below_of (below_of HB5.out b6) b7)
    have hs6 : C < D := by rw [← hD]; exact HC6.out.lt
    have hs7 : D ≤ w7.heap.size := by rw [← hD]; exact b7.size
    have hlk : (l.getD k Qu.zero).costs.length ≤ 17592186043904 := hlc k hkl2
    obtain ⟨cs, hcs⟩ : ∃ cs, (l.getD k Qu.zero).costs = cs := ⟨_, rfl⟩
    have HCS := Hid.mkT hcs
    rw [hcs] at hlk HROWK
    obtain ⟨N, hN⟩ : ∃ N, cs.length = N := ⟨_, rfl⟩
    have HNN := Hid.mkT hN
    rw [hN] at hlk HROWK
    have c3' : w6.drew.cell? ⟨g, k * 4 + 3, none⟩ = some (.slice ka N kc) := by rw [← hN, ← hcs]; exact c3
    have c37' : w7.cell? ⟨g, k * 4 + 3, none⟩ = some (.slice ka N kc) := by rw [← hN, ← hcs]; exact (b7.cell (p := ⟨g, k * 4 + 3, none⟩) (cell_lt c3)).trans c3
    obtain ⟨n0, n1, n2, -⟩ := HC6.out
    have n0' : w6.drew.cell? ⟨C, 0, none⟩ = some (.slice (some ⟨g, 0, none⟩) l.length cc) := n0
    obtain ⟨n07, n17, n27, -⟩ := HC7.out
    have hkz : (k : Int) < (l.length : Int) := by omega
    have hne : ∀ g', rs.getD k none = some g' → w4.heap.size ≤ g' ∧ g' < C := fun g' e => ⟨HTN.out.mem.newc k (by simpa using hkl2) g' e, by rw [← hC]; exact HTN.out.mem.lts.2 k (by simpa using hkl2) g' e⟩
    have HNE := Hid.mkT hne
    have HAP : Hid (∀ g', rs.getD k none = some g' → g' ≠ g) := fun g' e e2 => HTN.out.mem.ap k (by simpa using hkl2) g' e (by rw [e2])
    clear c3 hrow hrow7 hn6 b6 b7 hcs hne hN f3
    go_wp2_with fail
    go_region_law (refine step_append_o rfl (.tmp 40) (.tmp 42) rfl (.slice ka N kc) (.slice (some ⟨D, 0, none⟩) 1 1) cs [n] (rs.getD k none) (by first | rfl | simp [Act.eval, Act.put]) (by first | rfl | simp [Act.eval, Act.put]) (by first | exact HROWK.out | (rw [hw7]; exact HROWK.out)) (by first | exact HSO.out | (rw [hw7]; exact HSO.out)) (by rw [HNN.out]; simp; omega) (.inr (by simp)) ?_
                   try rw [hw7]
                   intro v8 w8 g8 ho8 hg8 hr8
                   obtain ⟨a8, c8, e8, -, -⟩ := ho8.shape
                   subst e8
                   have hgblk : w8.heap[g]? = w7.heap[g]? := hg8.block g (by omega) (fun e => HAP.out g e.symm rfl)
                   have hcg : w8.cell? ⟨g, k * 4 + 3, none⟩ = some (.slice ka N kc) := (World.cell?_of_block (w := w7) (a := ⟨g, k * 4 + 3, none⟩) hgblk).trans c37'
                   have hfg : w8.frozen? ⟨g, k * 4 + 3, none⟩ = false := (World.frozen?_of_block (w := w7) (a := ⟨g, k * 4 + 3, none⟩) hgblk).trans f37
                   have hCblk : w8.heap[C]? = w7.heap[C]? := hg8.block C (by omega) (fun e => by have := (HNE.out C e.symm).2; omega)
                   have hcC : w8.cell? ⟨C, 0, none⟩ = some (.slice (some ⟨g, 0, none⟩) l.length cc) := (World.cell?_of_block (w := w7) (a := ⟨C, 0, none⟩) hCblk).trans n07)
    all_goals
      have ho8' := ho8
      rw [← HCS.out] at ho8'
      obtain ⟨vs9, rs9, h9⟩ := ask_turC HN7.out hkl2 n hn (by rw [HCS.out, HNN.out]; omega) ho8' hg8 (by rcases hr8 with e | e; (exact .inl e); (exact .inr e))
      have hln : (cs ++ [n]).length = cs.length + 1 := by simp
      rw [HCS.out, hln] at h9
      obtain ⟨w9, hw9⟩ : ∃ w9, w8.setCell ⟨g, k * 4 + 3, none⟩ (.slice a8 (cs.length + 1) c8) = w9 := ⟨_, rfl⟩
      rw [hw9] at h9
      have k9 : w8.grownBy w9 (some g) := by rw [← hw9]; exact grow_setT w8 g _ _
      have hC8 := HC7.out.block hCblk
      have hR8 : TuB w8 (B + 1) (.slice none 0 0) 0 false := HR7.out.kept hg8 (fun e => by have := (HNE.out _ e).1; omega)
      have hb8 : Below w.heap.size w w8 := HB7.out.grown hg8 HB7.out.size (fun g' e => by have := (HNE.out g' e).1; omega)
      have hC9 := hC8.kept k9 (by simp; omega)
      have HR9 := Hid.mkT (hR8.kept k9 (by simp; omega))
      have HB9 : Hid (Below w.heap.size w w9) := hb8.grown k9 hb8.size (fun g' e => by simp at e; omega)
      have H9 := Hid.mkT h9
      clear n0 n1 n2 n0' n07 n17 n27 c37' c3' hcg hfg hcC
      obtain ⟨n0, n1, n2, -⟩ := hC9
      obtain ⟨r0, r1, r2, rf⟩ := HR9.out
      have rf0 := rf 0 (by omega)
      have rf1 := rf 1 (by omega)
      have rf2 := rf 2 (by omega)
      clear rf h9 k9 hC8 hR8 hb8 hgblk hCblk ho8 ho8' hg8 hr8
      clear hln
      obtain ⟨U, hU⟩ : ∃ U, ((w9.setCell ⟨B + 1, 0, none⟩ (.slice (some ⟨g, 0, none⟩) l.length cc)).setCell ⟨B + 1, 1, none⟩ (.int .i64 z)).setCell ⟨B + 1, 2, none⟩ (.bool f) = U := ⟨_, rfl⟩
      obtain ⟨ha, hg⟩ := HR9.out.ans (.slice (some ⟨g, 0, none⟩) l.length cc) z f
      rw [hU] at ha hg
      obtain ⟨q0, q1, q2, -⟩ := ha
      have HF : Hid (ansT PA.1 PA.2 w (.returned (.tuple #[.agg #[.slice (some ⟨g, 0, none⟩) l.length cc, .int .i64 z, .bool f], .int .i64 0])) U) := by
        rw [HEQ.out]
        exact ans_some (t := ⟨l.set k ((l.getD k Qu.zero).more n), z, f⟩) (by simp) ⟨_, _, _, (H9.out.kept hg (by omega)).lower (by omega)⟩ (HB9.out.grown hg HB9.out.size (fun g' e => by simp at e; omega))
      clear hg
      go_wp2
      refine bodyPost_ret (v := .tuple #[.agg #[.slice (some ⟨g, 0, none⟩) l.length cc, .int .i64 z, .bool f], .int .i64 0]) ?hres rfl ?_
      case hres =>
        rw [results_cell_tmp rfl]
        go_simp
      exact HF.out
  · have HC0 := Hid.mkT hck
    obtain ⟨E, hE⟩ : ∃ E, chkT ⟨l, z, f⟩ = E := ⟨_, rfl⟩
    have hE0 : ¬ E = 0 := by rw [← hE]; exact hck
    have HEE := Hid.mkT hE
    rw [hE]
    clear hck hE
    obtain ⟨U, hU⟩ : ∃ U, ((w3.setCell ⟨B + 1, 0, none⟩ (.slice none 0 0)).setCell ⟨B + 1, 1, none⟩ (.int .i64 0)).setCell ⟨B + 1, 2, none⟩ (.bool false) = U := ⟨_, rfl⟩
    obtain ⟨ha, hg⟩ := HR3.out.ans (.slice none 0 0) 0 false
    rw [hU] at ha hg
    obtain ⟨q0, q1, q2, -⟩ := ha
    have HF : Hid (ansT PA.1 PA.2 w (.returned (.tuple #[.agg #[.slice none 0 0, .int .i64 0, .bool false], .int .i64 E])) U) := by
      have he : PA = (Tr.zero, E) := by rw [← HPA.out, ← HEE.out]; exact ask_chk id n HC0.out
      rw [he]
      exact ans_none rfl (HB3.out.grown hg HB3.out.size (fun g' e => by simp at e; omega))
    clear hg
    go_wp2
    refine bodyPost_ret (v := .tuple #[.agg #[.slice none 0 0, .int .i64 0, .bool false], .int .i64 E]) ?hres rfl ?_
    case hres =>
      rw [results_cell_tmp rfl]
      go_simp
    exact HF.out
end Go.Proofs.Ytelhjdplghpnbab

/-! The document's Leave, walked. -/
namespace Go.Proofs.Ytelhjdplghpnbab
open Go.RowKit Plain
set_option linter.unusedVariables false
set_option linter.unusedSimpArgs false

set_option maxHeartbeats 8000000 in
set_option maxRecDepth 100000 in
theorem rleaveOk : RLeaveOk := by
  intro t id v w h hid
  have HT := Hid.mkT h
  obtain ⟨l, z, f⟩ := t
  obtain ⟨hrow, hz1, hz2⟩ := h
  simp only at hrow hz1 hz2
  obtain ⟨a, cap, rfl, hl⟩ := hrow.shape
  have HROW := Hid.mkT hrow
  clear hrow
  unfold turV
  simp only
  obtain ⟨w1, hw1⟩ : ∃ w1, w.alloc (.cells #[.slice a l.length cap, .int .i64 z, .bool f] 24) = w1 := ⟨_, rfl⟩
  obtain ⟨w2, hw2⟩ : ∃ w2, w1.alloc (.cells #[.slice none 0 0, .int .i64 0, .bool false] 24) = w2 := ⟨_, rfl⟩
  obtain ⟨hb2, hs1, hs2, ht2, hr2⟩ := boxes w (.slice a l.length cap) z f w1 w2 hw1 hw2
  obtain ⟨B, hB⟩ : ∃ B, w.heap.size = B := ⟨_, rfl⟩
  rw [hB] at hs1 hs2 ht2 hr2
  have HB2 := Hid.mkT hb2
  have HTB := Hid.mkT ht2
  have HRB := Hid.mkT hr2
  obtain ⟨m0, m1, m2, -⟩ := ht2
  clear hr2 hb2
  have HCK := Hid.mkT (rcheckOf ⟨l, z, f⟩ (.slice a l.length cap) w2 (HT.out.later HB2.out))
  unfold turV at HCK
  simp only at HCK
  obtain ⟨PA, hPA⟩ : ∃ PA, levT ⟨l, z, f⟩ id = PA := ⟨_, rfl⟩
  have HPA := Hid.mkT hPA
  rw [hPA]
  clear hPA
  go_enter Try.func14, Try.ntmps14
  go_wp2_with fail
  refine HCK.out.mono ?_
  rintro e w3 ⟨rfl, hb3⟩
  have HB3 := Hid.mkT (below_of HB2.out hb3)
  have HT3 := Hid.mkT (HTB.out.later hb3)
  have HR3 := Hid.mkT (HRB.out.later hb3)
  have hs3 := hb3.size
  rw [hs2] at hs3
  clear m0 m1 m2 hb3 HCK HTB HRB
  obtain ⟨m0, m1, m2, mf⟩ := HT3.out
  obtain ⟨r0, r1, r2, rf⟩ := HR3.out
  have rf0 := rf 0 (by omega)
  have rf1 := rf 1 (by omega)
  have rf2 := rf 2 (by omega)
  clear mf rf
  by_cases hck : chkT ⟨l, z, f⟩ = 0
  · have HC0 := Hid.mkT hck
    rw [hck]
    have hok := chk_ok.mp hck
    have hfew : l.length ≤ 32 := hok.few
    have HOK := Hid.mkT hok
    have HFN := Hid.mkT (rplaceOf ⟨l, z, f⟩ id hid (.slice a l.length cap) w3 (HT.out.later HB3.out))
    unfold turV at HFN
    simp only at HFN
    clear hck hok
    obtain ⟨PL, hPL⟩ : ∃ PL, placeL l id = PL := ⟨_, rfl⟩
    have HPL := Hid.mkT hPL
    rw [hPL] at HFN
    clear hPL
    go_wp2_with fail
    refine HFN.out.mono ?_
    rintro e w4 ⟨rfl, hb4⟩
    have HT4 := Hid.mkT (HT3.out.later hb4)
    have HR4 := Hid.mkT (HR3.out.later hb4)
    have HB4 := Hid.mkT (below_of HB3.out hb4)
    have hs4 : B + 1 + 1 ≤ w4.heap.size := by have := hb4.size; omega
    clear m0 m1 m2 r0 r1 r2 rf0 rf1 rf2 HFN HT3 HR3 hb4
    obtain ⟨m0, m1, m2, mf⟩ := HT4.out
    obtain ⟨r0, r1, r2, rf⟩ := HR4.out
    have rf0 := rf 0 (by omega)
    have rf1 := rf 1 (by omega)
    have rf2 := rf 2 (by omega)
    have mf0 := mf 0 (by omega)
    have mf1 := mf 1 (by omega)
    have mf2 := mf 2 (by omega)
    clear mf rf
    rcases place_cases (l := l) id with hp | ⟨k, hp, hkl2⟩
    · obtain rfl : PL = -1 := by rw [← HPL.out]; exact hp
      obtain ⟨U, hU⟩ : ∃ U, ((w4.setCell ⟨B + 1, 0, none⟩ (.slice none 0 0)).setCell ⟨B + 1, 1, none⟩ (.int .i64 0)).setCell ⟨B + 1, 2, none⟩ (.bool false) = U := ⟨_, rfl⟩
      obtain ⟨ha, hg⟩ := HR4.out.ans (.slice none 0 0) 0 false
      rw [hU] at ha hg
      obtain ⟨q0, q1, q2, -⟩ := ha
      have HF : Hid (ansT PA.1 PA.2 w (.returned (.tuple #[.agg #[.slice none 0 0, .int .i64 0, .bool false], .int .i64 190])) U) := by
        have he : PA = (Tr.zero, 190) := by rw [← HPA.out]; exact lev_no id HC0.out HPL.out
        rw [he]
        exact ans_none rfl (HB4.out.grown hg HB4.out.size (fun g' e => by simp at e; omega))
      clear hg
      go_wp2
      refine bodyPost_ret (v := .tuple #[.agg #[.slice none 0 0, .int .i64 0, .bool false], .int .i64 190]) ?hres rfl ?_
      case hres =>
        rw [results_cell_tmp rfl]
        go_simp
      exact HF.out
    obtain rfl : PL = (k : Int) := by rw [← HPL.out]; exact hp
    have HEQ0 : Hid (PA = (⟨l.eraseIdx k, levAt ⟨l, z, f⟩ k, if (k : Int) = z then false else f⟩, 0)) := by unfold Hid; rw [← HPA.out]; exact lev_yes id HC0.out HPL.out
    have hz32 : 0 ≤ z ∧ z < l.length := by
      have h1 := HOK.out.lo
      have h2 := HOK.out.hi
      simp only at h1 h2
      omega
    clear hp
    have HCP := Hid.mkT (rcopiedOf ⟨l, z, f⟩ (.slice a l.length cap) w4 (HT.out.later HB4.out))
    unfold turV at HCP
    simp only at HCP
    go_wp2_with fail
    refine HCP.out.mono ?_
    rintro e w5 ⟨ca, cN, cc, vs, r, rs, rfl, hm5, hl5, hsm5, hb5⟩
    simp only at hm5 hl5 hsm5
    have HTN := Hid.mkT (CopP.tur (w0 := w) HROW.out hm5 hl5 hsm5 z f ⟨hz1, hz2⟩)
    have HT5 := Hid.mkT (HT4.out.later hb5)
    have HR5 := Hid.mkT (HR4.out.later hb5)
    have HB5 := Hid.mkT (below_of HB4.out hb5)
    have hs5 := hb5.size
    clear m0 m1 m2 mf0 mf1 mf2 r0 r1 r2 rf0 rf1 rf2 HCP hm5 hl5 hsm5 hb5
    obtain ⟨g, cc', rfl, ecv⟩ := HTN.out.mem.row.some (by rw [HTN.out.len]; show 0 < l.length; omega)
    have hvl : vs.length = l.length := HTN.out.len
    rw [hvl] at ecv
    simp only [Value.slice.injEq] at ecv
    obtain ⟨rfl, rfl, rfl⟩ := ecv
    have hg5 : w4.heap.size ≤ g := HTN.out.mem.new g rfl
    obtain ⟨w6, hw6⟩ : ∃ w6, w5.alloc (.cells #[.slice (some ⟨g, 0, none⟩) l.length cc, .int .i64 z, .bool f] 24) = w6 := ⟨_, rfl⟩
    have b6 : Below w5.heap.size w5 w6 := by rw [← hw6]; exact (Below.refl _ _).alloc (Nat.le_refl _) _
    obtain ⟨C, hC⟩ : ∃ C, w5.heap.size = C := ⟨_, rfl⟩
    have hc6 : TuB w6 C (.slice (some ⟨g, 0, none⟩) l.length cc) z f := by have := TuB.new w5 (.slice (some ⟨g, 0, none⟩) l.length cc) z f; rw [hw6, hC] at this; exact this
    have ht6 := HT5.out.later b6
    obtain ⟨w7, hw7⟩ : ∃ w7, w6.alloc (.cells #[.slice none 0 0, .int .i64 z, .bool f] 24) = w7 := ⟨_, rfl⟩
    have b7 : Below w6.heap.size w6 w7 := by rw [← hw7]; exact (Below.refl _ _).alloc (Nat.le_refl _) _
    obtain ⟨O, hO⟩ : ∃ O, w6.heap.size = O := ⟨_, rfl⟩
    have ho7 : TuB w7 O (.slice none 0 0) z f := by have := TuB.new w6 (.slice none 0 0) z f; rw [hw7, hO] at this; exact this
    obtain ⟨D, hD⟩ : ∃ D, w7.heap.size = D := ⟨_, rfl⟩
    have hCO : C < O := by rw [← hO]; exact hc6.lt
    have hOD : O < D := by rw [← hD]; exact ho7.lt
    have hgC : g < C := by rw [← hC]; exact HTN.out.mem.lts.1 g rfl
    have HN7 := Hid.mkT ((HTN.out.later b6).later b7)
    have HB7 := Hid.mkT (below_of (below_of HB5.out b6) b7)
    have HC7 := Hid.mkT (hc6.later b7)
    have HT7 := Hid.mkT (ht6.later b7)
    have HR7 := Hid.mkT ((HR5.out.later b6).later b7)
    have HRD : Hid (∀ j, j < l.length → ∀ q, rs.getD j none = some q → q < D ∧ q ≠ O) := fun j hj q e => by
      have := HTN.out.mem.lts.2 j (by simpa using hj) q e
      rw [hC] at this
      omega
    have HO0 : Hid (OuL w7 w7 D O (.slice none 0 0) [] none z f) := ⟨ho7, OwnQv.nil _, SvF.refl _ _ _ (by omega), by simp, hOD⟩
    have HCB : Hid (∀ u, SvF w7 u D O → u.cell? ⟨C, 0, none⟩ = some (.slice (some ⟨g, 0, none⟩) l.length cc) ∧ TuB u B (.slice a l.length cap) z f ∧ TuB u (B + 1) (.slice none 0 0) 0 false ∧ ∀ j, j < l.length → Qv.CellsAt u g (j * 4) (vs.getD j Qv.zero)) := fun u hu => by
      refine ⟨(HC7.out.block (hu.block C (by omega) (by omega))).b0, HT7.out.block (hu.block B (by omega) (by omega)), HR7.out.block (hu.block (B + 1) (by omega) (by omega)), fun j hj => ?_⟩
      exact (HN7.out.mem.row.at (j := j) (by rw [hvl]; exact hj)).block (hu.block g (by omega) (by omega))
    obtain ⟨n0, n1, n2, -⟩ := hc6
    obtain ⟨p0, p1, p2, -⟩ := ht6
    clear b6 b7 ho7
    have hk0 : ¬ (k : Int) < 0 := by omega
    go_wp2
    go_loopw [10] (fun i u => ∃ (j : Nat) (ov : Value) (ro : Option Nat), j ≤ l.length ∧ i = .int .i64 j ∧ Hid (OuL w7 u D O ov (lessL vs k j) ro z f)) (fun i _ => l.length - (intOf i).toNat)
    case atStart => exact ⟨0, _, _, by omega, rfl, by have : lessL vs k 0 = [] := by (unfold lessL; rw [if_pos (by omega)]; simp)
                                                      rw [this]; exact HO0.out⟩
    case round =>
      obtain ⟨j, ov, ro, hj, rfl, HL⟩ := hrel
      clear n0 n1 n2 p0 p1 p2
      obtain ⟨k0, ht, hrr, hcells⟩ := HCB.out wr HL.out.fr
      by_cases hlt : j < l.length
      · have hjz : (j : Int) < (l.length : Int) := by omega
        obtain ⟨q0, q1, q2, q3⟩ := hcells j hlt
        by_cases hjk : j = k
        · have HS : Hid (lessL vs k (j + 1) = lessL vs k j) := by unfold Hid; rw [hjk]; exact less_skip (by rw [hvl]; exact hkl2)
          have hne : ((j : Int) != (k : Int)) = false := by simp [hjk]
          have hne2 : decide ((j : Int) ≠ (k : Int)) = false := by simp [hjk]
          clear ht hrr hcells q0 q1 q2 q3
          subst hjk
          go_wp2
          go_roundw
          case rel => exact ⟨j + 1, ov, ro, by omega, by go_num, by rw [HS.out]; exact HL.out⟩
          case measure => simp only [intOf]; omega
        · have HS : Hid (lessL vs k (j + 1) = lessL vs k j ++ [vs.getD j Qv.zero]) := less_more (by rw [hvl]; exact hlt) hjk
          have hne : ((j : Int) != (k : Int)) = true := by simp; omega
          have hjkz : ¬ (j : Int) = (k : Int) := by omega
          have HLEN : Hid ((lessL vs k j).length ≤ 33) := by have := less_len (vs := vs) (k := k) (i := j); rw [hvl] at this; exact Nat.le_trans this (by omega)
          clear ht hrr hcells
          obtain ⟨x, hx⟩ : ∃ x, vs.getD j Qv.zero = x := ⟨_, rfl⟩
          have HX := Hid.mkT hx
          rw [hx] at q0 q1 q2 q3
          clear hx
          obtain ⟨xi, xq, xd, sa, sn, sc⟩ := x
          simp only at q0 q1 q2 q3
          obtain ⟨w8, hw8⟩ : ∃ w8, wr.drew.alloc (.cells #[.int .i64 xi, .int .i64 xq, .int .i64 xd, .slice sa sn sc] 37) = w8 := ⟨_, rfl⟩
          have b8 : Below wr.heap.size wr w8 := by rw [← hw8]; exact (Below.drew (Below.refl _ _)).alloc (Nat.le_refl _) _
          obtain ⟨F, hF⟩ : ∃ F, wr.heap.size = F := ⟨_, rfl⟩
          have HSR : Hid (Src Try.prog 4 22 (.slice (some ⟨F, 0, none⟩) 1 1) [(⟨xi, xq, xd, (sa, sn, sc)⟩ : Qv)].length (vcells [⟨xi, xq, xd, (sa, sn, sc)⟩]) w8) := by
            have := src_q wr.drew F (by rw [← hF]; rfl) ⟨xi, xq, xd, (sa, sn, sc)⟩
            simp only at this
            rw [hw8] at this
            exact this
          have HOV : Hid (OwnQv w8 ov (lessL vs k j) ro) := HL.out.row.kept (below_grow b8 none) (by cases e : ro with | none => exact .inl rfl | some q => exact .inr (by simp))
          have hb8b := HL.out.box
          obtain ⟨z0, -, -, zf⟩ := HL.out.box
          have z0d : wr.drew.cell? ⟨O, 0, none⟩ = some ov := z0
          have z08 : w8.cell? ⟨O, 0, none⟩ = some ov := (HL.out.box.later b8).b0
          have k0d : wr.drew.cell? ⟨C, 0, none⟩ = some (.slice (some ⟨g, 0, none⟩) l.length cc) := k0
          have k08 : w8.cell? ⟨C, 0, none⟩ = some (.slice (some ⟨g, 0, none⟩) l.length cc) := (b8.cell (p := ⟨C, 0, none⟩) (cell_lt k0)).trans k0
          have e0 : w8.cell? ⟨g, j * 4, none⟩ = some (.int .i64 xi) := (b8.cell (p := ⟨g, j * 4, none⟩) (cell_lt q0)).trans q0
          have e1 : w8.cell? ⟨g, j * 4 + 1, none⟩ = some (.int .i64 xq) := (b8.cell (p := ⟨g, j * 4 + 1, none⟩) (cell_lt q1)).trans q1
          have e2 : w8.cell? ⟨g, j * 4 + 2, none⟩ = some (.int .i64 xd) := (b8.cell (p := ⟨g, j * 4 + 2, none⟩) (cell_lt q2)).trans q2
          have e3 : w8.cell? ⟨g, j * 4 + 3, none⟩ = some (.slice sa sn sc) := (b8.cell (p := ⟨g, j * 4 + 3, none⟩) (cell_lt q3)).trans q3
          obtain ⟨oa, oc, hov, -, -⟩ := HL.out.row.shape
          have HLL : Hid ((lessL vs k j).length ≤ 33) := HLEN.out
          have HB8 := Hid.mkT b8
          subst hov
          clear b8 hb8b zf
          go_wp2_with fail
          go_region_law (refine step_append_v rfl (.tmp 41) (.tmp 47) rfl (.slice oa (lessL vs k j).length oc) (.slice (some ⟨F, 0, none⟩) 1 1) (lessL vs k j) [⟨xi, xq, xd, (sa, sn, sc)⟩] ro (by first | rfl | simp [Act.eval, Act.put]) (by first | rfl | simp [Act.eval, Act.put]) (by first | exact HOV.out | (rw [hw8]; exact HOV.out)) (by first | exact HSR.out | (rw [hw8]; exact HSR.out)) (by have := HLL.out; simp only [List.length_cons, List.length_nil]; omega) (.inr (by simp)) ?_
                         try rw [hw8]
                         intro v9 w9 g9 ho9 hg9 hr9
                         obtain ⟨hmore, hbox9⟩ := HL.out.more HB8.out ho9 hg9 hr9
                         obtain ⟨a9, c9, e9, -, -⟩ := ho9.shape
                         subst e9
                         have z09 := hbox9.b0
                         have zf9 := hbox9.fz 0 (by omega)
                         simp only [List.length_append, List.length_cons, List.length_nil, Nat.zero_add] at hmore
                         have HMO := Hid.mkT hmore
                         clear hmore hbox9 ho9 hg9 hr9)
          all_goals
            go_wp2
            go_roundw
            case rel => exact ⟨j + 1, _, _, by omega, by go_num, by rw [HS.out, HX.out]; exact HMO.out⟩
            case measure => simp only [intOf]; omega
      · obtain rfl : j = l.length := by omega
        have hjz : ¬ (l.length : Int) < (l.length : Int) := by omega
        have HLA : Hid (lessL vs k l.length = vs.eraseIdx k) := by unfold Hid; rw [← hvl]; exact less_all (by rw [hvl]; exact hkl2)
        rw [HLA.out] at HL
        have hel : (vs.eraseIdx k).length = l.length - 1 := by rw [List.length_eraseIdx, if_pos (by omega)]; omega
        have hel1 : (l.eraseIdx k).length = l.length - 1 := by rw [List.length_eraseIdx, if_pos (by omega)]
        obtain ⟨oa, oc, hov, -, -⟩ := HL.out.row.shape
        rw [hel] at hov
        subst hov
        have HFIN : Hid (∀ u (z' : Int) (f' : Bool), I64 z' → OuL w7 u D O (.slice oa (l.length - 1) oc) (vs.eraseIdx k) ro z' f' → TurNew w4.heap.size u (.slice oa (l.length - 1) oc) ⟨l.eraseIdx k, z', f'⟩ ∧ Below w.heap.size w u ∧ TuB u (B + 1) (.slice none 0 0) 0 false) := fun u z' f' hz' hu => by
          obtain ⟨rs9, h9⟩ := pick_turF (z' := z') (f' := f') (l' := l.eraseIdx k) HN7.out hu.row hu.fr (by omega) HRD.out hu.new (by rw [hel, hel1]) hz' (by rw [hel1]; omega) (fun j => if j < k then some j else some (j + 1))
            (fun j m hj hs => by
              rw [hel1] at hj
              rw [getD_delQ, getD_delQ]
              by_cases h1 : j < k
              · rw [if_pos h1] at hs
                simp only [Option.some.injEq] at hs
                subst hs
                rw [if_pos h1, if_pos h1]
                exact ⟨by omega, rfl, rfl⟩
              · rw [if_neg h1] at hs
                simp only [Option.some.injEq] at hs
                subst hs
                rw [if_neg h1, if_neg h1]
                exact ⟨by omega, rfl, rfl⟩)
            (fun j hj hs => by
              by_cases h1 : j < k
              · rw [if_pos h1] at hs; cases hs
              · rw [if_neg h1] at hs; cases hs)
            (fun i j m hi hj s1 s2 => by
              by_cases a1 : i < k
              · rw [if_pos a1] at s1
                by_cases a2 : j < k
                · rw [if_pos a2] at s2; simp only [Option.some.injEq] at s1 s2; omega
                · rw [if_neg a2] at s2; simp only [Option.some.injEq] at s1 s2; omega
              · rw [if_neg a1] at s1
                by_cases a2 : j < k
                · rw [if_pos a2] at s2; simp only [Option.some.injEq] at s1 s2; omega
                · rw [if_neg a2] at s2; simp only [Option.some.injEq] at s1 s2; omega)
          refine ⟨⟨_, _, rs9, h9⟩, ?_, (HCB.out u hu.fr).2.2.1⟩
          have hb := HB7.out
          exact ⟨hu.fr.os.trans hb.os, hu.fr.tape.trans hb.tape, hu.fr.output.trans hb.output, Nat.le_trans hb.size hu.fr.size, fun i hi => (hu.fr.block i (by omega) (by omega)).trans (hb.block i hi)⟩
        obtain ⟨m0, m1, m2, -⟩ := ht
        obtain ⟨z0, z1, z2, zf⟩ := HL.out.box
        have zf1 := zf 1 (by omega)
        have zf2 := zf 2 (by omega)
        clear zf hrr hcells
        by_cases hkz : (k : Int) < z
        · have HEQ : Hid (PA = (⟨l.eraseIdx k, z - 1, f⟩, 0)) := by unfold Hid; rw [HEQ0.out]; unfold levAt; rw [if_pos hkz, if_neg (by omega)]
          have hkne : ¬ (k : Int) = z := by omega
          obtain ⟨w9, hw9⟩ : ∃ w9, wr.setCell ⟨O, 1, none⟩ (.int .i64 (z - 1)) = w9 := ⟨_, rfl⟩
          have h9 := HL.out.setAt (z - 1)
          rw [hw9] at h9
          obtain ⟨htn, hbw, hr9⟩ := HFIN.out w9 (z - 1) f (by constructor <;> omega) h9
          have HTN9 := Hid.mkT htn
          have HB9 := Hid.mkT hbw
          have HR9 := Hid.mkT hr9
          obtain ⟨y0, y1, y2, -⟩ := h9.box
          have m1' : w9.cell? ⟨B, 1, none⟩ = some (.int .i64 z) := by rw [← hw9, World.cell?_setCell_other _ _ _ _ (by simp only [ne_eq, Addr.mk.injEq]; omega)]; exact m1
          obtain ⟨r0, r1, r2, rf⟩ := hr9
          have rf0 := rf 0 (by omega)
          have rf1 := rf 1 (by omega)
          have rf2 := rf 2 (by omega)
          clear rf h9 htn hbw HEQ0
          obtain ⟨U, hU⟩ : ∃ U, ((w9.setCell ⟨B + 1, 0, none⟩ (.slice oa (l.length - 1) oc)).setCell ⟨B + 1, 1, none⟩ (.int .i64 (z - 1))).setCell ⟨B + 1, 2, none⟩ (.bool f) = U := ⟨_, rfl⟩
          obtain ⟨ha, hg⟩ := HR9.out.ans (.slice oa (l.length - 1) oc) (z - 1) f
          rw [hU] at ha hg
          obtain ⟨q0, q1, q2, -⟩ := ha
          have HF : Hid (ansT PA.1 PA.2 w (.returned (.tuple #[.agg #[.slice oa (l.length - 1) oc, .int .i64 (z - 1), .bool f], .int .i64 0])) U) := by
            rw [HEQ.out]
            exact ans_some (t := ⟨l.eraseIdx k, z - 1, f⟩) hel1 ((HTN9.out.kept hg (by omega)).lower (by omega)) (HB9.out.grown hg HB9.out.size (fun q e => by simp at e; omega))
          clear hg
          go_wp2
          refine bodyPost_ret (v := .tuple #[.agg #[.slice oa (l.length - 1) oc, .int .i64 (z - 1), .bool f], .int .i64 0]) ?hres rfl ?_
          case hres =>
            rw [results_cell_tmp rfl]
            go_simp
          exact HF.out
        by_cases hke : (k : Int) = z
        · subst hke
          obtain ⟨wf, hwf⟩ : ∃ wf, wr.setCell ⟨O, 2, none⟩ (.bool false) = wf := ⟨_, rfl⟩
          have hf9 := HL.out.setF false
          rw [hwf] at hf9
          obtain ⟨g0, g1, g2, gf⟩ := hf9.box
          have gf1 := gf 1 (by omega)
          have m1f : wf.cell? ⟨B, 1, none⟩ = some (.int .i64 (k : Int)) := by rw [← hwf, World.cell?_setCell_other _ _ _ _ (by simp only [ne_eq, Addr.mk.injEq]; omega)]; exact m1
          by_cases hlast : k = l.length - 1
          · have HEQ : Hid (PA = (⟨l.eraseIdx k, 0, false⟩, 0)) := by unfold Hid; rw [HEQ0.out]; unfold levAt; rw [if_neg (by omega), if_pos rfl]; simp only; rw [if_pos (by constructor <;> (first | trivial | omega))]
            have hlz : (k : Int) = ((l.length - 1 : Nat) : Int) := by omega
            have hlb : ((k : Int) == ((l.length - 1 : Nat) : Int)) = true := by simp [← hlast]
            obtain ⟨w9, hw9⟩ : ∃ w9, wf.setCell ⟨O, 1, none⟩ (.int .i64 0) = w9 := ⟨_, rfl⟩
            have h9 := hf9.setAt 0
            rw [hw9] at h9
            obtain ⟨htn, hbw, hr9⟩ := HFIN.out w9 0 false (by constructor <;> omega) h9
            have HTN9 := Hid.mkT htn
            have HB9 := Hid.mkT hbw
            have HR9 := Hid.mkT hr9
            obtain ⟨y0, y1, y2, -⟩ := h9.box
            obtain ⟨r0, r1, r2, rf⟩ := hr9
            have rf0 := rf 0 (by omega)
            have rf1 := rf 1 (by omega)
            have rf2 := rf 2 (by omega)
            obtain ⟨M, hM⟩ : ∃ M, l.length - 1 = M := ⟨_, rfl⟩
            have HMM := Hid.mkT hM
            rw [hM] at hlast hlz hlb g0 y0 HTN9 z0
            have hMk : M = k := hlast.symm
            subst hMk
            have hel1' : Hid ((l.eraseIdx M).length = M) := by unfold Hid; rw [hel1, HMM.out]
            clear rf h9 htn hbw HEQ0 hlz hel1 hel hM HFIN hf9 HL HLA HO0 gf hlast
            obtain ⟨U, hU⟩ : ∃ U, ((w9.setCell ⟨B + 1, 0, none⟩ (.slice oa M oc)).setCell ⟨B + 1, 1, none⟩ (.int .i64 0)).setCell ⟨B + 1, 2, none⟩ (.bool false) = U := ⟨_, rfl⟩
            obtain ⟨ha, hg⟩ := HR9.out.ans (.slice oa M oc) 0 false
            rw [hU] at ha hg
            obtain ⟨q0, q1, q2, -⟩ := ha
            have HF : Hid (ansT PA.1 PA.2 w (.returned (.tuple #[.agg #[.slice oa M oc, .int .i64 0, .bool false], .int .i64 0])) U) := by
              rw [HEQ.out]
              exact ans_some (t := ⟨l.eraseIdx M, 0, false⟩) hel1'.out ((HTN9.out.kept hg (by omega)).lower (by omega)) (HB9.out.grown hg HB9.out.size (fun q e => by simp at e; omega))
            clear hg
            go_wp2
            refine bodyPost_ret (v := .tuple #[.agg #[.slice oa M oc, .int .i64 0, .bool false], .int .i64 0]) ?hres rfl ?_
            case hres =>
              rw [results_cell_tmp rfl]
              go_simp
            exact HF.out
          · have HEQ : Hid (PA = (⟨l.eraseIdx k, (k : Int), false⟩, 0)) := by unfold Hid; rw [HEQ0.out]; unfold levAt; rw [if_neg (by omega), if_pos rfl]; simp only; rw [if_neg (fun x => hlast (by have := x.2; omega))]
            have hlz : ¬ (k : Int) = ((l.length - 1 : Nat) : Int) := by omega
            have hlb : ((k : Int) == ((l.length - 1 : Nat) : Int)) = false := by simp; omega
            obtain ⟨htn, hbw, hr9⟩ := HFIN.out wf (k : Int) false (by constructor <;> omega) hf9
            have HTN9 := Hid.mkT htn
            have HB9 := Hid.mkT hbw
            have HR9 := Hid.mkT hr9
            obtain ⟨r0, r1, r2, rf⟩ := hr9
            have rf0 := rf 0 (by omega)
            have rf1 := rf 1 (by omega)
            have rf2 := rf 2 (by omega)
            clear rf htn hbw HEQ0
            obtain ⟨U, hU⟩ : ∃ U, ((wf.setCell ⟨B + 1, 0, none⟩ (.slice oa (l.length - 1) oc)).setCell ⟨B + 1, 1, none⟩ (.int .i64 (k : Int))).setCell ⟨B + 1, 2, none⟩ (.bool false) = U := ⟨_, rfl⟩
            obtain ⟨ha, hg⟩ := HR9.out.ans (.slice oa (l.length - 1) oc) (k : Int) false
            rw [hU] at ha hg
            obtain ⟨q0, q1, q2, -⟩ := ha
            have HF : Hid (ansT PA.1 PA.2 w (.returned (.tuple #[.agg #[.slice oa (l.length - 1) oc, .int .i64 (k : Int), .bool false], .int .i64 0])) U) := by
              rw [HEQ.out]
              exact ans_some (t := ⟨l.eraseIdx k, (k : Int), false⟩) hel1 ((HTN9.out.kept hg (by omega)).lower (by omega)) (HB9.out.grown hg HB9.out.size (fun q e => by simp at e; omega))
            clear hg
            go_wp2
            refine bodyPost_ret (v := .tuple #[.agg #[.slice oa (l.length - 1) oc, .int .i64 (k : Int), .bool false], .int .i64 0]) ?hres rfl ?_
            case hres =>
              rw [results_cell_tmp rfl]
              go_simp
            exact HF.out
        · have HEQ : Hid (PA = (⟨l.eraseIdx k, z, f⟩, 0)) := by unfold Hid; rw [HEQ0.out]; unfold levAt; rw [if_neg hkz, if_neg (fun x => hke x.1), if_neg hke]
          obtain ⟨htn, hbw, hr9⟩ := HFIN.out wr z f (by constructor <;> omega) HL.out
          have HTN9 := Hid.mkT htn
          have HB9 := Hid.mkT hbw
          have HR9 := Hid.mkT hr9
          obtain ⟨r0, r1, r2, rf⟩ := hr9
          have rf0 := rf 0 (by omega)
          have rf1 := rf 1 (by omega)
          have rf2 := rf 2 (by omega)
          clear rf htn hbw HEQ0
          obtain ⟨U, hU⟩ : ∃ U, ((wr.setCell ⟨B + 1, 0, none⟩ (.slice oa (l.length - 1) oc)).setCell ⟨B + 1, 1, none⟩ (.int .i64 z)).setCell ⟨B + 1, 2, none⟩ (.bool f) = U := ⟨_, rfl⟩
          obtain ⟨ha, hg⟩ := HR9.out.ans (.slice oa (l.length - 1) oc) z f
          rw [hU] at ha hg
          obtain ⟨q0, q1, q2, -⟩ := ha
          have HF : Hid (ansT PA.1 PA.2 w (.returned (.tuple #[.agg #[.slice oa (l.length - 1) oc, .int .i64 z, .bool f], .int .i64 0])) U) := by
            rw [HEQ.out]
            exact ans_some (t := ⟨l.eraseIdx k, z, f⟩) hel1 ((HTN9.out.kept hg (by omega)).lower (by omega)) (HB9.out.grown hg HB9.out.size (fun q e => by simp at e; omega))
          clear hg
          go_wp2
          refine bodyPost_ret (v := .tuple #[.agg #[.slice oa (l.length - 1) oc, .int .i64 z, .bool f], .int .i64 0]) ?hres rfl ?_
          case hres =>
            rw [results_cell_tmp rfl]
            go_simp
          exact HF.out
  · have HC0 := Hid.mkT hck
    obtain ⟨E, hE⟩ : ∃ E, chkT ⟨l, z, f⟩ = E := ⟨_, rfl⟩
    have hE0 : ¬ E = 0 := by rw [← hE]; exact hck
    have HEE := Hid.mkT hE
    rw [hE]
    clear hck hE
    obtain ⟨U, hU⟩ : ∃ U, ((w3.setCell ⟨B + 1, 0, none⟩ (.slice none 0 0)).setCell ⟨B + 1, 1, none⟩ (.int .i64 0)).setCell ⟨B + 1, 2, none⟩ (.bool false) = U := ⟨_, rfl⟩
    obtain ⟨ha, hg⟩ := HR3.out.ans (.slice none 0 0) 0 false
    rw [hU] at ha hg
    obtain ⟨q0, q1, q2, -⟩ := ha
    have HF : Hid (ansT PA.1 PA.2 w (.returned (.tuple #[.agg #[.slice none 0 0, .int .i64 0, .bool false], .int .i64 E])) U) := by
      have he : PA = (Tr.zero, E) := by rw [← HPA.out, ← HEE.out]; exact lev_chk id HC0.out
      rw [he]
      exact ans_none rfl (HB3.out.grown hg HB3.out.size (fun g' e => by simp at e; omega))
    clear hg
    go_wp2
    refine bodyPost_ret (v := .tuple #[.agg #[.slice none 0 0, .int .i64 0, .bool false], .int .i64 E]) ?hres rfl ?_
    case hres =>
      rw [results_cell_tmp rfl]
      go_simp
    exact HF.out
end Go.Proofs.Ytelhjdplghpnbab
