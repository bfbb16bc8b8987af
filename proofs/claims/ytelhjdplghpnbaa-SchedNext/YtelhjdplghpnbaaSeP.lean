import Derived.Test.YtelhjdplghpnbaaSeO
import Derived.Test.YtelhjdplghpnbaaSeI
import Derived.Test.YtelhjdplghpnbaaSeJ
import Derived.Test.YtelhjdplghpnbaaSeM
import Derived.Test.YtelhjdplghpnbaaSdZ
/-! The law on Next against the document's own: its walk. -/
namespace Go.Proofs.Ytelhjdplghpnbaa
open Go.RowKit Plain
set_option linter.unusedVariables false
set_option linter.unusedSimpArgs false

/-- What the document's Next answers. -/
def RNextOk : Prop := ∀ (t : Tr) (v : Value) (w : World), TrAt w v t → Calls Try.prog 16 #[turV v t] w fun e w' => ∃ a N c t' id k ok, e = .returned (.tuple #[.agg #[.slice a N c, .int .i64 t'.at', .bool t'.fresh], .int .i64 id, .int .i64 k, .bool ok]) ∧ TrAt w' (.slice a N c) t' ∧ Nxt t t' id k ok ∧ Below w.heap.size w w'
theorem nxt_few {t t' : Tr} {id c : Int} {ok : Bool} (h : Nxt t t' id c ok) : t'.qs.length ≤ 32 := by
  by_cases h0 : chkT t = 0
  · have ok0 := chk_ok.mp h0
    cases hw : waitsT t with
    | false =>
      obtain ⟨rfl, -, -, -⟩ := h.idle h0 hw
      exact ok0.few
    | true =>
      have hw2 := hw
      unfold waitsT at hw2
      rw [List.any_eq_true] at hw2
      obtain ⟨q, hq, hq2⟩ := hw2
      obtain ⟨j, hj, rfl⟩ := List.mem_iff_getElem.mp hq
      obtain ⟨-, ok', -, -⟩ := nxt_srv h ok0 (k := j) hj (by
        intro e
        have : (t.qs.getD j Qu.zero).costs = [] := e
        simp [List.getD_eq_getElem?_getD, hj] at this
        simp [this] at hq2)
      exact ok'.few
  · obtain ⟨rfl, -, -, -⟩ := h.bad h0
    simp [Tr.zero]
theorem below_onn {n m : Nat} {a b c : World} (h : Below n a b) (k : Below m b c) (hnm : n ≤ m) : Below n a c := h.trans (k.mono hnm)
set_option maxHeartbeats 16000000 in
set_option maxRecDepth 100000 in
theorem nextWalk (hN : NextOk) (hR : RNextOk) (t : Tr) (v : Value) (w : World) (h : TrAt w v t) (hfew : t.qs.length ≤ 2932031007317) (hlc : ∀ j, j < t.qs.length → (t.q j).costs.length ≤ 17592186043904) : Calls Try.prog 5 #[turV v t] w fun e w' => e = .returned (.bool true) ∧ Below w.heap.size w w' := by
  obtain ⟨a, cap, rfl⟩ := h.shape
  have HT : Hid (∀ u, Below w.heap.size w u → TrAt u (.slice a t.qs.length cap) t) := fun u hu => h.later hu
  have HRO : Hid (∀ u, Below w.heap.size w u → Calls Try.prog 11 #[.agg #[.slice a t.qs.length cap, .int .i64 t.at', .bool t.fresh]] u (RooP t u)) := fun u hu => lroomyOf t _ u (h.later hu) hfew hlc
  have HRN : Hid (∀ u, Below w.heap.size w u → Calls Try.prog 16 #[.agg #[.slice a t.qs.length cap, .int .i64 t.at', .bool t.fresh]] u fun e w' => ∃ a N c t' id k ok, e = .returned (.tuple #[.agg #[.slice a N c, .int .i64 t'.at', .bool t'.fresh], .int .i64 id, .int .i64 k, .bool ok]) ∧ TrAt w' (.slice a N c) t' ∧ Nxt t t' id k ok ∧ Below u.heap.size u w') := fun u hu => hR t _ u (h.later hu)
  have HQN : Hid (∀ (t1 : Tr) a1 n1 c1 u, TrAt u (.slice a1 n1 c1) t1 → Calls Try.prog 12 #[.agg #[.slice a1 n1 c1, .int .i64 t1.at', .bool t1.fresh]] u (NxtA t1 u)) := fun t1 a1 n1 c1 u h => hN t1 _ u h
  clear hN hR h hfew hlc
  obtain ⟨l, z, f⟩ := t
  unfold turV
  simp only at *
  obtain ⟨w0, hw0⟩ : ∃ w0, w.alloc (.cells #[.slice a l.length cap, .int .i64 z, .bool f] 34) = w0 := ⟨_, rfl⟩
  obtain ⟨B, hB⟩ : ∃ B, w.heap.size = B := ⟨_, rfl⟩
  have HB0 : Hid (Below w.heap.size w w0) := by have := (turBox w (.slice a l.length cap) z f).1; rw [hw0] at this; exact this
  have HXB : Hid (BoxT w0 B (.slice a l.length cap) ⟨l, z, f⟩) := by have := BoxT.new w (.slice a l.length cap) ⟨l, z, f⟩ z f rfl rfl; rw [hw0, hB] at this; exact this
  obtain ⟨p0, p1, p2, -, -⟩ := HXB.out
  simp only at p1 p2
  go_enter Try.func5, Try.ntmps5
  go_wp2_with fail
  refine (HRO.out _ HB0.out).mono ?_
  rintro e w1 ⟨g, rc, vs, rs, rfl, hrm, hb1⟩
  simp only at hrm
  -- c's box
  obtain ⟨w2, hw2⟩ : ∃ w2, w1.alloc (.cells #[.slice (some ⟨g, 0, none⟩) l.length rc, .int .i64 z, .bool f] 34) = w2 := ⟨_, rfl⟩
  obtain ⟨C, hC⟩ : ∃ C, w1.heap.size = C := ⟨_, rfl⟩
  have hb2 : Below w1.heap.size w1 w2 := by have := (turBox w1 (.slice (some ⟨g, 0, none⟩) l.length rc) z f).1; rw [hw2] at this; exact this
  have HXC : Hid (BoxT w2 C (.slice (some ⟨g, 0, none⟩) l.length rc) ⟨l, z, f⟩) := by have := BoxT.new w1 (.slice (some ⟨g, 0, none⟩) l.length rc) ⟨l, z, f⟩ z f rfl rfl; rw [hw2, hC] at this; exact this
  have HLIM : Hid (g ≠ C ∧ g ≠ B ∧ ∀ j, j < l.length → rs.getD j none ≠ some C ∧ rs.getD j none ≠ some B) := by
    have hg1 := hrm.mem.row.lt
    have hg2 := hrm.mem.new g rfl
    have hBl := HXB.out.lt
    have hb1s := hb1.size
    refine ⟨by omega, by omega, fun j hj => ⟨fun e => ?_, fun e => ?_⟩⟩
    · have := hrm.row hj
      rw [e] at this
      have := this.lt
      omega
    · have := hrm.mem.newc j (by simpa using hj) B e
      omega
  have HRM2 := Hid.mkT (hrm.later hb2)
  have HB02 : Hid (Below w0.heap.size w0 w2) := below_of hb1 hb2
  clear hrm hb1 hb2 HRO p0 p1 p2
  obtain ⟨c0, c1, c2, -, -⟩ := HXC.out
  simp only at c1 c2
  go_wp2_with fail
  refine (lmovedOf w0.heap.size g l.length rc ⟨l, z, f⟩ vs rs w2 HRM2.out).mono ?_
  rintro e w3 ⟨t3, vs3, rfl, hlk, hrm3, hb3, hfr3⟩
  obtain ⟨l3, z3, f3⟩ := t3
  have ez : z3 = z := hlk.at_
  have ef : f3 = f := hlk.fr
  subst ez ef
  simp only
  have HLK := Hid.mkT hlk
  have HXC3 := Hid.mkT (HXC.out.block (hfr3 C HXC.out.lt (Ne.symm HLIM.out.1) (fun j hj => (HLIM.out.2.2 j hj).1)) hb3.size)
  have HB03 : Hid (Below w0.heap.size w0 w3) := HB02.out.trans hb3
  have HRM3 := Hid.mkT hrm3
  clear hlk hrm3 hb3 hfr3 c0 c1 c2 HRM2
  obtain ⟨c0, c1, c2, -, -⟩ := HXC3.out
  simp only at c1 c2
  go_wp2_with fail
  refine (HQN.out ⟨l3, z3, f3⟩ _ _ _ _ HRM3.out.reads).mono ?_
  rintro e w4 ⟨na, nc, t4, id4, k4, ok4, rfl, -, -, hb4⟩
  have HRM4 := Hid.mkT (HRM3.out.later hb4)
  have HXC4 := Hid.mkT (HXC3.out.later hb4)
  have HB04 : Hid (Below w0.heap.size w0 w4) := below_onn HB03.out hb4 HB03.out.size
  have HXB4 := Hid.mkT (HXB.out.block (HB04.out.block B HXB.out.lt) HB04.out.size)
  have HTB : Hid (∀ u, Below w0.heap.size w4 u → TrAt u (.slice a l.length cap) ⟨l, z3, f3⟩) := fun u hu => HT.out u (below_of HB0.out (HB04.out.trans hu))
  clear hb4 c0 c1 c2
  obtain ⟨c0, c1, c2, -, -⟩ := HXC4.out
  obtain ⟨p0, p1, p2, -, -⟩ := HXB4.out
  simp only at c1 c2 p1 p2
  unfold turV
  go_wp2_with fail
  refine (lbackOf w0.heap.size g l.length rc ⟨l, z3, f3⟩ ⟨l3, z3, f3⟩ vs3 rs _ w4 HRM4.out HLK.out HTB.out).mono ?_
  rintro e w5 ⟨vs5, rfl, hrm5, hb5, hfr5⟩
  have HXC5 := Hid.mkT (HXC4.out.block (hfr5 C HXC4.out.lt (Ne.symm HLIM.out.1) (fun j hj => (HLIM.out.2.2 j hj).1)) hb5.size)
  have HB05 : Hid (Below w0.heap.size w0 w5) := HB04.out.trans hb5
  have HRM5 := Hid.mkT hrm5
  have HXB5 := Hid.mkT (HXB.out.block (HB05.out.block B HXB.out.lt) HB05.out.size)
  have HBW5 : Hid (Below w.heap.size w w5) := below_onn HB0.out HB05.out HB0.out.size
  clear hrm5 hb5 hfr5 c0 c1 c2 p0 p1 p2 HRM3 HRM4 HXC3 HXC4 HXB4 HTB HB03 HB04 HLK HXC HB02
  obtain ⟨c0, c1, c2, -, -⟩ := HXC5.out
  simp only at c1 c2
  go_wp2_with fail
  refine (HQN.out ⟨l, z3, f3⟩ _ _ _ _ HRM5.out.reads).mono ?_
  rintro e w6 ⟨aa, ac, T, id, k, ok, rfl, hnew6, hnx6, hb6⟩
  have hT32 := nxt_few hnx6
  obtain ⟨lT, zT, fT⟩ := T
  unfold turV
  simp only at *
  obtain ⟨w7, hw7⟩ : ∃ w7, w6.alloc (.cells #[.slice aa lT.length ac, .int .i64 zT, .bool fT] 34) = w7 := ⟨_, rfl⟩
  obtain ⟨A, hA⟩ : ∃ A, w6.heap.size = A := ⟨_, rfl⟩
  have hb7 : Below w6.heap.size w6 w7 := by have := (turBox w6 (.slice aa lT.length ac) zT fT).1; rw [hw7] at this; exact this
  have HXA : Hid (BoxT w7 A (.slice aa lT.length ac) ⟨lT, zT, fT⟩) := by have := BoxT.new w6 (.slice aa lT.length ac) ⟨lT, zT, fT⟩ zT fT rfl rfl; rw [hw7, hA] at this; exact this
  have HN7 := Hid.mkT (hnew6.later hb7)
  have HNX6 := Hid.mkT hnx6
  have HB57 : Hid (Below w5.heap.size w5 w7) := below_of hb6 hb7
  clear hnew6 hnx6 hb6 hb7 c0 c1 c2
  obtain ⟨c0, c1, c2, -, -⟩ := HXC5.out.later HB57.out
  simp only at c1 c2
  go_wp2_with fail
  refine (HQN.out ⟨l, z3, f3⟩ _ _ _ _ (HRM5.out.later HB57.out).reads).mono ?_
  rintro e w8 ⟨ga, gc, T8, id8, k8, ok8, rfl, hnew8, hnx8, hb8⟩
  have h832 := nxt_few hnx8
  obtain ⟨l8, z8, f8⟩ := T8
  unfold turV
  simp only at *
  obtain ⟨w9, hw9⟩ : ∃ w9, w8.alloc (.cells #[.slice ga l8.length gc, .int .i64 z8, .bool f8] 34) = w9 := ⟨_, rfl⟩
  obtain ⟨A8, hA8⟩ : ∃ A8, w8.heap.size = A8 := ⟨_, rfl⟩
  have hb9 : Below w8.heap.size w8 w9 := by have := (turBox w8 (.slice ga l8.length gc) z8 f8).1; rw [hw9] at this; exact this
  have HXG : Hid (BoxT w9 A8 (.slice ga l8.length gc) ⟨l8, z8, f8⟩) := by have := BoxT.new w8 (.slice ga l8.length gc) ⟨l8, z8, f8⟩ z8 f8 rfl rfl; rw [hw9, hA8] at this; exact this
  have HB79 : Hid (Below w7.heap.size w7 w9) := below_of hb8 hb9
  obtain ⟨gvs, gr, grs, hgn⟩ := hnew8.later hb9
  have HSP := Hid.mkT (lspoiltOf w7.heap.size ⟨l8, z8, f8⟩ gvs gr grs _ w9 hgn HB79.out.size h832)
  clear hnew8 hnx8 hb8 hb9 hgn c0 c1 c2
  obtain ⟨g0, g1, g2, -, -⟩ := HXG.out
  simp only at g1 g2
  unfold turV at HSP
  simp only at HSP
  go_wp2_with fail
  refine HSP.out.mono ?_
  rintro e w10 ⟨nn, rfl, hnn, hb10, -⟩
  have HB7T : Hid (Below w7.heap.size w7 w10) := HB79.out.trans hb10
  have HBW7 : Hid (Below w.heap.size w w7) := below_of HBW5.out HB57.out
  have HBWT : Hid (Below w.heap.size w w10) := below_of HBW7.out HB7T.out
  clear hb10 HSP g0 g1 g2 HXG HB79
  obtain ⟨p0, p1, p2, -, -⟩ := HXB5.out.later (below_of HB57.out HB7T.out)
  simp only at p1 p2
  go_wp2_with fail
  refine (HRN.out _ HBWT.out).mono ?_
  rintro e w11 ⟨xa, xN, xc, X, xid, xk, xok, rfl, hxt, hxn, hb11⟩
  obtain ⟨eX, rfl, rfl, rfl⟩ := hxn.one HNX6.out
  subst eX
  have hxN : xN = lT.length := by
    obtain ⟨_, _, e⟩ := hxt.shape
    simp only [Value.slice.injEq] at e
    exact e.2.1
  subst hxN
  simp only
  obtain ⟨w12, hw12⟩ : ∃ w12, w11.alloc (.cells #[.slice xa lT.length xc, .int .i64 zT, .bool fT] 34) = w12 := ⟨_, rfl⟩
  obtain ⟨X1, hX1⟩ : ∃ X1, w11.heap.size = X1 := ⟨_, rfl⟩
  have hb12 : Below w11.heap.size w11 w12 := by have := (turBox w11 (.slice xa lT.length xc) zT fT).1; rw [hw12] at this; exact this
  have HXX : Hid (BoxT w12 X1 (.slice xa lT.length xc) ⟨lT, zT, fT⟩) := by have := BoxT.new w11 (.slice xa lT.length xc) ⟨lT, zT, fT⟩ zT fT rfl rfl; rw [hw12, hX1] at this; exact this
  have HTX := Hid.mkT (hxt.later hb12)
  have HB7E : Hid (Below w7.heap.size w7 w12) := below_of HB7T.out (below_of hb11 hb12)
  clear hxt hxn hb11 hb12 p0 p1 p2
  obtain ⟨x0, x1, x2, -, -⟩ := HXX.out
  obtain ⟨a0, a1, a2, -, -⟩ := HXA.out.later HB7E.out
  simp only at x1 x2 a1 a2
  have HSM := Hid.mkT (lsameOf ⟨lT, zT, fT⟩ _ _ w12 (HN7.out.later HB7E.out).reads HTX.out)
  unfold turV at HSM
  simp only at HSM
  go_wp2_with fail
  refine HSM.out.mono ?_
  rintro e w13 ⟨rfl, hb13⟩
  have HB7F : Hid (Below w7.heap.size w7 w13) := below_of HB7E.out hb13
  have HB5F : Hid (Below w5.heap.size w5 w13) := below_of HB57.out HB7F.out
  clear hb13 HSM x0 x1 x2 a0 a1 a2
  obtain ⟨p0, p1, p2, -, -⟩ := HXB5.out.later HB5F.out
  obtain ⟨c0, c1, c2, -, -⟩ := HXC5.out.later HB5F.out
  simp only at p1 p2 c1 c2
  have HKP := Hid.mkT (lkeptOf w0.heap.size g l.length rc ⟨l, z3, f3⟩ vs5 rs _ w13 (HRM5.out.later HB5F.out) (HT.out w13 (below_of HBW5.out HB5F.out)))
  unfold turV at HKP
  simp only at HKP
  go_wp2_with fail
  refine HKP.out.mono ?_
  rintro e w14 ⟨rfl, hb14⟩
  have HB7G : Hid (Below w7.heap.size w7 w14) := below_of HB7F.out hb14
  clear hb14 HKP p0 p1 p2 c0 c1 c2
  obtain ⟨a0, a1, a2, -, -⟩ := HXA.out.later HB7G.out
  simp only at a1 a2
  obtain ⟨avs, ar, ars, han⟩ := HN7.out.later HB7G.out
  have HB5G : Hid (Below w5.heap.size w5 w14) := below_of HB57.out HB7G.out
  have HSP2 := Hid.mkT (lspoiltOf w5.heap.size ⟨lT, zT, fT⟩ avs ar ars _ w14 han HB5G.out.size hT32)
  unfold turV at HSP2
  simp only at HSP2
  clear han
  go_wp2_with fail
  refine HSP2.out.mono ?_
  rintro e w15 ⟨n2, rfl, hn2, hb15, -⟩
  have HB5H : Hid (Below w5.heap.size w5 w15) := HB5G.out.trans hb15
  clear hb15 HSP2 a0 a1 a2
  obtain ⟨p0, p1, p2, -, -⟩ := HXB5.out.later HB5H.out
  obtain ⟨c0, c1, c2, -, -⟩ := HXC5.out.later HB5H.out
  simp only at p1 p2 c1 c2
  have HKP := Hid.mkT (lkeptOf w0.heap.size g l.length rc ⟨l, z3, f3⟩ vs5 rs _ w15 (HRM5.out.later HB5H.out) (HT.out w15 (below_of HBW5.out HB5H.out)))
  unfold turV at HKP
  simp only at HKP
  go_wp2_with fail
  refine HKP.out.mono ?_
  rintro e w16 ⟨rfl, hb16⟩
  have HF : Hid (Below w.heap.size w w16) := below_of HBW5.out (below_of HB5H.out hb16)
  clear hb16 HKP p0 p1 p2 c0 c1 c2
  go_wp2
  go_ret
  exact ⟨by first | rfl | simp, by first | exact HF.out | (rw [← hB]; exact HF.out)⟩
end Go.Proofs.Ytelhjdplghpnbaa
