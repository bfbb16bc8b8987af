import Derived.Test.YtlnppgjppfkocaaGreatDoorGq45
/-! The law's equal: its walk. -/
namespace Go.Proofs.YtlnppgjppfkocaaGreatDoor.Xs
open Go.RowKit Plain
set_option linter.unusedVariables false
set_option linter.unusedSimpArgs false

/-- What equal answers. -/
def EqP (a b : Rp) (e : Ending) : Prop := ∃ t : Bool, e = .returned (.bool t) ∧ (t = true ↔ a = b)
set_option maxHeartbeats 16000000 in
set_option maxRecDepth 100000 in
theorem lequalOf (a b : Rp) (va na vb nb : Value) (w : World) (h1 : SrsAt w va a.recs) (h2 : NmsAt w na a.names) (k1 : SrsAt w vb b.recs) (k2 : NmsAt w nb b.names) :
    Calls Tryz.prog 19 #[rpV a va na, rpV b vb nb] w fun e w' => EqP a b e ∧ Below w.heap.size w w' := by
  have H1 := mkH h1
  have H2 := mkH h2
  have K1 := mkH k1
  have K2 := mkH k2
  obtain ⟨a1, c1, rfl, q1, q2, q3, _⟩ := h1
  obtain ⟨a2, c2, rfl, q4, q5, q6, _⟩ := h2
  obtain ⟨a3, c3, rfl, q7, q8, q9, _⟩ := k1
  obtain ⟨a4, c4, rfl, q10, q11, q12, _⟩ := k2
  obtain ⟨wa, hwa⟩ : ∃ w0, w.alloc (.cells (rpA a (.slice a1 a.recs.length c1) (.slice a2 a.names.length c2)) 45) = w0 := ⟨_, rfl⟩
  obtain ⟨w0, hw0⟩ : ∃ w0, wa.alloc (.cells (rpA b (.slice a3 b.recs.length c3) (.slice a4 b.names.length c4)) 45) = w0 := ⟨_, rfl⟩
  have hsa : wa.heap.size = w.heap.size + 1 := by rw [← hwa]; simp
  have HBA : Hid (Below w.heap.size w wa) := by rw [← hwa]; exact (rpBox w a _ _ 45).1
  have HBB : Hid (Below wa.heap.size wa w0) := by rw [← hw0]; exact (rpBox wa b _ _ 45).1
  have HB0 : Hid (Below w.heap.size w w0) := below_on HBA.out HBB.out
  have HX : Hid (∀ u, Below w0.heap.size w0 u → RpAt u w.heap.size a (.slice a1 a.recs.length c1) (.slice a2 a.names.length c2)) := fun u hu => by
    have h := (rpBox w a (.slice a1 a.recs.length c1) (.slice a2 a.names.length c2) 45).2
    rw [hwa] at h
    exact (h.later HBB.out).later hu
  have HY : Hid (∀ u, Below w0.heap.size w0 u → RpAt u (w.heap.size + 1) b (.slice a3 b.recs.length c3) (.slice a4 b.names.length c4)) := fun u hu => by
    have h := (rpBox wa b (.slice a3 b.recs.length c3) (.slice a4 b.names.length c4) 45).2
    rw [hw0, hsa] at h
    exact h.later hu
  have HS : Hid (∀ u j, Below w0.heap.size w0 u → j < a.names.length → j < b.names.length → ∃ g o g' o', a2 = some ⟨g, o, none⟩ ∧ a4 = some ⟨g', o', none⟩ ∧ u.cell? ⟨g, o + j, none⟩ = some (.string (ba (a.names.getD j []))) ∧ u.cell? ⟨g', o' + j, none⟩ = some (.string (ba (b.names.getD j [])))) := fun u j hu hj hj' => by
    obtain ⟨_, _, e, _, _, _, hc⟩ := (H2.out.later HB0.out).later hu
    obtain ⟨_, _, e', _, _, _, hc'⟩ := (K2.out.later HB0.out).later hu
    cases e
    cases e'
    obtain ⟨g, o, e, hc⟩ := hc (by intro e; rw [e] at hj; simp at hj)
    obtain ⟨g', o', e', hc'⟩ := hc' (by intro e; rw [e] at hj'; simp at hj')
    exact ⟨g, o, g', o', e, e', hc j hj, hc' j hj'⟩
  have HR : Hid (∀ u j, Below w0.heap.size w0 u → j < a.recs.length → j < b.recs.length → ∃ g o g' o', a1 = some ⟨g, o, none⟩ ∧ a3 = some ⟨g', o', none⟩ ∧ SrAt u g (o + j * 7) (a.recs.getD j Sr.none) ∧ SrAt u g' (o' + j * 7) (b.recs.getD j Sr.none)) := fun u j hu hj hj' => by
    obtain ⟨_, _, e, _, _, _, hc⟩ := (H1.out.later HB0.out).later hu
    obtain ⟨_, _, e', _, _, _, hc'⟩ := (K1.out.later HB0.out).later hu
    cases e
    cases e'
    obtain ⟨g, o, e, hc⟩ := hc (by intro e; rw [e] at hj; simp at hj)
    obtain ⟨g', o', e', hc'⟩ := hc' (by intro e; rw [e] at hj'; simp at hj')
    exact ⟨g, o, g', o', e, e', hc j hj, hc' j hj'⟩
  obtain ⟨m0, m1, m2, m3, m4, m5, m6, m7⟩ := HX.out w0 (Below.refl _ _)
  obtain ⟨n0, n1, n2, n3, n4, n5, n6, n7⟩ := HY.out w0 (Below.refl _ _)
  have HHD : Hid (hdEq a b = (!(a.id != b.id) && !(a.op != b.op) && !(a.code != b.code) && !(a.offset != b.offset) && !(a.number != b.number) && !(a.more != b.more) && !((a.names.length : Int) != (b.names.length : Int)) && !((a.recs.length : Int) != (b.recs.length : Int)))) := rfl
  have HIF := mkH (hdEq_iff a b)
  clear H1 H2 K1 K2 q3 q6 q9 q12
  go_enter Tryz.func19, Tryz.ntmps19
  go_upto_region 1 with fail
  go_cut [64] (fun v wx => v = .bool (!hdEq a b) ∧ wx = w0)
  case first =>
    generalize hdEq a b = HD at *
    cases d0 : (a.id != b.id) with
    | true =>
      go_wp2_with fail
      all_goals
        go_meet
        case rel => exact ⟨by rw [HHD.out, d0]; first | rfl | (simp; done) | simp_all, by first | rfl | trivial⟩
    | false =>
      cases d1 : (a.op != b.op) with
      | true =>
        go_wp2_with fail
        all_goals
          go_meet
          case rel => exact ⟨by rw [HHD.out, d0, d1]; first | rfl | (simp; done) | simp_all, by first | rfl | trivial⟩
      | false =>
        cases d2 : (a.code != b.code) with
        | true =>
          go_wp2_with fail
          all_goals
            go_meet
            case rel => exact ⟨by rw [HHD.out, d0, d1, d2]; first | rfl | (simp; done) | simp_all, by first | rfl | trivial⟩
        | false =>
          cases d3 : (a.offset != b.offset) with
          | true =>
            go_wp2_with fail
            all_goals
              go_meet
              case rel => exact ⟨by rw [HHD.out, d0, d1, d2, d3]; first | rfl | (simp; done) | simp_all, by first | rfl | trivial⟩
          | false =>
            cases d4 : (a.number != b.number) with
            | true =>
              go_wp2_with fail
              all_goals
                go_meet
                case rel => exact ⟨by rw [HHD.out, d0, d1, d2, d3, d4]; first | rfl | (simp; done) | simp_all, by first | rfl | trivial⟩
            | false =>
              cases d5 : (a.more != b.more) with
              | true =>
                go_wp2_with fail
                all_goals
                  go_meet
                  case rel => exact ⟨by rw [HHD.out, d0, d1, d2, d3, d4, d5]; first | rfl | (simp; done) | simp_all, by first | rfl | trivial⟩
              | false =>
                cases d6 : ((a.names.length : Int) != (b.names.length : Int)) with
                | true =>
                  go_wp2_with fail
                  all_goals
                    go_meet
                    case rel => exact ⟨by rw [HHD.out, d0, d1, d2, d3, d4, d5, d6]; first | rfl | (simp; done) | simp_all, by first | rfl | trivial⟩
                | false =>
                  cases d7 : ((a.recs.length : Int) != (b.recs.length : Int)) with
                  | true =>
                    go_wp2_with fail
                    all_goals
                      go_meet
                      case rel => exact ⟨by rw [HHD.out, d0, d1, d2, d3, d4, d5, d6, d7]; first | rfl | (simp; done) | simp_all, by first | rfl | trivial⟩
                  | false =>
                    go_wp2_with fail
                    all_goals
                      go_meet
                      case rel => exact ⟨by rw [HHD.out, d0, d1, d2, d3, d4, d5, d6, d7]; first | rfl | simp_all, by first | rfl | trivial⟩
  case rest =>
    obtain ⟨rfl, rfl⟩ := hcut
    clear HHD
    cases hd : hdEq a b with
    | false =>
      have HNE : Hid (¬ a = b) := fun e => by
        rw [(hdEq_iff a b).2 ⟨by rw [e], by rw [e], by rw [e], by rw [e], by rw [e], by rw [e], by rw [e], by rw [e]⟩] at hd
        cases hd
      clear HIF
      go_wp2
      go_ret
      exact ⟨⟨false, rfl, by simp [HNE.out]⟩, HB0.out⟩
    | true =>
      have HEQ := mkH (HIF.out.1 hd)
      clear HIF
      have hnl : a.names.length = b.names.length := HEQ.out.2.2.2.2.2.2.1
      have hrl : a.recs.length = b.recs.length := HEQ.out.2.2.2.2.2.2.2
      have HNL := mkH hnl
      have HRL := mkH hrl
      clear hnl hrl
      go_wp2
      clear m0 m1 m2 m3 m4 m5 m6 m7 n0 n1 n2 n3 n4 n5 n6 n7
      go_loopw [5] (fun i wr => ∃ k : Nat, k ≤ a.names.length ∧ i = .int .i64 k ∧ Hid (∀ j, j < k → a.names.getD j [] = b.names.getD j []) ∧ Hid (Below wc.heap.size wc wr)) (fun i _ => a.names.length - (intOf i).toNat)
      case atStart => exact ⟨0, Nat.zero_le _, rfl, fun j hj => absurd hj (Nat.not_lt_zero _), Below.refl _ _⟩
      case round =>
        obtain ⟨k, hk, rfl, HE, HBW⟩ := hrel
        obtain ⟨m0, m1, m2, m3, m4, m5, m6, m7⟩ := HX.out wr HBW.out
        obtain ⟨n0, n1, n2, n3, n4, n5, n6, n7⟩ := HY.out wr HBW.out
        by_cases hlt : k < a.names.length
        · have hlt2 : k < b.names.length := by rw [← HNL.out]; exact hlt
          obtain ⟨g, o, g', o', rfl, rfl, e1, e2⟩ := HS.out wr k HBW.out hlt hlt2
          have hki : (k : Int) < (a.names.length : Int) := by omega
          have HEX : Hid (a.names.getD k [] = b.names.getD k [] → ∀ j, j < k + 1 → a.names.getD j [] = b.names.getD j []) := fun e j hj => by
            by_cases h : j = k
            · rw [h]; exact e
            · exact HE.out j (by omega)
          have HNX : Hid (a.names.getD k [] ≠ b.names.getD k [] → ¬ a = b) := fun e h => e (by rw [h])
          generalize a.names.getD k [] = x1 at *
          generalize b.names.getD k [] = x2 at *
          cases hx : (x1 == x2) with
          | true =>
            have HE2 := mkH (HEX.out (by simpa using hx))
            clear HEX HNX HE
            go_wp2
            go_quiet (fail)
            go_wp2
            go_roundw
            case rel => exact ⟨k + 1, by omega, by go_num, HE2, drewN_below HBW.out _⟩
            case measure => simp [intOf]; omega
          | false =>
            have HF := mkH (HNX.out (by simpa using hx))
            have HBF : Hid (Below w.heap.size w wr) := below_on HB0.out HBW.out
            clear HEX HNX HE HBW
            go_wp2
            go_quiet (fail)
            go_wp2
            go_ret
            exact ⟨⟨false, rfl, by simp [HF.out]⟩, drewN_below HBF.out _⟩
        · have hki : ¬ (k : Int) < (a.names.length : Int) := by omega
          have HNE : Hid (a.names = b.names) := list_ext_getD HNL.out (d := []) (fun j hj => HE.out j (by have := HNL.out; omega))
          have HB2 : Hid (Below wc.heap.size wc wr) := HBW.out
          go_wp2
          clear HBW HE m0 m1 m2 m3 m4 m5 m6 m7 n0 n1 n2 n3 n4 n5 n6 n7
          go_loopw [6] (fun i wr => ∃ k : Nat, k ≤ a.recs.length ∧ i = .int .i64 k ∧ Hid (∀ j, j < k → a.recs.getD j Sr.none = b.recs.getD j Sr.none) ∧ Hid (Below wc.heap.size wc wr)) (fun i _ => a.recs.length - (intOf i).toNat)
          case atStart => exact ⟨0, Nat.zero_le _, rfl, fun j hj => absurd hj (Nat.not_lt_zero _), HB2⟩
          case round =>
            clear HB2
            obtain ⟨q, hq, rfl, HE, HBW⟩ := hrel
            obtain ⟨m0, m1, m2, m3, m4, m5, m6, m7⟩ := HX.out wr HBW.out
            obtain ⟨n0, n1, n2, n3, n4, n5, n6, n7⟩ := HY.out wr HBW.out
            by_cases hlt2 : q < a.recs.length
            · have hlt3 : q < b.recs.length := by rw [← HRL.out]; exact hlt2
              obtain ⟨g, o, g', o', rfl, rfl, e1, e2⟩ := HR.out wr q HBW.out hlt2 hlt3
              have hqi : (q : Int) < (a.recs.length : Int) := by omega
              have HEX : Hid (a.recs.getD q Sr.none = b.recs.getD q Sr.none → ∀ j, j < q + 1 → a.recs.getD j Sr.none = b.recs.getD j Sr.none) := fun e j hj => by
                by_cases h : j = q
                · rw [h]; exact e
                · exact HE.out j (by omega)
              have HNX : Hid (a.recs.getD q Sr.none ≠ b.recs.getD q Sr.none → ¬ a = b) := fun e h => e (by rw [h])
              generalize a.recs.getD q Sr.none = x1 at *
              generalize b.recs.getD q Sr.none = x2 at *
              have hne := fun u => sr_neq x1 x2 u
              have HIX := mkH (srEq_iff x1 x2)
              generalize srEq x1 x2 = t at *
              obtain ⟨u0, u1, u2, u3, u4, u5, u6⟩ := e1
              obtain ⟨v0, v1, v2, v3, v4, v5, v6⟩ := e2
              cases t with
              | true =>
                have HE2 := mkH (HEX.out (HIX.out.1 rfl))
                clear HEX HNX HE HIX
                go_wp2
                go_quiet (fail)
                go_wp2
                go_roundw
                case rel => exact ⟨q + 1, by omega, by go_num, HE2, drewN_below HBW.out _⟩
                case measure => simp [intOf]; omega
              | false =>
                have HF := mkH (HNX.out (fun e => by have := HIX.out.2 e; cases this))
                have HBF : Hid (Below w.heap.size w wr) := below_on HB0.out HBW.out
                clear HEX HNX HE HBW HIX
                go_wp2
                go_quiet (fail)
                go_wp2
                go_ret
                exact ⟨⟨false, rfl, by simp [HF.out]⟩, drewN_below HBF.out _⟩
            · have hqi : ¬ (q : Int) < (a.recs.length : Int) := by omega
              have HRE : Hid (a.recs = b.recs) := list_ext_getD HRL.out (d := Sr.none) (fun j hj => HE.out j (by have := HRL.out; omega))
              have HAB : Hid (a = b) := by
                obtain ⟨t1, t2, t3, t4, t5, t6, _, _⟩ := HEQ.out
                have t7 := HNE.out
                have t8 := HRE.out
                cases a; cases b
                simp only at t1 t2 t3 t4 t5 t6 t7 t8
                subst t1 t2 t3 t4 t5 t6 t7 t8
                rfl
              have HBF : Hid (Below w.heap.size w wr) := below_on HB0.out HBW.out
              clear HBW HE
              go_wp2
              go_ret
              exact ⟨⟨true, rfl, by simp [HAB.out]⟩, HBF.out⟩
end Go.Proofs.YtlnppgjppfkocaaGreatDoor.Xs
