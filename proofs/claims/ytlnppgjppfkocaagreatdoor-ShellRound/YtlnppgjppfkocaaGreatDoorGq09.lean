import Derived.Test.YtlnppgjppfkocaaGreatDoorGq08
/-! Commands: the document's right. -/
namespace Go.Proofs.YtlnppgjppfkocaaGreatDoor.Xs
open Go.RowKit
set_option linter.unusedVariables false
set_option linter.unusedSimpArgs false

set_option maxHeartbeats 8000000 in
set_option maxRecDepth 100000 in
theorem rrightOf (c : Cm) (ar ap : Option Addr) (cr cp : Nat) (w : World) (h3 : c.req.topic.length ≤ 1125899906842624) (h4 : c.req.key.length ≤ 1125899906842624) (h5 : c.req.value.length ≤ 1125899906842624) (h6 : c.raw.length ≤ 140737488352000) (h7 : c.picks.length ≤ 17592186044000) :
    Calls Tryz.prog 28 #[cmV c (.slice ar c.raw.length cr) (.slice ap c.picks.length cp)] w fun e w' => e = .returned (.bool (okC1 c && okC2 c && okC3 c && okC4 c)) ∧ Below w.heap.size w w' := by
  have HV : Hid (∀ u, Calls Tryz.prog 29 #[.int .i64 c.verb] u fun e w' => e = .returned (.string (ba (verbT c.verb))) ∧ Below u.heap.size u w') := rverbWordOf c.verb
  have HVE : Hid ((verbT c.verb).isEmpty = !decide (0 ≤ c.verb ∧ c.verb < 11)) := by
    unfold Hid
    by_cases h : 0 ≤ c.verb ∧ c.verb < 11
    · rw [decide_eq_true h, Bool.not_true, List.isEmpty_eq_false_iff]
      exact verb_nonempty h.1 h.2
    · rw [decide_eq_false h]
      unfold verbT
      rw [if_neg h]; rfl
  have HCR : Hid (∀ u, Calls Tryz.prog 48 #[rqV c.req] u fun e w' => e = .returned (.int .i64 (if (okR1 c.req && okR2 c.req && okR3 c.req) = true then 0 else 161)) ∧ Below u.heap.size u w') := fun u => vcheckOf c.req u h3 h4 h5
  have HNE : Hid (∀ u, (binOp .neq 24 (rqV c.req) (rqV Rq.zero)).run Tryz.prog u = .ok (.bool (!rqEq c.req Rq.zero)) u) := fun u => rq_neq c.req Rq.zero u
  have HK1 : Hid (okC1 c = (decide (0 ≤ c.verb ∧ c.verb < 11) && decide (0 ≤ c.conn) && decide (c.conn ≤ 999))) := rfl
  have HK2 : Hid (okC2 c = ((decide (c.conn ≤ 0) || cnB c.verb) && (c.raw.isEmpty || (c.verb == 3)) && (c.picks.isEmpty || pkB c.verb))) := rfl
  have HK3 : Hid (okC3 c = if c.verb = 2 then (okR1 c.req && okR2 c.req && okR3 c.req) else rqEq c.req Rq.zero) := rfl
  have HK4 : Hid (okC4 c = if c.verb = 4 then decide (0 ≤ c.n ∧ c.n ≤ 1125899906842624) else if c.verb = 6 then decide (0 ≤ c.n ∧ c.n ≤ 1073741824) else if c.verb = 7 then decide (-1 ≤ c.n ∧ c.n ≤ 1073741824) else (c.n == 0)) := rfl
  generalize okC1 c = K1 at *
  generalize okC2 c = K2 at *
  generalize okC3 c = K3 at *
  generalize okC4 c = K4 at *
  generalize (okR1 c.req && okR2 c.req && okR3 c.req) = KR at *
  generalize rqEq c.req Rq.zero = KZ at *
  have HRE : Hid (c.raw.isEmpty = decide (c.raw.length ≤ 0)) := by unfold Hid; cases c.raw <;> simp
  have HPE : Hid (c.picks.isEmpty = decide (c.picks.length ≤ 0)) := by unfold Hid; cases c.picks <;> simp
  have hx := cmBox w c (.slice ar c.raw.length cr) (.slice ap c.picks.length cp) 28
  obtain ⟨vb, cn, ⟨id, op, tp, ky, vl, fo, nu, pi, sq⟩, rw', n, pk⟩ := c
  simp only at *
  rw [HRE.out, HPE.out] at HK2
  generalize rw'.length = rl at *
  generalize pk.length = pl at *
  generalize verbT vb = V at *
  obtain ⟨W1, hW1⟩ : ∃ W1, w.alloc (.cells #[.int .i64 vb, .int .i64 cn, .int .u32 id, .int .i64 op, .string (ba tp), .string (ba ky), .string (ba vl), .int .i64 fo, .int .i64 nu, .int .i64 pi, .int .i64 sq, .slice ar rl cr, .int .i64 n, .slice ap pl cp] 28) = W1 := ⟨_, rfl⟩
  rw [hW1] at hx
  obtain ⟨hb1, hcells⟩ := hx
  have HB1 : Hid (Below w.heap.size w W1) := hb1
  have HX : Hid (∀ u, Below W1.heap.size W1 u → CmAt u w.heap.size ⟨vb, cn, ⟨id, op, tp, ky, vl, fo, nu, pi, sq⟩, rw', n, pk⟩ (.slice ar rl cr) (.slice ap pl cp)) := fun u hu => hcells.later hu
  obtain ⟨z0, z1, z2, z3, z4, z5, z6, z7, z8, z9, z10, z11, z12, z13⟩ := hcells
  simp only at z0 z1 z2 z3 z4 z5 z6 z7 z8 z9 z10 z11 z12 z13
  clear hb1 HRE HPE
  go_enter Tryz.func28, Tryz.ntmps28
  go_upto_region 1 with fail
  generalize cmV ⟨vb, cn, ⟨id, op, tp, ky, vl, fo, nu, pi, sq⟩, rw', n, pk⟩ (.slice ar rl cr) (.slice ap pl cp) = V0 at *
  go_cut [18] (fun v wx => v = .bool (!K1) ∧ Hid (Below W1.heap.size W1 wx))
  case first =>
    go_wp2_with fail
    refine (HV.out _).mono ?_
    rintro e w1 ⟨rfl, hb⟩
    have HB2 : Hid (Below W1.heap.size W1 w1) := hb
    clear z0 z1 z2 z3 z4 z5 z6 z7 z8 z9 z10 z11 z12 z13
    obtain ⟨z0, z1, z2, z3, z4, z5, z6, z7, z8, z9, z10, z11, z12, z13⟩ := HX.out _ hb
    simp only at z0 z1 z2 z3 z4 z5 z6 z7 z8 z9 z10 z11 z12 z13
    clear hb
    cases hve : V.isEmpty with
    | true =>
      go_wp2_with fail
      go_meet
      case rel =>
        refine ⟨congrArg Value.bool ?_, HB2⟩
        have := HVE.out
        rw [hve] at this
        have h0 : decide (0 ≤ vb ∧ vb < 11) = false := by
          cases h : decide (0 ≤ vb ∧ vb < 11) with
          | false => rfl
          | true => rw [h] at this; cases this
        rw [HK1.out, h0]
        rfl
    | false =>
      have hd : decide (0 ≤ vb ∧ vb < 11) = true := by have := HVE.out; rw [hve] at this; simpa using this
      go_wp2_with fail
      all_goals
        go_meet
        case rel =>
          refine ⟨congrArg Value.bool ?_, HB2⟩
          rw [HK1.out, hd, Bool.eq_iff_iff]
          simp <;> omega
  case rest =>
    obtain ⟨rfl, HB2⟩ := hcut
    clear z0 z1 z2 z3 z4 z5 z6 z7 z8 z9 z10 z11 z12 z13 HV HVE
    obtain ⟨z0, z1, z2, z3, z4, z5, z6, z7, z8, z9, z10, z11, z12, z13⟩ := HX.out _ HB2.out
    simp only at z0 z1 z2 z3 z4 z5 z6 z7 z8 z9 z10 z11 z12 z13
    have HBE : Hid (Below w.heap.size w wc) := below_on HB1.out HB2.out
    cases K1 with
    | false =>
      go_wp2
      go_ret
      exact ⟨rfl, HBE.out⟩
    | true =>
      clear HK1
      go_upto_region 3 with fail
      go_cut [3] (fun v wx => v = .bool (cnB vb) ∧ wc = wx)
      case first =>
        have HCN : Hid (cnB vb = ((vb == 0) || (vb == 1) || (vb == 2) || (vb == 3) || (vb == 6))) := rfl
        go_wp2_with fail
        all_goals
          go_meet
          case rel =>
            refine ⟨congrArg Value.bool ?_, by first | rfl | trivial⟩
            rw [HCN.out]
            try simp_all
      case rest =>
      obtain ⟨rfl, rfl⟩ := hcut
      generalize cnB vb = CN at *
      go_upto_region 4 with fail
      go_cut [4] (fun v wx => v = .bool (pkB vb) ∧ wc = wx)
      case first =>
        have HCN : Hid (pkB vb = ((vb == 5) || (vb == 8))) := rfl
        go_wp2_with fail
        all_goals
          go_meet
          case rel =>
            refine ⟨congrArg Value.bool ?_, by first | rfl | trivial⟩
            rw [HCN.out]
            try simp_all
      case rest =>
      obtain ⟨rfl, rfl⟩ := hcut
      generalize pkB vb = PK at *
      go_upto_region 5 with fail
      go_cut [77] (fun v wx => v = .bool (!K2) ∧ wc = wx)
      case first =>
        cases CN <;> cases PK
        all_goals
          go_wp2_with fail
        all_goals
          go_meet
          case rel =>
            refine ⟨congrArg Value.bool ?_, by first | rfl | trivial⟩
            rw [HK2.out, Bool.eq_iff_iff]
            simp <;> omega
      case rest =>
      obtain ⟨rfl, rfl⟩ := hcut
      cases K2 with
      | false =>
        go_wp2
        go_ret
        exact ⟨rfl, HBE.out⟩
      | true =>
        clear HK2
        go_upto_region 7 with fail
        go_cut [80] (fun v wx => v = .bool (vb == 2) ∧ wc = wx)
        case first =>
          go_wp2_with fail
          all_goals
            go_meet
            case rel => exact ⟨rfl, by first | rfl | trivial⟩
        case rest =>
        obtain ⟨rfl, rfl⟩ := hcut
        by_cases h2 : vb = 2
        · have h2' : (vb == 2) = true := by simpa using h2
          have n4 : (vb == 4) = false := by rw [h2]; rfl
          have n6 : (vb == 6) = false := by rw [h2]; rfl
          have n7 : (vb == 7) = false := by rw [h2]; rfl
          have HS3 : Hid (K3 = KR) := by unfold Hid; rw [HK3.out, if_pos h2]
          have HS4 : Hid (K4 = (n == 0)) := by unfold Hid; rw [HK4.out, if_neg (by omega), if_neg (by omega), if_neg (by omega)]
          clear h2 HK3 HK4 HNE
          go_wp2_with fail
          refine (HCR.out _).mono ?_
          rintro e w5 ⟨rfl, hb⟩
          have HB5 : Hid (Below W1.heap.size W1 w5) := below_on HB2.out hb
          clear z0 z1 z2 z3 z4 z5 z6 z7 z8 z9 z10 z11 z12 z13 hb HCR
          obtain ⟨z0, z1, z2, z3, z4, z5, z6, z7, z8, z9, z10, z11, z12, z13⟩ := HX.out _ HB5.out
          simp only at z0 z1 z2 z3 z4 z5 z6 z7 z8 z9 z10 z11 z12 z13
          have HBF : Hid (Below w.heap.size w w5) := below_on HB1.out HB5.out
          cases KR with
          | false =>
            rw [if_neg (by simp)]
            go_wp2
            go_ret
            exact ⟨by rw [HS3.out]; rfl, HBF.out⟩
          | true =>
            rw [if_pos rfl]
            go_wp2
            go_ret
            exact ⟨by rw [HS3.out, HS4.out]; simp, HBF.out⟩
        · have h2' : (vb == 2) = false := by simpa using h2
          have HS3 : Hid (K3 = KZ) := by unfold Hid; rw [HK3.out, if_neg h2]
          have hne := HNE.out
          simp only [rqV, Rq.zero] at hne
          clear HK3 HCR HNE
          cases KZ with
          | false =>
            go_wp2
            go_ret
            exact ⟨by rw [HS3.out]; rfl, HBE.out⟩
          | true =>
            by_cases h4 : vb = 4
            · have n4 : (vb == 4) = true := by simpa using h4
              have HS4 : Hid (K4 = decide (0 ≤ n ∧ n ≤ 1125899906842624)) := by unfold Hid; rw [HK4.out, if_pos h4]
              clear h4 HK4
              go_wp2
              all_goals
                go_ret
                refine ⟨?_, HBE.out⟩
                rw [HS3.out, HS4.out]
                refine congrArg (fun b => Ending.returned (Value.bool b)) ?_
                rw [Bool.eq_iff_iff]
                simp <;> omega
            · have n4 : (vb == 4) = false := by simpa using h4
              by_cases h6 : vb = 6
              · have n6 : (vb == 6) = true := by simpa using h6
                have HS4 : Hid (K4 = decide (0 ≤ n ∧ n ≤ 1073741824)) := by unfold Hid; rw [HK4.out, if_neg h4, if_pos h6]
                clear h4 h6 HK4
                go_wp2
                all_goals
                  go_ret
                  refine ⟨?_, HBE.out⟩
                  rw [HS3.out, HS4.out]
                  refine congrArg (fun b => Ending.returned (Value.bool b)) ?_
                  rw [Bool.eq_iff_iff]
                  simp <;> omega
              · have n6 : (vb == 6) = false := by simpa using h6
                by_cases h7 : vb = 7
                · have n7 : (vb == 7) = true := by simpa using h7
                  have HS4 : Hid (K4 = decide (-1 ≤ n ∧ n ≤ 1073741824)) := by unfold Hid; rw [HK4.out, if_neg h4, if_neg h6, if_pos h7]
                  clear h4 h6 h7 HK4
                  go_wp2
                  all_goals
                    go_ret
                    refine ⟨?_, HBE.out⟩
                    rw [HS3.out, HS4.out]
                    refine congrArg (fun b => Ending.returned (Value.bool b)) ?_
                    rw [Bool.eq_iff_iff]
                    simp <;> omega
                · have n7 : (vb == 7) = false := by simpa using h7
                  have HS4 : Hid (K4 = (n == 0)) := by unfold Hid; rw [HK4.out, if_neg h4, if_neg h6, if_neg h7]
                  clear h4 h6 h7 HK4
                  go_wp2
                  all_goals
                    go_ret
                    refine ⟨?_, HBE.out⟩
                    rw [HS3.out, HS4.out]
                    refine congrArg (fun b => Ending.returned (Value.bool b)) ?_
                    simp
end Go.Proofs.YtlnppgjppfkocaaGreatDoor.Xs
