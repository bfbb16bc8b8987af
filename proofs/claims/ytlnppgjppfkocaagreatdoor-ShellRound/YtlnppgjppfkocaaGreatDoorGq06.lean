import Derived.Test.YtlnppgjppfkocaaGreatDoorGq05
/-! Requests: the document's CheckRequest. -/
namespace Go.Proofs.YtlnppgjppfkocaaGreatDoor.Xs
open Go.RowKit
set_option linter.unusedVariables false
set_option linter.unusedSimpArgs false

abbrev rqV (r : Rq) : Value := .agg #[.int .u32 r.id, .int .i64 r.op, .string (ba r.topic), .string (ba r.key), .string (ba r.value), .int .i64 r.offset, .int .i64 r.number, .int .i64 r.pid, .int .i64 r.seq]
/-- The nine cells of a request, from cell o of block g on. -/
structure RqAt (w : World) (g o : Nat) (r : Rq) : Prop where
  c0 : w.cell? ⟨g, o, none⟩ = some (.int .u32 r.id)
  c1 : w.cell? ⟨g, o + 1, none⟩ = some (.int .i64 r.op)
  c2 : w.cell? ⟨g, o + 2, none⟩ = some (.string (ba r.topic))
  c3 : w.cell? ⟨g, o + 3, none⟩ = some (.string (ba r.key))
  c4 : w.cell? ⟨g, o + 4, none⟩ = some (.string (ba r.value))
  c5 : w.cell? ⟨g, o + 5, none⟩ = some (.int .i64 r.offset)
  c6 : w.cell? ⟨g, o + 6, none⟩ = some (.int .i64 r.number)
  c7 : w.cell? ⟨g, o + 7, none⟩ = some (.int .i64 r.pid)
  c8 : w.cell? ⟨g, o + 8, none⟩ = some (.int .i64 r.seq)
theorem RqAt.later {w w' : World} {g o : Nat} {r : Rq} (h : RqAt w g o r) (hb : Below w.heap.size w w') : RqAt w' g o r :=
  ⟨(hb.cell (cell_lt h.c0)).trans h.c0, (hb.cell (cell_lt h.c1)).trans h.c1, (hb.cell (cell_lt h.c2)).trans h.c2, (hb.cell (cell_lt h.c3)).trans h.c3, (hb.cell (cell_lt h.c4)).trans h.c4, (hb.cell (cell_lt h.c5)).trans h.c5, (hb.cell (cell_lt h.c6)).trans h.c6, (hb.cell (cell_lt h.c7)).trans h.c7, (hb.cell (cell_lt h.c8)).trans h.c8⟩
theorem rqBox (w : World) (r : Rq) (t : TypeId) : Below w.heap.size w (w.alloc (.cells #[.int .u32 r.id, .int .i64 r.op, .string (ba r.topic), .string (ba r.key), .string (ba r.value), .int .i64 r.offset, .int .i64 r.number, .int .i64 r.pid, .int .i64 r.seq] t)) ∧ RqAt (w.alloc (.cells #[.int .u32 r.id, .int .i64 r.op, .string (ba r.topic), .string (ba r.key), .string (ba r.value), .int .i64 r.offset, .int .i64 r.number, .int .i64 r.pid, .int .i64 r.seq] t)) w.heap.size 0 r := by
  refine ⟨(Below.refl _ _).alloc (Nat.le_refl _) _, ?_⟩
  constructor <;> (rw [World.cell?_alloc_at _ _ _ _ rfl]; rfl)

/-- The request's numbers and lengths are within their bounds. -/
def okR1 (r : Rq) : Bool := decide (1 ≤ r.op ∧ r.op ≤ 15) && decide (r.topic.length ≤ 24) && decide (r.key.length ≤ 64) && decide (r.value.length ≤ 1024) && decide (0 ≤ r.offset) && decide (0 ≤ r.number) && decide (0 ≤ r.pid) && decide (0 ≤ r.seq)
def okR2 (r : Rq) : Bool := (r.topic.isEmpty || usesB r.op 84) && (r.key.isEmpty || usesB r.op 75) && (r.value.isEmpty || usesB r.op 86)
def okR3 (r : Rq) : Bool := (decide (r.offset ≤ 0) || usesB r.op 79) && (decide (r.number ≤ 0) || usesB r.op 78) && (decide (r.pid ≤ 0) || usesB r.op 80) && (decide (r.seq ≤ 0) || usesB r.op 83)
theorem emp {l : By} : l.isEmpty = true ↔ l = [] := List.isEmpty_iff
theorem okR_iff (r : Rq) : OkR r ↔ (okR1 r && okR2 r && okR3 r) = true := by
  unfold okR1 okR2 okR3
  simp only [Bool.and_eq_true, Bool.or_eq_true, decide_eq_true_eq, emp]
  constructor
  · rintro ⟨a1, a2, a3, a4, a5, a6, a7, a8, a9, aT, aK, aV, aO, aN, aP, aS⟩
    refine ⟨⟨⟨⟨⟨⟨⟨⟨⟨⟨a1, a2⟩, a3⟩, a4⟩, a5⟩, a6⟩, a7⟩, a8⟩, a9⟩, ⟨⟨aT, aK⟩, aV⟩⟩, ⟨⟨⟨?_, ?_⟩, ?_⟩, ?_⟩⟩
    · exact aO.imp (fun e => by omega) id
    · exact aN.imp (fun e => by omega) id
    · exact aP.imp (fun e => by omega) id
    · exact aS.imp (fun e => by omega) id
  · rintro ⟨⟨⟨⟨⟨⟨⟨⟨⟨⟨a1, a2⟩, a3⟩, a4⟩, a5⟩, a6⟩, a7⟩, a8⟩, a9⟩, ⟨⟨aT, aK⟩, aV⟩⟩, ⟨⟨⟨aO, aN⟩, aP⟩, aS⟩⟩
    exact ⟨a1, a2, a3, a4, a5, a6, a7, a8, a9, aT, aK, aV, aO.imp (fun e => by omega) id, aN.imp (fun e => by omega) id, aP.imp (fun e => by omega) id, aS.imp (fun e => by omega) id⟩
theorem use_len (op : Int) : (useL op).length ≤ 1000 := by
  unfold useL
  split
  · unfold fldL
    repeat (first | decide | split)
  · decide

set_option maxHeartbeats 8000000 in
set_option maxRecDepth 100000 in
theorem vcheckOf (r : Rq) (w : World) (h3 : r.topic.length ≤ 1125899906842624) (h4 : r.key.length ≤ 1125899906842624) (h5 : r.value.length ≤ 1125899906842624) :
    Calls Tryz.prog 48 #[rqV r] w fun e w' => e = .returned (.int .i64 (if (okR1 r && okR2 r && okR3 r) = true then 0 else 161)) ∧ Below w.heap.size w w' := by
  have HU : Hid (∀ u, Calls Tryz.prog 81 #[.int .i64 r.op] u fun e w' => e = .returned (.string (ba (useL r.op))) ∧ w' = u) := vusesOf r.op
  have hx := rqBox w r 24
  obtain ⟨id, op, tp, ky, vl, fo, nu, pi, sq⟩ := r
  simp only at *
  obtain ⟨W1, hW1⟩ : ∃ W1, w.alloc (.cells #[.int .u32 id, .int .i64 op, .string (ba tp), .string (ba ky), .string (ba vl), .int .i64 fo, .int .i64 nu, .int .i64 pi, .int .i64 sq] 24) = W1 := ⟨_, rfl⟩
  rw [hW1] at hx
  obtain ⟨hb1, z0, z1, z2, z3, z4, z5, z6, z7, z8⟩ := hx
  have HB1 : Hid (Below w.heap.size w W1) := hb1
  clear hb1
  have HK1 : Hid (okR1 ⟨id, op, tp, ky, vl, fo, nu, pi, sq⟩ = (decide (1 ≤ op ∧ op ≤ 15) && decide (tp.length ≤ 24) && decide (ky.length ≤ 64) && decide (vl.length ≤ 1024) && decide (0 ≤ fo) && decide (0 ≤ nu) && decide (0 ≤ pi) && decide (0 ≤ sq))) := rfl
  have HK2 : Hid (okR2 ⟨id, op, tp, ky, vl, fo, nu, pi, sq⟩ = ((tp.isEmpty || usesB op 84) && (ky.isEmpty || usesB op 75) && (vl.isEmpty || usesB op 86))) := rfl
  have HK3 : Hid (okR3 ⟨id, op, tp, ky, vl, fo, nu, pi, sq⟩ = ((decide (fo ≤ 0) || usesB op 79) && (decide (nu ≤ 0) || usesB op 78) && (decide (pi ≤ 0) || usesB op 80) && (decide (sq ≤ 0) || usesB op 83))) := rfl
  generalize okR1 ⟨id, op, tp, ky, vl, fo, nu, pi, sq⟩ = K1 at *
  generalize okR2 ⟨id, op, tp, ky, vl, fo, nu, pi, sq⟩ = K2 at *
  generalize okR3 ⟨id, op, tp, ky, vl, fo, nu, pi, sq⟩ = K3 at *
  obtain ⟨A, HA⟩ : ∃ A : Int, Hid (A = if (K1 && K2 && K3) = true then 0 else 161) := ⟨_, rfl⟩
  rw [← HA.out]
  have HUS : Hid (∀ c, 1 ≤ op → op ≤ 15 → (useL op).contains c = usesB op c) := fun c a b => by unfold useL usesB; rw [if_pos ⟨a, b⟩]
  have hul := use_len op
  have HUE : Hid (useL op = [63] ↔ ¬ (1 ≤ op ∧ op ≤ 15)) := by
    unfold Hid useL
    by_cases h : 1 ≤ op ∧ op ≤ 15
    · rw [if_pos h]
      refine ⟨fun e => absurd e ?_, fun e => absurd h e⟩
      unfold fldL
      repeat (first | decide | split)
    · rw [if_neg h]; exact ⟨fun _ => h, fun _ => rfl⟩
  generalize useL op = U at *
  have l1 : (ba U).size = U.length := rfl
  have l2 : (ba tp).size = tp.length := rfl
  have l3 : (ba ky).size = ky.length := rfl
  have l4 : (ba vl).size = vl.length := rfl
  go_enter Tryz.func48, Tryz.ntmps48
  go_wp2_with fail
  refine (HU.out _).mono ?_
  rintro e w1 ⟨rfl, rfl⟩
  generalize rqV ⟨id, op, tp, ky, vl, fo, nu, pi, sq⟩ = V0 at *
  by_cases hop : 1 ≤ op ∧ op ≤ 15
  · have hU' : (U == [63]) = false := by
      rw [beq_eq_false_iff_ne]
      exact fun e => (HUE.out.1 e) hop
    obtain ⟨ho1, ho2⟩ := hop
    have HO1 : Hid (K1 = (decide (tp.length ≤ 24) && decide (ky.length ≤ 64) && decide (vl.length ≤ 1024) && decide (0 ≤ fo) && decide (0 ≤ nu) && decide (0 ≤ pi) && decide (0 ≤ sq))) := by
      unfold Hid
      rw [HK1.out]
      simp only [ho1, ho2, and_self, decide_true, Bool.true_and]
    go_upto_region 2 with fail
    go_cut [46] (fun v wx => v = .bool (!K1) ∧ wx = w1)
    case first =>
      go_wp2_with fail
      all_goals
        go_meet
        case rel =>
          refine ⟨congrArg Value.bool ?_, by first | rfl | trivial⟩
          rw [HO1.out, Bool.eq_iff_iff]
          simp <;> omega
    case rest =>
      obtain ⟨rfl, rfl⟩ := hcut
      cases K1 with
      | false =>
        go_wp2
        go_ret
        exact ⟨by rw [HA.out]; rfl, HB1.out⟩
      | true =>
        have cH : ∀ c : UInt8, Calls Tryz.prog 82 #[.string (ba U), .int .u8 (c.toNat : Int)] wc fun e w' => e = .returned (.bool (usesB op c)) ∧ w' = wc := fun c => by
          have := vhasOf U hul c wc
          rwa [HUS.out c ho1 ho2] at this
        have cT : Hid (Calls Tryz.prog 82 #[.string (ba U), .int .u8 84] wc fun e w' => e = .returned (.bool (usesB op 84)) ∧ wc = w') := (cH 84).mono fun e w' h => ⟨h.1, h.2.symm⟩
        have cK : Hid (Calls Tryz.prog 82 #[.string (ba U), .int .u8 75] wc fun e w' => e = .returned (.bool (usesB op 75)) ∧ wc = w') := (cH 75).mono fun e w' h => ⟨h.1, h.2.symm⟩
        have cV : Hid (Calls Tryz.prog 82 #[.string (ba U), .int .u8 86] wc fun e w' => e = .returned (.bool (usesB op 86)) ∧ wc = w') := (cH 86).mono fun e w' h => ⟨h.1, h.2.symm⟩
        have cO : Hid (Calls Tryz.prog 82 #[.string (ba U), .int .u8 79] wc fun e w' => e = .returned (.bool (usesB op 79)) ∧ wc = w') := (cH 79).mono fun e w' h => ⟨h.1, h.2.symm⟩
        have cN : Hid (Calls Tryz.prog 82 #[.string (ba U), .int .u8 78] wc fun e w' => e = .returned (.bool (usesB op 78)) ∧ wc = w') := (cH 78).mono fun e w' h => ⟨h.1, h.2.symm⟩
        have cP : Hid (Calls Tryz.prog 82 #[.string (ba U), .int .u8 80] wc fun e w' => e = .returned (.bool (usesB op 80)) ∧ wc = w') := (cH 80).mono fun e w' h => ⟨h.1, h.2.symm⟩
        have cS : Hid (Calls Tryz.prog 82 #[.string (ba U), .int .u8 83] wc fun e w' => e = .returned (.bool (usesB op 83)) ∧ wc = w') := (cH 83).mono fun e w' h => ⟨h.1, h.2.symm⟩
        generalize usesB op 84 = uT at *
        generalize usesB op 75 = uK at *
        generalize usesB op 86 = uV at *
        generalize usesB op 79 = uO at *
        generalize usesB op 78 = uN at *
        generalize usesB op 80 = uP at *
        generalize usesB op 83 = uS at *
        clear cH HK1 HO1
        go_upto_region 4 with fail
        go_cut [74] (fun v wx => v = .bool (!K2) ∧ wc = wx)
        case first =>
          go_wp2_with (first
            | (go_at_call_of 82 (Value.int .u8 84); refine cT.out.mono ?_; rintro e w9 ⟨rfl, rfl⟩)
            | (go_at_call_of 82 (Value.int .u8 75); refine cK.out.mono ?_; rintro e w9 ⟨rfl, rfl⟩)
            | (go_at_call_of 82 (Value.int .u8 86); refine cV.out.mono ?_; rintro e w9 ⟨rfl, rfl⟩))
          all_goals
            go_meet
            case rel =>
              refine ⟨congrArg Value.bool ?_, by first | rfl | trivial⟩
              rw [HK2.out]
              simp_all
        case rest =>
          obtain ⟨rfl, rfl⟩ := hcut
          cases K2 with
          | false =>
            go_wp2
            go_ret
            exact ⟨by rw [HA.out]; rfl, HB1.out⟩
          | true =>
            clear cT cK cV HK2
            go_upto_region 6 with fail
            go_cut [112] (fun v wx => v = .bool (!K3) ∧ wc = wx)
            case first =>
              go_wp2_with (first
                | (go_at_call_of 82 (Value.int .u8 79); refine cO.out.mono ?_; rintro e w9 ⟨rfl, rfl⟩)
                | (go_at_call_of 82 (Value.int .u8 78); refine cN.out.mono ?_; rintro e w9 ⟨rfl, rfl⟩)
                | (go_at_call_of 82 (Value.int .u8 80); refine cP.out.mono ?_; rintro e w9 ⟨rfl, rfl⟩)
                | (go_at_call_of 82 (Value.int .u8 83); refine cS.out.mono ?_; rintro e w9 ⟨rfl, rfl⟩))
              all_goals
                go_meet
                case rel =>
                  refine ⟨congrArg Value.bool ?_, by first | rfl | trivial⟩
                  rw [HK3.out]
                  simp_all
            case rest =>
              obtain ⟨rfl, rfl⟩ := hcut
              cases K3 with
              | false =>
                go_wp2
                go_ret
                exact ⟨by rw [HA.out]; rfl, HB1.out⟩
              | true =>
                go_wp2
                go_ret
                exact ⟨by rw [HA.out]; rfl, HB1.out⟩
  · have hU' : (U == [63]) = true := by rw [beq_iff_eq]; exact HUE.out.2 hop
    have HO1 : Hid (K1 = false) := by
      unfold Hid
      rw [HK1.out]
      simp only [hop, decide_false, Bool.false_and]
    go_wp2
    go_ret
    refine ⟨?_, HB1.out⟩
    rw [HA.out, HO1.out]
    rfl
end Go.Proofs.YtlnppgjppfkocaaGreatDoor.Xs
