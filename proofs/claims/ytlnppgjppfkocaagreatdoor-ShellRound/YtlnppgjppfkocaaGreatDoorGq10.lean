import Derived.Test.YtlnppgjppfkocaaGreatDoorGq09
import Derived.Deep.CutBlock
/-! Commands: a line as Print lays it. -/
namespace Go.Proofs.YtlnppgjppfkocaaGreatDoor.Xs
open Go.RowKit
set_option linter.unusedVariables false
set_option linter.unusedSimpArgs false

def midA (c : Cm) : List By :=
  if c.verb = 0 ∨ c.verb = 1 ∨ c.verb = 6 then [Lib.itoa c.conn]
  else if c.verb = 2 then Lib.itoa c.conn :: Lib.itoa c.req.id :: opT c.req.op :: (fldL c.req.op).map (fldT c.req)
  else if c.verb = 3 then [Lib.itoa c.conn, rawT c.raw]
  else []
def nA (c : Cm) : List By := if c.verb = 4 ∨ c.verb = 6 ∨ c.verb = 7 then [Lib.itoa c.n] else []
theorem args_parts {c : Cm} (h : OkC c) : argsL c = midA c ++ (nA c ++ c.picks.map Lib.itoa) := by
  have hp : ¬ usesPicks c.verb → c.picks = [] := fun k => h.picks.resolve_right k
  have h1 := h.v1
  have h2 := h.v2
  unfold usesPicks at hp
  unfold argsL midA nA
  have hcases : c.verb = 0 ∨ c.verb = 1 ∨ c.verb = 2 ∨ c.verb = 3 ∨ c.verb = 4 ∨ c.verb = 5 ∨ c.verb = 6 ∨ c.verb = 7 ∨ c.verb = 8 ∨ c.verb = 9 ∨ c.verb = 10 := by omega
  rcases hcases with e | e | e | e | e | e | e | e | e | e | e
  · rw [hp (by omega)]; simp [e]
  · rw [hp (by omega)]; simp [e]
  · rw [hp (by omega)]; simp [e]
  · rw [hp (by omega)]; simp [e]
  · rw [hp (by omega)]; simp [e]
  · simp [e]
  · rw [hp (by omega)]; simp [e]
  · rw [hp (by omega)]; simp [e]
  · simp [e]
  · rw [hp (by omega)]; simp [e]
  · rw [hp (by omega)]; simp [e]
theorem line_parts {c : Cm} (h : OkC c) : lineL c = verbT c.verb ++ sp (midA c) ++ sp (nA c) ++ sp (c.picks.map Lib.itoa) := by
  unfold lineL
  rw [join_sp, args_parts h, sp_app, sp_app]
  simp
theorem sp_len : ∀ (l : List By), l.length ≤ (sp l).length
  | [] => Nat.zero_le _
  | x :: l => by
    have := sp_len l
    show l.length + 1 ≤ (32 :: x ++ sp l).length
    rw [List.length_append, List.length_cons]; omega
theorem sp_mem : ∀ (l : List By) (x : By), x ∈ l → x.length ≤ (sp l).length
  | y :: l, x, h => by
    show x.length ≤ (32 :: y ++ sp l).length
    rw [List.length_append, List.length_cons]
    rcases List.mem_cons.1 h with e | e
    · rw [e]; omega
    · have := sp_mem l x e; omega
theorem raw_len (l : By) : l.length ≤ (rawT l).length := by
  unfold rawT
  split
  case isTrue h => rw [h]; simp
  case isFalse h => rw [hxs_len]; omega
theorem raw_len2 (l : By) : (rawT l).length ≤ 2 * l.length + 1 := by
  unfold rawT
  split
  case isTrue h => simp
  case isFalse h => rw [hxs_len]; omega
/-- A line is no shorter than its bytes, and than its picks. -/
theorem line_raw {c : Cm} (h : OkC c) : c.raw.length ≤ (lineL c).length ∧ c.picks.length ≤ (lineL c).length := by
  rw [line_parts h]
  simp only [List.length_append]
  constructor
  · rcases h.raw with e | e
    · rw [e]; simp
    · have hm : midA c = [Lib.itoa c.conn, rawT c.raw] := by unfold midA; simp [e]
      have h1 := sp_mem (midA c) (rawT c.raw) (by rw [hm]; simp)
      have h2 := raw_len c.raw
      omega
  · have := sp_len (c.picks.map Lib.itoa)
    rw [List.length_map] at this
    omega
theorem picks_snoc {l : List Int} {k : Nat} (h : k < l.length) : sp ((l.take (k + 1)).map Lib.itoa) = sp ((l.take k).map Lib.itoa) ++ (32 :: Lib.itoa (l.getD k 0)) := by
  rw [getD_snoc 0 h, List.map_append, sp_app]
  simp [sp]
theorem raw_snoc {l : By} {k : Nat} (h : k < l.length) : (l.take (k + 1)).flatMap hxB = (l.take k).flatMap hxB ++ hxB (l.getD k 0) := by
  rw [take_at h, List.flatMap_append]; simp
/-- No command but a right one has a line. -/
theorem pri_none {c : Cm} (h : ¬ (OkC c ∧ (lineL c).length ≤ 4096)) : PriA c [] 230 :=
  .inr ⟨fun k hk => h ⟨hk.1, by rw [hk.2.1]; exact hk.2.2⟩, rfl, rfl⟩
theorem pri_some {c : Cm} (h : OkC c) (k : (lineL c).length ≤ 4096) : PriA c (lineL c) 0 := .inl ⟨⟨h, rfl, k⟩, rfl⟩

theorem sp_most {M : Nat} : ∀ (l : List By), (∀ x ∈ l, x.length ≤ M) → (sp l).length ≤ l.length * (M + 1)
  | [], _ => Nat.zero_le _
  | x :: l, h => by
    have h1 := h x (by simp)
    have h2 := sp_most l (fun y hy => h y (by simp [hy]))
    show (32 :: x ++ sp l).length ≤ (l.length + 1) * (M + 1)
    rw [List.length_append, List.length_cons, Nat.add_mul, Nat.one_mul]; omega
theorem fld_most {r : Rq} (hw : WfR r) (h3 : r.topic.length ≤ 1125899906842624) (h4 : r.key.length ≤ 1125899906842624) (h5 : r.value.length ≤ 1125899906842624) (u : UInt8) : (fldT r u).length ≤ 9007199254740992 := by
  have t1 := txt_len r.topic
  have t2 := txt_len r.key
  have t3 := txt_len r.value
  have i1 := itoa_len hw.offset.1 hw.offset.2
  have i2 := itoa_len hw.number.1 hw.number.2
  have i3 := itoa_len hw.pid.1 hw.pid.2
  have i4 := itoa_len hw.seq.1 hw.seq.2
  unfold fldT
  split
  · omega
  · split
    · omega
    · split
      · omega
      · split
        · omega
        · split
          · omega
          · split
            · omega
            · split
              · omega
              · simp
theorem req_most {r : Rq} (hw : WfR r) (h3 : r.topic.length ≤ 1125899906842624) (h4 : r.key.length ≤ 1125899906842624) (h5 : r.value.length ≤ 1125899906842624) : (sp (opT r.op :: (fldL r.op).map (fldT r))).length ≤ 60000000000000000 := by
  have h := sp_most (M := 9007199254740992) (opT r.op :: (fldL r.op).map (fldT r)) (fun x hx => by
    rcases List.mem_cons.1 hx with e | hx
    · rw [e]; have := op_len r.op hw.op; omega
    · obtain ⟨u, _, e⟩ := List.mem_map.1 hx
      rw [← e]; exact fld_most hw h3 h4 h5 u)
  have h2 := fld_len r.op
  rw [List.length_cons, List.length_map] at h
  have : ((fldL r.op).length + 1) * (9007199254740992 + 1) ≤ 6 * (9007199254740992 + 1) := Nat.mul_le_mul_right _ (by omega)
  omega
/-- Texts of a command's request that the machine can hold. -/
structure SzC (c : Cm) : Prop where
  topic : c.req.topic.length ≤ 1125899906842624
  key : c.req.key.length ≤ 1125899906842624
  value : c.req.value.length ≤ 1125899906842624

set_option maxHeartbeats 8000000 in
set_option maxRecDepth 100000 in
theorem rprintOf (c : Cm) (vr vp : Value) (w : World) (hr : BysAt w vr c.raw) (hp : PksAt w vp c.picks) (hw : WfC c) (hz : SzC c) :
    Calls Tryz.prog 14 #[cmV c vr vp] w fun e w' => (∃ l z, e = .returned (.tuple #[.string (ba l), .int .i64 z]) ∧ PriA c l z) ∧ Below w.heap.size w w' := by
  obtain ⟨ar, cr, rfl, r1, r2, r3⟩ := hr
  obtain ⟨ap, cp, rfl, p1, p2, p3⟩ := hp
  have HRI : Hid (∀ u, Calls Tryz.prog 28 #[cmV c (.slice ar c.raw.length cr) (.slice ap c.picks.length cp)] u fun e w' => e = .returned (.bool (okC1 c && okC2 c && okC3 c && okC4 c)) ∧ Below u.heap.size u w') := fun u => rrightOf c ar ap cr cp u hz.topic hz.key hz.value r2 p2
  have HOK := mkH (okC_iff c)
  generalize (okC1 c && okC2 c && okC3 c && okC4 c) = K at *
  have hx := cmBox w c (.slice ar c.raw.length cr) (.slice ap c.picks.length cp) 28
  obtain ⟨W1, hW1⟩ : ∃ W1, w.alloc (.cells #[.int .i64 c.verb, .int .i64 c.conn, .int .u32 c.req.id, .int .i64 c.req.op, .string (ba c.req.topic), .string (ba c.req.key), .string (ba c.req.value), .int .i64 c.req.offset, .int .i64 c.req.number, .int .i64 c.req.pid, .int .i64 c.req.seq, .slice ar c.raw.length cr, .int .i64 c.n, .slice ap c.picks.length cp] 28) = W1 := ⟨_, rfl⟩
  rw [hW1] at hx
  obtain ⟨hb1, hcells⟩ := hx
  have HB1 : Hid (Below w.heap.size w W1) := hb1
  have HX : Hid (∀ u, Below W1.heap.size W1 u → CmAt u w.heap.size c (.slice ar c.raw.length cr) (.slice ap c.picks.length cp)) := fun u hu => hcells.later hu
  obtain ⟨z0, z1, z2, z3, z4, z5, z6, z7, z8, z9, z10, z11, z12, z13⟩ := hcells
  clear hb1
  go_enter Tryz.func14, Tryz.ntmps14
  go_wp2_with fail
  refine (HRI.out _).mono ?_
  rintro e w1 ⟨rfl, hb⟩
  generalize cmV c (.slice ar c.raw.length cr) (.slice ap c.picks.length cp) = V0 at *
  have HB2 : Hid (Below W1.heap.size W1 w1) := hb
  clear z0 z1 z2 z3 z4 z5 z6 z7 z8 z9 z10 z11 z12 z13 hb HRI
  obtain ⟨z0, z1, z2, z3, z4, z5, z6, z7, z8, z9, z10, z11, z12, z13⟩ := HX.out _ HB2.out
  have HBE : Hid (Below w.heap.size w w1) := below_on HB1.out HB2.out
  cases K with
  | false =>
    have HNo : Hid (PriA c [] 230) := pri_none fun h => absurd (HOK.out.1 h.1) (by simp)
    go_wp2
    go_ret2
    exact ⟨⟨[], 230, rfl, HNo.out⟩, HBE.out⟩
  | true =>
    have HC : Hid (OkC c) := HOK.out.2 rfl
    by_cases hr4 : 4096 < c.raw.length
    · have HNo : Hid (PriA c [] 230) := pri_none fun h => by have := (line_raw HC.out).1; omega
      go_wp2
      go_ret2
      exact ⟨⟨[], 230, rfl, HNo.out⟩, HBE.out⟩
    · by_cases hp4 : 4096 < c.picks.length
      · have HNo : Hid (PriA c [] 230) := pri_none fun h => by have := (line_raw HC.out).2; omega
        go_wp2
        go_ret2
        exact ⟨⟨[], 230, rfl, HNo.out⟩, HBE.out⟩
      · have HLP := mkH (line_parts HC.out)
        have HPS : Hid ((lineL c).length ≤ 4096 → PriA c (lineL c) 0) := fun h => pri_some HC.out h
        have HPN : Hid (¬ (lineL c).length ≤ 4096 → PriA c [] 230) := fun h => pri_none fun k => h k.2
        have HVW : Hid (∀ u, Calls Tryz.prog 29 #[.int .i64 c.verb] u fun e w' => e = .returned (.string (ba (verbT c.verb))) ∧ Below u.heap.size u w') := rverbWordOf c.verb
        have HNC : Hid (∀ u, Calls Tryz.prog 30 #[.int .i64 c.conn] u fun e w' => e = .returned (.string (ba (Lib.itoa c.conn))) ∧ Below u.heap.size u w') := rnumberOf c.conn hw.conn.1 hw.conn.2
        have HNN : Hid (∀ u, Calls Tryz.prog 30 #[.int .i64 c.n] u fun e w' => e = .returned (.string (ba (Lib.itoa c.n))) ∧ Below u.heap.size u w') := rnumberOf c.n hw.n.1 hw.n.2
        have HNI : Hid (∀ u, Calls Tryz.prog 30 #[.int .i64 c.req.id] u fun e w' => e = .returned (.string (ba (Lib.itoa c.req.id))) ∧ Below u.heap.size u w') := rnumberOf c.req.id (by have := hw.req.id1; omega) (by have := hw.req.id2; omega)
        have HNQ : Hid (∀ u, Calls Tryz.prog 31 #[rqV c.req] u fun e w' => e = .returned (.string (ba (sp (opT c.req.op :: (fldL c.req.op).map (fldT c.req))))) ∧ Below u.heap.size u w') := fun u => rrequestOf c.req u hw.req hz.topic hz.key hz.value
        have HNP : Hid (∀ x ∈ c.picks, ∀ u, Calls Tryz.prog 30 #[.int .i64 x] u fun e w' => e = .returned (.string (ba (Lib.itoa x))) ∧ Below u.heap.size u w') := fun x hx u => rnumberOf x (hw.picks x hx).1 (hw.picks x hx).2 u
        have lcn := itoa_len hw.conn.1 hw.conn.2
        have lnn := itoa_len hw.n.1 hw.n.2
        have lid := itoa_len (n := c.req.id) (by have := hw.req.id1; omega) (by have := hw.req.id2; omega)
        have HLV : Hid ((verbT c.verb).length ≤ 5) := by
          unfold Hid
          rw [verb_at HC.out.v1 HC.out.v2]
          have := HC.out.v1
          have := HC.out.v2
          exact vW_len ⟨c.verb.toNat, by omega⟩
        have hlv := HLV.out
        have HOV1 := HC.out.v1
        have HOV2 := HC.out.v2
        go_wp2_with fail
        refine (HVW.out _).mono ?_
        rintro e w2 ⟨rfl, hb⟩
        have HB3 : Hid (Below W1.heap.size W1 w2) := below_on HB2.out hb
        clear z0 z1 z2 z3 z4 z5 z6 z7 z8 z9 z10 z11 z12 z13 hb HVW HB2 HBE
        obtain ⟨z0, z1, z2, z3, z4, z5, z6, z7, z8, z9, z10, z11, z12, z13⟩ := HX.out _ HB3.out
        generalize verbT c.verb = VT at *
        have sVT : (ba VT).size = VT.length := rfl
        obtain ⟨CN, hCN⟩ : ∃ x, Lib.itoa c.conn = x := ⟨_, rfl⟩
        obtain ⟨NT, hNT⟩ : ∃ x, Lib.itoa c.n = x := ⟨_, rfl⟩
        obtain ⟨IDT, hIDT⟩ : ∃ x, Lib.itoa c.req.id = x := ⟨_, rfl⟩
        have lrq := req_most hw.req hz.topic hz.key hz.value
        obtain ⟨RQT, hRQT⟩ : ∃ x, sp (opT c.req.op :: (fldL c.req.op).map (fldT c.req)) = x := ⟨_, rfl⟩
        rw [hCN] at HNC lcn
        rw [hNT] at HNN lnn
        rw [hIDT] at HNI lid
        rw [hRQT] at HNQ lrq
        have sCN : (ba CN).size = CN.length := rfl
        have sNT : (ba NT).size = NT.length := rfl
        have sID : (ba IDT).size = IDT.length := rfl
        have sRQ : (ba RQT).size = RQT.length := rfl
        go_upto_block 0 with fail
        go_cut [4] (fun v wx => ∃ L : By, v = .string (ba L) ∧ Hid (L = VT ++ sp (midA c)) ∧ L.length ≤ 100000000000000000 ∧ Hid (Below W1.heap.size W1 wx))
        case first =>
          by_cases hv0 : c.verb = 0
          · have HM : Hid (VT ++ 32 :: CN = VT ++ sp (midA c)) := by unfold Hid midA; rw [if_pos (by omega)]; simp [sp, ← hCN]
            have n0 : (c.verb == 0) = true := by simp; omega
            have n1 : (c.verb == 1) = false := by simp; omega
            have n6 : (c.verb == 6) = false := by simp; omega
            have n2 : (c.verb == 2) = false := by simp; omega
            have n3 : (c.verb == 3) = false := by simp; omega
            clear hv0
            go_wp2_with fail
            refine (HNC.out _).mono ?_
            rintro e w3 ⟨rfl, hb⟩
            have HB4 : Hid (Below W1.heap.size W1 w3) := below_on HB3.out hb
            clear z0 z1 z2 z3 z4 z5 z6 z7 z8 z9 z10 z11 z12 z13
            go_wp2_with fail
            go_meet
            case rel => exact ⟨VT ++ 32 :: CN, by (try simp only [ba]); exact str_eq (by simp), HM, by rw [List.length_append, List.length_cons]; omega, HB4⟩
          by_cases hv1 : c.verb = 1
          · have HM : Hid (VT ++ 32 :: CN = VT ++ sp (midA c)) := by unfold Hid midA; rw [if_pos (by omega)]; simp [sp, ← hCN]
            have n0 : (c.verb == 0) = false := by simp; omega
            have n1 : (c.verb == 1) = true := by simp; omega
            have n6 : (c.verb == 6) = false := by simp; omega
            have n2 : (c.verb == 2) = false := by simp; omega
            have n3 : (c.verb == 3) = false := by simp; omega
            clear hv1
            go_wp2_with fail
            refine (HNC.out _).mono ?_
            rintro e w3 ⟨rfl, hb⟩
            have HB4 : Hid (Below W1.heap.size W1 w3) := below_on HB3.out hb
            clear z0 z1 z2 z3 z4 z5 z6 z7 z8 z9 z10 z11 z12 z13
            go_wp2_with fail
            go_meet
            case rel => exact ⟨VT ++ 32 :: CN, by (try simp only [ba]); exact str_eq (by simp), HM, by rw [List.length_append, List.length_cons]; omega, HB4⟩
          by_cases hv6 : c.verb = 6
          · have HM : Hid (VT ++ 32 :: CN = VT ++ sp (midA c)) := by unfold Hid midA; rw [if_pos (by omega)]; simp [sp, ← hCN]
            have n0 : (c.verb == 0) = false := by simp; omega
            have n1 : (c.verb == 1) = false := by simp; omega
            have n6 : (c.verb == 6) = true := by simp; omega
            have n2 : (c.verb == 2) = false := by simp; omega
            have n3 : (c.verb == 3) = false := by simp; omega
            clear hv6
            go_wp2_with fail
            refine (HNC.out _).mono ?_
            rintro e w3 ⟨rfl, hb⟩
            have HB4 : Hid (Below W1.heap.size W1 w3) := below_on HB3.out hb
            clear z0 z1 z2 z3 z4 z5 z6 z7 z8 z9 z10 z11 z12 z13
            go_wp2_with fail
            go_meet
            case rel => exact ⟨VT ++ 32 :: CN, by (try simp only [ba]); exact str_eq (by simp), HM, by rw [List.length_append, List.length_cons]; omega, HB4⟩
          by_cases hv2 : c.verb = 2
          · have HM : Hid (VT ++ 32 :: (CN ++ 32 :: (IDT ++ RQT)) = VT ++ sp (midA c)) := by
              unfold Hid midA
              rw [if_neg (by omega), if_pos hv2, ← hCN, ← hIDT, ← hRQT]
              simp [sp]
            have n0 : (c.verb == 0) = false := by simp; omega
            have n1 : (c.verb == 1) = false := by simp; omega
            have n6 : (c.verb == 6) = false := by simp; omega
            have n2 : (c.verb == 2) = true := by simp; omega
            have n3 : (c.verb == 3) = false := by simp; omega
            clear hv2
            have b1 := cell_regrown z1
            have b2 := cell_regrown z2
            have b3 := cell_regrown z3
            have b4 := cell_regrown z4
            have b5 := cell_regrown z5
            have b6 := cell_regrown z6
            have b7 := cell_regrown z7
            have b8 := cell_regrown z8
            have b9 := cell_regrown z9
            have b10 := cell_regrown z10
            have k1 : ∀ d os, Calls Tryz.prog 30 #[.int .i64 c.conn] (Go.Sort.grow (redrawn w2 d) os) fun e w'' => e = .returned (.string (ba CN)) ∧ ∃ p : Regrown, w'' = Go.Sort.grow (redrawn w2 p.d) p.os := fun d os => Calls.regrown_of (HNC.out _)
            have k2 : ∀ d os, Calls Tryz.prog 30 #[.int .i64 c.req.id] (Go.Sort.grow (redrawn w2 d) os) fun e w'' => e = .returned (.string (ba IDT)) ∧ ∃ p : Regrown, w'' = Go.Sort.grow (redrawn w2 p.d) p.os := fun d os => Calls.regrown_of (HNI.out _)
            have k3 : ∀ d os, Calls Tryz.prog 31 #[rqV c.req] (Go.Sort.grow (redrawn w2 d) os) fun e w'' => e = .returned (.string (ba RQT)) ∧ ∃ p : Regrown, w'' = Go.Sort.grow (redrawn w2 p.d) p.os := fun d os => Calls.regrown_of (HNQ.out _)
            have hwi : IntKind.i64.wrap c.req.id = c.req.id := by rw [IntKind.wrap_i64]; have := hw.req.id1; have := hw.req.id2; omega
            go_wp2_with fail
            clear z0 z1 z2 z3 z4 z5 z6 z7 z8 z9 z10 z11 z12 z13
            refine wp_region_quiet_below (by kernel_rfl) (by kernel_rfl) ?_
            repeat (go_big_quiet_step (first | with_reducible exact k1 _ _ | with_reducible exact k2 _ _ | with_reducible exact k3 _ _))
            refine wpQuiet_nil ?_
            intro _ hw'
            obtain ⟨⟨dq, osq⟩, hw''⟩ := hw'
            subst hw''
            obtain ⟨w3, hw3⟩ : ∃ u, Go.Sort.grow (redrawn w2 dq) osq = u := ⟨_, rfl⟩
            have HB4 : Hid (Below W1.heap.size W1 w3) := by
              unfold Hid
              rw [← hw3]
              exact below_on HB3.out (below_regrown w2 dq osq)
            rw [hw3]
            go_wp2_with fail
            go_meet
            case rel => exact ⟨VT ++ 32 :: (CN ++ 32 :: (IDT ++ RQT)), by (try simp only [ba]); exact str_eq (by simp), HM, by simp only [List.length_append, List.length_cons]; omega, HB4⟩
          by_cases hv3 : c.verb = 3
          · have HM : Hid (VT ++ 32 :: (CN ++ 32 :: rawT c.raw) = VT ++ sp (midA c)) := by
              unfold Hid midA
              rw [if_neg (by omega), if_neg hv2, if_pos hv3, ← hCN]
              simp [sp]
            have n0 : (c.verb == 0) = false := by simp; omega
            have n1 : (c.verb == 1) = false := by simp; omega
            have n6 : (c.verb == 6) = false := by simp; omega
            have n2 : (c.verb == 2) = false := by simp; omega
            have n3 : (c.verb == 3) = true := by simp; omega
            have HRT : Hid (rawT c.raw = if c.raw = [] then [45] else c.raw.flatMap hxB) := rfl
            have hRl : c.raw.length ≤ 4096 := by omega
            have HR1 : Hid (BysAt W1 (.slice ar c.raw.length cr) c.raw) := BysAt.later ⟨ar, cr, rfl, r1, r2, r3⟩ HB1.out
            clear hv0 hv1 hv6 hv2 hv3 r3
            generalize rawT c.raw = RT at *
            go_wp2_with fail
            refine (HNC.out _).mono ?_
            rintro e w3 ⟨rfl, hb⟩
            have HB4 : Hid (Below W1.heap.size W1 w3) := below_on HB3.out hb
            clear z0 z1 z2 z3 z4 z5 z6 z7 z8 z9 z10 z11 z12 z13 hb HB3
            have eL : ba VT ++ (⟨#[32]⟩ : ByteArray) ++ ba CN ++ ⟨#[32]⟩ = ba (VT ++ 32 :: (CN ++ [32])) := by
              apply ByteArray.ext
              simp
            have hL0 : (VT ++ 32 :: (CN ++ [32])).length ≤ 100 := by simp only [List.length_append, List.length_cons, List.length_nil]; omega
            generalize hLL : VT ++ 32 :: (CN ++ [32]) = L0 at eL hL0
            go_wp2
            try rw [eL]
            go_loopw [4, 5] (fun o i wl => ∃ (k : Nat) (L : By), k ≤ c.raw.length ∧ i = .int .i64 k ∧ o = .string (ba L) ∧ Hid (L = L0 ++ (c.raw.take k).flatMap hxB) ∧ L.length ≤ 100 + 2 * k ∧ Hid (Below W1.heap.size W1 wl)) (fun _ i _ => c.raw.length - (intOf i).toNat)
            case atStart => exact ⟨0, L0, Nat.zero_le _, rfl, rfl, by unfold Hid; simp, by omega, HB4⟩
            case round =>
              obtain ⟨k, L, hk, rfl, rfl, HL, hL, HW⟩ := hrel
              have hLs : (ba L).size = L.length := rfl
              obtain ⟨z0, z1, z2, z3, z4, z5, z6, z7, z8, z9, z10, z11, z12, z13⟩ := HX.out _ HW.out
              by_cases hp : k < c.raw.length
              · have hki : (k : Int) < (c.raw.length : Int) := by omega
                obtain ⟨_, _, e0, _, _, hc0⟩ := HR1.out.later HW.out
                cases e0
                obtain ⟨br, obr, rfl, hcr⟩ := hc0 (fun e => by rw [e] at hp; simp at hp)
                have c0 := hcr k hp
                have HE : Hid (L0 ++ (c.raw.take (k + 1)).flatMap hxB = L ++ hxB (c.raw.getD k 0)) := by
                  unfold Hid
                  rw [raw_snoc hp, ← List.append_assoc, ← HL.out]
                generalize c.raw.getD k 0 = y at *
                have HCX : Hid (∀ u, Calls Tryz.prog 32 #[.int .u8 (y.toNat : Int)] u fun e w' => e = .returned (.string (ba (hxB y))) ∧ Below u.heap.size u w') := rhexOf y
                have hxl : (hxB y).length = 2 := rfl
                generalize hxB y = hx at *
                have hxs : (ba hx).size = hx.length := rfl
                clear hcr hc0
                go_wp2_with fail
                refine (HCX.out _).mono ?_
                rintro e w4 ⟨rfl, hb⟩
                have HW4 : Hid (Below W1.heap.size W1 w4) := below_on HW.out hb
                clear z0 z1 z2 z3 z4 z5 z6 z7 z8 z9 z10 z11 z12 z13 c0 hb
                go_wp2
                go_roundw
                case rel => exact ⟨k + 1, L ++ hx, by omega, by go_num, by (try simp only [ba]); exact str_eq (by simp), HE.out.symm, by rw [List.length_append]; omega, HW4⟩
                case measure => simp [intOf]; omega
              · have hki : ¬ (k : Int) < (c.raw.length : Int) := by omega
                have HL2 : Hid (L = L0 ++ c.raw.flatMap hxB) := by
                  unfold Hid
                  rw [HL.out, show k = c.raw.length by omega, List.take_length]
                clear HL
                by_cases hr0 : c.raw = []
                · have hl0 : ((c.raw.length : Int) == 0) = true := by rw [hr0]; rfl
                  have HM2 : Hid (L ++ [45] = VT ++ sp (midA c)) := by
                    unfold Hid
                    rw [← HM.out, HRT.out, if_pos hr0, HL2.out, hr0, ← hLL]
                    simp
                  clear hr0
                  go_wp2_with fail
                  go_meet
                  case rel => exact ⟨L ++ [45], by (try simp only [ba]); exact str_eq (by simp), HM2, by rw [List.length_append]; simp; omega, HW⟩
                · have hl0 : ((c.raw.length : Int) == 0) = false := by
                    rw [beq_eq_false_iff_ne]
                    intro e
                    exact hr0 (List.length_eq_zero_iff.1 (by omega))
                  have HM2 : Hid (L = VT ++ sp (midA c)) := by
                    unfold Hid
                    rw [← HM.out, HRT.out, if_neg hr0, HL2.out, ← hLL]
                    simp
                  clear hr0
                  go_wp2_with fail
                  go_meet
                  case rel => exact ⟨L, rfl, HM2, by omega, HW⟩
          have HM : Hid (VT = VT ++ sp (midA c)) := by unfold Hid midA; rw [if_neg (by omega), if_neg hv2, if_neg hv3]; simp [sp]
          have n0 : (c.verb == 0) = false := by simp; omega
          have n1 : (c.verb == 1) = false := by simp; omega
          have n6 : (c.verb == 6) = false := by simp; omega
          have n2 : (c.verb == 2) = false := by simp; omega
          have n3 : (c.verb == 3) = false := by simp; omega
          clear hv0 hv1 hv6 hv2 hv3
          go_wp2_with fail
          go_meet
          case rel => exact ⟨VT, rfl, HM.out, by omega, HB3⟩
        case rest =>
          obtain ⟨L, rfl, HL, hL, HB4⟩ := hcut
          have hLs : (ba L).size = L.length := rfl
          have HP1 : Hid (PksAt W1 (.slice ap c.picks.length cp) c.picks) := PksAt.later ⟨ap, cp, rfl, p1, p2, p3⟩ HB1.out
          clear z0 z1 z2 z3 z4 z5 z6 z7 z8 z9 z10 z11 z12 z13 r3 p3 HNC HNI HNQ HB3
          obtain ⟨z0, z1, z2, z3, z4, z5, z6, z7, z8, z9, z10, z11, z12, z13⟩ := HX.out _ HB4.out
          obtain ⟨NB, hNB⟩ : ∃ b : Bool, b = ((c.verb == 4) || (c.verb == 6) || (c.verb == 7)) := ⟨_, rfl⟩
          have HNA : Hid (nA c = if NB = true then [Lib.itoa c.n] else []) := by
            unfold Hid nA
            rw [hNB]
            by_cases h : c.verb = 4 ∨ c.verb = 6 ∨ c.verb = 7
            · rw [if_pos h, if_pos (by simp; omega)]
            · rw [if_neg h, if_neg (by simp; omega)]
          go_upto_region 19 with fail
          generalize Value.int IntKind.i64 c.verb = V26
          go_cut [98] (fun v wx => v = .bool NB ∧ wc = wx)
          case first =>
            go_wp2_with fail
            all_goals
              go_meet
              case rel =>
                refine ⟨congrArg Value.bool ?_, by first | rfl | trivial⟩
                rw [hNB]
                try simp_all
          case rest =>
          obtain ⟨rfl, rfl⟩ := hcut
          clear hNB
          cases NB with
          | false =>
            have HL2 : Hid (L = VT ++ sp (midA c) ++ sp (nA c)) := by unfold Hid; rw [HL.out, HNA.out, if_neg (by simp)]; simp [sp]
            have HB5 := mkH HB4.out
            clear HL HNA
            go_wp2
            clear z0 z1 z2 z3 z4 z5 z6 z7 z8 z9 z10 z11 z12 z13
            go_loopw [4, 6] (fun o i wl => ∃ (k : Nat) (M : By), k ≤ c.picks.length ∧ i = .int .i64 k ∧ o = .string (ba M) ∧ Hid (M = L ++ sp ((c.picks.take k).map Lib.itoa)) ∧ M.length ≤ 100000000000000100 + 21 * k ∧ Hid (Below W1.heap.size W1 wl)) (fun _ i _ => c.picks.length - (intOf i).toNat)
            case atStart => exact ⟨0, L, Nat.zero_le _, rfl, rfl, by unfold Hid; simp [sp], by omega, HB5⟩
            case round =>
              obtain ⟨k, M, hk, rfl, rfl, HMM, hM, HW⟩ := hrel
              have hMs : (ba M).size = M.length := rfl
              obtain ⟨z0, z1, z2, z3, z4, z5, z6, z7, z8, z9, z10, z11, z12, z13⟩ := HX.out _ HW.out
              by_cases hp : k < c.picks.length
              · have hki : (k : Int) < (c.picks.length : Int) := by omega
                obtain ⟨_, _, e0, _, _, hc0⟩ := HP1.out.later HW.out
                cases e0
                obtain ⟨br, obr, rfl, hcr⟩ := hc0 (fun e => by rw [e] at hp; simp at hp)
                have c0 := hcr k hp
                have HE : Hid (L ++ sp ((c.picks.take (k + 1)).map Lib.itoa) = M ++ 32 :: Lib.itoa (c.picks.getD k 0)) := by
                  unfold Hid
                  rw [picks_snoc hp, ← List.append_assoc, ← HMM.out]
                have hmem : c.picks.getD k 0 ∈ c.picks := by rw [List.getD_eq_getElem?_getD, List.getElem?_eq_getElem hp]; exact List.getElem_mem hp
                have HCX := mkH (HNP.out _ hmem)
                have hyl := itoa_len (hw.picks _ hmem).1 (hw.picks _ hmem).2
                clear hmem
                generalize c.picks.getD k 0 = y at *
                generalize Lib.itoa y = ty at *
                have hts : (ba ty).size = ty.length := rfl
                clear hcr hc0
                go_wp2_with fail
                refine (HCX.out _).mono ?_
                rintro e w4 ⟨rfl, hb⟩
                have HW4 : Hid (Below W1.heap.size W1 w4) := below_on HW.out hb
                clear z0 z1 z2 z3 z4 z5 z6 z7 z8 z9 z10 z11 z12 z13 c0 hb
                go_wp2
                go_roundw
                case rel => exact ⟨k + 1, M ++ 32 :: ty, by omega, by go_num, by (try simp only [ba]); exact str_eq (by simp), HE.out.symm, by rw [List.length_append, List.length_cons]; omega, HW4⟩
                case measure => simp [intOf]; omega
              · have hki : ¬ (k : Int) < (c.picks.length : Int) := by omega
                have HLL : Hid (M = lineL c) := by
                  unfold Hid
                  rw [HMM.out, HL2.out, show k = c.picks.length by omega, List.take_length, HLP.out]
                have HBF : Hid (Below w.heap.size w wr) := below_on HB1.out HW.out
                clear HMM HL2
                by_cases hlen : M.length ≤ 4096
                · have HP : Hid (PriA c M 0) := by unfold Hid; rw [HLL.out]; exact HPS.out (by rw [← HLL.out]; exact hlen)
                  have hli : ¬ (4096 : Int) < (M.length : Int) := by omega
                  go_wp2
                  go_ret2
                  exact ⟨⟨M, 0, rfl, HP.out⟩, HBF.out⟩
                · have HP : Hid (PriA c [] 230) := HPN.out (by rw [← HLL.out]; exact hlen)
                  have hli : (4096 : Int) < (M.length : Int) := by omega
                  go_wp2
                  go_ret2
                  exact ⟨⟨[], 230, rfl, HP.out⟩, HBF.out⟩
          | true =>
            have HL2' : Hid (L ++ 32 :: NT = VT ++ sp (midA c) ++ sp (nA c)) := by unfold Hid; rw [HL.out, HNA.out, if_pos rfl, hNT]; simp [sp]
            clear HL HNA
            go_wp2_with fail
            refine (HNN.out _).mono ?_
            rintro e w5 ⟨rfl, hb⟩
            have HB5 : Hid (Below W1.heap.size W1 w5) := below_on HB4.out hb
            have eL2 : ba L ++ (⟨#[32]⟩ : ByteArray) ++ ba NT = ba (L ++ 32 :: NT) := by
              apply ByteArray.ext
              simp
            have hL2 : (L ++ 32 :: NT).length ≤ 100000000000000100 := by rw [List.length_append, List.length_cons]; omega
            generalize hLL2 : L ++ 32 :: NT = L2 at eL2 hL2 HL2'
            have HL2 : Hid (L2 = VT ++ sp (midA c) ++ sp (nA c)) := HL2'.out
            clear hLL2 HL2' z0 z1 z2 z3 z4 z5 z6 z7 z8 z9 z10 z11 z12 z13
            obtain ⟨z0, z1, z2, z3, z4, z5, z6, z7, z8, z9, z10, z11, z12, z13⟩ := HX.out _ HB5.out
            go_wp2
            try rw [eL2]
            clear eL2
            clear z0 z1 z2 z3 z4 z5 z6 z7 z8 z9 z10 z11 z12 z13
            go_loopw [4, 6] (fun o i wl => ∃ (k : Nat) (M : By), k ≤ c.picks.length ∧ i = .int .i64 k ∧ o = .string (ba M) ∧ Hid (M = L2 ++ sp ((c.picks.take k).map Lib.itoa)) ∧ M.length ≤ 100000000000000100 + 21 * k ∧ Hid (Below W1.heap.size W1 wl)) (fun _ i _ => c.picks.length - (intOf i).toNat)
            case atStart => exact ⟨0, L2, Nat.zero_le _, rfl, rfl, by unfold Hid; simp [sp], by omega, HB5⟩
            case round =>
              obtain ⟨k, M, hk, rfl, rfl, HMM, hM, HW⟩ := hrel
              have hMs : (ba M).size = M.length := rfl
              obtain ⟨z0, z1, z2, z3, z4, z5, z6, z7, z8, z9, z10, z11, z12, z13⟩ := HX.out _ HW.out
              by_cases hp : k < c.picks.length
              · have hki : (k : Int) < (c.picks.length : Int) := by omega
                obtain ⟨_, _, e0, _, _, hc0⟩ := HP1.out.later HW.out
                cases e0
                obtain ⟨br, obr, rfl, hcr⟩ := hc0 (fun e => by rw [e] at hp; simp at hp)
                have c0 := hcr k hp
                have HE : Hid (L2 ++ sp ((c.picks.take (k + 1)).map Lib.itoa) = M ++ 32 :: Lib.itoa (c.picks.getD k 0)) := by
                  unfold Hid
                  rw [picks_snoc hp, ← List.append_assoc, ← HMM.out]
                have hmem : c.picks.getD k 0 ∈ c.picks := by rw [List.getD_eq_getElem?_getD, List.getElem?_eq_getElem hp]; exact List.getElem_mem hp
                have HCX := mkH (HNP.out _ hmem)
                have hyl := itoa_len (hw.picks _ hmem).1 (hw.picks _ hmem).2
                clear hmem
                generalize c.picks.getD k 0 = y at *
                generalize Lib.itoa y = ty at *
                have hts : (ba ty).size = ty.length := rfl
                clear hcr hc0
                go_wp2_with fail
                refine (HCX.out _).mono ?_
                rintro e w4 ⟨rfl, hb⟩
                have HW4 : Hid (Below W1.heap.size W1 w4) := below_on HW.out hb
                clear z0 z1 z2 z3 z4 z5 z6 z7 z8 z9 z10 z11 z12 z13 c0 hb
                go_wp2
                go_roundw
                case rel => exact ⟨k + 1, M ++ 32 :: ty, by omega, by go_num, by (try simp only [ba]); exact str_eq (by simp), HE.out.symm, by rw [List.length_append, List.length_cons]; omega, HW4⟩
                case measure => simp [intOf]; omega
              · have hki : ¬ (k : Int) < (c.picks.length : Int) := by omega
                have HLL : Hid (M = lineL c) := by
                  unfold Hid
                  rw [HMM.out, HL2.out, show k = c.picks.length by omega, List.take_length, HLP.out]
                have HBF : Hid (Below w.heap.size w wr) := below_on HB1.out HW.out
                clear HMM HL2
                by_cases hlen : M.length ≤ 4096
                · have HP : Hid (PriA c M 0) := by unfold Hid; rw [HLL.out]; exact HPS.out (by rw [← HLL.out]; exact hlen)
                  have hli : ¬ (4096 : Int) < (M.length : Int) := by omega
                  go_wp2
                  go_ret2
                  exact ⟨⟨M, 0, rfl, HP.out⟩, HBF.out⟩
                · have HP : Hid (PriA c [] 230) := HPN.out (by rw [← HLL.out]; exact hlen)
                  have hli : (4096 : Int) < (M.length : Int) := by omega
                  go_wp2
                  go_ret2
                  exact ⟨⟨[], 230, rfl, HP.out⟩, HBF.out⟩
end Go.Proofs.YtlnppgjppfkocaaGreatDoor.Xs
