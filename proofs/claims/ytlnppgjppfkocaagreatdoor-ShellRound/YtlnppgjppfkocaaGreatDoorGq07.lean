import Derived.Test.YtlnppgjppfkocaaGreatDoorGq06
/-! Requests: the document's verbWord, fields, request. -/
namespace Go.Proofs.YtlnppgjppfkocaaGreatDoor.Xs
open Go.RowKit
set_option linter.unusedVariables false
set_option linter.unusedSimpArgs false

theorem mkH {p : Prop} (h : p) : Hid p := h

set_option maxHeartbeats 8000000 in
set_option maxRecDepth 100000 in
theorem rverbWordOf (v : Int) (w : World) :
    Calls Tryz.prog 29 #[.int .i64 v] w fun e w' => e = .returned (.string (ba (verbT v))) ∧ Below w.heap.size w w' := by
  by_cases h : 0 ≤ v ∧ v < 11
  · have hcases : v = 0 ∨ v = 1 ∨ v = 2 ∨ v = 3 ∨ v = 4 ∨ v = 5 ∨ v = 6 ∨ v = 7 ∨ v = 8 ∨ v = 9 ∨ v = 10 := by omega
    clear h
    rcases hcases with rfl | rfl | rfl | rfl | rfl | rfl | rfl | rfl | rfl | rfl | rfl
    all_goals
      go_enter Tryz.func29, Tryz.ntmps29
      go_wp2
      go_ret
      exact ⟨rfl, (Below.refl _ _).alloc (Nat.le_refl _) _⟩
  · have HV : Hid (verbT v = []) := by unfold Hid verbT; rw [if_neg h]
    generalize verbT v = V at *
    have hcase : v < 0 ∨ 11 ≤ v := by omega
    clear h
    rcases hcase with hc | hc
    · go_enter Tryz.func29, Tryz.ntmps29
      go_wp2
      go_ret
      exact ⟨by rw [HV.out]; rfl, (Below.refl _ _).alloc (Nat.le_refl _) _⟩
    · have hc0 : 0 ≤ v := by omega
      go_enter Tryz.func29, Tryz.ntmps29
      go_wp2
      go_ret
      exact ⟨by rw [HV.out]; rfl, (Below.refl _ _).alloc (Nat.le_refl _) _⟩

set_option maxHeartbeats 8000000 in
set_option maxRecDepth 100000 in
theorem rfieldsOf (op : Int) (w : World) :
    Calls Tryz.prog 51 #[.int .i64 op] w fun e w' => e = .returned (.string (ba (fldL op))) ∧ w' = w := by
  by_cases h : 2 ≤ op ∧ op ≤ 15
  · have hcases : op = 2 ∨ op = 3 ∨ op = 4 ∨ op = 5 ∨ op = 6 ∨ op = 7 ∨ op = 8 ∨ op = 9 ∨ op = 10 ∨ op = 11 ∨ op = 12 ∨ op = 13 ∨ op = 14 ∨ op = 15 := by omega
    clear h
    rcases hcases with rfl | rfl | rfl | rfl | rfl | rfl | rfl | rfl | rfl | rfl | rfl | rfl | rfl | rfl
    all_goals
      go_enter Tryz.func51, Tryz.ntmps51
      go_wp2
      go_ret
      exact ⟨rfl, rfl⟩
  · have HU : Hid (fldL op = []) := by
      unfold Hid fldL
      rw [if_neg (by omega), if_neg (by omega), if_neg (by omega), if_neg (by omega), if_neg (by omega), if_neg (by omega), if_neg (by omega), if_neg (by omega), if_neg (by omega)]
    generalize fldL op = U at *
    have h2 : (op == 2) = false := by simp; omega
    have h3 : (op == 3) = false := by simp; omega
    have h4 : (op == 4) = false := by simp; omega
    have h5 : (op == 5) = false := by simp; omega
    have h6 : (op == 6) = false := by simp; omega
    have h7 : (op == 7) = false := by simp; omega
    have h8 : (op == 8) = false := by simp; omega
    have h9 : (op == 9) = false := by simp; omega
    have h10 : (op == 10) = false := by simp; omega
    have h11 : (op == 11) = false := by simp; omega
    have h12 : (op == 12) = false := by simp; omega
    have h13 : (op == 13) = false := by simp; omega
    have h14 : (op == 14) = false := by simp; omega
    have h15 : (op == 15) = false := by simp; omega
    clear h
    go_enter Tryz.func51, Tryz.ntmps51
    go_wp2
    go_ret
    exact ⟨by rw [HU.out]; rfl, rfl⟩

theorem fld_len (op : Int) : (fldL op).length ≤ 5 := by
  unfold fldL
  repeat (first | decide | split)
/-- What stands behind a request's number, i fields of it. -/
def reqL (r : Rq) (i : Nat) : By := sp (opT r.op :: ((fldL r.op).take i).map (fldT r))
theorem req_zero (r : Rq) : reqL r 0 = 32 :: opT r.op := by simp [reqL, sp]
theorem req_snoc (r : Rq) {i : Nat} (h : i < (fldL r.op).length) : reqL r (i + 1) = reqL r i ++ 32 :: fldT r ((fldL r.op).getD i 0) := by
  unfold reqL
  rw [take_at h, List.map_append, ← List.cons_append, sp_app]
  simp [sp]
theorem req_all (r : Rq) : reqL r (fldL r.op).length = sp (opT r.op :: (fldL r.op).map (fldT r)) := by unfold reqL; rw [List.take_length]

set_option maxHeartbeats 8000000 in
set_option maxRecDepth 100000 in
theorem rrequestOf (r : Rq) (w : World) (hw : WfR r) (h3 : r.topic.length ≤ 1125899906842624) (h4 : r.key.length ≤ 1125899906842624) (h5 : r.value.length ≤ 1125899906842624) :
    Calls Tryz.prog 31 #[rqV r] w fun e w' => e = .returned (.string (ba (sp (opT r.op :: (fldL r.op).map (fldT r))))) ∧ Below w.heap.size w w' := by
  have HQ0 := mkH (req_zero r)
  have HQS : Hid (∀ i, i < (fldL r.op).length → reqL r (i + 1) = reqL r i ++ 32 :: fldT r ((fldL r.op).getD i 0)) := fun i h => req_snoc r h
  have HQA := mkH (req_all r)
  generalize sp (opT r.op :: (fldL r.op).map (fldT r)) = RES at *
  have hx := rqBox w r 24
  have HO : Hid (∀ u, Calls Tryz.prog 50 #[.int .i64 r.op] u fun e w' => e = .returned (.string (ba (opT r.op))) ∧ Below u.heap.size u w') := ropWordOf r.op hw.op.1 hw.op.2
  have HF : Hid (∀ u, Calls Tryz.prog 51 #[.int .i64 r.op] u fun e w' => e = .returned (.string (ba (fldL r.op))) ∧ w' = u) := rfieldsOf r.op
  have hol := op_len r.op hw.op
  have hfl := fld_len r.op
  have HLT : Hid (∀ i, i < (fldL r.op).length → (fldL r.op).getD i 0 = 84 ∨ (fldL r.op).getD i 0 = 75 ∨ (fldL r.op).getD i 0 = 86 ∨ (fldL r.op).getD i 0 = 79 ∨ (fldL r.op).getD i 0 = 78 ∨ (fldL r.op).getD i 0 = 80 ∨ (fldL r.op).getD i 0 = 83) := fun i h => fld_letters r.op _ (by rw [List.getD_eq_getElem?_getD, List.getElem?_eq_getElem h]; exact List.getElem_mem h)
  generalize reqL r = RL at *
  have C84 : Hid (∀ u, Calls Tryz.prog 52 #[.string (ba r.topic)] u fun e w' => e = .returned (.string (ba (fldT r 84))) ∧ Below u.heap.size u w') := rtextOf r.topic (by omega)
  have N84 : (fldT r 84).length ≤ 9007199254740992 := by have := txt_len r.topic; show (txt r.topic).length ≤ _; omega
  have C75 : Hid (∀ u, Calls Tryz.prog 52 #[.string (ba r.key)] u fun e w' => e = .returned (.string (ba (fldT r 75))) ∧ Below u.heap.size u w') := rtextOf r.key (by omega)
  have N75 : (fldT r 75).length ≤ 9007199254740992 := by have := txt_len r.key; show (txt r.key).length ≤ _; omega
  have C86 : Hid (∀ u, Calls Tryz.prog 52 #[.string (ba r.value)] u fun e w' => e = .returned (.string (ba (fldT r 86))) ∧ Below u.heap.size u w') := rtextOf r.value (by omega)
  have N86 : (fldT r 86).length ≤ 9007199254740992 := by have := txt_len r.value; show (txt r.value).length ≤ _; omega
  have C79 : Hid (∀ u, Calls Tryz.prog 30 #[.int .i64 r.offset] u fun e w' => e = .returned (.string (ba (fldT r 79))) ∧ Below u.heap.size u w') := rnumberOf r.offset hw.offset.1 hw.offset.2
  have N79 : (fldT r 79).length ≤ 9007199254740992 := by have := itoa_len hw.offset.1 hw.offset.2; show (Lib.itoa r.offset).length ≤ _; omega
  have C78 : Hid (∀ u, Calls Tryz.prog 30 #[.int .i64 r.number] u fun e w' => e = .returned (.string (ba (fldT r 78))) ∧ Below u.heap.size u w') := rnumberOf r.number hw.number.1 hw.number.2
  have N78 : (fldT r 78).length ≤ 9007199254740992 := by have := itoa_len hw.number.1 hw.number.2; show (Lib.itoa r.number).length ≤ _; omega
  have C80 : Hid (∀ u, Calls Tryz.prog 30 #[.int .i64 r.pid] u fun e w' => e = .returned (.string (ba (fldT r 80))) ∧ Below u.heap.size u w') := rnumberOf r.pid hw.pid.1 hw.pid.2
  have N80 : (fldT r 80).length ≤ 9007199254740992 := by have := itoa_len hw.pid.1 hw.pid.2; show (Lib.itoa r.pid).length ≤ _; omega
  have C83 : Hid (∀ u, Calls Tryz.prog 30 #[.int .i64 r.seq] u fun e w' => e = .returned (.string (ba (fldT r 83))) ∧ Below u.heap.size u w') := rnumberOf r.seq hw.seq.1 hw.seq.2
  have N83 : (fldT r 83).length ≤ 9007199254740992 := by have := itoa_len hw.seq.1 hw.seq.2; show (Lib.itoa r.seq).length ≤ _; omega
  generalize fldT r = F at *
  generalize opT r.op = O at *
  generalize fldL r.op = U at *
  obtain ⟨id, op, tp, ky, vl, fo, nu, pi, sq⟩ := r
  simp only at *
  clear hw
  obtain ⟨W1, hW1⟩ : ∃ W1, w.alloc (.cells #[.int .u32 id, .int .i64 op, .string (ba tp), .string (ba ky), .string (ba vl), .int .i64 fo, .int .i64 nu, .int .i64 pi, .int .i64 sq] 24) = W1 := ⟨_, rfl⟩
  rw [hW1] at hx
  obtain ⟨hb1, hcells⟩ := hx
  have HB1 : Hid (Below w.heap.size w W1) := hb1
  have HX : Hid (∀ u, Below W1.heap.size W1 u → RqAt u w.heap.size 0 ⟨id, op, tp, ky, vl, fo, nu, pi, sq⟩) := fun u hu => hcells.later hu
  obtain ⟨z0, z1, z2, z3, z4, z5, z6, z7, z8⟩ := hcells
  clear hb1
  have l1 : (ba U).size = U.length := rfl
  have l2 : (ba O).size = O.length := rfl
  go_enter Tryz.func31, Tryz.ntmps31
  go_wp2_with fail
  generalize rqV ⟨id, op, tp, ky, vl, fo, nu, pi, sq⟩ = V0 at *
  refine (HO.out _).mono ?_
  rintro e w1 ⟨rfl, hb⟩
  have HB2 : Hid (Below W1.heap.size W1 w1) := hb
  clear z0 z1 z2 z3 z4 z5 z6 z7 z8
  obtain ⟨z0, z1, z2, z3, z4, z5, z6, z7, z8⟩ := HX.out _ HB2.out
  clear hb
  go_wp2_with fail
  refine (HF.out _).mono ?_
  rintro e w2 ⟨rfl, hw2⟩
  obtain rfl : w1 = w2 := hw2.symm
  have eO : (⟨#[32]⟩ : ByteArray) ++ ba O = ba (RL 0) := by
    rw [HQ0.out]
    apply ByteArray.ext
    simp
  have hR0 : (RL 0).length ≤ 100 := by rw [HQ0.out, List.length_cons]; omega
  rw [eO]
  clear z0 z1 z2 z3 z4 z5 z6 z7 z8 eO HO HF hW1
  go_wp2
  go_loopw [3, 5] (fun o i wl => ∃ (k : Nat) (L : By), k ≤ U.length ∧ i = .int .i64 k ∧ o = .string (ba L) ∧ Hid (L = RL k) ∧ L.length ≤ 100 + k * 9007199254740994 ∧ Hid (Below W1.heap.size W1 wl)) (fun _ i _ => U.length - (intOf i).toNat)
  case atStart => exact ⟨0, RL 0, Nat.zero_le _, rfl, rfl, rfl, by omega, HB2⟩
  case round =>
    obtain ⟨k, L, hk, rfl, rfl, HL, hL, HW⟩ := hrel
    have hLs : (ba L).size = L.length := rfl
    by_cases hp : k < U.length
    · have hki : (k : Int) < (U.length : Int) := by omega
      have hkb : k < (ba U).size := hp
      have hbg := ba_get hkb
      have HE : Hid (RL (k + 1) = L ++ 32 :: F (U.getD k 0)) := by unfold Hid; rw [HQS.out k hp, HL.out]
      have hlt := HLT.out k hp
      generalize U.getD k 0 = c at *
      obtain ⟨z, hz⟩ : ∃ z : Int, (((ba U)[k]'hkb).toNat : Int) = z := ⟨_, rfl⟩
      have HZ : Hid (z = (c.toNat : Int)) := by unfold Hid; rw [← hz, hbg]
      clear hbg
      obtain ⟨z0, z1, z2, z3, z4, z5, z6, z7, z8⟩ := HX.out _ HW.out
      rcases hlt with hc | hc | hc | hc | hc | hc | hc
      · have hzc : z = 84 := by rw [HZ.out, hc]; rfl
        rw [hc] at HE
        have hFs : (ba (F 84)).size = (F 84).length := rfl
        clear hc
        go_wp2_with fail
        refine (C84.out _).mono ?_
        rintro e w3 ⟨rfl, hb⟩
        have HW3 : Hid (Below W1.heap.size W1 w3) := below_on HW.out hb
        clear z0 z1 z2 z3 z4 z5 z6 z7 z8 hb
        go_wp2
        go_roundw
        case rel => exact ⟨k + 1, L ++ 32 :: F 84, by omega, by go_num, by (try simp only [ba]); exact str_eq (by simp), HE.out.symm, by rw [List.length_append, List.length_cons]; omega, HW3⟩
        case measure => simp [intOf]; omega
      · have hzc : z = 75 := by rw [HZ.out, hc]; rfl
        rw [hc] at HE
        have hFs : (ba (F 75)).size = (F 75).length := rfl
        clear hc
        go_wp2_with fail
        refine (C75.out _).mono ?_
        rintro e w3 ⟨rfl, hb⟩
        have HW3 : Hid (Below W1.heap.size W1 w3) := below_on HW.out hb
        clear z0 z1 z2 z3 z4 z5 z6 z7 z8 hb
        go_wp2
        go_roundw
        case rel => exact ⟨k + 1, L ++ 32 :: F 75, by omega, by go_num, by (try simp only [ba]); exact str_eq (by simp), HE.out.symm, by rw [List.length_append, List.length_cons]; omega, HW3⟩
        case measure => simp [intOf]; omega
      · have hzc : z = 86 := by rw [HZ.out, hc]; rfl
        rw [hc] at HE
        have hFs : (ba (F 86)).size = (F 86).length := rfl
        clear hc
        go_wp2_with fail
        refine (C86.out _).mono ?_
        rintro e w3 ⟨rfl, hb⟩
        have HW3 : Hid (Below W1.heap.size W1 w3) := below_on HW.out hb
        clear z0 z1 z2 z3 z4 z5 z6 z7 z8 hb
        go_wp2
        go_roundw
        case rel => exact ⟨k + 1, L ++ 32 :: F 86, by omega, by go_num, by (try simp only [ba]); exact str_eq (by simp), HE.out.symm, by rw [List.length_append, List.length_cons]; omega, HW3⟩
        case measure => simp [intOf]; omega
      · have hzc : z = 79 := by rw [HZ.out, hc]; rfl
        rw [hc] at HE
        have hFs : (ba (F 79)).size = (F 79).length := rfl
        clear hc
        go_wp2_with fail
        refine (C79.out _).mono ?_
        rintro e w3 ⟨rfl, hb⟩
        have HW3 : Hid (Below W1.heap.size W1 w3) := below_on HW.out hb
        clear z0 z1 z2 z3 z4 z5 z6 z7 z8 hb
        go_wp2
        go_roundw
        case rel => exact ⟨k + 1, L ++ 32 :: F 79, by omega, by go_num, by (try simp only [ba]); exact str_eq (by simp), HE.out.symm, by rw [List.length_append, List.length_cons]; omega, HW3⟩
        case measure => simp [intOf]; omega
      · have hzc : z = 78 := by rw [HZ.out, hc]; rfl
        rw [hc] at HE
        have hFs : (ba (F 78)).size = (F 78).length := rfl
        clear hc
        go_wp2_with fail
        refine (C78.out _).mono ?_
        rintro e w3 ⟨rfl, hb⟩
        have HW3 : Hid (Below W1.heap.size W1 w3) := below_on HW.out hb
        clear z0 z1 z2 z3 z4 z5 z6 z7 z8 hb
        go_wp2
        go_roundw
        case rel => exact ⟨k + 1, L ++ 32 :: F 78, by omega, by go_num, by (try simp only [ba]); exact str_eq (by simp), HE.out.symm, by rw [List.length_append, List.length_cons]; omega, HW3⟩
        case measure => simp [intOf]; omega
      · have hzc : z = 80 := by rw [HZ.out, hc]; rfl
        rw [hc] at HE
        have hFs : (ba (F 80)).size = (F 80).length := rfl
        clear hc
        go_wp2_with fail
        refine (C80.out _).mono ?_
        rintro e w3 ⟨rfl, hb⟩
        have HW3 : Hid (Below W1.heap.size W1 w3) := below_on HW.out hb
        clear z0 z1 z2 z3 z4 z5 z6 z7 z8 hb
        go_wp2
        go_roundw
        case rel => exact ⟨k + 1, L ++ 32 :: F 80, by omega, by go_num, by (try simp only [ba]); exact str_eq (by simp), HE.out.symm, by rw [List.length_append, List.length_cons]; omega, HW3⟩
        case measure => simp [intOf]; omega
      · have hzc : z = 83 := by rw [HZ.out, hc]; rfl
        rw [hc] at HE
        have hFs : (ba (F 83)).size = (F 83).length := rfl
        clear hc
        go_wp2_with fail
        refine (C83.out _).mono ?_
        rintro e w3 ⟨rfl, hb⟩
        have HW3 : Hid (Below W1.heap.size W1 w3) := below_on HW.out hb
        clear z0 z1 z2 z3 z4 z5 z6 z7 z8 hb
        go_wp2
        go_roundw
        case rel => exact ⟨k + 1, L ++ 32 :: F 83, by omega, by go_num, by (try simp only [ba]); exact str_eq (by simp), HE.out.symm, by rw [List.length_append, List.length_cons]; omega, HW3⟩
        case measure => simp [intOf]; omega
    · have hki : ¬ (k : Int) < (U.length : Int) := by omega
      have HL2 : Hid (L = RES) := by
        unfold Hid
        rw [HL.out, show k = U.length by omega]; exact HQA.out
      clear HL
      go_wp2
      go_ret
      exact ⟨by rw [HL2.out]; rfl, below_on HB1.out HW.out⟩
end Go.Proofs.YtlnppgjppfkocaaGreatDoor.Xs
