import Derived.Test.YtlnppgjppfkocaaGreatDoorGq02
import Derived.Deep.LoopGhost
/-! Lines: the document's text. -/
namespace Go.Proofs.YtlnppgjppfkocaaGreatDoor.Xs
open Go.RowKit
set_option linter.unusedVariables false
set_option linter.unusedSimpArgs false

theorem ba_get {s : By} {k : Nat} (h : k < (ba s).size) : (ba s)[k]'h = s.getD k 0 := by
  have h' : k < s.length := h
  rw [List.getD_eq_getElem?_getD, List.getElem?_eq_getElem h']
  rfl
theorem escs_len : ∀ (s : By), (s.flatMap esc).length ≤ 4 * s.length
  | [] => by simp
  | c :: s => by
    have h1 := escs_len s
    have h2 : ∀ c : UInt8, (esc c).length ≤ 4 := all256 (by decide +kernel)
    have := h2 c
    rw [List.flatMap_cons, List.length_append, List.length_cons]; omega
theorem txt_len (s : By) : (txt s).length ≤ 4 * s.length + 2 := by
  have := escs_len s
  unfold txt
  split
  · omega
  · simp only [List.length_cons, List.length_append, List.length_nil]; omega
theorem take_snoc_all {s : By} {k : Nat} (h : k < s.length) : (s.take (k + 1)).all plB = ((s.take k).all plB && plB (s.getD k 0)) := by
  rw [take_at h, List.all_append]; simp
theorem take_snoc_esc {s : By} {k : Nat} (h : k < s.length) : (s.take (k + 1)).flatMap esc = (s.take k).flatMap esc ++ esc (s.getD k 0) := by
  rw [take_at h, List.flatMap_append]; simp
theorem ba_slice {s : By} {k : Nat} (h : k < s.length) : (ba s).extract k (k + 1) = ba [s.getD k 0] := by
  apply ByteArray.ext
  rw [ByteArray.data_extract]
  apply Array.ext'
  rw [Array.toList_extract]
  show (s.drop k).take (k + 1 - k) = [s.getD k 0]
  rw [Nat.add_sub_cancel_left, List.drop_eq_getElem_cons h, List.getD_eq_getElem?_getD, List.getElem?_eq_getElem h]
  rfl

set_option maxHeartbeats 4000000 in
set_option maxRecDepth 100000 in
theorem rtextOf (s : By) (hs : s.length ≤ 1125899906842624) (w : World) :
    Calls Tryz.prog 52 #[.string (ba s)] w fun e w' => e = .returned (.string (ba (txt s))) ∧ Below w.heap.size w w' := by
  have hsz : (ba s).size = s.length := rfl
  have HT : Hid (∀ b, b = ((!s.isEmpty) && (s.take s.length).all plB) → txt s = if b = true then s else 34 :: (s.flatMap esc ++ [34])) := fun b hb => by
    rw [hb, List.take_length]
    unfold txt
    cases s with
    | nil => rw [if_neg (by simp), if_neg (by simp)]
    | cons c t =>
      by_cases h : (c :: t).all plB = true
      · rw [if_pos ⟨by simp, h⟩, if_pos (by rw [h]; rfl)]
      · rw [if_neg (fun k => h k.2), if_neg (by simpa using h)]
  generalize txt s = T at HT ⊢
  go_enter Tryz.func52, Tryz.ntmps52
  go_wp2
  generalize (!s.isEmpty) = b0 at *
  go_loopw [3, 4] (fun v i wr => ∃ (k : Nat) (b : Bool), k ≤ s.length ∧ i = .int .i64 k ∧ v = .bool b ∧ Hid (b = (b0 && (s.take k).all plB)) ∧ w = wr) (fun _ i _ => s.length - (intOf i).toNat)
  case atStart => exact ⟨0, b0, Nat.zero_le _, rfl, rfl, by unfold Hid; simp, by first | rfl | trivial⟩
  case round =>
    obtain ⟨k, b, hk, rfl, rfl, HB, rfl⟩ := hrel
    by_cases hp : k < s.length
    · have hki : (k : Int) < (s.length : Int) := by omega
      have hkb : k < (ba s).size := hp
      have HS : Hid ((b && plB (s.getD k 0)) = (b0 && (s.take (k + 1)).all plB)) := by
        unfold Hid
        rw [take_snoc_all hp, HB.out, Bool.and_assoc]
      cases b with
      | false =>
        go_wp2
        go_roundw
        case rel => exact ⟨k + 1, false, by omega, by go_num, rfl, HS.out, by first | rfl | trivial⟩
        case measure => simp [intOf]; omega
      | true =>
        have HC : Hid (Calls Tryz.prog 83 #[.int .u8 (((ba s)[k]'hkb).toNat : Int)] w fun e w' => e = .returned (.bool (plB (s.getD k 0))) ∧ w = w') := by
          unfold Hid
          rw [ba_get hkb]
          exact (rplainOf _ _).mono fun e w' h => ⟨h.1, h.2.symm⟩
        generalize plB (s.getD k 0) = pb at *
        go_wp2_with fail
        refine HC.out.mono ?_
        rintro e w1 ⟨rfl, rfl⟩
        go_wp2
        go_roundw
        case rel => exact ⟨k + 1, pb, by omega, by go_num, rfl, HS.out, by first | rfl | trivial⟩
        case measure => simp [intOf]; omega
    · have hkk : k = s.length := by omega
      have HB2 : Hid (b = (b0 && (s.take s.length).all plB)) := by rw [← hkk]; exact HB.out
      have HT2 : Hid (T = if b = true then s else 34 :: (s.flatMap esc ++ [34])) := HT.out b HB2.out
      have hki : ¬ (k : Int) < (s.length : Int) := by omega
      clear HT HB HB2 hkk
      cases b with
      | true =>
        have HT3 : Hid (T = s) := by unfold Hid; rw [HT2.out, if_pos rfl]
        clear HT2
        go_wp2
        go_ret
        exact ⟨by rw [HT3.out]; rfl, Below.refl _ _⟩
      | false =>
        have HT3 : Hid (T = 34 :: (s.flatMap esc ++ [34])) := by unfold Hid; rw [HT2.out, if_neg (by simp)]
        clear HT2
        go_wp2
        go_loopw [5, 6] (fun o i wl => ∃ (j : Nat) (L : By), j ≤ s.length ∧ i = .int .i64 j ∧ o = .string (ba L) ∧ Hid (L = 34 :: (s.take j).flatMap esc) ∧ L.length ≤ 1 + 4 * j ∧ Hid (Below w.heap.size w wl)) (fun _ i _ => s.length - (intOf i).toNat)
        case atStart => exact ⟨0, [34], Nat.zero_le _, rfl, rfl, by unfold Hid; simp, by simp, Below.refl _ _⟩
        case round =>
          obtain ⟨j, L, hj, rfl, rfl, HL, hL, HW⟩ := hrel
          have hLs : (ba L).size = L.length := rfl
          have hLs' : (⟨L.toArray⟩ : ByteArray).size = L.length := rfl
          by_cases hp : j < s.length
          · have hji : (j : Int) < (s.length : Int) := by omega
            have hjb : j < (ba s).size := hp
            have HE : Hid (34 :: (s.take (j + 1)).flatMap esc = L ++ esc (s.getD j 0)) := by
              unfold Hid
              rw [take_snoc_esc hp, HL.out]; rfl
            have hbg := ba_get hjb
            have HSL : Hid ((ba s).extract j (j + 1) = ba [s.getD j 0]) := ba_slice hp
            generalize s.getD j 0 = c at *
            have hcl := c.toNat_lt
            have HCN : Hid ((((ba s)[j]'hjb).toNat : Int) = (c.toNat : Int)) := by unfold Hid; rw [hbg]
            obtain ⟨z, hz⟩ : ∃ z : Int, (((ba s)[j]'hjb).toNat : Int) = z := ⟨_, rfl⟩
            have HZ : Hid (z = (c.toNat : Int)) := hz.symm.trans HCN.out
            clear hbg HCN
            by_cases c1 : c = 34
            · have z1 : z = 34 := by rw [HZ.out, c1]; rfl
              have HE2 : Hid (esc c = [92, 34]) := by unfold Hid; rw [c1]; rfl
              clear c1
              go_wp2
              go_roundw
              case rel => exact ⟨j + 1, L ++ [92, 34], by omega, by go_num, by (try simp only [ba]); exact str_eq (by simp), by unfold Hid; rw [HE.out, HE2.out], by simp; omega, HW⟩
              case measure => simp [intOf]; omega
            · have z1 : ¬ z = 34 := fun e => c1 (UInt8.toNat_inj.1 (by have := HZ.out.symm.trans e; show c.toNat = 34; omega))
              have z1' : (z == 34) = false := by simpa using z1
              by_cases c2 : c = 92
              · have z2 : z = 92 := by rw [HZ.out, c2]; rfl
                have HE2 : Hid (esc c = [92, 92]) := by unfold Hid; rw [c2]; rfl
                clear c1 c2 z1 z1'
                go_wp2
                go_roundw
                case rel => exact ⟨j + 1, L ++ [92, 92], by omega, by go_num, by (try simp only [ba]); exact str_eq (by simp), by unfold Hid; rw [HE.out, HE2.out], by simp; omega, HW⟩
                case measure => simp [intOf]; omega
              · have z2 : ¬ z = 92 := fun e => c2 (UInt8.toNat_inj.1 (by have := HZ.out.symm.trans e; show c.toNat = 92; omega))
                have z2' : (z == 92) = false := by simpa using z2
                by_cases c3 : 32 ≤ c.toNat ∧ c.toNat ≤ 126
                · have z3 : 32 ≤ z := by rw [HZ.out]; omega
                  have z4 : z ≤ 126 := by rw [HZ.out]; omega
                  have HE2 : Hid (esc c = [c]) := by unfold Hid esc; rw [if_neg c1, if_neg c2, if_pos c3]
                  have hjw : IntKind.i64.wrap ((j : Int) + 1) = (j : Int) + 1 := by rw [IntKind.wrap_i64]; omega
                  have hsl : ∀ u, (Instr.slice 9 (.string (ba s)) (some (.int .i64 (j : Int))) (some (.int .i64 ((j : Int) + 1))) none).run Tryz.prog u = .ok (.string (ba [c])) u := fun u => by
                    rw [run_slice_string u 9 (ba s) .i64 .i64 (j : Int) ((j : Int) + 1) Tryz.underlying9 (by omega) (by omega) (by rw [hsz]; omega)]
                    rw [show ((j : Int)).toNat = j by omega, show ((j : Int) + 1).toNat = j + 1 by omega, HSL.out]
                  have hc1 : (ba [c]).size = 1 := rfl
                  clear c1 c2 c3
                  go_wp2
                  go_roundw
                  case rel => exact ⟨j + 1, L ++ [c], by omega, by go_num, by (try simp only [ba]); exact str_eq (by simp), by unfold Hid; rw [HE.out, HE2.out], by simp; omega, HW⟩
                  case measure => simp [intOf]; omega
                · have HE2 : Hid (esc c = 92 :: 120 :: hxB c) := by unfold Hid esc; rw [if_neg c1, if_neg c2, if_neg c3]
                  have HC : Hid (∀ u, Calls Tryz.prog 32 #[.int .u8 z] u fun e w' => e = .returned (.string (ba (hxB c))) ∧ Below u.heap.size u w') := by
                    unfold Hid
                    rw [HZ.out]
                    exact rhexOf c
                  have hxl : (hxB c).length = 2 := rfl
                  generalize hxB c = hx at *
                  have hxs : (ba hx).size = hx.length := rfl
                  have hcase : z < 32 ∨ 126 < z := by rw [HZ.out]; omega
                  clear c1 c2 c3
                  rcases hcase with z3 | z3
                  · go_wp2_with fail
                    refine (HC.out _).mono ?_
                    rintro e w1 ⟨rfl, hb⟩
                    have HW1 : Hid (Below w.heap.size w w1) := below_on HW.out hb
                    go_wp2
                    go_roundw
                    case rel => exact ⟨j + 1, L ++ (92 :: 120 :: hx), by omega, by go_num, by (try simp only [ba]); exact str_eq (by simp), by unfold Hid; rw [HE.out, HE2.out], by simp; omega, HW1⟩
                    case measure => simp [intOf]; omega
                  · have z4 : 32 ≤ z := by omega
                    go_wp2_with fail
                    refine (HC.out _).mono ?_
                    rintro e w1 ⟨rfl, hb⟩
                    have HW1 : Hid (Below w.heap.size w w1) := below_on HW.out hb
                    go_wp2
                    go_roundw
                    case rel => exact ⟨j + 1, L ++ (92 :: 120 :: hx), by omega, by go_num, by (try simp only [ba]); exact str_eq (by simp), by unfold Hid; rw [HE.out, HE2.out], by simp; omega, HW1⟩
                    case measure => simp [intOf]; omega
          · have hji : ¬ (j : Int) < (s.length : Int) := by omega
            have HL2 : Hid (L = 34 :: s.flatMap esc) := by
              unfold Hid
              rw [HL.out, show j = s.length by omega, List.take_length]
            clear HL
            go_wp2
            go_ret
            refine ⟨congrArg Ending.returned (str_eq ?_), HW.out⟩
            rw [HT3.out, HL2.out]
            simp
end Go.Proofs.YtlnppgjppfkocaaGreatDoor.Xs
