import Derived.Test.YtlnppgjppfkocaaGreatDoorGq29
import Derived.Test.YtlnppgjppfkocaaGreatDoorGq21
import Derived.Test.YtlnppgjppfkocaaGreatDoorGq16
import Derived.Test.YtlnppgjppfkocaaGreatDoorGq06
import Derived.Test.YtlnppgjppfkocaaGreatDoorGq14
import Derived.Lib.LaidTab
import Derived.OpenShut
import Derived.ProofKit
import Derived.ChangeSame
import Derived.ChangeBears2
import Derived.Deep.Strs
import Derived.BigQuiet
/-! The program's looking up of words. -/
namespace Go.Proofs.YtlnppgjppfkocaaGreatDoor.Xs
open Go.RowKit Plain
set_option linter.unusedVariables false
set_option linter.unusedSimpArgs false

theorem closOf (v : Vr) (B : Nat) (x : By) (w : World) (hB : w.cell? ⟨B, 0, none⟩ = some (.string (ba x))) :
    Calls Tryz.prog 47 #[vrV v, .pointer (some ⟨B, 0, none⟩)] w fun e w' => e = .returned (.bool (v.word == x)) ∧ Below w.heap.size w w' := by
  have hbl := cell_lt hB
  simp only at hbl
  go_enter Tryz.func47, Tryz.ntmps47
  go_wp2
  go_ret
  exact ⟨rfl, (Below.refl _ w).alloc (Nat.le_refl _) _⟩
theorem vr_word (k : Nat) (hk : k < 11) : (vrL.getD k Vr.zero).word = verbT k := by
  have key : ∀ i : Fin 11, (vrL.getD i.val Vr.zero).word = verbT (i.val : Int) := by decide +kernel
  exact key ⟨k, hk⟩
theorem VbF.now {x : By} {k : Nat} (hk : k < 11) (e : verbT k = x) : VbF x 11 k :=
  ⟨by omega, by omega, fun j h2 e2 => by
    have := verb_inj (v := (k : Int)) (u := (j : Int)) (by omega) (by omega) (by omega) (by omega) (e.trans e2.symm); omega⟩
set_option maxHeartbeats 4000000 in
theorem indexFuncOf (b B : Nat) (x : By) (w : World) (hv : VbsAt w b) (hB : w.cell? ⟨B, 0, none⟩ = some (.string (ba x))) :
    Calls Tryz.prog 46 #[.slice (some ⟨b, 0, none⟩) 11 11, .func (.func 47) #[] #[.pointer (some ⟨B, 0, none⟩)]] w fun e w' => (∃ n : Int, e = .returned (.int .i64 n) ∧ VbF x 11 n) ∧ Below w.heap.size w w' := by
  have hbl := cell_lt hB
  simp only at hbl
  have HV := mkW hv
  go_enter Tryz.func46, Tryz.ntmps46
  go_wp2
  go_loopw [8] (fun i wl => ∃ k : Nat, i = .int .i64 k ∧ k ≤ 11 ∧ Hid (VbF x k (-1)) ∧ Hid (Below w.heap.size w wl)) (fun i _ => 11 - (intOf i).toNat)
  case atStart => exact ⟨0, rfl, Nat.zero_le _, VbF.start x, Below.refl _ _⟩
  case round =>
    obtain ⟨k, rfl, hk, HF, HB⟩ := hrel
    by_cases hkn : k < 11
    · have hki : (k : Int) < 11 := by omega
      have hw := vr_word k hkn
      obtain ⟨v, hvr⟩ : ∃ v, vrL.getD k Vr.zero = v := ⟨_, rfl⟩
      have hx := (HV.out.later HB.out) k hkn
      rw [hvr] at hx hw
      obtain ⟨c0, c1, c2, c3, c4, c5⟩ := hx
      have HW := mkW hw
      have hB2 := (HB.out.cell hbl).trans hB
      have HC : Hid (Calls Tryz.prog 47 #[vrV v, .pointer (some ⟨B, 0, none⟩)] wr fun e w' => e = .returned (.bool (v.word == x)) ∧ Below wr.heap.size wr w') := closOf v B x wr hB2
      clear hw hvr hB2
      cases he : (v.word == x) with
      | true =>
        have HN : Hid (VbF x 11 k) := VbF.now hkn (by rw [← HW.out]; exact beq_iff_eq.1 he)
        rw [he] at HC
        clear he
        go_wp2_with (go_at_call 47; refine HC.out.mono ?_; rintro e w1 ⟨rfl, hb1⟩)
        go_ret
        exact ⟨⟨k, rfl, HN.out⟩, below_on HB.out hb1⟩
      | false =>
        have HN : Hid (VbF x (k + 1) (-1)) := HF.out.miss (by rw [← HW.out]; exact beq_eq_false_iff_ne.1 he)
        rw [he] at HC
        clear he
        go_wp2_with (go_at_call 47; refine HC.out.mono ?_; rintro e w1 ⟨rfl, hb1⟩)
        have HB1 := mkW (below_on HB.out hb1)
        clear hb1
        go_wp2
        go_roundw
        case rel => exact ⟨k + 1, by go_num, by omega, HN, HB1⟩
        case measure => simp [intOf]; omega
    · have hkk : k = 11 := by omega
      subst hkk
      go_wp2
      go_ret
      exact ⟨⟨-1, rfl, HF.out⟩, HB.out⟩
/-- Where a word stands in a row of words. -/
def IdxP (l : List By) (x : By) (n : Int) : Prop := (n = -1 ∧ x ∉ l) ∨ (0 ≤ n ∧ n.toNat < l.length ∧ l.getD n.toNat [] = x)
set_option maxHeartbeats 4000000 in
theorem sIndexOf (l : List By) (v : Value) (x : By) (w : World) (hv : NmsAt w v l) (hl : l.length ≤ 1000) :
    Calls Tryz.prog 100 #[v, .string (ba x)] w fun e w' => (∃ n : Int, e = .returned (.int .i64 n) ∧ IdxP l x n) ∧ w' = w := by
  obtain ⟨a, cap, rfl, hc1, hc2, hc3, hc4⟩ := hv
  have HC := mkW hc4
  clear hc3 hc4
  obtain ⟨n0, hn0⟩ : ∃ n, l.length = n := ⟨_, rfl⟩
  have HN0 := mkW hn0
  rw [hn0] at hc1 hc2 hl ⊢
  clear hn0
  go_enter Tryz.func100, Tryz.ntmps100
  go_wp2
  go_loop [8] (fun i => ∃ k : Nat, i = .int .i64 k ∧ k ≤ n0 ∧ Hid (∀ j, j < k → l.getD j [] ≠ x)) (fun i => n0 - (intOf i).toNat)
  case atStart => exact ⟨0, rfl, Nat.zero_le _, fun j h => absurd h (Nat.not_lt_zero _)⟩
  case round =>
    obtain ⟨k, rfl, hk, HF⟩ := hrel
    by_cases hkn : k < n0
    · have hki : (k : Int) < (n0 : Int) := by omega
      have hkl : k < l.length := by rw [HN0.out]; exact hkn
      obtain ⟨b, off, rfl, hcell⟩ := HC.out (fun e => by rw [e] at hkl; cases hkl)
      have hc := hcell k hkl
      have HKL := mkW hkl
      clear hcell hkl
      obtain ⟨y, hy⟩ : ∃ y, l.getD k [] = y := ⟨_, rfl⟩
      have HY := mkW hy
      rw [hy] at hc
      clear hy
      cases he : (x == y) with
      | true =>
        have HE := mkW (beq_iff_eq.1 he)
        go_wp2
        go_ret
        exact ⟨⟨k, rfl, .inr ⟨by omega, by rw [Int.toNat_natCast]; exact HKL.out, by rw [Int.toNat_natCast, HY.out]; exact HE.out.symm⟩⟩, rfl⟩
      | false =>
        have HE := mkW (beq_eq_false_iff_ne.1 he)
        have HN : Hid (∀ j, j < k + 1 → l.getD j [] ≠ x) := fun j hj => by
          by_cases e : j = k
          · rw [e, HY.out]; exact fun e2 => HE.out e2.symm
          · exact HF.out j (by omega)
        go_wp2
        go_round
        case rel => exact ⟨k + 1, by go_num, by omega, HN⟩
        case measure => simp [intOf]; omega
    · have hkk : k = n0 := by omega
      subst hkk
      have HN : Hid (x ∉ l) := fun hm => by
        obtain ⟨j, hj, e⟩ := List.mem_iff_getElem.1 hm
        exact HF.out j (by rw [← HN0.out]; exact hj) (by rw [List.getD_eq_getElem?_getD, List.getElem?_eq_getElem hj]; exact e)
      go_wp2
      go_ret
      exact ⟨⟨-1, rfl, .inl ⟨rfl, HN.out⟩⟩, rfl⟩
end Go.Proofs.YtlnppgjppfkocaaGreatDoor.Xs

/-! The program's table of operations; operationOf, asks. -/
namespace Go.Proofs.YtlnppgjppfkocaaGreatDoor.Xs
open Go.RowKit Go.ChangeShapes Go.ChangeAt
set_option linter.unusedVariables false
set_option linter.unusedSimpArgs false

def useN : List Int := [0, 0, 17, 1, 2, 103, 99, 3, 9, 3, 9, 16, 2, 27, 3, 1]
def opsD {H : Type} : DataW H := .agg ((List.range 16).map fun i => .agg [.lit (.bool (decide (1 ≤ i))), .lit (.int .i64 (useN.getD i 0))])
/-- The table of operations lies in its variable. -/
def OpsAt (w : World) : Prop := ∀ i, i < 16 → w.cell? ⟨0, 2 * i, none⟩ = some (.bool (decide (1 ≤ i))) ∧ w.cell? ⟨0, 2 * i + 1, none⟩ = some (.int .i64 (useN.getD i 0))
theorem OpsAt.later {w w' : World} (h : OpsAt w) (hb : Below w.heap.size w w') : OpsAt w' := fun i hi =>
  ⟨(hb.cell (cell_lt (h i hi).1)).trans (h i hi).1, (hb.cell (cell_lt (h i hi).2)).trans (h i hi).2⟩
theorem ops_of {W : World} {rest : List (String × DataW Unit)} (h : laidMet Tryz.prog (("chronicle/wire.operations", opsD) :: rest) W) : OpsAt W := by
  obtain ⟨ps, ⟨g', t', cs, fuel, p, q, hg', ht', hvar, hd, _, _⟩, _⟩ := h
  have hg : Tryz.prog.globalNamed "chronicle/wire.operations" = some 0 := by kernel_rfl
  have hty : (Tryz.prog.globals[0]?).map (·.type) = some 126 := by kernel_rfl
  have c65 : Tryz.prog.cellsOf 92 = 2 := by kernel_rfl
  obtain rfl := Option.some.inj (hg.symm.trans hg')
  obtain rfl := Option.some.inj (hty.symm.trans ht')
  obtain ⟨xs, m, _, hx, hl, hlen, hfs⟩ := DataW.trod_array Tryz.underlying126 hd
  intro i hi
  have hxs : xs.map (·.1) = (List.range 16).map fun i => (DataW.agg [.lit (.bool (decide (1 ≤ i))), .lit (.int .i64 (useN.getD i 0))] : DataW Unit) := by
    have := congrArg Prod.fst hx
    simpa [opsD] using this.symm
  have hi' : i < xs.length := by omega
  have h1 := hfs i hi
  rw [List.getElem?_eq_getElem hi'] at h1
  obtain ⟨y0, y1, n, hy, _, k0, k1⟩ := trod_struct2 Tryz.underlying92 h1
  obtain ⟨b, e0, f0⟩ := DataW.trod_bool Tryz.underlying4 k0
  obtain ⟨z, e1, f1, _⟩ := DataW.trod_int Tryz.underlying3 k1
  have c4 : Tryz.prog.cellsOf 4 = 1 := by kernel_rfl
  have c3 : Tryz.prog.cellsOf 3 = 1 := by kernel_rfl
  rw [c65] at e0 e1
  simp only [c4, c3] at e0 e1
  have h2 := congrArg (·[i]?) hxs
  simp only [List.getElem?_map, List.getElem?_eq_getElem hi', hy, f0, f1, List.getElem?_range hi, Option.map_some, Option.some.injEq, DataW.agg.injEq, List.cons.injEq, DataW.lit.injEq, Lit.bool.injEq, Lit.int.injEq, and_true, true_and] at h2
  obtain ⟨rfl, rfl⟩ := h2
  have q0 := World.var?_cell hg hvar (2 * i)
  have q1 := World.var?_cell hg hvar (2 * i + 1)
  rw [q0, q1]
  have g0 := congrArg (·[0]?) e0
  have g1 := congrArg (·[0]?) e1
  simp only [List.getElem?_take, List.getElem?_drop, List.getElem?_cons_zero, Nat.zero_lt_one, if_true, Nat.add_zero, Nat.zero_add] at g0 g1
  refine ⟨?_, ?_⟩
  · simpa [Nat.mul_comm] using g0
  · simpa [Nat.mul_comm] using g1
def useI (op : Int) : Int := if 1 ≤ op ∧ op ≤ 15 then useN.getD op.toNat 0 else 0
abbrev opV (op : Int) : Value := .agg #[.bool (decide (1 ≤ op ∧ op ≤ 15)), .int .i64 (useI op)]
set_option maxHeartbeats 8000000 in
set_option maxRecDepth 100000 in
theorem wopOf (op : Int) (w : World) (h : OpsAt w) :
    Calls Tryz.prog 76 #[.int .i64 op] w fun e w' => e = .returned (opV op) ∧ Below w.heap.size w w' := by
  by_cases h0 : op < 0
  · have e1 : useI op = 0 := by unfold useI; rw [if_neg (by omega)]
    have e2 : decide (1 ≤ op ∧ op ≤ 15) = false := by simp; omega
    unfold opV
    rw [e1, e2]
    clear e1 e2 h
    go_enter Tryz.func76, Tryz.ntmps76
    go_wp2
    refine bodyPost_ret (v := .agg #[.bool false, .int .i64 0]) ?hres rfl ?_
    case hres =>
      rw [results_cell1 rfl]
      go_simp
    exact ⟨rfl, (Below.refl _ _).alloc (Nat.le_refl _) _⟩
  · by_cases h1 : 16 ≤ op
    · have e1 : useI op = 0 := by unfold useI; rw [if_neg (by omega)]
      have e2 : decide (1 ≤ op ∧ op ≤ 15) = false := by simp; omega
      unfold opV
      rw [e1, e2]
      clear e1 e2 h
      go_enter Tryz.func76, Tryz.ntmps76
      go_wp2
      refine bodyPost_ret (v := .agg #[.bool false, .int .i64 0]) ?hres rfl ?_
      case hres =>
        rw [results_cell1 rfl]
        go_simp
      exact ⟨rfl, (Below.refl _ _).alloc (Nat.le_refl _) _⟩
    · have hcases : op = 0 ∨ op = 1 ∨ op = 2 ∨ op = 3 ∨ op = 4 ∨ op = 5 ∨ op = 6 ∨ op = 7 ∨ op = 8 ∨ op = 9 ∨ op = 10 ∨ op = 11 ∨ op = 12 ∨ op = 13 ∨ op = 14 ∨ op = 15 := by omega
      clear h0 h1
      obtain ⟨c0, c1⟩ := h op.toNat (by omega)
      have hlt := cell_lt c0
      clear h
      rcases hcases with rfl | rfl | rfl | rfl | rfl | rfl | rfl | rfl | rfl | rfl | rfl | rfl | rfl | rfl | rfl | rfl
      · have d0 : w.cell? ⟨0, 0, none⟩ = some (.bool false) := c0
        have d1 : w.cell? ⟨0, 1, none⟩ = some (.int .i64 0) := c1
        have hlt' : 0 < w.heap.size := hlt
        have e1 : opV 0 = .agg #[.bool false, .int .i64 0] := rfl
        rw [e1]
        clear c0 c1 hlt e1
        go_enter Tryz.func76, Tryz.ntmps76
        go_wp2
        refine bodyPost_ret (v := .agg #[.bool false, .int .i64 0]) ?hres rfl ?_
        case hres =>
          rw [results_cell1 rfl]
          go_simp
        exact ⟨rfl, (Below.refl _ _).alloc (Nat.le_refl _) _⟩
      · have d0 : w.cell? ⟨0, 2, none⟩ = some (.bool true) := c0
        have d1 : w.cell? ⟨0, 3, none⟩ = some (.int .i64 0) := c1
        have hlt' : 0 < w.heap.size := hlt
        have e1 : opV 1 = .agg #[.bool true, .int .i64 0] := rfl
        rw [e1]
        clear c0 c1 hlt e1
        go_enter Tryz.func76, Tryz.ntmps76
        go_wp2
        refine bodyPost_ret (v := .agg #[.bool true, .int .i64 0]) ?hres rfl ?_
        case hres =>
          rw [results_cell1 rfl]
          go_simp
        exact ⟨rfl, (Below.refl _ _).alloc (Nat.le_refl _) _⟩
      · have d0 : w.cell? ⟨0, 4, none⟩ = some (.bool true) := c0
        have d1 : w.cell? ⟨0, 5, none⟩ = some (.int .i64 17) := c1
        have hlt' : 0 < w.heap.size := hlt
        have e1 : opV 2 = .agg #[.bool true, .int .i64 17] := rfl
        rw [e1]
        clear c0 c1 hlt e1
        go_enter Tryz.func76, Tryz.ntmps76
        go_wp2
        refine bodyPost_ret (v := .agg #[.bool true, .int .i64 17]) ?hres rfl ?_
        case hres =>
          rw [results_cell1 rfl]
          go_simp
        exact ⟨rfl, (Below.refl _ _).alloc (Nat.le_refl _) _⟩
      · have d0 : w.cell? ⟨0, 6, none⟩ = some (.bool true) := c0
        have d1 : w.cell? ⟨0, 7, none⟩ = some (.int .i64 1) := c1
        have hlt' : 0 < w.heap.size := hlt
        have e1 : opV 3 = .agg #[.bool true, .int .i64 1] := rfl
        rw [e1]
        clear c0 c1 hlt e1
        go_enter Tryz.func76, Tryz.ntmps76
        go_wp2
        refine bodyPost_ret (v := .agg #[.bool true, .int .i64 1]) ?hres rfl ?_
        case hres =>
          rw [results_cell1 rfl]
          go_simp
        exact ⟨rfl, (Below.refl _ _).alloc (Nat.le_refl _) _⟩
      · have d0 : w.cell? ⟨0, 8, none⟩ = some (.bool true) := c0
        have d1 : w.cell? ⟨0, 9, none⟩ = some (.int .i64 2) := c1
        have hlt' : 0 < w.heap.size := hlt
        have e1 : opV 4 = .agg #[.bool true, .int .i64 2] := rfl
        rw [e1]
        clear c0 c1 hlt e1
        go_enter Tryz.func76, Tryz.ntmps76
        go_wp2
        refine bodyPost_ret (v := .agg #[.bool true, .int .i64 2]) ?hres rfl ?_
        case hres =>
          rw [results_cell1 rfl]
          go_simp
        exact ⟨rfl, (Below.refl _ _).alloc (Nat.le_refl _) _⟩
      · have d0 : w.cell? ⟨0, 10, none⟩ = some (.bool true) := c0
        have d1 : w.cell? ⟨0, 11, none⟩ = some (.int .i64 103) := c1
        have hlt' : 0 < w.heap.size := hlt
        have e1 : opV 5 = .agg #[.bool true, .int .i64 103] := rfl
        rw [e1]
        clear c0 c1 hlt e1
        go_enter Tryz.func76, Tryz.ntmps76
        go_wp2
        refine bodyPost_ret (v := .agg #[.bool true, .int .i64 103]) ?hres rfl ?_
        case hres =>
          rw [results_cell1 rfl]
          go_simp
        exact ⟨rfl, (Below.refl _ _).alloc (Nat.le_refl _) _⟩
      · have d0 : w.cell? ⟨0, 12, none⟩ = some (.bool true) := c0
        have d1 : w.cell? ⟨0, 13, none⟩ = some (.int .i64 99) := c1
        have hlt' : 0 < w.heap.size := hlt
        have e1 : opV 6 = .agg #[.bool true, .int .i64 99] := rfl
        rw [e1]
        clear c0 c1 hlt e1
        go_enter Tryz.func76, Tryz.ntmps76
        go_wp2
        refine bodyPost_ret (v := .agg #[.bool true, .int .i64 99]) ?hres rfl ?_
        case hres =>
          rw [results_cell1 rfl]
          go_simp
        exact ⟨rfl, (Below.refl _ _).alloc (Nat.le_refl _) _⟩
      · have d0 : w.cell? ⟨0, 14, none⟩ = some (.bool true) := c0
        have d1 : w.cell? ⟨0, 15, none⟩ = some (.int .i64 3) := c1
        have hlt' : 0 < w.heap.size := hlt
        have e1 : opV 7 = .agg #[.bool true, .int .i64 3] := rfl
        rw [e1]
        clear c0 c1 hlt e1
        go_enter Tryz.func76, Tryz.ntmps76
        go_wp2
        refine bodyPost_ret (v := .agg #[.bool true, .int .i64 3]) ?hres rfl ?_
        case hres =>
          rw [results_cell1 rfl]
          go_simp
        exact ⟨rfl, (Below.refl _ _).alloc (Nat.le_refl _) _⟩
      · have d0 : w.cell? ⟨0, 16, none⟩ = some (.bool true) := c0
        have d1 : w.cell? ⟨0, 17, none⟩ = some (.int .i64 9) := c1
        have hlt' : 0 < w.heap.size := hlt
        have e1 : opV 8 = .agg #[.bool true, .int .i64 9] := rfl
        rw [e1]
        clear c0 c1 hlt e1
        go_enter Tryz.func76, Tryz.ntmps76
        go_wp2
        refine bodyPost_ret (v := .agg #[.bool true, .int .i64 9]) ?hres rfl ?_
        case hres =>
          rw [results_cell1 rfl]
          go_simp
        exact ⟨rfl, (Below.refl _ _).alloc (Nat.le_refl _) _⟩
      · have d0 : w.cell? ⟨0, 18, none⟩ = some (.bool true) := c0
        have d1 : w.cell? ⟨0, 19, none⟩ = some (.int .i64 3) := c1
        have hlt' : 0 < w.heap.size := hlt
        have e1 : opV 9 = .agg #[.bool true, .int .i64 3] := rfl
        rw [e1]
        clear c0 c1 hlt e1
        go_enter Tryz.func76, Tryz.ntmps76
        go_wp2
        refine bodyPost_ret (v := .agg #[.bool true, .int .i64 3]) ?hres rfl ?_
        case hres =>
          rw [results_cell1 rfl]
          go_simp
        exact ⟨rfl, (Below.refl _ _).alloc (Nat.le_refl _) _⟩
      · have d0 : w.cell? ⟨0, 20, none⟩ = some (.bool true) := c0
        have d1 : w.cell? ⟨0, 21, none⟩ = some (.int .i64 9) := c1
        have hlt' : 0 < w.heap.size := hlt
        have e1 : opV 10 = .agg #[.bool true, .int .i64 9] := rfl
        rw [e1]
        clear c0 c1 hlt e1
        go_enter Tryz.func76, Tryz.ntmps76
        go_wp2
        refine bodyPost_ret (v := .agg #[.bool true, .int .i64 9]) ?hres rfl ?_
        case hres =>
          rw [results_cell1 rfl]
          go_simp
        exact ⟨rfl, (Below.refl _ _).alloc (Nat.le_refl _) _⟩
      · have d0 : w.cell? ⟨0, 22, none⟩ = some (.bool true) := c0
        have d1 : w.cell? ⟨0, 23, none⟩ = some (.int .i64 16) := c1
        have hlt' : 0 < w.heap.size := hlt
        have e1 : opV 11 = .agg #[.bool true, .int .i64 16] := rfl
        rw [e1]
        clear c0 c1 hlt e1
        go_enter Tryz.func76, Tryz.ntmps76
        go_wp2
        refine bodyPost_ret (v := .agg #[.bool true, .int .i64 16]) ?hres rfl ?_
        case hres =>
          rw [results_cell1 rfl]
          go_simp
        exact ⟨rfl, (Below.refl _ _).alloc (Nat.le_refl _) _⟩
      · have d0 : w.cell? ⟨0, 24, none⟩ = some (.bool true) := c0
        have d1 : w.cell? ⟨0, 25, none⟩ = some (.int .i64 2) := c1
        have hlt' : 0 < w.heap.size := hlt
        have e1 : opV 12 = .agg #[.bool true, .int .i64 2] := rfl
        rw [e1]
        clear c0 c1 hlt e1
        go_enter Tryz.func76, Tryz.ntmps76
        go_wp2
        refine bodyPost_ret (v := .agg #[.bool true, .int .i64 2]) ?hres rfl ?_
        case hres =>
          rw [results_cell1 rfl]
          go_simp
        exact ⟨rfl, (Below.refl _ _).alloc (Nat.le_refl _) _⟩
      · have d0 : w.cell? ⟨0, 26, none⟩ = some (.bool true) := c0
        have d1 : w.cell? ⟨0, 27, none⟩ = some (.int .i64 27) := c1
        have hlt' : 0 < w.heap.size := hlt
        have e1 : opV 13 = .agg #[.bool true, .int .i64 27] := rfl
        rw [e1]
        clear c0 c1 hlt e1
        go_enter Tryz.func76, Tryz.ntmps76
        go_wp2
        refine bodyPost_ret (v := .agg #[.bool true, .int .i64 27]) ?hres rfl ?_
        case hres =>
          rw [results_cell1 rfl]
          go_simp
        exact ⟨rfl, (Below.refl _ _).alloc (Nat.le_refl _) _⟩
      · have d0 : w.cell? ⟨0, 28, none⟩ = some (.bool true) := c0
        have d1 : w.cell? ⟨0, 29, none⟩ = some (.int .i64 3) := c1
        have hlt' : 0 < w.heap.size := hlt
        have e1 : opV 14 = .agg #[.bool true, .int .i64 3] := rfl
        rw [e1]
        clear c0 c1 hlt e1
        go_enter Tryz.func76, Tryz.ntmps76
        go_wp2
        refine bodyPost_ret (v := .agg #[.bool true, .int .i64 3]) ?hres rfl ?_
        case hres =>
          rw [results_cell1 rfl]
          go_simp
        exact ⟨rfl, (Below.refl _ _).alloc (Nat.le_refl _) _⟩
      · have d0 : w.cell? ⟨0, 30, none⟩ = some (.bool true) := c0
        have d1 : w.cell? ⟨0, 31, none⟩ = some (.int .i64 1) := c1
        have hlt' : 0 < w.heap.size := hlt
        have e1 : opV 15 = .agg #[.bool true, .int .i64 1] := rfl
        rw [e1]
        clear c0 c1 hlt e1
        go_enter Tryz.func76, Tryz.ntmps76
        go_wp2
        refine bodyPost_ret (v := .agg #[.bool true, .int .i64 1]) ?hres rfl ?_
        case hres =>
          rw [results_cell1 rfl]
          go_simp
        exact ⟨rfl, (Below.refl _ _).alloc (Nat.le_refl _) _⟩
/-- Does an operation of these bits ask for that one? -/
def askB (u k : Int) : Bool := bits .and .i64 u k != 0
set_option maxHeartbeats 8000000 in
set_option maxRecDepth 100000 in
theorem wasksOf (b : Bool) (u k : Int) (w : World) :
    Calls Tryz.prog 105 #[.agg #[.bool b, .int .i64 u], .int .i64 k] w fun e w' => e = .returned (.bool (askB u k)) ∧ Below w.heap.size w w' := by
  obtain ⟨v, hv⟩ : ∃ v, askB u k = v := ⟨_, rfl⟩
  rw [hv]
  go_enter Tryz.func105, Tryz.ntmps105
  go_wp2
  go_ret
  refine ⟨?_, (Below.refl _ _).alloc (Nat.le_refl _) _⟩
  rw [← hv]
  rfl
theorem ask_uses (op : Int) (h1 : 1 ≤ op) (h2 : op ≤ 15) : askB (useI op) 1 = usesB op 84 ∧ askB (useI op) 2 = usesB op 75 ∧ askB (useI op) 4 = usesB op 86 ∧ askB (useI op) 8 = usesB op 79 ∧ askB (useI op) 16 = usesB op 78 ∧ askB (useI op) 32 = usesB op 80 ∧ askB (useI op) 64 = usesB op 83 := by
  have hcases : op = 1 ∨ op = 2 ∨ op = 3 ∨ op = 4 ∨ op = 5 ∨ op = 6 ∨ op = 7 ∨ op = 8 ∨ op = 9 ∨ op = 10 ∨ op = 11 ∨ op = 12 ∨ op = 13 ∨ op = 14 ∨ op = 15 := by omega
  clear h1 h2
  rcases hcases with rfl | rfl | rfl | rfl | rfl | rfl | rfl | rfl | rfl | rfl | rfl | rfl | rfl | rfl | rfl <;> (refine ⟨?_, ?_, ?_, ?_, ?_, ?_, ?_⟩ <;> decide)
end Go.Proofs.YtlnppgjppfkocaaGreatDoor.Xs

/-! The program's textsOf, numbersOf. -/
namespace Go.Proofs.YtlnppgjppfkocaaGreatDoor.Xs
open Go.RowKit
set_option linter.unusedVariables false
set_option linter.unusedSimpArgs false

def txA (g : Nat) : Array Value := #[.int .i64 1, .int .i64 24, .pointer (some ⟨g, 2, none⟩), .int .i64 2, .int .i64 64, .pointer (some ⟨g, 3, none⟩), .int .i64 4, .int .i64 1024, .pointer (some ⟨g, 4, none⟩)]
def nuA (g : Nat) : Array Value := #[.int .i64 8, .pointer (some ⟨g, 5, none⟩), .int .i64 16, .pointer (some ⟨g, 6, none⟩), .int .i64 32, .pointer (some ⟨g, 7, none⟩), .int .i64 64, .pointer (some ⟨g, 8, none⟩)]
set_option maxHeartbeats 8000000 in
set_option maxRecDepth 100000 in
theorem wtextsOf (g : Nat) (w : World) :
    Calls Tryz.prog 104 #[.pointer (some ⟨g, 0, none⟩)] w fun e w' => e = .returned (.slice (some ⟨w.heap.size, 0, none⟩) 3 3) ∧ w' = (w.alloc (.cells (txA g) 130)).drew := by
  go_enter Tryz.func104, Tryz.ntmps104
  go_wp2
  go_region
  go_wp2
  go_ret
  exact ⟨rfl, rfl⟩
set_option maxHeartbeats 8000000 in
set_option maxRecDepth 100000 in
theorem wnumbersOf (g : Nat) (w : World) :
    Calls Tryz.prog 106 #[.pointer (some ⟨g, 0, none⟩)] w fun e w' => e = .returned (.slice (some ⟨w.heap.size, 0, none⟩) 4 4) ∧ w' = (w.alloc (.cells (nuA g) 135)).drew := by
  go_enter Tryz.func106, Tryz.ntmps106
  go_wp2
  go_region
  go_wp2
  go_ret
  exact ⟨rfl, rfl⟩
end Go.Proofs.YtlnppgjppfkocaaGreatDoor.Xs
