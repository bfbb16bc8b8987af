import Derived.Test.YtlnppgjppfkocaaDoorXsF
import Derived.ChangeMaps5
/-! Lines: the document's hex, plain. -/
namespace Go.Proofs.YtlnppgjppfkocaaDoor.Xs
open Go.RowKit
set_option linter.unusedVariables false
set_option linter.unusedSimpArgs false

theorem drewN_bel (w : World) (n : Nat) : Below w.heap.size w (w.drewN n) := ⟨rfl, rfl, rfl, Nat.le_refl _, fun _ _ => rfl⟩
def hexAll : By := [48, 49, 50, 51, 52, 53, 54, 55, 56, 57, 97, 98, 99, 100, 101, 102]
theorem hex_at : ∀ k : Fin 16, (ba hexAll).extract k.val (k.val + 1) = ba [hxD k.val] := by decide +kernel

set_option maxHeartbeats 2000000 in
set_option maxRecDepth 100000 in
theorem rhexOf (c : UInt8) (w : World) :
    Calls Tryd.prog 27 #[.int .u8 (c.toNat : Int)] w fun e w' => e = .returned (.string (ba (hxB c))) ∧ Below w.heap.size w w' := by
  have hc := c.toNat_lt
  have e1 := hex_at ⟨c.toNat / 16, by omega⟩
  have e2 := hex_at ⟨c.toNat % 16, by omega⟩
  have HB : Hid (hxB c = [hxD (c.toNat / 16), hxD (c.toNat % 16)]) := rfl
  simp only at e1 e2
  generalize hxB c = H at HB ⊢
  generalize hxD (c.toNat / 16) = d1 at *
  generalize hxD (c.toNat % 16) = d2 at *
  generalize c.toNat = n at *
  obtain ⟨a, ha⟩ : ∃ a, n / 16 = a := ⟨_, rfl⟩
  obtain ⟨b, hb⟩ : ∃ b, n % 16 = b := ⟨_, rfl⟩
  rw [ha] at e1
  rw [hb] at e2
  have hai : (n : Int) / 16 = (a : Int) := by omega
  have hbi : (n : Int) % 16 = (b : Int) := by omega
  have ha16 : a < 16 := by omega
  have hb16 : b < 16 := by omega
  clear ha hb
  go_enter Tryd.func27, Tryd.ntmps27
  have hwa : IntKind.u8.wrap (a : Int) = (a : Int) := by rw [IntKind.wrap_u8]; omega
  have hwb : IntKind.u8.wrap (b : Int) = (b : Int) := by rw [IntKind.wrap_u8]; omega
  have hwa1 : IntKind.u8.wrap ((a : Int) + 1) = (a : Int) + 1 := by rw [IntKind.wrap_u8]; omega
  have hwb1 : IntKind.u8.wrap ((b : Int) + 1) = (b : Int) + 1 := by rw [IntKind.wrap_u8]; omega
  have hta : (n : Int).tdiv 16 = (a : Int) := by rw [Int.tdiv_eq_ediv_of_nonneg (by omega)]; omega
  have htb : (n : Int).tmod 16 = (b : Int) := by rw [Int.tmod_eq_emod_of_nonneg (by omega)]; omega
  have hS : ∀ (k : Nat) (d : UInt8), k < 16 → (ba hexAll).extract k (k + 1) = ba [d] → ∀ u, (Instr.slice 9 (.string (ba hexAll)) (some (.int .u8 (k : Int))) (some (.int .u8 ((k : Int) + 1))) none).run Tryd.prog u = .ok (.string (ba [d])) u := fun k d hk e u => by
    rw [run_slice_string u 9 (ba hexAll) .u8 .u8 (k : Int) ((k : Int) + 1) Tryd.underlying9 (by omega) (by omega) (by rw [ba_size]; show _ ≤ ((16 : Nat) : Int); omega)]
    rw [show ((k : Int)).toNat = k by omega, show ((k : Int) + 1).toNat = k + 1 by omega, e]
  have s1 := hS a d1 ha16 e1
  have s2 := hS b d2 hb16 e2
  have z1 : (⟨#[d1]⟩ : ByteArray).size = 1 := rfl
  have z2 : (⟨#[d2]⟩ : ByteArray).size = 1 := rfl
  simp only [ba, hexAll] at s1 s2
  clear hS e1 e2
  go_wp2
  go_quiet (fail)
  go_wp2
  go_ret
  rw [HB.out]
  exact ⟨congrArg Ending.returned (str_eq (by simp)), drewN_bel _ _⟩

set_option maxHeartbeats 4000000 in
set_option maxRecDepth 100000 in
theorem rplainOf (c : UInt8) (w : World) :
    Calls Tryd.prog 26 #[.int .u8 (c.toNat : Int)] w fun e w' => e = .returned (.bool (plB c)) ∧ w' = w := by
  have hc := c.toNat_lt
  have HP : Hid (plB c = ((decide (97 ≤ c.toNat) && decide (c.toNat ≤ 122)) || (decide (65 ≤ c.toNat) && decide (c.toNat ≤ 90)) || (decide (48 ≤ c.toNat) && decide (c.toNat ≤ 57)) || decide (c.toNat = 46) || decide (c.toNat = 95) || decide (c.toNat = 45))) := rfl
  generalize plB c = b at *
  generalize c.toNat = n at *
  go_enter Tryd.func26, Tryd.ntmps26
  go_wp2
  all_goals
    go_ret
    refine ⟨?_, rfl⟩
    rw [HP.out]
    refine congrArg (fun b => Ending.returned (Value.bool b)) ?_
    rw [Bool.eq_iff_iff]
    simp <;> omega
end Go.Proofs.YtlnppgjppfkocaaDoor.Xs
