import Derived.Test.YtjefbcphefckiacProg
import Derived.WalkKit
import Derived.WalkLawsBesides
import Derived.WalkSmall
import Derived.Laws.DeepNot64
namespace Go.Proofs.Ytjefbcphefckiac
open Go.RowKit
set_option linter.unusedVariables false

def zz (s : Int) : Int := if 0 ≤ s then 2 * s else -2 * s - 1
def unzz (u : Int) : Int := if u % 2 = 0 then u / 2 else -(u / 2) - 1

theorem unzz_zz (s : Int) : unzz (zz s) = s := by
  unfold unzz zz
  by_cases h : 0 ≤ s
  · rw [if_pos h, if_pos (by omega)]; omega
  · rw [if_neg h, if_neg (by omega)]; omega
theorem zz_unzz (u : Int) (h : 0 ≤ u) : zz (unzz u) = u := by
  unfold unzz zz
  by_cases h1 : u % 2 = 0
  · rw [if_pos h1, if_pos (by omega)]; omega
  · rw [if_neg h1, if_neg (by omega)]; omega
theorem zz_range (s : Int) (h1 : -9223372036854775808 ≤ s) (h2 : s ≤ 9223372036854775807) : 0 ≤ zz s ∧ zz s ≤ 18446744073709551615 := by
  unfold zz
  by_cases h : 0 ≤ s
  · rw [if_pos h]; omega
  · rw [if_neg h]; omega
theorem unzz_range (u : Int) (h1 : 0 ≤ u) (h2 : u ≤ 18446744073709551615) : -9223372036854775808 ≤ unzz u ∧ unzz u ≤ 9223372036854775807 := by
  unfold unzz
  by_cases h : u % 2 = 0
  · rw [if_pos h]; omega
  · rw [if_neg h]; omega

theorem xor_ones (a : Nat) (h : a < 2 ^ 64) : a ^^^ (2 ^ 64 - 1) = 2 ^ 64 - 1 - a := by
  have h1 := congrArg BitVec.toNat (BitVec.xor_allOnes (x := BitVec.ofNat 64 a))
  rw [BitVec.toNat_xor, BitVec.toNat_allOnes, BitVec.toNat_not, BitVec.toNat_ofNat, Nat.mod_eq_of_lt h] at h1
  exact h1

theorem zig_val (s : Int) (h1 : -9223372036854775808 ≤ s) (h2 : s ≤ 9223372036854775807) :
    bits .xor .u64 (IntKind.u64.wrap (wrap64 (s * 2))) (IntKind.u64.wrap (s / 9223372036854775808)) = zz s := by
  have e1 : IntKind.u64.wrap (wrap64 (s * 2)) = (((s * 2) % 18446744073709551616).toNat : Int) := by
    simp only [IntKind.wrap, IntKind.bits, IntKind.signed, wrap64]
    simp
    omega
  by_cases h : 0 ≤ s
  · have e2 : s / 9223372036854775808 = 0 := by omega
    rw [e1, e2, show IntKind.u64.wrap 0 = ((0 : Nat) : Int) from rfl, u64_xor_nat _ _ (by omega) (by omega)]
    unfold zz
    rw [if_pos h, Nat.xor_zero]
    omega
  · have e2 : s / 9223372036854775808 = -1 := by omega
    rw [e1, e2, show IntKind.u64.wrap (-1) = ((18446744073709551615 : Nat) : Int) from rfl, u64_xor_nat _ _ (by omega) (by omega)]
    have := xor_ones ((s * 2) % 18446744073709551616).toNat (by omega)
    unfold zz
    rw [if_neg h, this]
    omega

theorem ret_k {k : IntKind} {a b : Int} (h : a = b) : Ending.returned (.int k a) = .returned (.int k b) := by rw [h]



theorem i64_xor_zero (a : Nat) (h : a < 9223372036854775808) : bits .xor .i64 (a : Int) 0 = (a : Int) := by
  have e : bits .xor .i64 (a : Int) 0 = IntKind.i64.wrap ((BitVec.ofInt 64 (a : Int) ^^^ 0#64).toNat : Nat) := rfl
  rw [e, BitVec.xor_zero]
  simp only [IntKind.wrap, IntKind.bits, IntKind.signed]
  simp
  omega

theorem i64_xor_ones (a : Nat) (h : a < 9223372036854775808) : bits .xor .i64 (a : Int) (-1) = -1 - (a : Int) := by
  rw [← i64_not a h]
  simp only [bits]
  rw [BitVec.xor_comm]

theorem unzigzag (u : Int) (w : World) (h1 : 0 ≤ u) (h2 : u ≤ 18446744073709551615) :
    Calls Try.prog 53 #[.int .u64 u] w fun e w' => e = .returned (.int .i64 (unzz u)) ∧ w' = w := by
  have ha := and_one_u64 u h1 h2
  obtain ⟨a, hA⟩ : ∃ a : Nat, u / 2 = (a : Int) := ⟨(u / 2).toNat, by omega⟩
  by_cases h : u % 2 = 0
  · rw [h] at ha
    have HV : Hid (unzz u = u / 2) := by unfold Hid unzz; rw [if_pos h]
    have hx : bits .xor .i64 (u / 2) 0 = u / 2 := by rw [hA]; exact i64_xor_zero a (by omega)
    clear h hA
    go_enter Try.func53, Try.ntmps53
    go_wp2
    go_ret
    exact ⟨ret_k (by rw [HV.out]), rfl⟩
  · rw [show u % 2 = 1 by omega] at ha
    have HV : Hid (unzz u = -(u / 2) - 1) := by unfold Hid unzz; rw [if_neg h]
    have hx : bits .xor .i64 (u / 2) (-1) = -1 - u / 2 := by rw [hA]; exact i64_xor_ones a (by omega)
    clear h hA
    go_enter Try.func53, Try.ntmps53
    go_wp2
    go_ret
    exact ⟨ret_k (by rw [HV.out]; omega), rfl⟩
end Go.Proofs.Ytjefbcphefckiac
