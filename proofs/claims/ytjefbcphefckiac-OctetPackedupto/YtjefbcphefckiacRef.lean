import Derived.Test.YtjefbcphefckiacUv
import Derived.Test.YtjefbcphefckiacZz
namespace Go.Proofs.Ytjefbcphefckiac
open Go.RowKit Plain
set_option linter.unusedVariables false



theorem refUnzigzag (u : Int) (w : World) (h1 : 0 ≤ u) (h2 : u ≤ 18446744073709551615) :
    Calls Try.prog 54 #[.int .u64 u] w fun e w' => e = .returned (.int .i64 (unzz u)) ∧ w' = w := by
  by_cases h : u % 2 = 0
  · have HV : Hid (unzz u = u / 2) := by unfold Hid unzz; rw [if_pos h]
    go_enter Try.func54, Try.ntmps54
    go_wp2
    go_ret
    exact ⟨ret_k (by rw [HV.out]), rfl⟩
  · have HV : Hid (unzz u = -(u / 2) - 1) := by unfold Hid unzz; rw [if_neg h]
    have h' : (u % 2 == 0) = false := by simpa using h
    clear h
    go_enter Try.func54, Try.ntmps54
    go_wp2
    go_ret
    exact ⟨ret_k (by rw [HV.out]), rfl⟩


end Go.Proofs.Ytjefbcphefckiac
