import Derived.Test.YtjefbcphefckiacOg
import Derived.Laws.StructEq
/-! Items: which there are. -/
namespace Go.Proofs.Ytjefbcphefckiac
open Go.RowKit Plain
set_option linter.unusedVariables false

structure It where
  k : Int
  n : Nat
  s : ByteArray
def It.none : It := ⟨0, 0, ByteArray.empty⟩
def emp (s : ByteArray) : Bool := s.toList.isEmpty

/-- May it be? -/
def It.fits (x : It) : Bool :=
  if x.k = 0 then decide (x.n ≤ 255) && emp x.s else if x.k = 3 then decide (x.n ≤ 4294967295) && emp x.s else if x.k = 1 ∨ x.k = 2 ∨ x.k = 4 then emp x.s else if x.k = 5 then decide (x.n = 0) else false
theorem fitsAny (x : It) (w : World) : Calls Try.prog 21 #[.agg #[.int .i64 x.k, .int .u64 x.n, .string x.s]] w fun e w' => e = .returned (.bool x.fits) ∧ Below w.heap.size w w' := by
  obtain ⟨k, n, s⟩ := x
  have HB : Hid (Below w.heap.size w (w.alloc (.cells #[.int .i64 k, .int .u64 n, .string s] 32))) := (Below.refl _ _).alloc (Nat.le_refl _) _
  by_cases k0 : k = 0
  · subst k0
    by_cases hn : n ≤ 255
    · go_enter Try.func21, Try.ntmps21
      go_wp2
      go_ret
      exact ⟨by simp [It.fits, emp, hn], HB.out⟩
    · go_enter Try.func21, Try.ntmps21
      go_wp2
      go_ret
      exact ⟨by simp [It.fits, hn], HB.out⟩
  by_cases k3 : k = 3
  · subst k3
    by_cases hn : n ≤ 4294967295
    · go_enter Try.func21, Try.ntmps21
      go_wp2
      go_ret
      exact ⟨by simp [It.fits, emp, hn], HB.out⟩
    · go_enter Try.func21, Try.ntmps21
      go_wp2
      go_ret
      exact ⟨by simp [It.fits, hn], HB.out⟩
  by_cases k1 : k = 1
  · subst k1
    go_enter Try.func21, Try.ntmps21
    go_wp2
    go_ret
    exact ⟨by simp [It.fits, emp], HB.out⟩
  by_cases k2 : k = 2
  · subst k2
    go_enter Try.func21, Try.ntmps21
    go_wp2
    go_ret
    exact ⟨by simp [It.fits, emp], HB.out⟩
  by_cases k4 : k = 4
  · subst k4
    go_enter Try.func21, Try.ntmps21
    go_wp2
    go_ret
    exact ⟨by simp [It.fits, emp], HB.out⟩
  by_cases k5 : k = 5
  · subst k5
    by_cases hn : n = 0
    · subst hn
      go_enter Try.func21, Try.ntmps21
      go_wp2
      go_ret
      exact ⟨by simp [It.fits], HB.out⟩
    · have hz : (((n : Nat) : Int) == 0) = false := by simp; omega
      go_enter Try.func21, Try.ntmps21
      go_wp2
      go_ret
      exact ⟨by simp [It.fits, hn], HB.out⟩
  have e0 : (k == 0) = false := by simpa using k0
  have e1 : (k == 1) = false := by simpa using k1
  have e2 : (k == 2) = false := by simpa using k2
  have e3 : (k == 3) = false := by simpa using k3
  have e4 : (k == 4) = false := by simpa using k4
  have e5 : (k == 5) = false := by simpa using k5
  have HF : Hid (It.fits ⟨k, n, s⟩ = false) := by unfold Hid; simp [It.fits, k0, k1, k2, k3, k4, k5]
  clear k0 k1 k2 k3 k4 k5
  go_enter Try.func21, Try.ntmps21
  go_wp2
  go_ret
  exact ⟨by rw [HF.out]; rfl, HB.out⟩
end Go.Proofs.Ytjefbcphefckiac
