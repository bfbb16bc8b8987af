import Derived.Test.YtnhmnijfilelaaaWalkC
import Derived.Test.YtnhmnijfilelaaaOrd
namespace Go.Proofs.Ytnhmnijfilelaaa
open Go.RowKit Go.Lib Plain
set_option linter.unusedVariables false

def begB (s p : ByteArray) : Bool := decide (p.data.toList <+: s.data.toList)

set_option maxHeartbeats 400000 in
theorem begins (s p : ByteArray) (w : World) (hs : s.size ≤ maxLen) (hp : p.size ≤ maxLen) :
    Calls Try.prog 11 #[.string s, .string p] w fun e w' => e = .returned (.bool (begB s p)) ∧ w' = w := by
  unfold maxLen at hs hp
  by_cases h : s.size < p.size
  · have HB : Hid (begB s p = false) := by
      unfold Hid begB
      rw [decide_eq_false_iff_not]
      intro h'
      have h2 : p.size ≤ s.size := by simpa using pre_len h'
      omega
    go_enter Try.func11, Try.ntmps11
    go_wp2
    go_ret
    exact ⟨by rw [HB.out]; rfl, rfl⟩
  · have HB : Hid (begB s p = ((s.extract 0 p.size).toList == p.toList)) := by
      unfold Hid begB
      rw [ByteArray.toList_eq, ByteArray.toList_eq, Bool.eq_iff_iff, decide_eq_true_iff, pre_take, beq_iff_eq]
      have h1 : (s.extract 0 p.size).data.toList = s.data.toList.take p.data.toList.length := by simp
      rw [h1]
      have h2 : p.data.toList.length ≤ s.data.toList.length := by simpa using Nat.le_of_not_lt h
      simp only [h2, true_and]
    go_enter Try.func11, Try.ntmps11
    go_wp2
    go_ret
    exact ⟨by rw [HB.out]; rfl, rfl⟩

theorem cmpU (a b : ByteArray) (w u : World) (ha : a.size ≤ maxLen) (hb : b.size ≤ maxLen) (hu : Below w.heap.size w u) :
    Calls Try.prog 9 #[.string a, .string b] u fun e u' => e = .returned (.int .i64 (cmpL a.data.toList b.data.toList)) ∧ Below w.heap.size w u' :=
  (compare a b u ha hb).mono fun e u' ⟨he, h⟩ => ⟨he, below_on hu h⟩

theorem cmpAt (a b : ByteArray) (x : Int) (hx : cmpL a.data.toList b.data.toList = x) (w : World) (ha : a.size ≤ maxLen) (hb : b.size ≤ maxLen) (u : World) (hu : Below w.heap.size w u) :
    Calls Try.prog 9 #[.string a, .string b] u fun e u' => e = .returned (.int .i64 x) ∧ Below w.heap.size w u' := by
  subst hx
  exact (compare a b u ha hb).mono fun e u' ⟨he, h⟩ => ⟨he, below_on hu h⟩

theorem afterAt (p q : ByteArray) (b : Bool) (hq : aftS p = q) (hb : aftB p = b) (w : World) (hp : p.size ≤ maxLen) (u : World) (hu : Below w.heap.size w u) :
    Calls Try.prog 10 #[.string p] u fun e u' => e = .returned (.tuple #[.string q, .bool b]) ∧ Below w.heap.size w u' := by
  subst hq hb
  exact (after p u hp).mono fun e u' ⟨he, h⟩ => ⟨he, below_on hu h⟩

theorem mem_at (p : ByteArray) (k : Nat) (h : k < p.size) : p[k] ∈ p.data.toList := by
  have : p.data.toList[k]'(by simpa using h) = p[k] := rfl
  rw [← this]; exact List.getElem_mem _
end Go.Proofs.Ytnhmnijfilelaaa
