import Derived.Test.YtklfmgkfcacfkaaRb1
/-! Bytes with marks behind them, bytes turned. -/
namespace Go.Proofs.Ytklfmgkfcacfkaa
open Go.RowKit Plain
set_option linter.unusedVariables false

/-- The marks behind n bytes. -/
def tailM (n : Nat) : List Nat := (List.range 64).map fun i => 200 + (n + i) % 7
theorem tailM_len (n : Nat) : (tailM n).length = 64 := by simp [tailM]
theorem tailM_byte (n : Nat) : ∀ c ∈ tailM n, c < 256 := by
  intro c hc
  obtain ⟨i, _, rfl⟩ := List.mem_map.mp hc
  omega
theorem tailM_get (n j : Nat) (h : j < 64) : (tailM n).getD j 0 = 200 + (n + j) % 7 := by
  simp [tailM, h]
/-- A row, its first bytes of l, the rest of another. -/
def half (l m : List Nat) (k : Nat) : List Nat := l.take k ++ m.drop k
theorem half_len {l m : List Nat} (h : l.length = m.length) (k : Nat) : (half l m k).length = l.length := by
  simp [half]; omega
theorem half_zero (l m : List Nat) : half l m 0 = m := by simp [half]
theorem half_all (l m : List Nat) (k : Nat) (h : l.length = m.length) (hk : l.length ≤ k) : half l m k = l := by
  unfold half
  rw [List.take_of_length_le hk, List.drop_eq_nil_of_le (by omega), List.append_nil]
theorem half_set {l m : List Nat} (h : l.length = m.length) (k : Nat) (hk : k < l.length) : (half l m k).set k (l.getD k 0) = half l m (k + 1) := by
  unfold half
  have e : (l.take k).length = k := by simp; omega
  rw [List.set_append_right _ _ (by omega), e, Nat.sub_self, List.drop_eq_getElem_cons (by omega), List.set_cons_zero, List.take_succ_eq_append_getElem hk, List.append_assoc]
  congr 1
  simp [hk]
theorem half_byte {l m : List Nat} (hl : ∀ c ∈ l, c < 256) (hm : ∀ c ∈ m, c < 256) (k : Nat) : ∀ c ∈ half l m k, c < 256 := by
  intro c hc
  rcases List.mem_append.mp hc with h | h
  · exact hl c (List.mem_of_mem_take h)
  · exact hm c (List.mem_of_mem_drop h)

/-- The bytes the other way round, each one more. -/
def turn (l : List Nat) : List Nat := l.reverse.map fun c => (c + 1) % 256
theorem turn_len (l : List Nat) : (turn l).length = l.length := by simp [turn]
theorem turn_byte (l : List Nat) : ∀ c ∈ turn l, c < 256 := by
  intro c hc
  obtain ⟨i, _, rfl⟩ := List.mem_map.mp hc
  omega
theorem turn_step (l : List Nat) (k : Nat) (h : k < l.length) : (turn l).take (k + 1) = (turn l).take k ++ [(l.getD (l.length - 1 - k) 0 + 1) % 256] := by
  rw [List.take_succ_eq_append_getElem (by rw [turn_len]; exact h)]
  congr 1
  simp [turn]
  rw [List.getElem?_eq_getElem (by omega)]
  rfl
end Go.Proofs.Ytklfmgkfcacfkaa
