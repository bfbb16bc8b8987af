import Derived.Test.YtlnppgjppfkocaaDoorXsJ
/-! The length of a response's line. -/
namespace Go.Proofs.YtlnppgjppfkocaaDoor.Xs
open Go.RowKit
set_option linter.unusedVariables false
set_option linter.unusedSimpArgs false

/-! ### The line's length -/
def SmN (l : List By) : Prop := ∀ x ∈ l, x.length ≤ 1048577
def SmR (l : List Sr) : Prop := ∀ x ∈ l, x.Ok ∧ x.key.length ≤ 1048577 ∧ x.value.length ≤ 1048577
theorem sp_mostV {M : Nat} : ∀ (l : List By), (∀ x ∈ l, x.length ≤ M) → (sp l).length ≤ l.length * (M + 1)
  | [], _ => by simp [sp]
  | x :: l, h => by
    have h1 := sp_mostV l (fun y hy => h y (by simp [hy]))
    have h2 := h x (by simp)
    unfold sp at *
    rw [List.flatMap_cons, List.length_append, List.length_cons, List.length_cons, Nat.add_mul]
    omega
theorem names_parts : ∀ (l : List By), (l.flatMap nameT).length = 2 * l.length
  | [] => rfl
  | x :: l => by rw [List.flatMap_cons, List.length_append, names_parts l]; simp [nameT]; omega
theorem recs_parts : ∀ (l : List Sr), (l.flatMap recT).length = 7 * l.length
  | [] => rfl
  | x :: l => by rw [List.flatMap_cons, List.length_append, recs_parts l]; simp [recT]; omega
theorem show_len {r : Rp} (ok : r.Ok) (h1 : r.names.length ≤ 1048576) (h2 : r.recs.length ≤ 1048576) (h3 : SmN r.names) (h4 : SmR r.recs) : (showL r).length ≤ 70368744177664 := by
  have hid := itoa_len (n := r.id) (by have := ok.id1; omega) (by have := ok.id2; omega)
  have hpart : ∀ x ∈ showT r, x.length ≤ 4194310 := by
    intro x hx
    unfold showT restT at hx
    simp only [List.mem_append, List.mem_cons, List.not_mem_nil, or_false, List.mem_flatMap] at hx
    rcases hx with (e | e | e | e | e) | ⟨y, hy, hx⟩ | ⟨y, hy, hx⟩
    · rw [e]; have := op_len r.op ok.op; omega
    · rw [e]; have := code_len r.code ok.code; omega
    · rw [e]; have := itoa_len ok.offset.1 ok.offset.2; omega
    · rw [e]; have := itoa_len ok.number.1 ok.number.2; omega
    · rw [e]
      have e1 : moreW.length = 4 := rfl
      have e2 : lastW.length = 4 := rfl
      split <;> omega
    · simp only [nameT, List.mem_cons, List.not_mem_nil, or_false] at hx
      rcases hx with e | e
      · rw [e]
        have e1 : nameW.length = 4 := rfl
        omega
      · rw [e]
        have := txt_len y
        have := h3 y hy
        omega
    · obtain ⟨k1, k2, k3⟩ := h4 y hy
      simp only [recT, List.mem_cons, List.not_mem_nil, or_false] at hx
      rcases hx with e | e | e | e | e | e | e
      · rw [e]; have := kind_len y.kind k1.kind; omega
      · rw [e]; have := itoa_len k1.offset.1 k1.offset.2; omega
      · rw [e]; have := itoa_len k1.time.1 k1.time.2; omega
      · rw [e]; have := itoa_len k1.pid.1 k1.pid.2; omega
      · rw [e]; have := itoa_len k1.seq.1 k1.seq.2; omega
      · rw [e]; have := txt_len y.key; omega
      · rw [e]; have := txt_len y.value; omega
  have h5 := sp_mostV _ hpart
  have h6 : (showT r).length ≤ 9437189 := by
    unfold showT restT
    rw [List.length_append, List.length_append, names_parts, recs_parts]
    simp only [List.length_cons, List.length_nil]
    omega
  rw [show showL r = Lib.itoa r.id ++ sp (showT r) from join_sp _ _, List.length_append]
  have h7 : (showT r).length * (4194310 + 1) ≤ 9437189 * (4194310 + 1) := Nat.mul_le_mul_right _ h6
  omega

end Go.Proofs.YtlnppgjppfkocaaDoor.Xs
