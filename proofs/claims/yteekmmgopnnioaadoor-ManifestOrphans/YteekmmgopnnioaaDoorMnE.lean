import Derived.Test.YteekmmgopnnioaaDoorMnD
/-! Names of files: the program's Name. -/
namespace Go.Proofs.YteekmmgopnnioaaDoor.Mn
open Go.RowKit
set_option linter.unusedVariables false
set_option linter.unusedSimpArgs false

theorem dec_len {n : Nat} (hn : n < 1073741824) : (Lib.decDigits n).length ≤ 21 := by
  have := Lib.itoa_length_le (n : Int) (by omega) (by omega)
  rwa [Lib.itoa_nonneg] at this
theorem stem_len (n : FN) : (stemL n).length ≤ 60 := by
  by_cases h : stemL n = []
  · rw [h]; simp
  · rcases stem_forms h with ⟨i, s, h1, _, h2, _, _, _, e⟩ | ⟨i, s, h1, _, h2, _, _, _, e⟩ | ⟨i, h1, _, _, _, e⟩ | ⟨_, _, _, e⟩
    · have := dec_len h1; have := dec_len h2; rw [e]; simp [tS]; omega
    · have := dec_len h1; have := dec_len h2; rw [e]; simp [tH]; omega
    · have := dec_len h1; rw [e]; simp [tM]; omega
    · rw [e]; decide
theorem name_len (n : FN) : (nameL n).length ≤ 64 := by
  have := stem_len n
  unfold nameL
  split
  · simp [tmpB]; omega
  · omega
theorem ba_ne {l : By} (h : l ≠ []) : (⟨l.toArray⟩ : ByteArray) ≠ ⟨#[]⟩ := fun e => h (by
  have := congrArg (fun b : ByteArray => b.data.toList) e
  simpa using this)

set_option maxHeartbeats 4000000 in
set_option maxRecDepth 100000 in
theorem nameOf (n : FN) (hok : n.Ok) (w : World) (h : Tab w) :
    Calls Tryd.prog 5 #[n.val] w fun e w' => e = .returned (.string ⟨(nameL n).toArray⟩) ∧ Below w.heap.size w w' := by
  obtain ⟨k, i, s, t⟩ := n
  have HN : Hid (nameL ⟨k, i, s, t⟩ = if t = true ∧ stemL ⟨k, i, s, false⟩ ≠ [] then stemL ⟨k, i, s, false⟩ ++ tmpB else stemL ⟨k, i, s, false⟩) := rfl
  have hlen := stem_len ⟨k, i, s, false⟩
  have HST : Hid (∀ u, Below w.heap.size w u → Calls Tryd.prog 23 #[.agg #[.int .i64 k, .int .i64 i, .int .i64 s, .bool t]] u fun e w' => e = .returned (.string ⟨(stemL ⟨k, i, s, false⟩).toArray⟩) ∧ Below u.heap.size u w') := fun u hu => stemOf k i s t hok u (h.later hu)
  generalize stemL ⟨k, i, s, false⟩ = L at HN HST hlen
  generalize nameL ⟨k, i, s, t⟩ = M at HN ⊢
  obtain ⟨W1, hW1⟩ : ∃ W1, w.alloc (.cells #[.int .i64 k, .int .i64 i, .int .i64 s, .bool t] 23) = W1 := ⟨_, rfl⟩
  have HB1 : Hid (Below w.heap.size w W1) := by
    unfold Hid
    rw [← hW1]
    exact (Below.refl _ _).alloc (Nat.le_refl _) _
  have hWs : W1.heap.size = w.heap.size + 1 := by rw [← hW1]; simp
  have z0 : W1.cell? ⟨w.heap.size, 0, none⟩ = some (.int .i64 k) := by rw [← hW1, World.cell?_alloc_at _ _ _ _ rfl]; rfl
  have z1 : W1.cell? ⟨w.heap.size, 1, none⟩ = some (.int .i64 i) := by rw [← hW1, World.cell?_alloc_at _ _ _ _ rfl]; rfl
  have z2 : W1.cell? ⟨w.heap.size, 2, none⟩ = some (.int .i64 s) := by rw [← hW1, World.cell?_alloc_at _ _ _ _ rfl]; rfl
  have z3 : W1.cell? ⟨w.heap.size, 3, none⟩ = some (.bool t) := by rw [← hW1, World.cell?_alloc_at _ _ _ _ rfl]; rfl
  clear hok h
  go_enter Tryd.func5, Tryd.ntmps5
  go_wp2_with fail
  refine (HST.out W1 HB1.out).mono ?_
  rintro e w2 ⟨rfl, hb2⟩
  have HB2 : Hid (Below w.heap.size w w2) := below_on HB1.out hb2
  have y3 : w2.cell? ⟨w.heap.size, 3, none⟩ = some (.bool t) := (hb2.cell (by show w.heap.size < _; omega)).trans z3
  have hsz : (⟨L.toArray⟩ : ByteArray).size = L.length := rfl
  clear hb2 z0 z1 z2 z3 hW1 HST HB1
  cases t with
  | false =>
    go_wp2
    go_ret
    refine ⟨?_, HB2.out⟩
    rw [HN.out, if_neg (by simp)]
    rfl
  | true =>
    by_cases hL : L = []
    · subst hL
      go_wp2
      go_ret
      refine ⟨?_, HB2.out⟩
      rw [HN.out, if_neg (by simp)]
      rfl
    · have hne := ba_ne hL
      have hem : L.isEmpty = false := by cases L with
        | nil => exact absurd rfl hL
        | cons a b => rfl
      have HL : Hid (L ≠ []) := hL
      clear hL
      go_wp2
      go_ret
      refine ⟨?_, HB2.out⟩
      rw [HN.out, if_pos ⟨trivial, HL.out⟩]
      refine congrArg Ending.returned (str_eq ?_)
      simp [tmpB]
end Go.Proofs.YteekmmgopnnioaaDoor.Mn
