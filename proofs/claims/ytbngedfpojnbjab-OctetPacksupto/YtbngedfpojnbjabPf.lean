import Derived.Test.YtbngedfpojnbjabPe
/-! The document's Pack: a fixed number, a text. -/
namespace Go.Proofs.Ytbngedfpojnbjab
open Go.RowKit Plain
set_option linter.unusedVariables false

set_option maxHeartbeats 1000000 in
theorem put5 (vb : Value) (l : List Nat) (r : Option Nat) (n : Nat) (s : ByteArray) (w : World) (ho : Own w vb l r) (hn : n < 18446744073709551616) (hl : l.length + s.size + 10 ≤ 140737488355328) :
    Calls Try.prog 30 #[vb, .agg #[.int .i64 5, .int .u64 n, .string s]] w (PutPost w l r ⟨5, n, s⟩) := by
  have HB : Hid (Below w.heap.size w (w.alloc (.cells #[.int .i64 5, .int .u64 n, .string s] 37))) := (Below.refl _ _).alloc (Nat.le_refl _) _
  have HO : Hid (Own (w.alloc (.cells #[.int .i64 5, .int .u64 n, .string s] 37)) vb l r) := ho.later HB.out
  have HRN : Hid (∀ g, r = some g → g < w.heap.size) := fun g hg => by subst hg; exact ho.lt
  have HE : Hid (It.bytes ⟨5, n, s⟩ = uv s.size ++ bytesOf s) := by unfold Hid It.bytes; simp
  have HF : Hid (It.fits ⟨5, n, s⟩ = decide (n = 0)) := by unfold Hid; simp [It.fits]
  have hul := uv_len10 (show s.size < 2 ^ 64 by omega)
  have hbl := bytesOf_len s
  clear ho
  have HQZ : Hid (∃ e, (((n : Nat) : Int) == 0) = e ∧ decide (n = 0) = e) := by
    by_cases hz : n = 0
    · exact ⟨true, by simp [hz], by simp [hz]⟩
    · exact ⟨false, by simp; omega, by simp [hz]⟩
  obtain ⟨e, hq, hq2⟩ := HQZ.out
  have HQ2 : Hid (decide (n = 0) = e) := hq2
  clear HQZ hq2
  cases e
  all_goals
    go_enter Try.func30, Try.ntmps30
    go_wp2_with fail
    refine (refUvarint s.size _ (by omega)).mono ?_
    rintro e w1 ⟨v1, g1, rfl, ho1, hg1, hb1⟩
    have HB1 : Hid (Below w.heap.size w w1) := below_on HB.out hb1
    have HO1 : Hid (Own w1 vb l r) := HO.out.later hb1
    have HU1 : Hid (BytesAt w1 v1 (uv s.size)) := ho1.bytes
    have X1 : Hid (w1.cell? ⟨w.heap.size, 1, none⟩ = some (.int .u64 n)) := by unfold Hid; rw [hb1.cell (p := ⟨_, _, none⟩) (by simp)]; simp
    have X2 : Hid (w1.cell? ⟨w.heap.size, 2, none⟩ = some (.string s)) := by unfold Hid; rw [hb1.cell (p := ⟨_, _, none⟩) (by simp)]; simp
    have HW1 : Hid (w.heap.size < w1.heap.size) := by have := hb1.size; unfold Hid; simp at this; omega
    clear ho1 hg1 hb1
    go_wp2_with (at_builtin; refine wpList_append_row _ rfl _ _ 23 23 rfl Try.underlying23 _ _ l (uv s.size) r rfl rfl ?hOwn ?hByte ?hSrc ?hLen ?_)
    case hOwn => exact HO1.out
    case hByte => exact HU1.out.byte
    case hSrc => exact src_of Try.underlying23 HU1.out
    case hLen => omega
    intro v2 w2 r2 ho2 hg2 hr2 hn2
    have HO2 : Hid (Own w2.drew v2 (l ++ uv s.size) r2) := ho2.later (Below.refl _ _).drew
    have HG2 : Hid (w.grownBy w2 r) := grow_trans (below_grow HB1.out r) hg2 (.inl rfl)
    have HR2 : Hid (r2 = r ∨ ∃ g, r2 = some g ∧ w1.heap.size ≤ g) := by
      rcases hr2 with rfl | rfl
      · exact .inl rfl
      · exact .inr ⟨_, rfl, Nat.le_refl _⟩
    have x1 : w2.cell? ⟨w.heap.size, 1, none⟩ = some (.int .u64 n) := by
      rw [World.cell?_of_block (a := ⟨w.heap.size, 1, none⟩) (hg2.block w.heap.size HW1.out (fun e => by have := HRN.out _ e.symm; omega))]; exact X1.out
    have x2 : w2.cell? ⟨w.heap.size, 2, none⟩ = some (.string s) := by
      rw [World.cell?_of_block (a := ⟨w.heap.size, 2, none⟩) (hg2.block w.heap.size HW1.out (fun e => by have := HRN.out _ e.symm; omega))]; exact X2.out
    have hs2 := hg2.size
    have HALL : Hid (∀ (w' : World) (r' : Option Nat), w2.drew.grownBy w' r2 → (r' = r2 ∨ r' = some w2.drew.heap.size) → w.grownBy w' r ∧ (r' = r ∨ ∃ g, r' = some g ∧ w.heap.size ≤ g) ∧ w'.cell? ⟨w.heap.size, 1, none⟩ = some (.int .u64 n)) := by
      intro w' r' hg hr
      have hw1 := HW1.out
      refine ⟨grow_trans (b := w2.drew) (grow_drewN HG2.out 1) hg ?_, ?_, ?_⟩
      · rcases HR2.out with rfl | ⟨g, rfl, h⟩
        · exact .inl rfl
        · exact .inr (.inr ⟨g, rfl, by omega⟩)
      · rcases hr with rfl | rfl
        · rcases HR2.out with rfl | ⟨g, rfl, h⟩
          · exact .inl rfl
          · exact .inr ⟨g, rfl, by omega⟩
        · exact .inr ⟨_, rfl, by show w.heap.size ≤ w2.heap.size; omega⟩
      · rw [World.cell?_of_block (a := ⟨w.heap.size, 1, none⟩) (hg.block w.heap.size (by show w.heap.size < w2.heap.size; omega) (fun e => by
          rcases HR2.out with rfl | ⟨g, rfl, h⟩
          · have := HRN.out _ e.symm; omega
          · simp at e; omega))]
        exact x1
    clear ho2 hg2 hr2 hn2
    go_wp2
    go_region_law (refine step_append_row rfl (.tmp 62) (.tmp 64) 23 9 rfl Try.underlying23 v2 (.string s) (l ++ uv s.size) (bytesOf s) r2 (by first | rfl | simp [Act.eval, Act.put]) (by first | rfl | simp [Act.eval, Act.put]) HO2.out (bytesOf_byte s) (src_str Try.underlying9) (by simp; omega) ?_; intro v' w' r' ho' hg' hr'; obtain ⟨hgg, hrr, z1⟩ := HALL.out w' r' hg' hr')
    all_goals
      have HO3 : Hid (Own w' v' (l ++ (uv s.size ++ bytesOf s)) r') := by rw [← List.append_assoc]; exact ho'
      have H2 : Hid (w.grownBy w' r ∧ (r' = r ∨ ∃ g, r' = some g ∧ w.heap.size ≤ g)) := ⟨hgg, hrr⟩
      clear ho' hg' hr' hgg hrr
      go_wp2
      go_ret2
      refine ⟨v', r', by rw [HF.out]; exact ret_tb (by rw [HQ2.out]), fun _ => by rw [HE.out]; exact HO3.out, H2.out.1, H2.out.2⟩

set_option maxHeartbeats 1000000 in
theorem put3 (vb : Value) (l : List Nat) (r : Option Nat) (n : Nat) (s : ByteArray) (w : World) (ho : Own w vb l r) (hn : n < 18446744073709551616) (hl : l.length + s.size + 10 ≤ 140737488355328) (he : emp s = true) :
    Calls Try.prog 30 #[vb, .agg #[.int .i64 3, .int .u64 n, .string s]] w (PutPost w l r ⟨3, n, s⟩) := by
  have HB : Hid (Below w.heap.size w (w.alloc (.cells #[.int .i64 3, .int .u64 n, .string s] 37)).drew) := ((Below.refl _ _).alloc (Nat.le_refl _) _).drew
  have HO : Hid (Own (w.alloc (.cells #[.int .i64 3, .int .u64 n, .string s] 37)).drew vb l r) := ho.later HB.out
  have HRN : Hid (∀ g, r = some g → g < w.heap.size) := fun g hg => by subst hg; exact ho.lt
  have hee : s.toList.isEmpty = true := he
  have HF : Hid (It.fits ⟨3, n, s⟩ = decide (n ≤ 4294967295)) := by unfold Hid; simp [It.fits, he]
  have HE : Hid (n ≤ 4294967295 → It.bytes ⟨3, n, s⟩ = be 4 n) := fun h => by
    unfold It.bytes
    simp
    rw [Nat.mod_eq_of_lt (by omega)]
  clear ho
  by_cases hz : n ≤ 4294967295
  all_goals
    go_enter Try.func30, Try.ntmps30
    go_wp2
    go_region_law (first
      | (refine step_append_row rfl (.tmp 38) (.tmp 41) 23 23 rfl Try.underlying23 vb v1 l (be 4 n) r (by first | rfl | simp [Act.eval, Act.put]) (by first | rfl | simp [Act.eval, Act.put]) HO1.out HU1.out.byte (src_of Try.underlying23 HU1.out) (by rw [be_len]; omega) ?_
         intro v' w' r' ho' hg' hr'
         obtain ⟨hgg, hrr, z1⟩ := HALL.out w' r' hg' hr')
      | (go_simp
         go_at_call 47
         refine (refFixed4 n _ hn).mono ?_
         rintro e w1 ⟨v1, g1, rfl, ho1, hg1, hb1⟩
         have HB1 : Hid (Below w.heap.size w w1) := below_on HB.out hb1
         have HO1 : Hid (Own w1 vb l r) := HO.out.later hb1
         have HU1 : Hid (BytesAt w1 v1 (be 4 n)) := ho1.bytes
         have x1 : w1.cell? ⟨w.heap.size, 1, none⟩ = some (.int .u64 n) := by rw [hb1.cell (p := ⟨_, _, none⟩) (by simp)]; simp
         have HW1 : Hid (w.heap.size < w1.heap.size) := by have := hb1.size; unfold Hid; simp at this; omega
         have HALL : Hid (∀ (w' : World) (r' : Option Nat), w1.grownBy w' r → (r' = r ∨ r' = some w1.heap.size) → w.grownBy w' r ∧ (r' = r ∨ ∃ g, r' = some g ∧ w.heap.size ≤ g) ∧ w'.cell? ⟨w.heap.size, 1, none⟩ = some (.int .u64 n)) := by
           intro w' r' hg hr
           refine ⟨grow_trans (below_grow HB1.out r) hg (.inl rfl), ?_, ?_⟩
           · rcases hr with rfl | rfl
             · exact .inl rfl
             · exact .inr ⟨_, rfl, HB1.out.size⟩
           · rw [World.cell?_of_block (a := ⟨w.heap.size, 1, none⟩) (hg.block w.heap.size HW1.out (fun e => by have := HRN.out _ e.symm; omega))]
             exact x1
         clear ho1 hg1 hb1))
    all_goals
      have HO3 : Hid (Own w' v' (l ++ be 4 n) r') := ho'
      have H2 : Hid (w.grownBy w' r ∧ (r' = r ∨ ∃ g, r' = some g ∧ w.heap.size ≤ g)) := ⟨hgg, hrr⟩
      clear ho' hg' hr' hgg hrr
      go_wp2
      go_ret2
      refine ⟨v', r', by rw [HF.out]; exact ret_tb (by first | with_reducible exact (decide_eq_true hz).symm | with_reducible exact (decide_eq_false hz).symm | exact decide_eq_decide.mpr (by omega)), fun hf => ?_, H2.out.1, H2.out.2⟩
      rw [HF.out] at hf
      rw [HE.out (by simpa using hf)]
      exact HO3.out
end Go.Proofs.Ytbngedfpojnbjab
