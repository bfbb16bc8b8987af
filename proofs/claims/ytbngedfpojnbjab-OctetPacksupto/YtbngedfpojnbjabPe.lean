import Derived.Test.YtbngedfpojnbjabPd
/-! The document's Pack: items whose bytes are put in an order that is drawn. -/
namespace Go.Proofs.Ytbngedfpojnbjab
open Go.RowKit Plain
set_option linter.unusedVariables false

theorem ret_tb {v : Value} {t t' : Bool} (h : t = t') : Ending.returned (.tuple #[v, .bool t]) = .returned (.tuple #[v, .bool t']) := by rw [h]

set_option maxHeartbeats 1000000 in
theorem put0 (vb : Value) (l : List Nat) (r : Option Nat) (n : Nat) (s : ByteArray) (w : World) (ho : Own w vb l r) (hn : n < 18446744073709551616) (hl : l.length + s.size + 10 ≤ 140737488355328) (he : emp s = true) :
    Calls Try.prog 30 #[vb, .agg #[.int .i64 0, .int .u64 n, .string s]] w (PutPost w l r ⟨0, n, s⟩) := by
  obtain ⟨W, hW⟩ : ∃ W, W = w.alloc (.cells #[.int .i64 0, .int .u64 n, .string s] 37) := ⟨_, rfl⟩
  have HB : Hid (Below w.heap.size w W) := by rw [hW]; exact (Below.refl _ _).alloc (Nat.le_refl _) _
  have HO : Hid (Own W vb l r) := ho.later HB.out
  have x1 : W.cell? ⟨w.heap.size, 1, none⟩ = some (.int .u64 n) := by rw [hW]; simp
  have x2 : W.cell? ⟨w.heap.size, 2, none⟩ = some (.string s) := by rw [hW]; simp
  have HWS : Hid (w.heap.size < W.heap.size) := by rw [hW]; unfold Hid; simp
  have HRN : Hid (∀ g, r = some g → g < w.heap.size) := fun g hg => by subst hg; exact ho.lt
  clear ho
  have hee : s.toList.isEmpty = true := he
  have hc : ((n : Nat) : Int) % 256 = ((n % 256 : Nat) : Int) := by omega
  have HE : Hid (It.bytes ⟨0, n, s⟩ = [n % 256]) := by unfold Hid It.bytes; simp
  have HF : Hid (It.fits ⟨0, n, s⟩ = decide (n ≤ 255)) := by unfold Hid; simp [It.fits, he]
  have hcw : IntKind.u8.wrap ((n : Nat) : Int) = ((n % 256 : Nat) : Int) := by
    rw [show IntKind.u8.wrap ((n : Nat) : Int) = ((n : Nat) : Int) % 256 from rfl]
    exact hc
  have hm : n % 256 < 256 := by omega
  generalize n % 256 = m at hc HE hcw hm
  have y1 : (W.alloc (.cells #[.int .u8 m] 5)).cell? ⟨w.heap.size, 1, none⟩ = some (.int .u64 n) := (World.cell?_alloc_past (w := W) _ _ _ HWS.out).trans x1
  have HOW : Hid (Own (W.alloc (.cells #[.int .u8 m] 5)).drew vb l r) := HO.out.later ((Below.refl _ _).alloc (Nat.le_refl _) _).drew
  have HSRC : Hid (Src Try.prog 1 23 (.slice (some ⟨W.heap.size, 0, none⟩) 1 1) [m].length (cellsOf [m]) (W.alloc (.cells #[.int .u8 m] 5)).drew) :=
    src_of Try.underlying23 (show BytesAt (W.alloc (.cells #[.int .u8 m] 5)).drew (.slice (some ⟨W.heap.size, 0, none⟩) 1 1) [m] from (Own.new W #[.int .u8 m] [m] 1 5 (by simpa using hm) rfl (by simp) (by decide) (one_byte m)).bytes)
  have HALL : Hid (∀ (w' : World) (r' : Option Nat), (W.alloc (.cells #[.int .u8 m] 5)).drew.grownBy w' r → (r' = r ∨ r' = some (W.alloc (.cells #[.int .u8 m] 5)).drew.heap.size) → w.grownBy w' r ∧ (r' = r ∨ ∃ g, r' = some g ∧ w.heap.size ≤ g)) := by
    intro w' r' hg hr
    refine ⟨grow_trans (below_grow (HB.out.trans (((Below.refl _ _).alloc (Nat.le_refl _) _).drew.mono (by have := HWS.out; omega))) r) hg (.inl rfl), ?_⟩
    rcases hr with rfl | rfl
    · exact .inl rfl
    · exact .inr ⟨_, rfl, by have := HWS.out; show w.heap.size ≤ (W.alloc _).heap.size; simp; omega⟩
  have HCELL : Hid (∀ w', (W.alloc (.cells #[.int .u8 m] 5)).drew.grownBy w' r → w'.cell? ⟨w.heap.size, 1, none⟩ = some (.int .u64 n)) := by
    intro w' hg
    rw [World.cell?_of_block (a := ⟨w.heap.size, 1, none⟩) (hg.block w.heap.size (by have := HWS.out; show w.heap.size < (W.alloc _).heap.size; simp; omega) (fun e => by have := HRN.out _ e.symm; omega))]
    exact y1
  by_cases hn2 : n ≤ 255
  all_goals
    go_enter Try.func30, Try.ntmps30
    go_wp2
    rw [← hW]
    clear hW
    go_region_law (refine step_append_row rfl (.tmp 19) (.tmp 23) 23 23 rfl Try.underlying23 vb (.slice (some ⟨W.heap.size, 0, none⟩) 1 1) l [m] r (by first | rfl | simp [Act.eval, Act.put]) (by first | rfl | simp [Act.eval, Act.put]) HOW.out (by simpa using hm) HSRC.out (by simp; omega) ?_; intro v' w' r' ho' hg' hr'; have z1 := HCELL.out w' hg')
    all_goals
      obtain ⟨hg2, hr2⟩ := HALL.out w' r' hg' hr'
      have HO2 : Hid (Own w' v' (l ++ [m]) r') := ho'
      have H2 : Hid (w.grownBy w' r ∧ (r' = r ∨ ∃ g, r' = some g ∧ w.heap.size ≤ g)) := ⟨hg2, hr2⟩
      clear ho' hg' hr' hg2 hr2
      go_wp2
      go_ret2
      refine ⟨v', r', by rw [HF.out]; exact ret_tb (by first | (rw [decide_eq_true hn2]; rfl) | (rw [decide_eq_false hn2]; rfl) | (simp; omega)), fun _ => by rw [HE.out]; exact HO2.out, H2.out.1, H2.out.2⟩
end Go.Proofs.Ytbngedfpojnbjab
