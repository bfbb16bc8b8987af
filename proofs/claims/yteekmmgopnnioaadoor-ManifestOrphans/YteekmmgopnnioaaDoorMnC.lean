import Derived.Test.YteekmmgopnnioaaDoorMnB
import Derived.Test.YteekmmgopnnioaaDoorMnLay
import Derived.Lib.AppendIntMem
import Derived.Lib.ItoaLen
/-! Names of files: what the program calls of the library; its Name. -/
namespace Go.Proofs.YteekmmgopnnioaaDoor.Mn
open Go.RowKit
set_option linter.unusedVariables false
set_option linter.unusedSimpArgs false

/-- The variables that strconv reads, by the names that the row gives them. -/
def tabN : String := ((Rows.manifestNamesRow.laid.map Prod.fst).getD 2 "")
def Tab (w : World) : Prop := Lib.TabIs Tryd.prog w tabN .u64 Lib.pow10Tab
theorem Tab.later {w w' : World} (h : Tab w) (hb : Below w.heap.size w w') : Tab w' := Lib.tabBelow_of_tabIs h w' hb
theorem below_on {w w1 w2 : World} (h : Below w.heap.size w w1) (k : Below w1.heap.size w1 w2) : Below w.heap.size w w2 := h.trans (k.mono h.size)

theorem itoaOf (n : Int) (h0 : -9223372036854775808 ≤ n) (h1 : n ≤ 9223372036854775807) (w : World) (h : Tab w) :
    Calls Tryd.prog 34 #[.int .i64 n] w fun e w' => e = .returned (.string ⟨(Lib.itoa n).toArray⟩) ∧ Below w.heap.size w w' := by
  refine (Any.strconv_Itoa Tryd.laysItoa n h0 h1 w h).mono ?_
  rintro e w' ⟨rfl, k, os, rfl⟩
  exact ⟨rfl, Lib.below_grow _ _ (Nat.le_refl _) _ _⟩
theorem itoa_len {n : Int} (h0 : -9223372036854775808 ≤ n) (h1 : n ≤ 9223372036854775807) : (Lib.itoa n).length ≤ 21 := Lib.itoa_length_le n h0 h1
theorem itoa_dc {n : Int} (h : 0 ≤ n) : Lib.itoa n = dc n := by
  unfold dc
  have := Lib.itoa_nonneg n.toNat
  rwa [Int.toNat_of_nonneg h] at this

theorem retB {a b : Bool} (h : a = b) : Ending.returned (.bool a) = .returned (.bool b) := by rw [h]
theorem withinOf (n lo hi : Int) (w : World) : Calls Tryd.prog 43 #[.int .i64 n, .int .i64 lo, .int .i64 hi] w fun e w' => e = .returned (.bool (decide (lo ≤ n) && decide (n ≤ hi))) ∧ w' = w := by
  by_cases h0 : lo ≤ n
  · go_enter Tryd.func43, Tryd.ntmps43
    go_wp2
    go_ret
    exact ⟨retB (by simp [h0]), rfl⟩
  · go_enter Tryd.func43, Tryd.ntmps43
    go_wp2
    go_ret
    exact ⟨retB (by simp; omega), rfl⟩
theorem isTopicOf (n : Int) (w : World) : Calls Tryd.prog 35 #[.int .i64 n] w fun e w' => e = .returned (.bool (isN n)) ∧ w' = w := by
  have HW : Hid (Calls Tryd.prog 43 #[.int .i64 n, .int .i64 0, .int .i64 1073741823] w fun e w' => e = .returned (.bool (isN n)) ∧ w' = w) := by
    have := withinOf n 0 1073741823 w
    rwa [show (decide ((0 : Int) ≤ n) && decide (n ≤ 1073741823)) = isN n by unfold isN; congr 1; exact decide_eq_decide.mpr (by omega)] at this
  go_enter Tryd.func35, Tryd.ntmps35
  go_wp2_with fail
  refine HW.out.mono ?_
  rintro e w1 ⟨rfl, rfl⟩
  go_wp2
  go_ret
  exact ⟨rfl, rfl⟩
theorem isSegOf (n : Int) (w : World) : Calls Tryd.prog 36 #[.int .i64 n] w fun e w' => e = .returned (.bool (isS n)) ∧ w' = w := by
  have HW : Hid (Calls Tryd.prog 43 #[.int .i64 n, .int .i64 1, .int .i64 1073741823] w fun e w' => e = .returned (.bool (isS n)) ∧ w' = w) := by
    have := withinOf n 1 1073741823 w
    rwa [show (decide ((1 : Int) ≤ n) && decide (n ≤ 1073741823)) = isS n by unfold isS; congr 1; exact decide_eq_decide.mpr (by omega)] at this
  go_enter Tryd.func36, Tryd.ntmps36
  go_wp2_with fail
  refine HW.out.mono ?_
  rintro e w1 ⟨rfl, rfl⟩
  go_wp2
  go_ret
  exact ⟨rfl, rfl⟩

/-- A FileName, as a value. -/
abbrev FN.val (n : FN) : Value := .agg #[.int .i64 n.kind, .int .i64 n.id, .int .i64 n.seg, .bool n.tmp]
structure FN.Ok (n : FN) : Prop where
  k0 : -9223372036854775808 ≤ n.kind
  k1 : n.kind ≤ 9223372036854775807
  i0 : -9223372036854775808 ≤ n.id
  i1 : n.id ≤ 9223372036854775807
  s0 : -9223372036854775808 ≤ n.seg
  s1 : n.seg ≤ 9223372036854775807
def StemP (k i s : Int) (w : World) (e : Ending) (w' : World) : Prop := e = .returned (.string ⟨(stemL ⟨k, i, s, false⟩).toArray⟩) ∧ Below w.heap.size w w'
theorem stem_eq (n : FN) : stemL n = stemL ⟨n.kind, n.id, n.seg, false⟩ := rfl
end Go.Proofs.YteekmmgopnnioaaDoor.Mn
