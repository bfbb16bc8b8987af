import Derived.Test.YteekmmgopnnioaaDoorMcH
/-! manifest: which catalogues may be: both answers. -/
namespace Go.Proofs.YteekmmgopnnioaaDoor
open Go.RowKit Plain
set_option linter.unusedVariables false
set_option linter.unusedSimpArgs false

/-- A catalogue. -/
structure Ct where
  nid : Int
  tops : List Te
abbrev Ct.agg (c : Ct) (v : Value) : Value := .agg #[.int .i64 c.nid, v]
def ansC (c : Ct) : Int := if (inW c.nid 1 1073741824 && okTops c.tops c.nid) = true then 0 else 71
theorem inW_iff2 {n a e : Int} : inW n a e = true ↔ a ≤ n ∧ n ≤ e := by unfold inW; simp
/-- The order of two names, as a plain test tells it. -/
theorem nm_le (a b : ByteArray) : (Op.bytesLess b.toList a.toList || b.toList == a.toList) = !nmLt a b := by
  unfold nmLt
  rw [ByteArray.toList_eq, ByteArray.toList_eq, cmpL_less, cmpL_eq, cmpL_neg]
  rw [Bool.eq_iff_iff]
  simp only [Bool.or_eq_true, decide_eq_true_eq, Bool.not_eq_true', decide_eq_false_iff_not]
  omega
end Go.Proofs.YteekmmgopnnioaaDoor
