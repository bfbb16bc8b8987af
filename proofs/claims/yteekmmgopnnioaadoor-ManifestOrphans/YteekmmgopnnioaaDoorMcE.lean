import Derived.Test.YteekmmgopnnioaaDoorMcD
/-! manifest: which manifests may be. -/
namespace Go.Proofs.YteekmmgopnnioaaDoor
open Go.RowKit Plain
set_option linter.unusedVariables false
set_option linter.unusedSimpArgs false

def chkM (m : Mf) : Bool := inW m.id 0 1073741823 && (inW m.nseg 2 1073741824 && (inW m.next 0 1099511627776 && (inW m.mark 0 m.next && (inW m.clk 0 1125899906842623 && (okSegs m.segs m.nseg && okProds m.prods m.next)))))
def ansM (m : Mf) : Int := if chkM m = true then 0 else 70
theorem inW_iff {n a e : Int} : inW n a e = true ↔ a ≤ n ∧ n ≤ e := by unfold inW; simp
end Go.Proofs.YteekmmgopnnioaaDoor
