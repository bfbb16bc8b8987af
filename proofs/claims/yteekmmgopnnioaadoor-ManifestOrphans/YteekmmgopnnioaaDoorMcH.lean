import Derived.Test.YteekmmgopnnioaaDoorMcG
/-! manifest: which catalogues may be: the program's. -/
namespace Go.Proofs.YteekmmgopnnioaaDoor
open Go.RowKit Plain
set_option linter.unusedVariables false
set_option linter.unusedSimpArgs false

def nmLt (a b : ByteArray) : Bool := decide (cmpL a.data.toList b.data.toList < 0)
def goodT (l : List Te) (next : Int) (i : Nat) : Bool := entB (l.getD i Te.zero) next && (!hasId (l.take i) (l.getD i Te.zero).id && (decide (i = 0) || nmLt (l.getD (i - 1) Te.zero).name (l.getD i Te.zero).name))
def okTops (l : List Te) (next : Int) : Bool := decide (l.length ≤ 16) && allB l.length (goodT l next)
end Go.Proofs.YteekmmgopnnioaaDoor
