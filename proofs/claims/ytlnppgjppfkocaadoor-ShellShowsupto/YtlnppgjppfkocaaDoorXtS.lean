import Derived.Test.YtlnppgjppfkocaaDoorXsJ
import Derived.Test.YtlnppgjppfkocaaDoorXvL
/-! What the program's Show answers. -/
namespace Go.Proofs.YtlnppgjppfkocaaDoor.Xs
open Go.RowKit
set_option linter.unusedVariables false

/-- A response of a size that can be told. -/
structure SmP (r : Rp) : Prop where
  names : r.names.length ≤ 1048576
  recs : r.recs.length ≤ 1048576
  smn : SmN r.names
  smr : SmR r.recs
/-- WHAT Show ANSWERS. -/
def ShowOk (Tb : World → Prop) : Prop := ∀ (r : Rp) (vr vn : Value) (w : World), Tb w → SrsAt w vr r.recs → NmsAt w vn r.names → r.Ok → SmP r → (showL r).length ≤ 70368744177664 →
  Calls Tryd.prog 4 #[rpV r vr vn] w fun e w' => e = .returned (.string (ba (showL r))) ∧ Below w.heap.size w w'
end Go.Proofs.YtlnppgjppfkocaaDoor.Xs
