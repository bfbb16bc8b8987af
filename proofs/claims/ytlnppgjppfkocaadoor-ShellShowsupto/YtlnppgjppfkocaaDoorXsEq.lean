import Derived.Test.YtlnppgjppfkocaaDoorXsJ
import Derived.Laws.StructEq
/-! Structs held against each other, field by field. -/
namespace Go.Proofs.YtlnppgjppfkocaaDoor.Xs
open Go.RowKit
set_option linter.unusedVariables false
set_option linter.unusedSimpArgs false

theorem ba_toList (l : By) : (ba l).toList = l := by
  rw [ByteArray.toList_eq]
theorem eqf_cons (d : Nat) (xs ys : Array Value) (f : Field) (fs : List Field) (t off : Nat) (e1 : f.type = t) (e2 : f.offset = off) (e3 : (f.name == "_") = false) (a b : Value) (r : Bool) (u : World)
    (ha : (part t xs off).run Tryd.prog u = .ok a u) (hb : (part t ys off).run Tryd.prog u = .ok b u) (hq : (Op.equalIn d t a b).run Tryd.prog u = .ok r u) :
    (Op.eqFields d xs ys (f :: fs)).run Tryd.prog u = if r = true then (Op.eqFields d xs ys fs).run Tryd.prog u else .ok false u := by
  have e4 : f.name ≠ "_" := by simpa using e3
  cases r <;> simp [Op.eqFields, e1, e2, e4, Sem.run_bind, ha, hb, hq]
end Go.Proofs.YtlnppgjppfkocaaDoor.Xs
