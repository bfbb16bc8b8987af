import Derived.Test.YthcnhjmkcekdaaaGreatQs32
import Derived.Deep.RegionLaw
import Derived.Deep.RegionWith
namespace Go.Proofs.YthcnhjmkcekdaaaGreat
open Go.RowKit Go.Maps Plain
set_option linter.unusedVariables false
set_option linter.unusedSimpArgs false
theorem step_append_bytes {ops : Array Oper} {o : Oper} {a : Act} {w : World} {K : Act → World → Prop} {Q : Exit → Act → World → Prop} {E : Prop}
    (hg : o.guard = none) (s x : Operand) (t tx : TypeId) (hop : o.op = Op.call { callee := Callee.builtin Builtin.append, args := #[s, x], argTypes := #[t, tx] }) (ht : Tryz.prog.underlying t = some (.slice 5)) (v xv : Value) (l k : List Nat) (r : Option Nat)
    (hs : a.eval s = v) (hx : a.eval x = xv) (hown : Own w v l r) (hk : ∀ c ∈ k, c < 256) (hsrc : Src Tryz.prog 1 tx xv k.length (cellsOf k) w) (hlen : l.length + k.length ≤ 140737488355328)
    (hK : ∀ v' w' r', Own w' v' (l ++ k) r' → w.grownBy w' r → (r' = r ∨ r' = some w.heap.size) → K (a.put o.dst v') w') :
    if Region.wanted o (yielded ops a.tmps) = true then Oper.wp Tryz.prog o a w K Q else E := by
  have hw : Region.wanted o (yielded ops a.tmps) = true := by simp [Region.wanted, hg]
  rw [if_pos hw]
  obtain ⟨v', w', r', hrun, h1, h2, h3, h4⟩ := run_append_row w t tx o.type ht v xv l k r hown hk hsrc hlen
  unfold Oper.wp
  simp [execOp, hop, resolve, invoke, builtin, hs, hx, hrun, Result.andThen]
  exact hK v' w' r' h1 h2 h3
end Go.Proofs.YthcnhjmkcekdaaaGreat
