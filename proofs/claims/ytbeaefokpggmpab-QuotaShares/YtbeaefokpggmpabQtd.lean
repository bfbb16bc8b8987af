import Derived.Test.YtbeaefokpggmpabQtc
/-! quota: the document's Fill. -/
namespace Go.Proofs.Ytbeaefokpggmpab
open Go.RowKit
set_option linter.unusedVariables false

theorem wpList_mxN {ops : Array Oper} {rest : List Oper} {o : Oper} {a : Act} {Q : Exit → Act → World → Prop} {w : World} (hgd : o.guard = none) (s x : Operand) (t tx : TypeId) (z y m : Int)
    (ho : o.op = .call { callee := .builtin .max, args := #[s, x], argTypes := #[t, tx] }) (hs : a.eval s = .int .i64 z) (hx : a.eval x = .int .i64 y) (hm : (if y > z then y else z) = m)
    (h : wpList Try.prog ops Q rest (a.put o.dst (.int .i64 m)) w) : wpList Try.prog ops Q (o :: rest) a w :=
  wpList_plain hgd fun _ hK => by
    have hr := run_max_int2 (P := Try.prog) (w := w) #[t, tx] o.type .i64 .i64 z y
    rw [hm] at hr
    unfold Oper.wp execOp
    simp only [ho, resolve, invoke, builtin, Sem.run_bind, Sem.run_pure, Result.andThen_ok, List.map_toArray, List.map_cons, List.map_nil, hs, hx, hr]
    exact hK _ _ h
theorem wpList_mnN {ops : Array Oper} {rest : List Oper} {o : Oper} {a : Act} {Q : Exit → Act → World → Prop} {w : World} (hgd : o.guard = none) (s x : Operand) (t tx : TypeId) (z y m : Int)
    (ho : o.op = .call { callee := .builtin .min, args := #[s, x], argTypes := #[t, tx] }) (hs : a.eval s = .int .i64 z) (hx : a.eval x = .int .i64 y) (hm : (if y < z then y else z) = m)
    (h : wpList Try.prog ops Q rest (a.put o.dst (.int .i64 m)) w) : wpList Try.prog ops Q (o :: rest) a w :=
  wpList_plain hgd fun _ hK => by
    have hr := run_min_int2 (P := Try.prog) (w := w) #[t, tx] o.type .i64 .i64 z y
    rw [hm] at hr
    unfold Oper.wp execOp
    simp only [ho, resolve, invoke, builtin, Sem.run_bind, Sem.run_pure, Result.andThen_ok, List.map_toArray, List.map_cons, List.map_nil, hs, hx, hr]
    exact hK _ _ h

abbrev FillPost (b : Bk) (now : Int) (w : World) : Ending → World → Prop := fun e w' => e = .returned (fillP b now).v ∧ Below w.heap.size w w'
end Go.Proofs.Ytbeaefokpggmpab
