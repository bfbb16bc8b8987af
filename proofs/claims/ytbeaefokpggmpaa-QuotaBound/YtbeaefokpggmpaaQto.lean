import Derived.Test.YtbeaefokpggmpaaQtf
import Derived.OpenShut
import Derived.ChangeOld
/-! quota: buckets that came in. -/
namespace Go.Proofs.Ytbeaefokpggmpaa
open Go.RowKit Go.ChangeShapes Go.WideShapes
set_option linter.unusedVariables false

theorem cells_BK : Try.prog.cellsOf 23 = 6 := by kernel_rfl
theorem cells_2 : Try.prog.cellsOf 2 = 1 := by kernel_rfl
theorem array6 {α : Type} {cs : Array α} (h : cs.size = 6) : ∃ c0 c1 c2 c3 c4 c5, cs = #[c0, c1, c2, c3, c4, c5] := by
  obtain ⟨l⟩ := cs
  match l, h with
  | [c0, c1, c2, c3, c4, c5], _ => exact ⟨c0, c1, c2, c3, c4, c5, rfl⟩
theorem i64_of {n : Int} (h : (Lit.int .i64 n).wf = true) : I64 n := by
  have := bounds_i64 h
  unfold I64; omega
set_option maxRecDepth 100000 in
theorem open_bk {H : Type} {enc : TypeId × Value → H} {W : World} {base : Nat} {v : Value} {d : DataW H} {p : List MemPlace} (hv : Value.okWide Try.prog W .any base 23 v) (h : DataW.Trod enc Try.prog W 0 (fun _ => true) true 23 v d p) :
    ∃ b : Bk, v = b.v ∧ b.Ok := by
  obtain ⟨cs, rfl, hsz⟩ := okWide_struct Try.underlying23 hv
  obtain ⟨v0, v1, v2, v3, v4, v5, rfl⟩ := array6 (hsz.trans cells_BK)
  obtain ⟨fuel, hf⟩ := h
  obtain ⟨xs, m, _, hx, hl, hlen, hfs⟩ := DataW.trod_struct Try.underlying23 hf
  have hlen : xs.length = 6 := hlen
  match xs, hlen with
  | [y0, y1, y2, y3, y4, y5], _ =>
    have k0 : DataW.trod enc Try.prog W 0 (fun _ => true) true m 2 [v0] = some y0 := by simpa [Value.cells, cells_2] using hfs 0 _ rfl
    have k1 : DataW.trod enc Try.prog W 0 (fun _ => true) true m 2 [v1] = some y1 := by simpa [Value.cells, cells_2] using hfs 1 _ rfl
    have k2 : DataW.trod enc Try.prog W 0 (fun _ => true) true m 2 [v2] = some y2 := by simpa [Value.cells, cells_2] using hfs 2 _ rfl
    have k3 : DataW.trod enc Try.prog W 0 (fun _ => true) true m 2 [v3] = some y3 := by simpa [Value.cells, cells_2] using hfs 3 _ rfl
    have k4 : DataW.trod enc Try.prog W 0 (fun _ => true) true m 2 [v4] = some y4 := by simpa [Value.cells, cells_2] using hfs 4 _ rfl
    have k5 : DataW.trod enc Try.prog W 0 (fun _ => true) true m 2 [v5] = some y5 := by simpa [Value.cells, cells_2] using hfs 5 _ rfl
    obtain ⟨n0, e0, _, f0⟩ := DataW.trod_int Try.underlying2 k0
    obtain ⟨n1, e1, _, f1⟩ := DataW.trod_int Try.underlying2 k1
    obtain ⟨n2, e2, _, f2⟩ := DataW.trod_int Try.underlying2 k2
    obtain ⟨n3, e3, _, f3⟩ := DataW.trod_int Try.underlying2 k3
    obtain ⟨n4, e4, _, f4⟩ := DataW.trod_int Try.underlying2 k4
    obtain ⟨n5, e5, _, f5⟩ := DataW.trod_int Try.underlying2 k5
    simp only [List.cons.injEq, and_true] at e0 e1 e2 e3 e4 e5
    subst e0 e1 e2 e3 e4 e5
    exact ⟨⟨n0, n1, n2, n3, n4, n5⟩, rfl, ⟨i64_of f0, i64_of f1, i64_of f2, i64_of f3, i64_of f4, i64_of f5⟩⟩
end Go.Proofs.Ytbeaefokpggmpaa
