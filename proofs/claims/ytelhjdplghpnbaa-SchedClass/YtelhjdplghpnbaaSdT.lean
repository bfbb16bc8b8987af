import Derived.Test.YtelhjdplghpnbaaSdF
import Derived.Laws.IdiomArrays
import Derived.WalkKit
import Derived.ProofKit
import Derived.OpenShut
import Derived.ShutString
import Derived.ChangeOld
import Derived.ChangeArms
import Derived.Below
/-! Classes and work that came in. -/
namespace Go.Proofs.Ytelhjdplghpnbaa
open Go.RowKit Plain Go.ChangeShapes Go.WideShapes Go.ChangeAt
set_option linter.unusedVariables false

theorem cellsCls : Try.prog.cellsOf 26 = 4 := by kernel_rfl
theorem cellsA4 : Try.prog.cellsOf 24 = 4 := by kernel_rfl
theorem cellsB4 : Try.prog.cellsOf 27 = 4 := by kernel_rfl
theorem cellsI : Try.prog.cellsOf 3 = 1 := by kernel_rfl
theorem cellsBo : Try.prog.cellsOf 4 = 1 := by kernel_rfl
theorem wfI {z : Int} (h : (Lit.int .i64 z).wf = true) : I64 z := by
  have := bounds_i64 h
  unfold I64
  omega
theorem array4 {α : Type} {cs : Array α} (h : cs.size = 4) : ∃ c0 c1 c2 c3, cs = #[c0, c1, c2, c3] := by
  obtain ⟨l⟩ := cs
  match l, h with
  | [c0, c1, c2, c3], _ => exact ⟨c0, c1, c2, c3, rfl⟩
def pick4 {α : Type} (a b c d : α) (i : Nat) : α := if i = 0 then a else if i = 1 then b else if i = 2 then c else d
set_option maxRecDepth 100000 in
theorem open_cls {H : Type} {enc : TypeId × Value → H} {W : World} {base : Nat} {v : Value} {d : DataW H} {p : List MemPlace} (hv : Value.okWide Try.prog W .any base 26 v) (h : DataW.Trod enc Try.prog W 0 (fun _ => true) true 26 v d p) : ∃ c : Nat → Int, v = clsV c ∧ ∀ i, i < 4 → I64 (c i) := by
  obtain ⟨cs, rfl, hsz⟩ := okWide_struct Try.underlying26 hv
  obtain ⟨v0, v1, v2, v3, rfl⟩ := array4 (hsz.trans cellsCls)
  obtain ⟨fuel, hf⟩ := h
  obtain ⟨xs, m, _, hx, hl, hlen, hfs⟩ := DataW.trod_struct Try.underlying26 hf
  have hlen : xs.length = 1 := hlen
  match xs, hlen with
  | [y0], _ =>
    have k0 : DataW.trod enc Try.prog W 0 (fun _ => true) true m 24 [v0, v1, v2, v3] = some y0 := by simpa [Value.cells, cellsA4] using hfs 0 _ rfl
    obtain ⟨z0, z1, z2, z3, n, -, t0, t1, t2, t3⟩ := trod_array4 Try.underlying24 cellsI k0
    obtain ⟨n0, e0, _, b0⟩ := DataW.trod_int Try.underlying3 t0
    obtain ⟨n1, e1, _, b1⟩ := DataW.trod_int Try.underlying3 t1
    obtain ⟨n2, e2, _, b2⟩ := DataW.trod_int Try.underlying3 t2
    obtain ⟨n3, e3, _, b3⟩ := DataW.trod_int Try.underlying3 t3
    simp only [List.cons.injEq, and_true] at e0 e1 e2 e3
    subst e0 e1 e2 e3
    refine ⟨pick4 n0 n1 n2 n3, rfl, fun i hi => ?_⟩
    rcases (by omega : i = 0 ∨ i = 1 ∨ i = 2 ∨ i = 3) with rfl | rfl | rfl | rfl
    · exact wfI b0
    · exact wfI b1
    · exact wfI b2
    · exact wfI b3
theorem okWide_arrayX {P : Program} {w : World} {r : Reach} {base : Nat} {t e : TypeId} {n : Nat} {v : Value} (ht : P.underlying t = some (.array n e)) (h : Value.okWide P w r base t v) : ∃ cs, v = .agg cs ∧ cs.size = P.cellsOf t := by
  unfold Value.okWide at h
  rw [ht] at h
  cases v <;> simp_all
set_option maxRecDepth 100000 in
theorem open_wrk {H : Type} {enc : TypeId × Value → H} {W : World} {base : Nat} {v : Value} {d : DataW H} {p : List MemPlace} (hv : Value.okWide Try.prog W .any base 27 v) (h : DataW.Trod enc Try.prog W 0 (fun _ => true) true 27 v d p) : ∃ b : Nat → Bool, v = wrkV b := by
  obtain ⟨cs, rfl, hsz⟩ := okWide_arrayX Try.underlying27 hv
  obtain ⟨v0, v1, v2, v3, rfl⟩ := array4 (hsz.trans cellsB4)
  obtain ⟨fuel, hf⟩ := h
  obtain ⟨z0, z1, z2, z3, n, -, t0, t1, t2, t3⟩ := trod_array4 Try.underlying27 cellsBo hf
  obtain ⟨n0, e0, _⟩ := DataW.trod_bool Try.underlying4 t0
  obtain ⟨n1, e1, _⟩ := DataW.trod_bool Try.underlying4 t1
  obtain ⟨n2, e2, _⟩ := DataW.trod_bool Try.underlying4 t2
  obtain ⟨n3, e3, _⟩ := DataW.trod_bool Try.underlying4 t3
  simp only [List.cons.injEq, and_true] at e0 e1 e2 e3
  subst e0 e1 e2 e3
  exact ⟨pick4 n0 n1 n2 n3, rfl⟩
end Go.Proofs.Ytelhjdplghpnbaa
