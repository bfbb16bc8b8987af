import Derived.Test.YtnfabofngbadlaaNl
import Derived.Test.YtnfabofngbadlaaRows
import Derived.ProofKit
import Derived.OpenShut
import Derived.SizedLaws
/-! A step that came in. -/
namespace Go.Proofs.Ytnfabofngbadlaa
open Go.RowKit Go.ChangeShapes Go.WideShapes Go.ChangeAt Plain
set_option linter.unusedVariables false

theorem cells_step : Try.prog.cellsOf 44 = 7 := by kernel_rfl
theorem cells_3 : Try.prog.cellsOf 3 = 1 := by kernel_rfl
theorem cells_9 : Try.prog.cellsOf 9 = 1 := by kernel_rfl
theorem cells_B : Try.prog.cellsOf 22 = 1 := by kernel_rfl
theorem cells_I : Try.prog.cellsOf 23 = 1 := by kernel_rfl
theorem bytes5 : Try.prog.bytesOf 5 = 1 := by kernel_rfl

/-- A slice of numbers, as a reading finds it. -/
theorem open_nums {H : Type} {enc : TypeId × Value → H} {W : World} {fuel t : Nat} {e : TypeId} {k : IntKind} {v : Value} {x : DataW H × List MemPlace} (ht : Try.prog.underlying t = some (.slice e)) (he : Try.prog.underlying e = some (.int k)) (hc : Try.prog.cellsOf e = 1)
    (h : DataW.trod enc Try.prog W 0 (fun _ => true) true fuel t [v] = some x) :
    ∃ (a : Option Addr) (len cap : Nat) (zs : List Int), v = .slice a len cap ∧ ((a = none ∧ len = 0 ∧ cap = 0 ∧ zs = [] ∧ x.1 = .nil) ∨
      ∃ p, a = some p ∧ len ≤ cap ∧ cap ≤ maxLen ∧ zs.length = cap ∧ x.1 = .slice (lits k (zs.take len)) (lits k (zs.drop len)) ∧ (∀ i, i < zs.length → W.cell? (p.add i) = some (.int k (zs.getD i 0))) ∧ ∀ n ∈ zs, (Lit.int k n).wf = true) := by
  rcases open_ints ht he hc h with ⟨hcs, hx⟩ | ⟨a, len, cap, zs, hcs, _, hl, hm, hz, hx, hcell, hwz⟩
  · simp at hcs
    exact ⟨none, 0, 0, [], hcs, .inl ⟨rfl, rfl, rfl, rfl, by rw [hx]⟩⟩
  · simp at hcs
    simp only [if_true] at hz
    exact ⟨some a, len, cap, zs, hcs, .inr ⟨a, rfl, hl, hm, hz, by rw [hx], hcell, hwz⟩⟩

set_option maxRecDepth 100000 in
theorem open_step {H : Type} {enc : TypeId × Value → H} {W : World} {fuel : Nat} {cs : List Value} {x : DataW H × List MemPlace} (h : DataW.trod enc Try.prog W 0 (fun _ => true) true fuel 44 cs = some x) :
    ∃ (k : Int) (nm to : ByteArray) (at' n : Int) (vb vp : Value) (y5 y6 : DataW H × List MemPlace) (m : Nat), cs = [.int .i64 k, .string nm, .string to, .int .i64 at', .int .i64 n, vb, vp] ∧
      x.1 = .agg [.lit (.int .i64 k), .lit (.string nm.data.toList), .lit (.string to.data.toList), .lit (.int .i64 at'), .lit (.int .i64 n), y5.1, y6.1] ∧
      DataW.trod enc Try.prog W 0 (fun _ => true) true m 22 [vb] = some y5 ∧ DataW.trod enc Try.prog W 0 (fun _ => true) true m 23 [vp] = some y6 ∧
      (Lit.int .i64 k).wf = true ∧ (Lit.int .i64 at').wf = true ∧ (Lit.int .i64 n).wf = true ∧ nm.size ≤ maxLen ∧ to.size ≤ maxLen := by
  obtain ⟨xs, m, _, hx, hl, hlen, hf⟩ := DataW.trod_struct Try.underlying44 h
  rw [cells_step] at hl
  have hlen : xs.length = 7 := hlen
  match cs, hl with
  | [v0, v1, v2, v3, v4, v5, v6], _ =>
    match xs, hlen with
    | [y0, y1, y2, y3, y4, y5, y6], _ =>
      have k0 : DataW.trod enc Try.prog W 0 (fun _ => true) true m 3 [v0] = some y0 := by simpa [cells_3] using hf 0 _ rfl
      have k1 : DataW.trod enc Try.prog W 0 (fun _ => true) true m 9 [v1] = some y1 := by simpa [cells_9] using hf 1 _ rfl
      have k2 : DataW.trod enc Try.prog W 0 (fun _ => true) true m 9 [v2] = some y2 := by simpa [cells_9] using hf 2 _ rfl
      have k3 : DataW.trod enc Try.prog W 0 (fun _ => true) true m 3 [v3] = some y3 := by simpa [cells_3] using hf 3 _ rfl
      have k4 : DataW.trod enc Try.prog W 0 (fun _ => true) true m 3 [v4] = some y4 := by simpa [cells_3] using hf 4 _ rfl
      have k5 : DataW.trod enc Try.prog W 0 (fun _ => true) true m 22 [v5] = some y5 := by simpa [cells_B] using hf 5 _ rfl
      have k6 : DataW.trod enc Try.prog W 0 (fun _ => true) true m 23 [v6] = some y6 := by simpa [cells_I] using hf 6 _ rfl
      obtain ⟨n0, e0, hy0, w0⟩ := DataW.trod_int Try.underlying3 k0
      obtain ⟨s1, e1, hy1, w1⟩ := DataW.trod_string Try.underlying9 k1
      obtain ⟨s2, e2, hy2, w2⟩ := DataW.trod_string Try.underlying9 k2
      obtain ⟨n3, e3, hy3, w3⟩ := DataW.trod_int Try.underlying3 k3
      obtain ⟨n4, e4, hy4, w4⟩ := DataW.trod_int Try.underlying3 k4
      simp only [List.cons.injEq, and_true] at e0 e1 e2 e3 e4
      subst e0 e1 e2 e3 e4 hy0 hy1 hy2 hy3 hy4
      exact ⟨n0, s1, s2, n3, n4, v5, v6, y5, y6, m, rfl, by rw [hx]; rfl, k5, k6, w0, w3, w4, w1, w2⟩

theorem sized_struct {H : Type} {P : Program} {t : TypeId} {fs : Array Field} {ts : List TypeId} {parts : List (DataW H)} {ds : List (DataW H)} (hu : P.underlying t = some (.struct fs))
    (h : (DataW.weightsEach P (t :: ts) (.agg parts :: ds)).all (· ≤ reachBytes) = true) : (DataW.weightsEach P (fs.toList.map (·.type)) parts).all (· ≤ reachBytes) = true := by
  simp only [DataW.weightsEach, List.all_append, Bool.and_eq_true] at h
  have := h.1
  simpa [DataW.weights, hu] using this
end Go.Proofs.Ytnfabofngbadlaa
