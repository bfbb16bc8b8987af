import Derived.Test.YtbeaefokpggmpaaRows
import Derived.Test.YtbeaefokpggmpaaQtm
import Derived.Test.YtbeaefokpggmpaaQtj
import Derived.WalkKit
import Derived.ProofKit
import Derived.OpenShut
import Derived.ChangeOld
import Derived.Below
import Derived.SizedLaws
namespace Go.Proofs.Ytbeaefokpggmpaa.quotaBound
open Go.ChangeShapes Go.WideShapes Go.ChangeAt Go.RowKit
set_option linter.unusedVariables false

theorem own : ownKnob Try.prog.godebug = none := by kernel_rfl
theorem laidOut : laidOutB Try.prog = true := by kernel_rfl

set_option maxRecDepth 100000 in
theorem lifted (os : Os) (started : os.Started) (H : Type) (enc : TypeId × Value → H) :
    ReturnsInHanded {} Try.checked os 4 .any (Rows.quotaBoundSpec.pre6 enc Try.prog Try.f4 Rows.quotaBoundRow.domain false) (Rows.quotaBoundSpec.post enc Try.prog Try.f4 false true false false) := by
  refine returnsInHanded_of_change_sized (C := Try.checked) own started (by kernel_rfl) Try.func4
    (ChangeSpec.witness6 (enc := enc) (C := Try.checked) false ⟨#[], #[.int .i64 0, .int .i64 0, .int .i64 0, .int .i64 0, .slice none 0 0], []⟩ 8 (by kernel_rfl) (by kernel_rfl) (by kernel_rfl) (by kernel_rfl)) ?_
  intro W base args ds gs before hval0 hW hcnd hsz0 _
  have hval : ∀ (j : Nat) t v, Try.f4.params[j]? = some t → args[j]? = some v → Value.okWide Try.prog W .any base t v := hval0
  have hW' := hW
  obtain ⟨p, q, hA0, hV, rfl, hfz, hnd⟩ := hW
  have hA : DataW.TrodAll enc Try.prog W 0 (fun _ => true) true Try.f4.params.toList args.toList ds p := hA0
  have hsz : (DataW.weightsEach Try.prog (Try.f4.params.toList ++ Rows.quotaBoundSpec.plain.varTypes Try.prog) (ds ++ gs)).all (· ≤ reachBytes) = true := hsz0
  rw [Try.params4] at hA hval hsz
  obtain ⟨v0, vs0, d0, ds0, p0, q0, hargs0, rfl, rfl, h0, r0⟩ := trodAll_cons hA
  obtain ⟨v1, vs1, d1, ds1, p1, q1, hargs1, rfl, rfl, h1, r1⟩ := trodAll_cons r0
  obtain ⟨v2, vs2, d2, ds2, p2, q2, hargs2, rfl, rfl, h2, r2⟩ := trodAll_cons r1
  obtain ⟨v3, vs3, d3, ds3, p3, q3, hargs3, rfl, rfl, h3, r3⟩ := trodAll_cons r2
  obtain ⟨v4, vs4, d4, ds4, p4, q4, hargs4, rfl, rfl, h4, r4⟩ := trodAll_cons r3
  obtain ⟨rfl, rfl, rfl⟩ := trodAll_nil r4
  obtain rfl : args = #[v0, v1, v2, v3, v4] := by cases args; simp_all
  obtain ⟨rfl, rfl⟩ := trodVars_none hV
  have k0 := h0
  have lt0 : ∀ x ∈ p0, x.block < W.heap.size := by obtain ⟨m, hm⟩ := k0; exact DataW.trod_lt m _ _ _ hm
  have k1 := h1
  have lt1 : ∀ x ∈ p1, x.block < W.heap.size := by obtain ⟨m, hm⟩ := k1; exact DataW.trod_lt m _ _ _ hm
  have k2 := h2
  have lt2 : ∀ x ∈ p2, x.block < W.heap.size := by obtain ⟨m, hm⟩ := k2; exact DataW.trod_lt m _ _ _ hm
  have k3 := h3
  have lt3 : ∀ x ∈ p3, x.block < W.heap.size := by obtain ⟨m, hm⟩ := k3; exact DataW.trod_lt m _ _ _ hm
  have k4 := h4
  have lt4 : ∀ x ∈ p4, x.block < W.heap.size := by obtain ⟨m, hm⟩ := k4; exact DataW.trod_lt m _ _ _ hm
  obtain ⟨n0, rfl, hn0⟩ : ∃ n : Int, v0 = .int .i64 n ∧ I64 n := by
    obtain ⟨fuel, hf⟩ := h0
    obtain ⟨n, e, _, wf⟩ := DataW.trod_int Try.underlying2 (cs := v0.cells.toList) hf
    have hv := hval 0 2 v0 rfl rfl
    obtain ⟨n', rfl⟩ := okWide_int Try.underlying2 hv
    simp [Value.cells] at e
    subst e
    have := bounds_i64 wf
    exact ⟨n', rfl, by unfold I64; omega⟩
  obtain ⟨n1, rfl, hn1⟩ : ∃ n : Int, v1 = .int .i64 n ∧ I64 n := by
    obtain ⟨fuel, hf⟩ := h1
    obtain ⟨n, e, _, wf⟩ := DataW.trod_int Try.underlying2 (cs := v1.cells.toList) hf
    have hv := hval 1 2 v1 rfl rfl
    obtain ⟨n', rfl⟩ := okWide_int Try.underlying2 hv
    simp [Value.cells] at e
    subst e
    have := bounds_i64 wf
    exact ⟨n', rfl, by unfold I64; omega⟩
  obtain ⟨n2, rfl, hn2⟩ : ∃ n : Int, v2 = .int .i64 n ∧ I64 n := by
    obtain ⟨fuel, hf⟩ := h2
    obtain ⟨n, e, _, wf⟩ := DataW.trod_int Try.underlying2 (cs := v2.cells.toList) hf
    have hv := hval 2 2 v2 rfl rfl
    obtain ⟨n', rfl⟩ := okWide_int Try.underlying2 hv
    simp [Value.cells] at e
    subst e
    have := bounds_i64 wf
    exact ⟨n', rfl, by unfold I64; omega⟩
  obtain ⟨n3, rfl, hn3⟩ : ∃ n : Int, v3 = .int .i64 n ∧ I64 n := by
    obtain ⟨fuel, hf⟩ := h3
    obtain ⟨n, e, _, wf⟩ := DataW.trod_int Try.underlying2 (cs := v3.cells.toList) hf
    have hv := hval 3 2 v3 rfl rfl
    obtain ⟨n', rfl⟩ := okWide_int Try.underlying2 hv
    simp [Value.cells] at e
    subst e
    have := bounds_i64 wf
    exact ⟨n', rfl, by unfold I64; omega⟩
  obtain ⟨a, len, cap, rfl⟩ := okWide_slice Try.underlying29 (hval 4 29 v4 rfl rfl)
  obtain ⟨st, hst⟩ : ∃ st : List Ak, AksAt W (.slice a len cap) st := by
    obtain ⟨fuel, hf⟩ := h4
    refine open_aks (v := .slice a len cap) (by simpa [Value.cells] using hf) (fun el sp e => ?_)
    simp only at e
    exact sized_slice hsz (j := 4) (t := 29) (e := 33) rfl (by rw [e]; rfl) Try.underlying29
  clear hA0 hval0
  refine (boundWalk n0 n1 n2 n3 hn0 hn1 hn2 hn3 _ st W hst).mono fun e W' ⟨he, bel⟩ => ?_
  subst he
  exact ⟨_, rfl, _, _, _, [], _, [], hW', trodAll_mk1 (shut_bool Try.underlying4 _), (trodAll_cons_mk (Below.trod laidOut (by kernel_rfl) (of_decide_eq_true (by kernel_rfl)) k0 bel lt0) (trodAll_cons_mk (Below.trod laidOut (by kernel_rfl) (of_decide_eq_true (by kernel_rfl)) k1 bel lt1) (trodAll_cons_mk (Below.trod laidOut (by kernel_rfl) (of_decide_eq_true (by kernel_rfl)) k2 bel lt2) (trodAll_cons_mk (Below.trod laidOut (by kernel_rfl) (of_decide_eq_true (by kernel_rfl)) k3 bel lt3) (trodAll_cons_mk (Below.trod laidOut (by kernel_rfl) (of_decide_eq_true (by kernel_rfl)) k4 bel lt4) trodAll_mk0))))), rfl, bel.frame _, fun h => by cases h⟩

theorem over : Rows.quotaBoundRow.holds Try.pinned (OpenSpec.ofChange Rows.quotaBoundSpec) :=
  OpenClaim.holds_of_wide 4 Try.f4 rfl rfl rfl rfl rfl rfl rfl ⟨rfl, rfl, rfl, rfl, rfl⟩ rfl rfl rfl rfl rfl (by kernel_rfl) Try.func4 (by kernel_rfl)
    (of_decide_eq_true (by kernel_rfl)) (by unfold Func.isWrapper; first | (rw [if_pos (by decide +kernel)]; kernel_rfl) | (rw [if_neg (by decide +kernel)]; exact ⟨rfl, rfl⟩))
    (fun os started H enc _ => lifted os started H enc)

theorem proved : Rows.QuotaBoundSaid := over
end Go.Proofs.Ytbeaefokpggmpaa.quotaBound
namespace Go.Proofs.Ytbeaefokpggmpaa
theorem quotaBound_proved : Rows.QuotaBoundSaid := quotaBound.proved
#print axioms quotaBound_proved
end Go.Proofs.Ytbeaefokpggmpaa
