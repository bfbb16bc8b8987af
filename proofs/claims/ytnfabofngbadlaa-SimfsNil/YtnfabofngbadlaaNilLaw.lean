import Derived.Test.YtnfabofngbadlaaRows
import Derived.Test.YtnfabofngbadlaaStp
import Derived.WalkKit
import Derived.ProofKit
import Derived.OpenShut
import Derived.ShutString
import Derived.ChangeOld
import Derived.Below
import Derived.SizedLaws
namespace Go.Proofs.Ytnfabofngbadlaa.simfsNil
open Go.ChangeShapes Go.WideShapes Plain Go.ChangeAt Go.RowKit
set_option linter.unusedVariables false

theorem own : ownKnob Try.prog.godebug = none := by kernel_rfl
theorem laidOut : laidOutB Try.prog = true := by kernel_rfl

set_option maxRecDepth 100000 in
theorem lifted (os : Os) (started : os.Started) (H : Type) (enc : TypeId × Value → H) :
    ReturnsInHanded {} Try.checked os 7 .any (Rows.simfsNilSpec.pre6 enc Try.prog Try.f7 Rows.simfsNilRow.domain false) (Rows.simfsNilSpec.post enc Try.prog Try.f7 false true false false) := by
  refine returnsInHanded_of_change_sized (C := Try.checked) own started (by kernel_rfl) Try.func7
    (ChangeSpec.witness6 (enc := enc) (C := Try.checked) false ⟨#[], #[.agg #[.int .i64 0, .string ByteArray.empty, .string ByteArray.empty, .int .i64 0, .int .i64 0, .slice none 0 0, .slice none 0 0]], []⟩ 8 (by kernel_rfl) (by kernel_rfl) (by kernel_rfl) (by kernel_rfl)) ?_
  intro W base args ds gs before hval0 hW hcnd hsz0 _
  have hval : ∀ (j : Nat) t v, Try.f7.params[j]? = some t → args[j]? = some v → Value.okWide Try.prog W .any base t v := hval0
  have hW' := hW
  obtain ⟨p, q, hA0, hV, rfl, hfz, hnd⟩ := hW
  have hA : DataW.TrodAll enc Try.prog W 0 (fun _ => true) true Try.f7.params.toList args.toList ds p := hA0
  have hsz : (DataW.weightsEach Try.prog (Try.f7.params.toList ++ Rows.simfsNilSpec.plain.varTypes Try.prog) (ds ++ gs)).all (· ≤ reachBytes) = true := hsz0
  rw [Try.params7] at hA hval hsz
  obtain ⟨v0, vs0, d0, ds0, p0, q0, hargs, rfl, rfl, h0, r0⟩ := trodAll_cons hA
  obtain ⟨rfl, rfl, rfl⟩ := trodAll_nil r0
  obtain rfl : args = #[v0] := by cases args; simp_all
  obtain ⟨rfl, rfl⟩ := trodVars_none hV
  obtain ⟨cs, rfl, hcs⟩ := okWide_struct Try.underlying44 (hval 0 44 v0 rfl rfl)
  have k0 := h0
  have lt0 : ∀ x ∈ p0, x.block < W.heap.size := by obtain ⟨m, hm⟩ := k0; exact DataW.trod_lt m _ _ _ hm
  obtain ⟨k, nm, to, at', n, vb, vp, l, hcsl, hb, hl⟩ : ∃ k nm to at' n vb vp, ∃ l : List Nat, cs = #[.int .i64 k, .string nm, .string to, .int .i64 at', .int .i64 n, vb, vp] ∧ BytesAt W vb l ∧ l.length ≤ 140737488351232 := by
    obtain ⟨fuel, hf⟩ := h0
    obtain ⟨k, nm, to, at', n, vb, vp, y5, y6, m, e, ed, g5, _⟩ := open_step hf
    obtain ⟨a, len, cap, zs, rfl, hr⟩ := open_nums Try.underlying22 Try.underlying5 (by kernel_rfl) g5
    have ec : cs = #[.int .i64 k, .string nm, .string to, .int .i64 at', .int .i64 n, .slice a len cap, vp] := by
      cases cs with
      | mk cl => simpa [Value.cells] using e
    rcases hr with ⟨rfl, rfl, rfl, rfl, _⟩ | ⟨x, rfl, h1, h2, h3, h4, h5⟩
    · exact ⟨k, nm, to, at', n, _, vp, [], ec, BytesAt.nil W, by simp⟩
    · have ed' : d0 = .agg [.lit (.int .i64 k), .lit (.string nm.data.toList), .lit (.string to.data.toList), .lit (.int .i64 at'), .lit (.int .i64 n), y5.1, y6.1] := ed
      rw [ed'] at hsz
      have hs2 := sized_struct Try.underlying44 hsz
      have hsl := sized_slice hs2 (j := 5) (t := 22) (e := 5) rfl (by rw [h4]; rfl) Try.underlying22
      rw [bytes5] at hsl
      simp only [lits, List.length_map, List.length_take, List.length_drop, reachBytes] at hsl
      obtain ⟨l, g1, g2⟩ := bytes_of_row (w := W) (a := some x) (len := len) (cap := cap) (zs := zs) (.inr ⟨x, rfl, h1, h2, h3, h5⟩)
      exact ⟨k, nm, to, at', n, _, vp, l, ec, g2, by omega⟩
  subst hcsl
  clear hA0 hval0
  refine (nilLaw k nm to at' n vb vp l W hb hl).mono fun e W' ⟨he, bel⟩ => ?_
  subst he
  exact ⟨_, rfl, _, _, _, [], _, [], hW', trodAll_mk1 (shut_bool Try.underlying4 _), (trodAll_cons_mk (Below.trod laidOut (by kernel_rfl) (of_decide_eq_true (by kernel_rfl)) k0 bel lt0) trodAll_mk0), rfl, bel.frame _, fun h => by cases h⟩

theorem over : Rows.simfsNilRow.holds Try.pinned (OpenSpec.ofChange Rows.simfsNilSpec) :=
  OpenClaim.holds_of_wide 7 Try.f7 rfl rfl rfl rfl rfl rfl rfl ⟨rfl, rfl, rfl, rfl, rfl⟩ rfl rfl rfl rfl rfl (by kernel_rfl) Try.func7 (by kernel_rfl)
    (of_decide_eq_true (by kernel_rfl)) (by unfold Func.isWrapper; first | (rw [if_pos (by decide +kernel)]; kernel_rfl) | (rw [if_neg (by decide +kernel)]; exact ⟨rfl, rfl⟩))
    (fun os started H enc _ => lifted os started H enc)

theorem proved : Rows.SimfsNilSaid := over
end Go.Proofs.Ytnfabofngbadlaa.simfsNil
namespace Go.Proofs.Ytnfabofngbadlaa
theorem simfsNil_proved : Rows.SimfsNilSaid := simfsNil.proved
#print axioms simfsNil_proved
end Go.Proofs.Ytnfabofngbadlaa
