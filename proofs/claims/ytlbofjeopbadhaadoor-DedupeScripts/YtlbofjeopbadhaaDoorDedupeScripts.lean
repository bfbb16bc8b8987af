import Derived.Test.YtlbofjeopbadhaaDoorJdF
import Derived.Test.YtlbofjeopbadhaaDoorCards
import Derived.Test.YtlbofjeopbadhaaDoorTie
import Derived.WalkKit
import Derived.ProofKit
import Derived.OpenShut
import Derived.ShutString
import Derived.ChangeSame
import Derived.ChangeVars
import Derived.JoinedOf
import Derived.RowKit
import Derived.LaidLaws
import Derived.LaidHandle
import Derived.Lay
import Derived.Stop.Joined
import Derived.SevenTiedAt
import Derived.SizedLaws
import Derived.ChangeMaps5
import Derived.Lib.SmallJoins
import Derived.Lib.LaidTab
/-! The law of scripts: the row, and the card. -/
namespace Go.Proofs.YtlbofjeopbadhaaDoor.dedupeScripts
open Go.ChangeShapes Go.WideShapes Go.ChangeAt Go.RowKit Go.Joins Go.ChangeMaps Go.Deep
set_option linter.unusedVariables false

theorem own : ownKnob Tryd.prog.godebug = none := by kernel_rfl
theorem laidOut : laidOutB Tryd.prog = true := by kernel_rfl
theorem gR : Tryd.prog.globalNamed "chronicle/dedupe.refusals" = some 0 := by kernel_rfl
theorem gRType : (Tryd.prog.globals[0]?).map (·.type) = some 71 := by kernel_rfl
theorem uR : Tryd.prog.underlying 71 = some (.array 7 27) := by kernel_rfl
theorem uE : Tryd.prog.underlying 27 = some (.int .i64) := by kernel_rfl
theorem cE : Tryd.prog.cellsOf 27 = 1 := by kernel_rfl
theorem cR : Tryd.prog.cellsOf 71 = 7 := by kernel_rfl
theorem refs_of {W : World} (h : laidMetH Tryd.prog Rows.dedupeScriptsRow.laid W) : Refs W := by
  have h' : laidMet Tryd.prog Rows.dedupeScriptsRow.laid W := h
  have ht : Lib.TabIs Tryd.prog W "chronicle/dedupe.refusals" .i64 [93, 0, 0, 0, 91, 90, 92] := Lib.tabIs_of_head gR gRType uR uE cE cR h'
  exact ⟨ht.cell gR 0 (by decide), ht.cell gR 1 (by decide), ht.cell gR 2 (by decide), ht.cell gR 3 (by decide), ht.cell gR 4 (by decide), ht.cell gR 5 (by decide), ht.cell gR 6 (by decide)⟩
theorem met (os : Os) (args : Array Value) : laidMetH Tryd.prog Rows.dedupeScriptsRow.laid ((World.laidAll Tryd.prog os Rows.dedupeScriptsRow.laid).forCall (fun _ _ => 0) ⟨#[], args, []⟩).memory :=
  laidMetH_of_parts (laidMet_laidAll args (by kernel_rfl) (by kernel_rfl)) (by kernel_rfl)

set_option maxRecDepth 100000 in
theorem lifted (os : Os) (started : os.Started) (H : Type) (enc : TypeId × Value → H) :
    ReturnsInHanded {} Tryd.checked os 6 .any (fun w args => (Rows.dedupeScriptsSpec.pre enc Tryd.prog Tryd.f6 [] false w args ∧ laidMetH Tryd.prog Rows.dedupeScriptsRow.laid w) ∧ sizedMet enc Tryd.prog Tryd.f6 (OpenSpec.ofChange Rows.dedupeScriptsSpec) false w args)
      (Rows.dedupeScriptsSpec.post enc Tryd.prog Tryd.f6 false true false false) := by
  refine returnsInHanded_of_change_and (C := Tryd.checked) (X := fun w _ => laidMetH Tryd.prog Rows.dedupeScriptsRow.laid w) (fun _ _ _ hh h => h.of_heap hh) own started (by kernel_rfl) Tryd.func6
    (ChangeSpec.witness_shaped (enc := enc) (C := Tryd.checked) (os := os) (X := fun w _ => laidMetH Tryd.prog Rows.dedupeScriptsRow.laid w) false (World.laidAll Tryd.prog os Rows.dedupeScriptsRow.laid) #[.slice none 0 0, .slice none 0 0] 8 rfl (World.shaped_of_ZipB (by kernel_rfl) (by kernel_rfl)) (by kernel_rfl) (by kernel_rfl) (by kernel_rfl) (met os _)) ?_
  intro W base args ds gs before hval0 hW _ hsz0 hL _
  have hval : ∀ (j : Nat) t v, Tryd.f6.params[j]? = some t → args[j]? = some v → Value.okWide Tryd.prog W .any base t v := hval0
  have hW' := hW
  obtain ⟨p, q, hA0, hV, rfl, hfz, hnd⟩ := hW
  have hA : DataW.TrodAll enc Tryd.prog W 0 (fun _ => true) true Tryd.f6.params.toList args.toList ds p := hA0
  have hsz : (DataW.weightsEach Tryd.prog (Tryd.f6.params.toList ++ Rows.dedupeScriptsSpec.plain.varTypes Tryd.prog) (ds ++ gs)).all (· ≤ reachBytes) = true := hsz0
  rw [Tryd.params6] at hA hval hsz
  obtain ⟨v0, vs0, d0, ds0, p0, q0, hargs, rfl, rfl, h0, r0⟩ := trodAll_cons hA
  obtain ⟨v1, vs1, d1, ds1, p1, q1, rfl, rfl, rfl, h1, r1⟩ := trodAll_cons r0
  obtain ⟨rfl, rfl, rfl⟩ := trodAll_nil r1
  obtain rfl : args = #[v0, v1] := by cases args; simp_all
  obtain ⟨rfl, rfl⟩ := trodVars_none hV
  obtain ⟨a0, len0, cap0, rfl⟩ := okWide_slice Tryd.underlying30 (hval 0 30 v0 rfl rfl)
  obtain ⟨a1, len1, cap1, rfl⟩ := okWide_slice Tryd.underlying54 (hval 1 54 v1 rfl rfl)
  have k0 := h0
  have k1 := h1
  have lt0 : ∀ x ∈ p0, x.block < W.heap.size := by obtain ⟨m, hm⟩ := k0; exact DataW.trod_lt m _ _ _ hm
  have lt1 : ∀ x ∈ p1, x.block < W.heap.size := by obtain ⟨m, hm⟩ := k1; exact DataW.trod_lt m _ _ _ hm
  obtain ⟨ps, hps⟩ : ∃ st, PrsAt W (.slice a0 len0 cap0) st := by
    obtain ⟨fuel, hf⟩ := h0
    exact open_prs hf (fun el sp e => sized_slice hsz (j := 0) (t := 30) (e := 50) rfl (by
      have e' : d0 = .slice el sp := e
      rw [e']; rfl) Tryd.underlying30)
  obtain ⟨ss, hss⟩ : ∃ st, StsAt W (.slice a1 len1 cap1) st := by
    obtain ⟨fuel, hf⟩ := h1
    exact open_sts hf (fun el sp e => sized_slice hsz (j := 1) (t := 54) (e := 61) rfl (by
      have e' : d1 = .slice el sp := e
      rw [e']; rfl) Tryd.underlying54)
  obtain rfl : len0 = ps.length := by
    obtain ⟨a', c', e, _⟩ := hps
    simp at e
    exact e.2.1
  obtain rfl : len1 = ss.length := by
    obtain ⟨a', c', e, _⟩ := hss
    simp at e
    exact e.2.1
  clear hA0 hval0
  refine (scriptsWalk a0 cap0 ps a1 cap1 ss W hps hss (refs_of hL)).mono fun e W' ⟨he, bel⟩ => ?_
  subst he
  refine ⟨_, rfl, _, _, _, [], p0 ++ (p1 ++ []), [], hW', ?_, ?_, rfl, bel.frame _, fun h => by cases h⟩
  · exact trodAll_cons_mk (shut_bool Tryd.underlying4 _) trodAll_mk0
  · exact trodAll_cons_mk (Below.trod laidOut (by kernel_rfl) (of_decide_eq_true (by kernel_rfl)) k0 bel lt0) (trodAll_cons_mk (Below.trod laidOut (by kernel_rfl) (of_decide_eq_true (by kernel_rfl)) k1 bel lt1) trodAll_mk0)

theorem over : Rows.DedupeScriptsSaid :=
  OpenClaim.holds_of_wide 6 Tryd.f6 rfl rfl rfl rfl rfl rfl rfl ⟨rfl, rfl, rfl, rfl, rfl⟩ rfl rfl rfl rfl rfl (by kernel_rfl) Tryd.func6 (by kernel_rfl)
    (of_decide_eq_true (by kernel_rfl)) (by unfold Func.isWrapper; first | (rw [if_pos (by decide +kernel)]; kernel_rfl) | (rw [if_neg (by decide +kernel)]; exact ⟨rfl, rfl⟩))
    (fun os started H enc _ => lifted os started H enc)

theorem proved : Rows.DedupeScriptsCardSaid :=
  Claim7.holds_tied_plain_at .later [] [.data] true Rows.dedupeScriptsCard.stood.harness true
    over (fun _ h => by cases h) (by kernel_rfl) (fun _ h => by cases h) dedupeScripts_row_tie rfl ⟨rfl, rfl⟩ (by kernel_rfl) rfl
    (fun f fn hf hfn => by
      obtain rfl : f = 6 := Option.some.inj ((show Tryd.prog.funcNamed Rows.dedupeScriptsRow.func = some 6 by kernel_rfl).symm.trans hf) |>.symm
      obtain rfl : fn = Tryd.f6 := (Option.some.inj (Tryd.func6.symm.trans hfn)).symm
      exact ⟨by kernel_rfl, fun j t ht => by
        rw [Tryd.params6] at ht
        have h3 : t = 30 ∨ t = 54 := by
          rcases j with _ | _ | j
          · left; simpa using ht.symm
          · right; simpa using ht.symm
          · simp at ht
        rcases h3 with rfl | rfl
        · exact (show Tryd.prog.wantsStandIn 30 = false by kernel_rfl)
        · exact (show Tryd.prog.wantsStandIn 54 = false by kernel_rfl)⟩)
    (by kernel_rfl)
end Go.Proofs.YtlbofjeopbadhaaDoor.dedupeScripts
namespace Go.Proofs.YtlbofjeopbadhaaDoor
theorem dedupeScripts_proved : Rows.DedupeScriptsCardSaid := dedupeScripts.proved
#print axioms dedupeScripts_proved
end Go.Proofs.YtlbofjeopbadhaaDoor
