import Derived.Test.YtlnppgjppfkocaaGreatDoorRows
import Derived.Test.YtlnppgjppfkocaaGreatDoorCards
import Derived.Test.YtlnppgjppfkocaaGreatDoorTie
import Derived.Test.YtlnppgjppfkocaaGreatDoorGp19
import Derived.Test.YtlnppgjppfkocaaGreatDoorGp29
import Derived.Test.YtlnppgjppfkocaaGreatDoorGp30
import Derived.WalkKit
import Derived.ProofKit
import Derived.OpenShut
import Derived.ShutString
import Derived.ChangeSame
import Derived.ChangeVars
import Derived.JoinedOf
import Derived.RowKit
import Derived.LaidLaws
import Derived.LaidHandle
import Derived.Lay
import Derived.Stop.Joined
import Derived.Stop.LaidErr
import Derived.SevenTiedAt
import Derived.SizedLaws
import Derived.Lib.SmallJoins
import Derived.Lib.LaidTab
import Derived.JoinedCond
import Derived.ChangeMaps
/-! The law ShellPrints: the row, and the card. -/
namespace Go.Proofs.YtlnppgjppfkocaaGreatDoor.shellPrints
open Go.ChangeShapes Go.WideShapes Go.ChangeAt Go.RowKit Go.Joins Go.Deep Plain Xs
open Go.ChangeMaps (open_string shut_string)
set_option linter.unusedVariables false
set_option linter.constructorNameAsVariable false

theorem own : ownKnob Tryz.prog.godebug = none := by kernel_rfl
theorem laidOut : laidOutB Tryz.prog = true := by kernel_rfl
theorem gT : Tryz.prog.globalNamed "internal/strconv.uint64pow10" = some 1 := by kernel_rfl
theorem gTType : (Tryz.prog.globals[1]?).map (·.type) = some 158 := by kernel_rfl
theorem uA : Tryz.prog.underlying 158 = some (.array 20 83) := by kernel_rfl
theorem uE : Tryz.prog.underlying 83 = some (.int .u64) := by kernel_rfl
theorem cE : Tryz.prog.cellsOf 83 = 1 := by kernel_rfl
theorem cA : Tryz.prog.cellsOf 158 = 20 := by kernel_rfl
def TbP (u : World) : Prop := OpsAt u ∧ Tab u
theorem tb_of {W : World} (h : laidMetH Tryz.prog Rows.shellPrintsRow.laid W) : TbP W := by
  have h' : laidMet Tryz.prog Rows.shellPrintsRow.laid W := h
  exact ⟨ops_of h'.tail.tail.tail.tail.tail.tail, Lib.tabIs_of_head gT gTType uA uE cE cA h'.tail.tail⟩
theorem kept : Kept TbP := fun _ _ h hb => ⟨OpsAt.later h.1 hb, h.2.later hb⟩
theorem printOk : PrintOk TbP := fun c vr vp w ht hr hp hw hz => printQ c vr vp w ht.1 ht.2 hr hp hw hz
theorem met (os : Os) (args : Array Value) : laidMetH Tryz.prog Rows.shellPrintsRow.laid ((World.laidAll Tryz.prog os Rows.shellPrintsRow.laid).forCall (fun _ _ => 0) ⟨#[], args, []⟩).memory :=
  laidMetH_of_parts (laidMet_laidAll args (by kernel_rfl) (by kernel_rfl)) (by kernel_rfl)

set_option maxHeartbeats 4000000 in
set_option maxRecDepth 100000 in
theorem lifted  (os : Os) (started : os.Started) (H : Type) (enc : TypeId × Value → H) :
    ReturnsInHanded {} Tryz.checked os 5 .any (fun w args => (Rows.shellPrintsSpec.pre enc Tryz.prog Tryz.f5 [] false w args ∧ laidMetH Tryz.prog Rows.shellPrintsRow.laid w) ∧ sizedMet enc Tryz.prog Tryz.f5 (OpenSpec.ofChange Rows.shellPrintsSpec) false w args)
      (Rows.shellPrintsSpec.post enc Tryz.prog Tryz.f5 false true false false) := by
  refine returnsInHanded_of_change_and (C := Tryz.checked) (X := fun w _ => laidMetH Tryz.prog Rows.shellPrintsRow.laid w) (fun _ _ _ hh h => h.of_heap hh) own started (by kernel_rfl) Tryz.func5
    (ChangeSpec.witness_shaped (enc := enc) (C := Tryz.checked) (os := os) (X := fun w _ => laidMetH Tryz.prog Rows.shellPrintsRow.laid w) false (World.laidAll Tryz.prog os Rows.shellPrintsRow.laid) #[.agg #[.int .i64 0, .int .i64 0, .int .u32 0, .int .i64 0, .string ⟨#[]⟩, .string ⟨#[]⟩, .string ⟨#[]⟩, .int .i64 0, .int .i64 0, .int .i64 0, .int .i64 0, .slice none 0 0, .int .i64 0, .slice none 0 0]] 8 rfl (World.shaped_of_ZipB (by kernel_rfl) (by kernel_rfl)) (by kernel_rfl) (by kernel_rfl) (by kernel_rfl) (met os _)) ?_
  intro W base args ds gs before hval0 hW _ hsz0 hL _
  have hval : ∀ (j : Nat) t v, Tryz.f5.params[j]? = some t → args[j]? = some v → Value.okWide Tryz.prog W .any base t v := hval0
  have hW' := hW
  obtain ⟨p, q, hA0, hV, rfl, hfz, hnd⟩ := hW
  have hA : DataW.TrodAll enc Tryz.prog W 0 (fun _ => true) true Tryz.f5.params.toList args.toList ds p := hA0
  have hsz : (DataW.weightsEach Tryz.prog (Tryz.f5.params.toList ++ Rows.shellPrintsSpec.plain.varTypes Tryz.prog) (ds ++ gs)).all (· ≤ reachBytes) = true := hsz0
  rw [Tryz.params5] at hA hval hsz
  obtain ⟨v0, vs0, d0, ds0, p0, q0, hargs, rfl, rfl, h0, r0⟩ := trodAll_cons hA
  obtain ⟨rfl, rfl, rfl⟩ := trodAll_nil r0
  obtain rfl : args = #[v0] := by cases args; simp_all
  obtain ⟨rfl, rfl⟩ := trodVars_none hV
  have k0 := h0
  have lt0 : ∀ x ∈ p0, x.block < W.heap.size := by obtain ⟨m, hm⟩ := k0; exact DataW.trod_lt m _ _ _ hm
  obtain ⟨c0, vr0, vp0, rfl, hb0, hp0, hw0, hz0⟩ := open_cm (hval 0 28 v0 rfl rfl) h0 (fun m hm => by
    have := List.all_eq_true.1 hsz m (DataW.weights_mem_each (j := 0) (t := 28) rfl rfl m hm)
    simpa using this)
  clear hA0 hval0
  have hc := printsWalk kept printOk c0 vr0 vp0 W hb0 hp0 hw0 hz0 (tb_of hL)
  refine hc.mono fun e W' ⟨he, bel⟩ => ?_
  subst he
  exact ⟨_, rfl, _, _, _, [], _, [], hW', trodAll_mk1 (shut_bool Tryz.underlying4 _), (trodAll_cons_mk (Below.trod laidOut (by kernel_rfl) (of_decide_eq_true (by kernel_rfl)) k0 bel lt0) trodAll_mk0), rfl, bel.frame _, fun h => by cases h⟩

theorem over  : Rows.shellPrintsRow.holds Tryz.pinned (OpenSpec.ofChange Rows.shellPrintsSpec) :=
  OpenClaim.holds_of_wide 5 Tryz.f5 rfl rfl rfl rfl rfl rfl rfl ⟨rfl, rfl, rfl, rfl, rfl⟩ rfl rfl rfl rfl rfl (by kernel_rfl) Tryz.func5 (by kernel_rfl)
    (of_decide_eq_true (by kernel_rfl)) (by unfold Func.isWrapper; first | (rw [if_pos (by decide +kernel)]; kernel_rfl) | (rw [if_neg (by decide +kernel)]; exact ⟨rfl, rfl⟩))
    (fun os started H enc _ => lifted  os started H enc)

theorem proved  : Rows.ShellPrintsCardSaid :=
  Claim7.holds_tied_plain_at .later [] [.data, .data, .data, .data, .sentinel, .sentinel, .data, .pinned] true Rows.shellPrintsCard.stood.harness Rows.shellPrintsCard.stood.looks
    (over ) (fun _ h => by cases h) (by kernel_rfl) (fun _ h => by cases h) shellPrints_row_tie rfl ⟨rfl, rfl⟩ (by kernel_rfl) rfl
    (fun f fn hf hfn => by
      obtain rfl : f = 5 := Option.some.inj ((show Tryz.prog.funcNamed Rows.shellPrintsRow.func = some 5 by kernel_rfl).symm.trans hf) |>.symm
      obtain rfl : fn = Tryz.f5 := (Option.some.inj (Tryz.func5.symm.trans hfn)).symm
      exact ⟨by kernel_rfl, fun j t ht => by
        rw [Tryz.params5] at ht
        have h3 : t = 28 := by
          rcases j with _ | j
          all_goals simp at ht
          all_goals subst ht
          all_goals simp
        rcases h3 with rfl
        · exact (show Tryz.prog.wantsStandIn 28 = false by kernel_rfl)⟩)
    (by kernel_rfl)
end Go.Proofs.YtlnppgjppfkocaaGreatDoor.shellPrints
namespace Go.Proofs.YtlnppgjppfkocaaGreatDoor
theorem shellPrints_proved : Rows.ShellPrintsCardSaid := shellPrints.proved
end Go.Proofs.YtlnppgjppfkocaaGreatDoor
