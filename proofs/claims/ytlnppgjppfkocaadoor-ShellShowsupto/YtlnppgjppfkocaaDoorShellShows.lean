import Derived.Test.YtlnppgjppfkocaaDoorRows
import Derived.Test.YtlnppgjppfkocaaDoorCards
import Derived.Test.YtlnppgjppfkocaaDoorTie
import Derived.Test.YtlnppgjppfkocaaDoorXvC
import Derived.Test.YtlnppgjppfkocaaDoorYbG
import Derived.Test.YtlnppgjppfkocaaDoorXuC
import Derived.Test.YtlnppgjppfkocaaDoorXuB
import Derived.Test.YtlnppgjppfkocaaDoorXvL
import Derived.WalkKit
import Derived.ProofKit
import Derived.OpenShut
import Derived.ShutString
import Derived.ChangeSame
import Derived.ChangeVars
import Derived.JoinedOf
import Derived.RowKit
import Derived.LaidLaws
import Derived.LaidHandle
import Derived.Lay
import Derived.Stop.Joined
import Derived.Stop.LaidErr
import Derived.SevenTiedAt
import Derived.SizedLaws
import Derived.Lib.SmallJoins
import Derived.Lib.LaidTab
import Derived.JoinedCond
import Derived.ChangeMaps
/-! The law ShellShows: the row, and the card. -/
namespace Go.Proofs.YtlnppgjppfkocaaDoor.shellShows
open Go.ChangeShapes Go.WideShapes Go.ChangeAt Go.RowKit Go.Joins Go.Deep Plain Xs
open Go.ChangeMaps (open_string shut_string)
set_option linter.unusedVariables false
set_option linter.constructorNameAsVariable false

theorem own : ownKnob Tryd.prog.godebug = none := by kernel_rfl
theorem laidOut : laidOutB Tryd.prog = true := by kernel_rfl
theorem gT : Tryd.prog.globalNamed "internal/strconv.uint64pow10" = some 0 := by kernel_rfl
theorem gTType : (Tryd.prog.globals[0]?).map (·.type) = some 81 := by kernel_rfl
theorem uA : Tryd.prog.underlying 81 = some (.array 20 49) := by kernel_rfl
theorem uE : Tryd.prog.underlying 49 = some (.int .u64) := by kernel_rfl
theorem cE : Tryd.prog.cellsOf 49 = 1 := by kernel_rfl
theorem cA : Tryd.prog.cellsOf 81 = 20 := by kernel_rfl
theorem tb_of {W : World} (h : laidMetH Tryd.prog Rows.shellShowsUptoRow.laid W) : Tab W := by
  have h' : laidMet Tryd.prog Rows.shellShowsUptoRow.laid W := h
  exact Lib.tabIs_of_head gT gTType uA uE cE cA h'.tail.tail
theorem kept : ∀ u v, Tab u → Below u.heap.size u v → Tab v := fun _ _ h hb => h.later hb
theorem showOk : ShowOk Tab := fun r vr vn w ht hr hn ok sm hl => showOfQ r vr vn w ht hr hn ok hl sm.names sm.recs sm.smn sm.smr
theorem met (os : Os) (args : Array Value) : laidMetH Tryd.prog Rows.shellShowsUptoRow.laid ((World.laidAll Tryd.prog os Rows.shellShowsUptoRow.laid).forCall (fun _ _ => 0) ⟨#[], args, []⟩).memory :=
  laidMetH_of_parts (laidMet_laidAll args (by kernel_rfl) (by kernel_rfl)) (by kernel_rfl)

set_option maxHeartbeats 4000000 in
set_option maxRecDepth 100000 in
theorem lifted  (os : Os) (started : os.Started) (H : Type) (enc : TypeId × Value → H) (F : Stop.Interp) :
    ReturnsInHanded {} Tryd.checked os 3 .any (fun w args => (((Rows.OpenSpec.upto Rows.shellShowsSpec).pre enc Tryd.prog Tryd.f3 Rows.shellShowsUptoRow.domain false w args ∧ laidMetH Tryd.prog Rows.shellShowsUptoRow.laid w) ∧ sizedMet enc Tryd.prog Tryd.f3 (Rows.OpenSpec.upto Rows.shellShowsSpec) false w args))
      (((Rows.OpenSpec.upto Rows.shellShowsSpec).at F).post enc Tryd.prog Tryd.f3 false true false false) := by
  refine handed_cond_and (C := Tryd.checked) (s := (Rows.OpenSpec.upto Rows.shellShowsSpec)) (k := Rows.uptoSmall) rfl (X := fun w _ => laidMetH Tryd.prog Rows.shellShowsUptoRow.laid w) (fun _ _ _ hh h => h.of_heap hh) own started (by kernel_rfl) Tryd.func3
    (witness_cond_and (enc := enc) (C := Tryd.checked) (os := os) (s := (Rows.OpenSpec.upto Rows.shellShowsSpec)) (k := Rows.uptoSmall) rfl (X := fun w _ => laidMetH Tryd.prog Rows.shellShowsUptoRow.laid w) false (World.laidAll Tryd.prog os Rows.shellShowsUptoRow.laid) #[.agg #[.int .u32 0, .int .i64 0, .int .i64 0, .int .i64 0, .int .i64 0, .bool false, .slice none 0 0, .slice none 0 0]] 8 rfl (World.shaped_of_ZipB (by kernel_rfl) (by kernel_rfl)) (by kernel_rfl)
      (x := ([.agg [.lit (.int .u32 0), .lit (.int .i64 0), .lit (.int .i64 0), .lit (.int .i64 0), .lit (.int .i64 0), .lit (.bool false), .nil, .nil]], [], [])) (by kernel_rfl) (by kernel_rfl) (by kernel_rfl) (by kernel_rfl) (met os _)) ?_
  intro W base args ds gs before hval0 hW _ hk hsz0 hL _
  have hval : ∀ (j : Nat) t v, Tryd.f3.params[j]? = some t → args[j]? = some v → Value.okWide Tryd.prog W .any base t v := hval0
  have hW' := hW
  obtain ⟨p, q, hA0, hV, rfl, hfz, hnd⟩ := hW
  have hA : DataW.TrodAll enc Tryd.prog W 0 (fun _ => true) true Tryd.f3.params.toList args.toList ds p := hA0
  have hsz : (DataW.weightsEach Tryd.prog (Tryd.f3.params.toList ++ (Rows.OpenSpec.upto Rows.shellShowsSpec).bare.plain.varTypes Tryd.prog) (ds ++ gs)).all (· ≤ reachBytes) = true := hsz0
  rw [Tryd.params3] at hA hval hsz
  obtain ⟨v0, vs0, d0, ds0, p0, q0, hargs, rfl, rfl, h0, r0⟩ := trodAll_cons hA
  obtain ⟨rfl, rfl, rfl⟩ := trodAll_nil r0
  obtain rfl : args = #[v0] := by cases args; simp_all
  obtain ⟨rfl, rfl⟩ := trodVars_none hV
  have hbulk : Rows.uptoBulk d0 ≤ 1048576 := by
    have h : Rows.uptoBulkAll ([d0] ++ []) ≤ 1048576 := of_decide_eq_true hk
    simp only [List.append_nil, Rows.uptoBulkAll] at h
    omega
  have k0 := h0
  have lt0 : ∀ x ∈ p0, x.block < W.heap.size := by obtain ⟨m, hm⟩ := k0; exact DataW.trod_lt m _ _ _ hm
  obtain ⟨x0, vr0, vn0, rfl, hr0, hn0, ok0, b10, b20, b30, b40⟩ := open_rp (hval 0 26 v0 rfl rfl) h0 hbulk
  have hl0 := show_len ok0 b10 b20 (fun x hx => Nat.le_succ_of_le (b30 x hx)) (fun x hx => ⟨rec_ok hr0 x hx, Nat.le_succ_of_le (b40 x hx).1, Nat.le_succ_of_le (b40 x hx).2⟩)
  clear hA0 hval0
  have hc := showsWalk (Tb := Tab) kept showOk x0 vr0 vn0 W hr0 hn0 ok0 b10 b20 b30 b40 (tb_of hL)
  refine hc.mono fun e W' ⟨he, bel⟩ => ?_
  subst he
  exact ⟨_, rfl, _, _, _, [], _, [], hW', trodAll_mk1 (shut_bool Tryd.underlying4 _), (trodAll_cons_mk (Below.trod laidOut (by kernel_rfl) (of_decide_eq_true (by kernel_rfl)) k0 bel lt0) trodAll_mk0), rfl, bel.frame _, fun h => by cases h⟩

theorem over  : Rows.shellShowsUptoRow.holds Tryd.pinned (Rows.OpenSpec.upto Rows.shellShowsSpec) :=
  OpenClaim.holds_of_cond 3 Tryd.f3 rfl rfl rfl rfl rfl rfl rfl ⟨rfl, rfl, rfl, rfl, rfl⟩ rfl rfl rfl rfl rfl (by kernel_rfl) Tryd.func3 (by kernel_rfl)
    (of_decide_eq_true (by kernel_rfl)) (by unfold Func.isWrapper; first | (rw [if_pos (by decide +kernel)]; kernel_rfl) | (rw [if_neg (by decide +kernel)]; exact ⟨rfl, rfl⟩))
    (fun os started H enc _ F => lifted  os started H enc F)

theorem proved  : Rows.ShellShowsUptoCardSaid :=
  Claim7.holds_tied_plain_at .later [] [.data, .data, .data, .data, .pinned] true Rows.shellShowsUptoCard.stood.harness Rows.shellShowsUptoCard.stood.looks
    (over ) (fun _ h => by cases h) (by kernel_rfl) (fun _ h => by cases h) shellShowsUpto_row_tie rfl ⟨rfl, rfl⟩ (by kernel_rfl) rfl
    (fun f fn hf hfn => by
      obtain rfl : f = 3 := Option.some.inj ((show Tryd.prog.funcNamed Rows.shellShowsUptoRow.func = some 3 by kernel_rfl).symm.trans hf) |>.symm
      obtain rfl : fn = Tryd.f3 := (Option.some.inj (Tryd.func3.symm.trans hfn)).symm
      exact ⟨by kernel_rfl, fun j t ht => by
        rw [Tryd.params3] at ht
        have h3 : t = 26 := by
          rcases j with _ | j
          all_goals simp at ht
          all_goals subst ht
          all_goals simp
        rcases h3 with rfl
        · exact (show Tryd.prog.wantsStandIn 26 = false by kernel_rfl)⟩)
    (by kernel_rfl)
end Go.Proofs.YtlnppgjppfkocaaDoor.shellShows
namespace Go.Proofs.YtlnppgjppfkocaaDoor
theorem shellShows_proved : Rows.ShellShowsUptoCardSaid := shellShows.proved
end Go.Proofs.YtlnppgjppfkocaaDoor
