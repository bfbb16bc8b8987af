import Derived.Test.YtlnppgjppfkocaaGreatDoorRows
import Derived.Test.YtlnppgjppfkocaaGreatDoorCards
import Derived.Test.YtlnppgjppfkocaaGreatDoorTie
import Derived.Test.YtlnppgjppfkocaaGreatDoorGq44
import Derived.Test.YtlnppgjppfkocaaGreatDoorGq41
import Derived.Test.YtlnppgjppfkocaaGreatDoorGq42
import Derived.WalkKit
import Derived.ProofKit
import Derived.OpenShut
import Derived.ShutString
import Derived.ChangeSame
import Derived.ChangeVars
import Derived.JoinedOf
import Derived.RowKit
import Derived.LaidLaws
import Derived.LaidHandle
import Derived.Lay
import Derived.Stop.Joined
import Derived.Stop.LaidErr
import Derived.SevenTiedAt
import Derived.SizedLaws
import Derived.Lib.SmallJoins
import Derived.Lib.LaidTab
import Derived.JoinedCond
import Derived.ChangeMaps
import Derived.Lib.LaidU8T
import Derived.Lib.LaidU8
/-! The law ShellBlanks: the row, and the card. -/
namespace Go.Proofs.YtlnppgjppfkocaaGreatDoor.shellBlanks
open Go.ChangeShapes Go.WideShapes Go.ChangeAt Go.RowKit Go.Joins Go.Deep Plain Xs
open Go.ChangeMaps (open_string shut_string)
set_option linter.unusedVariables false
set_option linter.constructorNameAsVariable false

theorem own : ownKnob Tryz.prog.godebug = none := by kernel_rfl
theorem laidOut : laidOutB Tryz.prog = true := by kernel_rfl
theorem gT : Tryz.prog.globalNamed "internal/strconv.uint64pow10" = some 1 := by kernel_rfl
theorem gTType : (Tryz.prog.globals[1]?).map (·.type) = some 158 := by kernel_rfl
theorem uA : Tryz.prog.underlying 158 = some (.array 20 83) := by kernel_rfl
theorem uE : Tryz.prog.underlying 83 = some (.int .u64) := by kernel_rfl
theorem cE : Tryz.prog.cellsOf 83 = 1 := by kernel_rfl
theorem cA : Tryz.prog.cellsOf 158 = 20 := by kernel_rfl
theorem gS : Tryz.prog.globalNamed "strconv.ErrSyntax" = some 2 := by kernel_rfl
theorem gSType : (Tryz.prog.globals[2]?).map (·.type) = some 101 := by kernel_rfl
theorem gR : Tryz.prog.globalNamed "strconv.ErrRange" = some 8 := by kernel_rfl
theorem gRType : (Tryz.prog.globals[8]?).map (·.type) = some 101 := by kernel_rfl
theorem cES : Tryz.prog.cellsOf 190 = 1 := by kernel_rfl
theorem c9 : Tryz.prog.cellsOf 9 = 1 := by kernel_rfl
theorem star : "*" ++ "errors.errorString" = "*errors.errorString" := by decide
theorem rowE (u : TypeId) (h : Tryz.prog.typeName? 3 u = some "*errors.errorString") : u = 188 :=
  typeName_ptr_named (nm := "errors.errorString") (by rw [star]; kernel_rfl) (by kernel_rfl) (by decide) u (by rw [star]; exact h)
theorem firstEq : Rows.laid_unicode_utf8_first = Lib.firstData := by kernel_rfl
theorem acceptEq : (Rows.laid_unicode_utf8_acceptRanges : DataW Unit) = Lib.acceptData := by kernel_rfl
def TbAll (u : World) : Prop := OpsAt u ∧ Tab u ∧ ErrAt u ∧ Lib.Utf8Tabs 4 5 u
theorem tb_of {W : World} (h : laidMetH Tryz.prog Rows.shellBlanksRow.laid W) : TbAll W := by
  have h' : laidMet Tryz.prog Rows.shellBlanksRow.laid W := h
  obtain ⟨a1, s1, hv1, _⟩ := laid_sentinel h'.tail.tail.tail.tail gR gRType Tryz.underlying101 rowE Tryz.underlying188 Tryz.underlying190 rfl rfl Tryz.underlying9 cES c9
  obtain ⟨a2, s2, hv2, _⟩ := laid_sentinel h'.tail.tail.tail.tail.tail gS gSType Tryz.underlying101 rowE Tryz.underlying188 Tryz.underlying190 rfl rfl Tryz.underlying9 cES c9
  refine ⟨ops_of h'.tail.tail.tail.tail.tail.tail, Lib.tabIs_of_head gT gTType uA uE cE cA h'.tail.tail, ⟨⟨_, _, by simpa using World.var?_cell gS hv2 0⟩, _, _, by simpa using World.var?_cell gR hv1 0⟩, ?_⟩
  have m3 : Lib.VarReads Tryz.prog W "unicode/utf8.first" Rows.laid_unicode_utf8_first := Lib.laidMet.reads h' (.tail _ (.tail _ (.tail _ (.tail _ (.tail _ (.tail _ (.tail _ (.head _))))))))
  have m4 : Lib.VarReads Tryz.prog W "unicode/utf8.acceptRanges" Rows.laid_unicode_utf8_acceptRanges := Lib.laidMet.reads h' (.tail _ (.tail _ (.tail _ (.head _))))
  rw [firstEq] at m3
  rw [acceptEq] at m4
  exact utf8Tabs_of_readsT (U8Types.of196 Tryz.lValid) ⟨by kernel_rfl, by kernel_rfl, by kernel_rfl, by kernel_rfl, by kernel_rfl, by kernel_rfl, by kernel_rfl⟩ m3 m4
theorem kept : Kept TbAll := fun _ _ h hb => ⟨h.1.later hb, h.2.1.later hb, h.2.2.1.later hb, utabs_later h.2.2.2 hb⟩
theorem printOk : PrintOk TbAll := fun c vr vp w ht hr hp hw hz => printQ c vr vp w ht.1 ht.2.1 hr hp hw hz
theorem parseOk : ParseOk TbAll := fun line w ht hl => (parseQ line w ht.2.2.1 ht.1 ht.2.1 ht.2.2.2 hl).mono fun e w' h => h
theorem met (os : Os) (args : Array Value) : laidMetH Tryz.prog Rows.shellBlanksRow.laid ((World.laidAll Tryz.prog os Rows.shellBlanksRow.laid).forCall (fun _ _ => 0) ⟨#[], args, []⟩).memory :=
  laidMetH_of_parts (laidMet_laidAll args (by kernel_rfl) (by kernel_rfl)) (by kernel_rfl)

set_option maxHeartbeats 4000000 in
set_option maxRecDepth 100000 in
theorem lifted  (os : Os) (started : os.Started) (H : Type) (enc : TypeId × Value → H) :
    ReturnsInHanded {} Tryz.checked os 3 .any (fun w args => (Rows.shellBlanksSpec.pre enc Tryz.prog Tryz.f3 [] false w args ∧ laidMetH Tryz.prog Rows.shellBlanksRow.laid w) ∧ sizedMet enc Tryz.prog Tryz.f3 (OpenSpec.ofChange Rows.shellBlanksSpec) false w args)
      (Rows.shellBlanksSpec.post enc Tryz.prog Tryz.f3 false true false false) := by
  refine returnsInHanded_of_change_and (C := Tryz.checked) (X := fun w _ => laidMetH Tryz.prog Rows.shellBlanksRow.laid w) (fun _ _ _ hh h => h.of_heap hh) own started (by kernel_rfl) Tryz.func3
    (ChangeSpec.witness_shaped (enc := enc) (C := Tryz.checked) (os := os) (X := fun w _ => laidMetH Tryz.prog Rows.shellBlanksRow.laid w) false (World.laidAll Tryz.prog os Rows.shellBlanksRow.laid) #[.agg #[.int .i64 0, .int .i64 0, .int .u32 0, .int .i64 0, .string ⟨#[]⟩, .string ⟨#[]⟩, .string ⟨#[]⟩, .int .i64 0, .int .i64 0, .int .i64 0, .int .i64 0, .slice none 0 0, .int .i64 0, .slice none 0 0], .int .i64 0] 8 rfl (World.shaped_of_ZipB (by kernel_rfl) (by kernel_rfl)) (by kernel_rfl) (by kernel_rfl) (by kernel_rfl) (met os _)) ?_
  intro W base args ds gs before hval0 hW _ hsz0 hL _
  have hval : ∀ (j : Nat) t v, Tryz.f3.params[j]? = some t → args[j]? = some v → Value.okWide Tryz.prog W .any base t v := hval0
  have hW' := hW
  obtain ⟨p, q, hA0, hV, rfl, hfz, hnd⟩ := hW
  have hA : DataW.TrodAll enc Tryz.prog W 0 (fun _ => true) true Tryz.f3.params.toList args.toList ds p := hA0
  have hsz : (DataW.weightsEach Tryz.prog (Tryz.f3.params.toList ++ Rows.shellBlanksSpec.plain.varTypes Tryz.prog) (ds ++ gs)).all (· ≤ reachBytes) = true := hsz0
  rw [Tryz.params3] at hA hval hsz
  obtain ⟨v0, vs0, d0, ds0, p0, q0, hargs, rfl, rfl, h0, r0⟩ := trodAll_cons hA
  obtain ⟨v1, vs1, d1, ds1, p1, q1, rfl, rfl, rfl, h1, r1⟩ := trodAll_cons r0
  obtain ⟨rfl, rfl, rfl⟩ := trodAll_nil r1
  obtain rfl : args = #[v0, v1] := by cases args; simp_all
  obtain ⟨rfl, rfl⟩ := trodVars_none hV
  have k0 := h0
  have lt0 : ∀ x ∈ p0, x.block < W.heap.size := by obtain ⟨m, hm⟩ := k0; exact DataW.trod_lt m _ _ _ hm
  obtain ⟨c0, vr0, vp0, rfl, hb0, hp0, hw0, hz0⟩ := open_cm (hval 0 28 v0 rfl rfl) h0 (fun m hm => by
    have := List.all_eq_true.1 hsz m (DataW.weights_mem_each (j := 0) (t := 28) rfl rfl m hm)
    simpa using this)
  obtain ⟨a1, rfl, rfl, rfl, w1⟩ := open_int Tryz.underlying3 (hval 1 3 v1 rfl rfl) h1
  clear hA0 hval0
  have hc := blanksWalk kept printOk parseOk c0 vr0 vp0 a1 W hb0 hp0 hw0 hz0 (wfS w1) (tb_of hL)
  refine hc.mono fun e W' ⟨he, bel⟩ => ?_
  subst he
  exact ⟨_, rfl, _, _, _, [], _, [], hW', trodAll_mk1 (shut_bool Tryz.underlying4 _), (trodAll_cons_mk (Below.trod laidOut (by kernel_rfl) (of_decide_eq_true (by kernel_rfl)) k0 bel lt0) (trodAll_cons_mk (shut_int Tryz.underlying3 w1) trodAll_mk0)), rfl, bel.frame _, fun h => by cases h⟩

theorem over  : Rows.shellBlanksRow.holds Tryz.pinned (OpenSpec.ofChange Rows.shellBlanksSpec) :=
  OpenClaim.holds_of_wide 3 Tryz.f3 rfl rfl rfl rfl rfl rfl rfl ⟨rfl, rfl, rfl, rfl, rfl⟩ rfl rfl rfl rfl rfl (by kernel_rfl) Tryz.func3 (by kernel_rfl)
    (of_decide_eq_true (by kernel_rfl)) (by unfold Func.isWrapper; first | (rw [if_pos (by decide +kernel)]; kernel_rfl) | (rw [if_neg (by decide +kernel)]; exact ⟨rfl, rfl⟩))
    (fun os started H enc _ => lifted  os started H enc)

theorem proved  : Rows.ShellBlanksCardSaid :=
  Claim7.holds_tied_plain_at .later [] [.data, .data, .data, .data, .sentinel, .sentinel, .data, .pinned] true Rows.shellBlanksCard.stood.harness Rows.shellBlanksCard.stood.looks
    (over ) (fun _ h => by cases h) (by kernel_rfl) (fun _ h => by cases h) shellBlanks_row_tie rfl ⟨rfl, rfl⟩ (by kernel_rfl) rfl
    (fun f fn hf hfn => by
      obtain rfl : f = 3 := Option.some.inj ((show Tryz.prog.funcNamed Rows.shellBlanksRow.func = some 3 by kernel_rfl).symm.trans hf) |>.symm
      obtain rfl : fn = Tryz.f3 := (Option.some.inj (Tryz.func3.symm.trans hfn)).symm
      exact ⟨by kernel_rfl, fun j t ht => by
        rw [Tryz.params3] at ht
        have h3 : t = 3 ∨ t = 28 := by
          rcases j with _ | _ | j
          all_goals simp at ht
          all_goals subst ht
          all_goals simp
        rcases h3 with rfl | rfl
        · exact (show Tryz.prog.wantsStandIn 3 = false by kernel_rfl)
        · exact (show Tryz.prog.wantsStandIn 28 = false by kernel_rfl)⟩)
    (by kernel_rfl)
end Go.Proofs.YtlnppgjppfkocaaGreatDoor.shellBlanks
namespace Go.Proofs.YtlnppgjppfkocaaGreatDoor
theorem shellBlanks_proved : Rows.ShellBlanksCardSaid := shellBlanks.proved
end Go.Proofs.YtlnppgjppfkocaaGreatDoor
