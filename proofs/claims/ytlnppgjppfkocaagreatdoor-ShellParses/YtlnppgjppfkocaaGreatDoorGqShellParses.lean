import Derived.Test.YtlnppgjppfkocaaGreatDoorRows
import Derived.Test.YtlnppgjppfkocaaGreatDoorCards
import Derived.Test.YtlnppgjppfkocaaGreatDoorTie
import Derived.Test.YtlnppgjppfkocaaGreatDoorGq19
import Derived.Test.YtlnppgjppfkocaaGreatDoorGq41
import Derived.Test.YtlnppgjppfkocaaGreatDoorGq42
import Derived.WalkKit
import Derived.ProofKit
import Derived.OpenShut
import Derived.ShutString
import Derived.ChangeSame
import Derived.ChangeVars
import Derived.JoinedOf
import Derived.RowKit
import Derived.LaidLaws
import Derived.LaidHandle
import Derived.Lay
import Derived.Stop.Joined
import Derived.Stop.LaidErr
import Derived.SevenTiedAt
import Derived.SizedLaws
import Derived.Lib.SmallJoins
import Derived.Lib.LaidTab
import Derived.JoinedCond
import Derived.ChangeMaps
import Derived.Lib.LaidU8T
import Derived.Lib.LaidU8
/-! The law ShellParses: the row, and the card. -/
namespace Go.Proofs.YtlnppgjppfkocaaGreatDoor.shellParses
open Go.ChangeShapes Go.WideShapes Go.ChangeAt Go.RowKit Go.Joins Go.Deep Plain Xs
open Go.ChangeMaps (open_string shut_string)
set_option linter.unusedVariables false
set_option linter.constructorNameAsVariable false

theorem own : ownKnob Tryz.prog.godebug = none := by kernel_rfl
theorem laidOut : laidOutB Tryz.prog = true := by kernel_rfl
theorem gT : Tryz.prog.globalNamed "internal/strconv.uint64pow10" = some 1 := by kernel_rfl
theorem gTType : (Tryz.prog.globals[1]?).map (·.type) = some 158 := by kernel_rfl
theorem uA : Tryz.prog.underlying 158 = some (.array 20 83) := by kernel_rfl
theorem uE : Tryz.prog.underlying 83 = some (.int .u64) := by kernel_rfl
theorem cE : Tryz.prog.cellsOf 83 = 1 := by kernel_rfl
theorem cA : Tryz.prog.cellsOf 158 = 20 := by kernel_rfl
theorem gS : Tryz.prog.globalNamed "strconv.ErrSyntax" = some 2 := by kernel_rfl
theorem gSType : (Tryz.prog.globals[2]?).map (·.type) = some 101 := by kernel_rfl
theorem gR : Tryz.prog.globalNamed "strconv.ErrRange" = some 8 := by kernel_rfl
theorem gRType : (Tryz.prog.globals[8]?).map (·.type) = some 101 := by kernel_rfl
theorem cES : Tryz.prog.cellsOf 190 = 1 := by kernel_rfl
theorem c9 : Tryz.prog.cellsOf 9 = 1 := by kernel_rfl
theorem star : "*" ++ "errors.errorString" = "*errors.errorString" := by decide
theorem rowE (u : TypeId) (h : Tryz.prog.typeName? 3 u = some "*errors.errorString") : u = 188 :=
  typeName_ptr_named (nm := "errors.errorString") (by rw [star]; kernel_rfl) (by kernel_rfl) (by decide) u (by rw [star]; exact h)
theorem firstEq : Rows.laid_unicode_utf8_first = Lib.firstData := by kernel_rfl
theorem acceptEq : (Rows.laid_unicode_utf8_acceptRanges : DataW Unit) = Lib.acceptData := by kernel_rfl
def TbAll (u : World) : Prop := OpsAt u ∧ Tab u ∧ ErrAt u ∧ Lib.Utf8Tabs 4 5 u
theorem tb_of {W : World} (h : laidMetH Tryz.prog Rows.shellParsesRow.laid W) : TbAll W := by
  have h' : laidMet Tryz.prog Rows.shellParsesRow.laid W := h
  obtain ⟨a1, s1, hv1, _⟩ := laid_sentinel h'.tail.tail.tail.tail gR gRType Tryz.underlying101 rowE Tryz.underlying188 Tryz.underlying190 rfl rfl Tryz.underlying9 cES c9
  obtain ⟨a2, s2, hv2, _⟩ := laid_sentinel h'.tail.tail.tail.tail.tail gS gSType Tryz.underlying101 rowE Tryz.underlying188 Tryz.underlying190 rfl rfl Tryz.underlying9 cES c9
  refine ⟨ops_of h'.tail.tail.tail.tail.tail.tail, Lib.tabIs_of_head gT gTType uA uE cE cA h'.tail.tail, ⟨⟨_, _, by simpa using World.var?_cell gS hv2 0⟩, _, _, by simpa using World.var?_cell gR hv1 0⟩, ?_⟩
  have m3 : Lib.VarReads Tryz.prog W "unicode/utf8.first" Rows.laid_unicode_utf8_first := Lib.laidMet.reads h' (.tail _ (.tail _ (.tail _ (.tail _ (.tail _ (.tail _ (.tail _ (.head _))))))))
  have m4 : Lib.VarReads Tryz.prog W "unicode/utf8.acceptRanges" Rows.laid_unicode_utf8_acceptRanges := Lib.laidMet.reads h' (.tail _ (.tail _ (.tail _ (.head _))))
  rw [firstEq] at m3
  rw [acceptEq] at m4
  exact utf8Tabs_of_readsT (U8Types.of196 Tryz.lValid) ⟨by kernel_rfl, by kernel_rfl, by kernel_rfl, by kernel_rfl, by kernel_rfl, by kernel_rfl, by kernel_rfl⟩ m3 m4
theorem kept : Kept TbAll := fun _ _ h hb => ⟨h.1.later hb, h.2.1.later hb, h.2.2.1.later hb, utabs_later h.2.2.2 hb⟩
theorem printOk : PrintOk TbAll := fun c vr vp w ht hr hp hw hz => printQ c vr vp w ht.1 ht.2.1 hr hp hw hz
theorem parseOk : ParseOk TbAll := fun line w ht hl => (parseQ line w ht.2.2.1 ht.1 ht.2.1 ht.2.2.2 hl).mono fun e w' h => h
theorem met (os : Os) (args : Array Value) : laidMetH Tryz.prog Rows.shellParsesRow.laid ((World.laidAll Tryz.prog os Rows.shellParsesRow.laid).forCall (fun _ _ => 0) ⟨#[], args, []⟩).memory :=
  laidMetH_of_parts (laidMet_laidAll args (by kernel_rfl) (by kernel_rfl)) (by kernel_rfl)

set_option maxHeartbeats 4000000 in
set_option maxRecDepth 100000 in
theorem lifted  (os : Os) (started : os.Started) (H : Type) (enc : TypeId × Value → H) :
    ReturnsInHanded {} Tryz.checked os 6 .any (fun w args => (Rows.shellParsesSpec.pre enc Tryz.prog Tryz.f6 [] false w args ∧ laidMetH Tryz.prog Rows.shellParsesRow.laid w) ∧ sizedMet enc Tryz.prog Tryz.f6 (OpenSpec.ofChange Rows.shellParsesSpec) false w args)
      (Rows.shellParsesSpec.post enc Tryz.prog Tryz.f6 false true false false) := by
  refine returnsInHanded_of_change_and (C := Tryz.checked) (X := fun w _ => laidMetH Tryz.prog Rows.shellParsesRow.laid w) (fun _ _ _ hh h => h.of_heap hh) own started (by kernel_rfl) Tryz.func6
    (ChangeSpec.witness_shaped (enc := enc) (C := Tryz.checked) (os := os) (X := fun w _ => laidMetH Tryz.prog Rows.shellParsesRow.laid w) false (World.laidAll Tryz.prog os Rows.shellParsesRow.laid) #[.string ⟨#[]⟩] 8 rfl (World.shaped_of_ZipB (by kernel_rfl) (by kernel_rfl)) (by kernel_rfl) (by kernel_rfl) (by kernel_rfl) (met os _)) ?_
  intro W base args ds gs before hval0 hW _ hsz0 hL _
  have hval : ∀ (j : Nat) t v, Tryz.f6.params[j]? = some t → args[j]? = some v → Value.okWide Tryz.prog W .any base t v := hval0
  have hW' := hW
  obtain ⟨p, q, hA0, hV, rfl, hfz, hnd⟩ := hW
  have hA : DataW.TrodAll enc Tryz.prog W 0 (fun _ => true) true Tryz.f6.params.toList args.toList ds p := hA0
  have hsz : (DataW.weightsEach Tryz.prog (Tryz.f6.params.toList ++ Rows.shellParsesSpec.plain.varTypes Tryz.prog) (ds ++ gs)).all (· ≤ reachBytes) = true := hsz0
  rw [Tryz.params6] at hA hval hsz
  obtain ⟨v0, vs0, d0, ds0, p0, q0, hargs, rfl, rfl, h0, r0⟩ := trodAll_cons hA
  obtain ⟨rfl, rfl, rfl⟩ := trodAll_nil r0
  obtain rfl : args = #[v0] := by cases args; simp_all
  obtain ⟨rfl, rfl⟩ := trodVars_none hV
  obtain ⟨a0, rfl, rfl, rfl, w0⟩ := open_string Tryz.underlying9 (hval 0 9 v0 rfl rfl) h0
  have z0 : a0.data.toList.length ≤ 1125899906842624 := by
    have := sized_string hsz (j := 0) (t := 9) rfl rfl
    simp only [reachBytes] at this
    omega
  clear hA0 hval0
  have hc := parsesWalk kept parseOk a0.data.toList W z0 (tb_of hL)
  rw [ba_list a0] at hc
  refine hc.mono fun e W' ⟨he, bel⟩ => ?_
  subst he
  exact ⟨_, rfl, _, _, _, [], _, [], hW', trodAll_mk1 (shut_bool Tryz.underlying4 _), (trodAll_cons_mk (shut_string Tryz.underlying9 w0) trodAll_mk0), rfl, bel.frame _, fun h => by cases h⟩

theorem over  : Rows.shellParsesRow.holds Tryz.pinned (OpenSpec.ofChange Rows.shellParsesSpec) :=
  OpenClaim.holds_of_wide 6 Tryz.f6 rfl rfl rfl rfl rfl rfl rfl ⟨rfl, rfl, rfl, rfl, rfl⟩ rfl rfl rfl rfl rfl (by kernel_rfl) Tryz.func6 (by kernel_rfl)
    (of_decide_eq_true (by kernel_rfl)) (by unfold Func.isWrapper; first | (rw [if_pos (by decide +kernel)]; kernel_rfl) | (rw [if_neg (by decide +kernel)]; exact ⟨rfl, rfl⟩))
    (fun os started H enc _ => lifted  os started H enc)

theorem proved  : Rows.ShellParsesCardSaid :=
  Claim7.holds_tied_plain_at .later [] [.data, .data, .data, .data, .sentinel, .sentinel, .data, .pinned] true Rows.shellParsesCard.stood.harness Rows.shellParsesCard.stood.looks
    (over ) (fun _ h => by cases h) (by kernel_rfl) (fun _ h => by cases h) shellParses_row_tie rfl ⟨rfl, rfl⟩ (by kernel_rfl) rfl
    (fun f fn hf hfn => by
      obtain rfl : f = 6 := Option.some.inj ((show Tryz.prog.funcNamed Rows.shellParsesRow.func = some 6 by kernel_rfl).symm.trans hf) |>.symm
      obtain rfl : fn = Tryz.f6 := (Option.some.inj (Tryz.func6.symm.trans hfn)).symm
      exact ⟨by kernel_rfl, fun j t ht => by
        rw [Tryz.params6] at ht
        have h3 : t = 9 := by
          rcases j with _ | j
          all_goals simp at ht
          all_goals subst ht
          all_goals simp
        rcases h3 with rfl
        · exact (show Tryz.prog.wantsStandIn 9 = false by kernel_rfl)⟩)
    (by kernel_rfl)
end Go.Proofs.YtlnppgjppfkocaaGreatDoor.shellParses
namespace Go.Proofs.YtlnppgjppfkocaaGreatDoor
theorem shellParses_proved : Rows.ShellParsesCardSaid := shellParses.proved
end Go.Proofs.YtlnppgjppfkocaaGreatDoor
