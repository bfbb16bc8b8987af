import Derived.Test.YtlnppgjppfkocaaGreatDoorRows
import Derived.Test.YtlnppgjppfkocaaGreatDoorCards
import Derived.Test.YtlnppgjppfkocaaGreatDoorTie
import Derived.Test.YtlnppgjppfkocaaGreatDoorGq47
import Derived.Test.YtlnppgjppfkocaaGreatDoorGq41
import Derived.Test.YtlnppgjppfkocaaGreatDoorGq42
import Derived.Test.YtlnppgjppfkocaaGreatDoorGq48
import Derived.WalkKit
import Derived.ProofKit
import Derived.OpenShut
import Derived.ShutString
import Derived.ChangeSame
import Derived.ChangeVars
import Derived.JoinedOf
import Derived.RowKit
import Derived.LaidLaws
import Derived.LaidHandle
import Derived.Lay
import Derived.Stop.Joined
import Derived.Stop.LaidErr
import Derived.SevenTiedAt
import Derived.SizedLaws
import Derived.Lib.SmallJoins
import Derived.Lib.LaidTab
import Derived.JoinedCond
import Derived.ChangeMaps
import Derived.Lib.LaidU8T
import Derived.Lib.LaidU8
/-! The law ShellTells: the row, and the card. -/
namespace Go.Proofs.YtlnppgjppfkocaaGreatDoor.shellTells
open Go.ChangeShapes Go.WideShapes Go.ChangeAt Go.RowKit Go.Joins Go.Deep Plain Xs
open Go.ChangeMaps (open_string shut_string)
set_option linter.unusedVariables false
set_option linter.constructorNameAsVariable false

theorem own : ownKnob Tryz.prog.godebug = none := by kernel_rfl
theorem laidOut : laidOutB Tryz.prog = true := by kernel_rfl
theorem gT : Tryz.prog.globalNamed "internal/strconv.uint64pow10" = some 1 := by kernel_rfl
theorem gTType : (Tryz.prog.globals[1]?).map (·.type) = some 158 := by kernel_rfl
theorem uA : Tryz.prog.underlying 158 = some (.array 20 83) := by kernel_rfl
theorem uE : Tryz.prog.underlying 83 = some (.int .u64) := by kernel_rfl
theorem cE : Tryz.prog.cellsOf 83 = 1 := by kernel_rfl
theorem cA : Tryz.prog.cellsOf 158 = 20 := by kernel_rfl
theorem gS : Tryz.prog.globalNamed "strconv.ErrSyntax" = some 2 := by kernel_rfl
theorem gSType : (Tryz.prog.globals[2]?).map (·.type) = some 101 := by kernel_rfl
theorem gR : Tryz.prog.globalNamed "strconv.ErrRange" = some 8 := by kernel_rfl
theorem gRType : (Tryz.prog.globals[8]?).map (·.type) = some 101 := by kernel_rfl
theorem cES : Tryz.prog.cellsOf 190 = 1 := by kernel_rfl
theorem c9 : Tryz.prog.cellsOf 9 = 1 := by kernel_rfl
theorem star : "*" ++ "errors.errorString" = "*errors.errorString" := by decide
theorem rowE (u : TypeId) (h : Tryz.prog.typeName? 3 u = some "*errors.errorString") : u = 188 :=
  typeName_ptr_named (nm := "errors.errorString") (by rw [star]; kernel_rfl) (by kernel_rfl) (by decide) u (by rw [star]; exact h)
theorem firstEq : Rows.laid_unicode_utf8_first = Lib.firstData := by kernel_rfl
theorem acceptEq : (Rows.laid_unicode_utf8_acceptRanges : DataW Unit) = Lib.acceptData := by kernel_rfl
def TbAll (u : World) : Prop := OpsAt u ∧ Tab u ∧ ErrAt u ∧ Lib.Utf8Tabs 4 5 u
theorem tb_of {W : World} (h : laidMetH Tryz.prog Rows.shellTellsUptoRow.laid W) : TbAll W := by
  have h' : laidMet Tryz.prog Rows.shellTellsUptoRow.laid W := h
  obtain ⟨a1, s1, hv1, _⟩ := laid_sentinel h'.tail.tail.tail.tail gR gRType Tryz.underlying101 rowE Tryz.underlying188 Tryz.underlying190 rfl rfl Tryz.underlying9 cES c9
  obtain ⟨a2, s2, hv2, _⟩ := laid_sentinel h'.tail.tail.tail.tail.tail gS gSType Tryz.underlying101 rowE Tryz.underlying188 Tryz.underlying190 rfl rfl Tryz.underlying9 cES c9
  refine ⟨ops_of h'.tail.tail.tail.tail.tail.tail, Lib.tabIs_of_head gT gTType uA uE cE cA h'.tail.tail, ⟨⟨_, _, by simpa using World.var?_cell gS hv2 0⟩, _, _, by simpa using World.var?_cell gR hv1 0⟩, ?_⟩
  have m3 : Lib.VarReads Tryz.prog W "unicode/utf8.first" Rows.laid_unicode_utf8_first := Lib.laidMet.reads h' (.tail _ (.tail _ (.tail _ (.tail _ (.tail _ (.tail _ (.tail _ (.head _))))))))
  have m4 : Lib.VarReads Tryz.prog W "unicode/utf8.acceptRanges" Rows.laid_unicode_utf8_acceptRanges := Lib.laidMet.reads h' (.tail _ (.tail _ (.tail _ (.head _))))
  rw [firstEq] at m3
  rw [acceptEq] at m4
  exact utf8Tabs_of_readsT (U8Types.of196 Tryz.lValid) ⟨by kernel_rfl, by kernel_rfl, by kernel_rfl, by kernel_rfl, by kernel_rfl, by kernel_rfl, by kernel_rfl⟩ m3 m4
theorem kept : Kept TbAll := fun _ _ h hb => ⟨h.1.later hb, h.2.1.later hb, h.2.2.1.later hb, utabs_later h.2.2.2 hb⟩
theorem printOk : PrintOk TbAll := fun c vr vp w ht hr hp hw hz => printQ c vr vp w ht.1 ht.2.1 hr hp hw hz
theorem parseOk : ParseOk TbAll := fun line w ht hl => (parseQ line w ht.2.2.1 ht.1 ht.2.1 ht.2.2.2 hl).mono fun e w' h => h
theorem showOk : ShowOk TbAll := fun r vr vn w ht hr hn ok sm hl => showOfQ r vr vn w ht.2.1 hr hn ok hl sm.names sm.recs sm.smn sm.smr
theorem met (os : Os) (args : Array Value) : laidMetH Tryz.prog Rows.shellTellsUptoRow.laid ((World.laidAll Tryz.prog os Rows.shellTellsUptoRow.laid).forCall (fun _ _ => 0) ⟨#[], args, []⟩).memory :=
  laidMetH_of_parts (laidMet_laidAll args (by kernel_rfl) (by kernel_rfl)) (by kernel_rfl)

set_option maxHeartbeats 4000000 in
set_option maxRecDepth 100000 in
theorem lifted  (os : Os) (started : os.Started) (H : Type) (enc : TypeId × Value → H) (F : Stop.Interp) :
    ReturnsInHanded {} Tryz.checked os 7 .any (fun w args => (((Rows.OpenSpec.upto Rows.shellTellsSpec).pre enc Tryz.prog Tryz.f7 Rows.shellTellsUptoRow.domain false w args ∧ laidMetH Tryz.prog Rows.shellTellsUptoRow.laid w) ∧ sizedMet enc Tryz.prog Tryz.f7 (Rows.OpenSpec.upto Rows.shellTellsSpec) false w args))
      (((Rows.OpenSpec.upto Rows.shellTellsSpec).at F).post enc Tryz.prog Tryz.f7 false true false false) := by
  refine handed_cond_and (C := Tryz.checked) (s := (Rows.OpenSpec.upto Rows.shellTellsSpec)) (k := Rows.uptoSmall) rfl (X := fun w _ => laidMetH Tryz.prog Rows.shellTellsUptoRow.laid w) (fun _ _ _ hh h => h.of_heap hh) own started (by kernel_rfl) Tryz.func7
    (witness_cond_and (enc := enc) (C := Tryz.checked) (os := os) (s := (Rows.OpenSpec.upto Rows.shellTellsSpec)) (k := Rows.uptoSmall) rfl (X := fun w _ => laidMetH Tryz.prog Rows.shellTellsUptoRow.laid w) false (World.laidAll Tryz.prog os Rows.shellTellsUptoRow.laid) #[.agg #[.int .u32 0, .int .i64 0, .int .i64 0, .int .i64 0, .int .i64 0, .bool false, .slice none 0 0, .slice none 0 0], .agg #[.int .u32 0, .int .i64 0, .int .i64 0, .int .i64 0, .int .i64 0, .bool false, .slice none 0 0, .slice none 0 0]] 8 rfl (World.shaped_of_ZipB (by kernel_rfl) (by kernel_rfl)) (by kernel_rfl)
      (x := ([.agg [.lit (.int .u32 0), .lit (.int .i64 0), .lit (.int .i64 0), .lit (.int .i64 0), .lit (.int .i64 0), .lit (.bool false), .nil, .nil], .agg [.lit (.int .u32 0), .lit (.int .i64 0), .lit (.int .i64 0), .lit (.int .i64 0), .lit (.int .i64 0), .lit (.bool false), .nil, .nil]], [], [])) (by kernel_rfl) (by kernel_rfl) (by kernel_rfl) (by kernel_rfl) (met os _)) ?_
  intro W base args ds gs before hval0 hW _ hk hsz0 hL _
  have hval : ∀ (j : Nat) t v, Tryz.f7.params[j]? = some t → args[j]? = some v → Value.okWide Tryz.prog W .any base t v := hval0
  have hW' := hW
  obtain ⟨p, q, hA0, hV, rfl, hfz, hnd⟩ := hW
  have hA : DataW.TrodAll enc Tryz.prog W 0 (fun _ => true) true Tryz.f7.params.toList args.toList ds p := hA0
  have hsz : (DataW.weightsEach Tryz.prog (Tryz.f7.params.toList ++ (Rows.OpenSpec.upto Rows.shellTellsSpec).bare.plain.varTypes Tryz.prog) (ds ++ gs)).all (· ≤ reachBytes) = true := hsz0
  rw [Tryz.params7] at hA hval hsz
  obtain ⟨v0, vs0, d0, ds0, p0, q0, hargs, rfl, rfl, h0, r0⟩ := trodAll_cons hA
  obtain ⟨v1, vs1, d1, ds1, p1, q1, rfl, rfl, rfl, h1, r1⟩ := trodAll_cons r0
  obtain ⟨rfl, rfl, rfl⟩ := trodAll_nil r1
  obtain rfl : args = #[v0, v1] := by cases args; simp_all
  obtain ⟨rfl, rfl⟩ := trodVars_none hV
  have hbulk : Rows.uptoBulk d0 ≤ 1048576 ∧ Rows.uptoBulk d1 ≤ 1048576 := by
    have h : Rows.uptoBulkAll ([d0, d1] ++ []) ≤ 1048576 := of_decide_eq_true hk
    simp only [List.append_nil, Rows.uptoBulkAll] at h
    omega
  have k0 := h0
  have lt0 : ∀ x ∈ p0, x.block < W.heap.size := by obtain ⟨m, hm⟩ := k0; exact DataW.trod_lt m _ _ _ hm
  obtain ⟨x0, vr0, vn0, rfl, hr0, hn0, ok0, b10, b20, b30, b40⟩ := open_rp (hval 0 45 v0 rfl rfl) h0 hbulk.1
  have hl0 := show_len ok0 b10 b20 (fun x hx => Nat.le_succ_of_le (b30 x hx)) (fun x hx => ⟨rec_ok hr0 x hx, Nat.le_succ_of_le (b40 x hx).1, Nat.le_succ_of_le (b40 x hx).2⟩)
  have k1 := h1
  have lt1 : ∀ x ∈ p1, x.block < W.heap.size := by obtain ⟨m, hm⟩ := k1; exact DataW.trod_lt m _ _ _ hm
  obtain ⟨x1, vr1, vn1, rfl, hr1, hn1, ok1, b11, b21, b31, b41⟩ := open_rp (hval 1 45 v1 rfl rfl) h1 hbulk.2
  have hl1 := show_len ok1 b11 b21 (fun x hx => Nat.le_succ_of_le (b31 x hx)) (fun x hx => ⟨rec_ok hr1 x hx, Nat.le_succ_of_le (b41 x hx).1, Nat.le_succ_of_le (b41 x hx).2⟩)
  clear hA0 hval0
  have hc := tellsWalk kept printOk parseOk showOk x0 x1 vr0 vn0 vr1 vn1 W hr0 hn0 hr1 hn1 ok0 ok1 ⟨b10, b20, fun x hx => Nat.le_succ_of_le (b30 x hx), fun x hx => ⟨rec_ok hr0 x hx, Nat.le_succ_of_le (b40 x hx).1, Nat.le_succ_of_le (b40 x hx).2⟩⟩ ⟨b11, b21, fun x hx => Nat.le_succ_of_le (b31 x hx), fun x hx => ⟨rec_ok hr1 x hx, Nat.le_succ_of_le (b41 x hx).1, Nat.le_succ_of_le (b41 x hx).2⟩⟩ hl0 hl1 (tb_of hL)
  refine hc.mono fun e W' ⟨he, bel⟩ => ?_
  subst he
  exact ⟨_, rfl, _, _, _, [], _, [], hW', trodAll_mk1 (shut_bool Tryz.underlying4 _), (trodAll_cons_mk (Below.trod laidOut (by kernel_rfl) (of_decide_eq_true (by kernel_rfl)) k0 bel lt0) (trodAll_cons_mk (Below.trod laidOut (by kernel_rfl) (of_decide_eq_true (by kernel_rfl)) k1 bel lt1) trodAll_mk0)), rfl, bel.frame _, fun h => by cases h⟩

theorem over  : Rows.shellTellsUptoRow.holds Tryz.pinned (Rows.OpenSpec.upto Rows.shellTellsSpec) :=
  OpenClaim.holds_of_cond 7 Tryz.f7 rfl rfl rfl rfl rfl rfl rfl ⟨rfl, rfl, rfl, rfl, rfl⟩ rfl rfl rfl rfl rfl (by kernel_rfl) Tryz.func7 (by kernel_rfl)
    (of_decide_eq_true (by kernel_rfl)) (by unfold Func.isWrapper; first | (rw [if_pos (by decide +kernel)]; kernel_rfl) | (rw [if_neg (by decide +kernel)]; exact ⟨rfl, rfl⟩))
    (fun os started H enc _ F => lifted  os started H enc F)

theorem proved  : Rows.ShellTellsUptoCardSaid :=
  Claim7.holds_tied_plain_at .later [] [.data, .data, .data, .data, .sentinel, .sentinel, .data, .pinned] true Rows.shellTellsUptoCard.stood.harness Rows.shellTellsUptoCard.stood.looks
    (over ) (fun _ h => by cases h) (by kernel_rfl) (fun _ h => by cases h) shellTellsUpto_row_tie rfl ⟨rfl, rfl⟩ (by kernel_rfl) rfl
    (fun f fn hf hfn => by
      obtain rfl : f = 7 := Option.some.inj ((show Tryz.prog.funcNamed Rows.shellTellsUptoRow.func = some 7 by kernel_rfl).symm.trans hf) |>.symm
      obtain rfl : fn = Tryz.f7 := (Option.some.inj (Tryz.func7.symm.trans hfn)).symm
      exact ⟨by kernel_rfl, fun j t ht => by
        rw [Tryz.params7] at ht
        have h3 : t = 45 := by
          rcases j with _ | _ | j
          all_goals simp at ht
          all_goals subst ht
          all_goals simp
        rcases h3 with rfl
        · exact (show Tryz.prog.wantsStandIn 45 = false by kernel_rfl)⟩)
    (by kernel_rfl)
end Go.Proofs.YtlnppgjppfkocaaGreatDoor.shellTells
namespace Go.Proofs.YtlnppgjppfkocaaGreatDoor
theorem shellTells_proved : Rows.ShellTellsUptoCardSaid := shellTells.proved
end Go.Proofs.YtlnppgjppfkocaaGreatDoor
