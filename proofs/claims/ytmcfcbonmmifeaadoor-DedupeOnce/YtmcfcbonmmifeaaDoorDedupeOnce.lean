import Derived.Test.YtmcfcbonmmifeaaDoorOnG
import Derived.Test.YtmcfcbonmmifeaaDoorCards
import Derived.Test.YtmcfcbonmmifeaaDoorTie
import Derived.WalkKit
import Derived.ProofKit
import Derived.OpenShut
import Derived.ShutString
import Derived.ChangeSame
import Derived.ChangeVars
import Derived.ChangeSlices
import Derived.JoinedOf
import Derived.RowKit
import Derived.LaidLaws
import Derived.LaidHandle
import Derived.Lay
import Derived.Stop.Joined
import Derived.SevenTiedAt
import Derived.SizedLaws
import Derived.ChangeMaps5
import Derived.Lib.SmallJoins
import Derived.Lib.LaidTab
/-! The law of once: the row, and the card. -/
namespace Go.Proofs.YtmcfcbonmmifeaaDoor.dedupeOnce
open Go.ChangeShapes Go.WideShapes Go.ChangeAt Go.RowKit Go.Joins Go.ChangeMaps Go.Deep Plain
set_option linter.unusedVariables false

theorem own : ownKnob Tryd.prog.godebug = none := by kernel_rfl
theorem laidOut : laidOutB Tryd.prog = true := by kernel_rfl
theorem gR : Tryd.prog.globalNamed "chronicle/dedupe.refusals" = some 0 := by kernel_rfl
theorem gRType : (Tryd.prog.globals[0]?).map (·.type) = some 72 := by kernel_rfl
theorem uR : Tryd.prog.underlying 72 = some (.array 7 25) := by kernel_rfl
theorem uE : Tryd.prog.underlying 25 = some (.int .i64) := by kernel_rfl
theorem cE : Tryd.prog.cellsOf 25 = 1 := by kernel_rfl
theorem cR : Tryd.prog.cellsOf 72 = 7 := by kernel_rfl
theorem refs_of {W : World} (h : laidMetH Tryd.prog Rows.dedupeOnceRow.laid W) : Refs W := by
  have h' : laidMet Tryd.prog Rows.dedupeOnceRow.laid W := h
  have ht : Lib.TabIs Tryd.prog W "chronicle/dedupe.refusals" .i64 [93, 0, 0, 0, 91, 90, 92] := Lib.tabIs_of_head gR gRType uR uE cE cR h'
  exact ⟨ht.cell gR 0 (by decide), ht.cell gR 1 (by decide), ht.cell gR 2 (by decide), ht.cell gR 3 (by decide), ht.cell gR 4 (by decide), ht.cell gR 5 (by decide), ht.cell gR 6 (by decide)⟩
theorem met (os : Os) (args : Array Value) : laidMetH Tryd.prog Rows.dedupeOnceRow.laid ((World.laidAll Tryd.prog os Rows.dedupeOnceRow.laid).forCall (fun _ _ => 0) ⟨#[], args, []⟩).memory :=
  laidMetH_of_parts (laidMet_laidAll args (by kernel_rfl) (by kernel_rfl)) (by kernel_rfl)
theorem bytes_2 : Tryd.prog.bytesOf 2 = 8 := by kernel_rfl
theorem open_gaps {H : Type} {enc : TypeId × Value → H} {W : World} {fuel : Nat} {a : Option Addr} {len cap : Nat} {x : DataW H × List MemPlace} (h : DataW.trod enc Tryd.prog W 0 (fun _ => true) true fuel 23 [.slice a len cap] = some x) (hsz : ∀ el sp, x.1 = .slice el sp → (el.length + sp.length) * Tryd.prog.bytesOf 2 ≤ reachBytes) :
    len ≤ 140737488355328 ∧ GapsAt W a len := by
  rcases open_ints Tryd.underlying23 Tryd.underlying2 (by kernel_rfl) h with ⟨hcs, _⟩ | ⟨x, l, c, zs, hcs, _, hl, hm, hz, hx, hcell, hwz⟩
  · simp at hcs
    obtain ⟨rfl, rfl, rfl⟩ := hcs
    exact ⟨by omega, fun u m _ hm => by omega⟩
  · simp at hcs
    obtain ⟨rfl, rfl, rfl⟩ := hcs
    simp only [if_true] at hz
    have hbig := hsz _ _ (by rw [hx])
    rw [bytes_2] at hbig
    refine ⟨by simp [lits, reachBytes] at hbig; omega, fun u m hu hm => ?_⟩
    obtain ⟨b, off, spot⟩ := x
    have hc := hcell m (by omega)
    have hspot : spot = none := by
      have := World.cell?_spot (hcell 0 (by omega))
      simpa [Addr.add] using this
    subst hspot
    rw [WideShapes.add_plain] at hc
    have hlt : b < W.heap.size := cell_lt hc
    refine ⟨b, off, _, rfl, ?_, (hu.cell (p := ⟨b, off + m, none⟩) hlt).trans hc⟩
    have hmem : zs.getD m 0 ∈ zs := by
      rw [List.getD_eq_getElem?_getD, List.getElem?_eq_getElem (by omega : m < zs.length)]
      exact List.getElem_mem (by omega : m < zs.length)
    have := bounds_i64 (hwz _ hmem)
    unfold I64
    omega

set_option maxRecDepth 100000 in
theorem lifted (os : Os) (started : os.Started) (H : Type) (enc : TypeId × Value → H) :
    ReturnsInHanded {} Tryd.checked os 3 .any (fun w args => (Rows.dedupeOnceSpec.pre enc Tryd.prog Tryd.f3 [] false w args ∧ laidMetH Tryd.prog Rows.dedupeOnceRow.laid w) ∧ sizedMet enc Tryd.prog Tryd.f3 (OpenSpec.ofChange Rows.dedupeOnceSpec) false w args)
      (Rows.dedupeOnceSpec.post enc Tryd.prog Tryd.f3 false true false false) := by
  refine returnsInHanded_of_change_and (C := Tryd.checked) (X := fun w _ => laidMetH Tryd.prog Rows.dedupeOnceRow.laid w) (fun _ _ _ hh h => h.of_heap hh) own started (by kernel_rfl) Tryd.func3
    (ChangeSpec.witness_shaped (enc := enc) (C := Tryd.checked) (os := os) (X := fun w _ => laidMetH Tryd.prog Rows.dedupeOnceRow.laid w) false (World.laidAll Tryd.prog os Rows.dedupeOnceRow.laid) #[.slice none 0 0, .slice none 0 0] 8 rfl (World.shaped_of_ZipB (by kernel_rfl) (by kernel_rfl)) (by kernel_rfl) (by kernel_rfl) (by kernel_rfl) (met os _)) ?_
  intro W base args ds gs before hval0 hW _ hsz0 hL _
  have hval : ∀ (j : Nat) t v, Tryd.f3.params[j]? = some t → args[j]? = some v → Value.okWide Tryd.prog W .any base t v := hval0
  have hW' := hW
  obtain ⟨p, q, hA0, hV, rfl, hfz, hnd⟩ := hW
  have hA : DataW.TrodAll enc Tryd.prog W 0 (fun _ => true) true Tryd.f3.params.toList args.toList ds p := hA0
  have hsz : (DataW.weightsEach Tryd.prog (Tryd.f3.params.toList ++ Rows.dedupeOnceSpec.plain.varTypes Tryd.prog) (ds ++ gs)).all (· ≤ reachBytes) = true := hsz0
  rw [Tryd.params3] at hA hval hsz
  obtain ⟨v0, vs0, d0, ds0, p0, q0, hargs, rfl, rfl, h0, r0⟩ := trodAll_cons hA
  obtain ⟨v1, vs1, d1, ds1, p1, q1, rfl, rfl, rfl, h1, r1⟩ := trodAll_cons r0
  obtain ⟨rfl, rfl, rfl⟩ := trodAll_nil r1
  obtain rfl : args = #[v0, v1] := by cases args; simp_all
  obtain ⟨rfl, rfl⟩ := trodVars_none hV
  obtain ⟨a0, len0, cap0, rfl⟩ := okWide_slice Tryd.underlying22 (hval 0 22 v0 rfl rfl)
  obtain ⟨a1, len1, cap1, rfl⟩ := okWide_slice Tryd.underlying23 (hval 1 23 v1 rfl rfl)
  have k0 := h0
  have k1 := h1
  have lt0 : ∀ x ∈ p0, x.block < W.heap.size := by obtain ⟨m, hm⟩ := k0; exact DataW.trod_lt m _ _ _ hm
  have lt1 : ∀ x ∈ p1, x.block < W.heap.size := by obtain ⟨m, hm⟩ := k1; exact DataW.trod_lt m _ _ _ hm
  obtain ⟨xs, hxs⟩ : ∃ st, TrsAt W (.slice a0 len0 cap0) st := by
    obtain ⟨fuel, hf⟩ := h0
    exact open_trs hf (fun el sp e => sized_slice hsz (j := 0) (t := 22) (e := 33) rfl (by
      have e' : d0 = .slice el sp := e
      rw [e']; rfl) Tryd.underlying22)
  obtain ⟨hgl, hga⟩ : len1 ≤ 140737488355328 ∧ GapsAt W a1 len1 := by
    obtain ⟨fuel, hf⟩ := h1
    exact open_gaps hf (fun el sp e => sized_slice hsz (j := 1) (t := 23) (e := 2) rfl (by
      have e' : d1 = .slice el sp := e
      rw [e']; rfl) Tryd.underlying23)
  obtain rfl : len0 = xs.length := by
    obtain ⟨a', c', e, _⟩ := hxs
    simp at e
    exact e.2.1
  clear hA0 hval0
  refine (onceWalk a0 cap0 xs a1 len1 cap1 W hxs hga hgl (refs_of hL)).mono fun e W' ⟨he, bel⟩ => ?_
  subst he
  refine ⟨_, rfl, _, _, _, [], p0 ++ (p1 ++ []), [], hW', ?_, ?_, rfl, bel.frame _, fun h => by cases h⟩
  · exact trodAll_cons_mk (shut_bool Tryd.underlying4 _) trodAll_mk0
  · exact trodAll_cons_mk (Below.trod laidOut (by kernel_rfl) (of_decide_eq_true (by kernel_rfl)) k0 bel lt0) (trodAll_cons_mk (Below.trod laidOut (by kernel_rfl) (of_decide_eq_true (by kernel_rfl)) k1 bel lt1) trodAll_mk0)

theorem over : Rows.DedupeOnceSaid :=
  OpenClaim.holds_of_wide 3 Tryd.f3 rfl rfl rfl rfl rfl rfl rfl ⟨rfl, rfl, rfl, rfl, rfl⟩ rfl rfl rfl rfl rfl (by kernel_rfl) Tryd.func3 (by kernel_rfl)
    (of_decide_eq_true (by kernel_rfl)) (by unfold Func.isWrapper; first | (rw [if_pos (by decide +kernel)]; kernel_rfl) | (rw [if_neg (by decide +kernel)]; exact ⟨rfl, rfl⟩))
    (fun os started H enc _ => lifted os started H enc)

theorem proved : Rows.DedupeOnceCardSaid :=
  Claim7.holds_tied_plain_at .later [] [.data] true Rows.dedupeOnceCard.stood.harness false
    over (fun _ h => by cases h) (by kernel_rfl) (fun _ h => by cases h) dedupeOnce_row_tie rfl ⟨rfl, rfl⟩ (by kernel_rfl) rfl
    (fun f fn hf hfn => by
      obtain rfl : f = 3 := Option.some.inj ((show Tryd.prog.funcNamed Rows.dedupeOnceRow.func = some 3 by kernel_rfl).symm.trans hf) |>.symm
      obtain rfl : fn = Tryd.f3 := (Option.some.inj (Tryd.func3.symm.trans hfn)).symm
      exact ⟨by kernel_rfl, fun j t ht => by
        rw [Tryd.params3] at ht
        have h3 : t = 22 ∨ t = 23 := by
          rcases j with _ | _ | j
          · left; simpa using ht.symm
          · right; simpa using ht.symm
          · simp at ht
        rcases h3 with rfl | rfl
        · exact (show Tryd.prog.wantsStandIn 22 = false by kernel_rfl)
        · exact (show Tryd.prog.wantsStandIn 23 = false by kernel_rfl)⟩)
    (by kernel_rfl)
end Go.Proofs.YtmcfcbonmmifeaaDoor.dedupeOnce
namespace Go.Proofs.YtmcfcbonmmifeaaDoor
theorem dedupeOnce_proved : Rows.DedupeOnceCardSaid := dedupeOnce.proved
#print axioms dedupeOnce_proved
end Go.Proofs.YtmcfcbonmmifeaaDoor
