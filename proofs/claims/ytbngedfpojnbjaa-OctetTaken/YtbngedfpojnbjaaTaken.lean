import Derived.Test.YtbngedfpojnbjaaRows
import Derived.Test.YtbngedfpojnbjaaUv
import Derived.WalkKit
import Derived.ProofKit
import Derived.OpenShut
import Derived.ShutString
import Derived.ChangeOld
import Derived.Below
import Derived.Deep.RegionWith
namespace Go.Proofs.Ytbngedfpojnbjaa.octetTaken
open Go.ChangeShapes Go.WideShapes Plain Go.ChangeAt Go.RowKit
open Go.ChangeMaps (open_string shut_string)
set_option linter.unusedVariables false

theorem own : ownKnob Try.prog.godebug = none := by kernel_rfl
theorem laidOut : laidOutB Try.prog = true := by kernel_rfl

/-- WHAT THE WALK IS TOLD OF A SLICE OF INTEGERS THAT CAME IN: it is nil; or it leads to a row of 'cap' cells, the numbers 'zs' (the first 'len' are its elements, the rest its spare room), each fitting its kind. -/
def IsRow (k : IntKind) (w : World) (a : Option Addr) (len cap : Nat) (zs : List Int) : Prop :=
  (a = none ∧ len = 0 ∧ cap = 0 ∧ zs = []) ∨
  ∃ x, a = some x ∧ len ≤ cap ∧ cap ≤ maxLen ∧ zs.length = cap ∧ (∀ i, i < zs.length → w.cell? (x.add i) = some (.int k (zs.getD i 0))) ∧ ∀ n ∈ zs, (Lit.int k n).wf = true

set_option maxHeartbeats 400000 in
theorem walk (a0 : Option Addr) (len0 cap0 : Nat) (z0 : List Int) (w : World) (w0 : IsRow .u8 w a0 len0 cap0 z0) :
    Calls Try.prog 3 #[.slice a0 len0 cap0] w fun e w' => e = .returned (.bool true) ∧ Below w.heap.size w w' := by
  obtain ⟨l, hl, hB⟩ := bytes_of_row w0
  have hlm := hB.len
  unfold maxLen at hlm
  by_cases h0 : (rd l).2.2 = 0
  · obtain ⟨u, _, e1, e2, e3, e4⟩ := rd_taken l 0 0 (by decide) hB.byte h0
    have hrd : rd l = (u, (uv u).length, 0) := by
      have : rd l = ((rd l).1, (rd l).2.1, (rd l).2.2) := rfl
      rw [this, h0, show (rd l).1 = u from e1.trans (by simp), show (rd l).2.1 = (uv u).length from e3.trans (by simp)]
    have hu : u < 18446744073709551616 := by simpa using e2
    obtain ⟨n, hn⟩ : ∃ n, n = (uv u).length := ⟨_, rfl⟩
    have hn1 : 1 ≤ n := by rw [hn]; exact uv_pos u
    have hn2 : n ≤ l.length := by rw [hn]; exact e4.length_le
    have ht : l.take n = uv u := by rw [hn]; exact (List.prefix_iff_eq_take.mp e4).symm
    rw [← hn] at hrd
    have hT : BytesAt w (.slice a0 n cap0) (uv u) := by rw [← ht]; exact hB.take n hn2
    have HRD : Hid (rd l = (u, n, 0)) := hrd
    have hnl : n ≤ len0 := by omega
    have hl0 : len0 ≤ 9223372036854775807 := by omega
    have hcap : n ≤ cap0 := by
      obtain ⟨a', cap', e, h1, _⟩ := hT
      simp only [Value.slice.injEq] at e
      omega
    clear e1 e2 e3 e4 hrd hn ht h0 hl hlm
    go_enter Try.func3, Try.ntmps3
    go_wp2_with (go_at_call 6; refine (readUvarint _ l _ hB).mono ?_; rw [HRD.out]; rintro e w1 ⟨rfl, rfl⟩)
    go_region_with (first
      | (go_at_call 8; refine (uvarint u _ hu).mono ?_; rintro e w1 ⟨v', g, rfl, ho, hge, hb⟩)
      | (go_at_call 7; refine (sameYes _ _ (uv u) _ ?_ ?_).mono ?_; exact ho.bytes; (refine BytesAt.later ?_ hb; exact hT); rintro e w2 ⟨rfl, nd, rfl⟩))
    all_goals
      go_wp2
      go_ret
      exact ⟨rfl, below_drewN (below_of_drew hb) _⟩
  · have hrd := rd_refused l 0 0 h0
    have hrd2 : rd [172, 2] = (300, 2, 0) := by decide
    obtain ⟨x, hx, HRD⟩ : ∃ x : Nat, (x = 10 ∨ x = 11) ∧ Hid (rd l = (0, 0, x)) := by
      rcases hrd with h | h
      · exact ⟨10, .inl rfl, h⟩
      · exact ⟨11, .inr rfl, h⟩
    have HRD2 : Hid (rd [172, 2] = (300, 2, 0)) := hrd2
    clear hrd hrd2 h0 hl hlm
    rcases hx with rfl | rfl
    all_goals
      go_enter Try.func3, Try.ntmps3
      go_wp2_with (go_at_call 6; first
        | (refine (readUvarint _ l _ ?_).mono ?_; with_reducible exact hB; rw [HRD.out]; rintro e w1 ⟨rfl, rfl⟩)
        | (refine (readUvarint _ [172, 2] _ ?_).mono ?_; exact (Own.new _ _ [172, 2] 2 5 (by decide) rfl (by decide) (by decide) (fun j hj => two_bytes172 j hj)).bytes; rw [HRD2.out]; rintro e w1 ⟨rfl, rfl⟩))
      go_ret
      exact ⟨rfl, (Below.refl _ _).alloc (Nat.le_refl _) _⟩

set_option maxRecDepth 100000 in
theorem lifted (os : Os) (started : os.Started) (H : Type) (enc : TypeId × Value → H) :
    ReturnsInHanded {} Try.checked os 3 .any (Rows.octetTakenSpec.pre6 enc Try.prog Try.f3 Rows.octetTakenRow.domain false) (Rows.octetTakenSpec.post enc Try.prog Try.f3 false true false false) := by
  refine returnsInHanded_of_change (C := Try.checked) own started (by kernel_rfl) Try.func3
    (ChangeSpec.witness6 (enc := enc) (C := Try.checked) false ⟨#[], #[.slice none 0 0], []⟩ 8 (by kernel_rfl) (by kernel_rfl) (by kernel_rfl) (by kernel_rfl)) ?_
  intro W base args ds gs before hval0 hW hcnd _
  have hval : ∀ (j : Nat) t v, Try.f3.params[j]? = some t → args[j]? = some v → Value.okWide Try.prog W .any base t v := hval0
  have hW' := hW
  obtain ⟨p, q, hA0, hV, rfl, hfz, hnd⟩ := hW
  have hA : DataW.TrodAll enc Try.prog W 0 (fun _ => true) true Try.f3.params.toList args.toList ds p := hA0
  rw [Try.params3] at hA hval
  obtain ⟨v0, vs0, d0, ds0, p0, q0, hargs, rfl, rfl, h0, r0⟩ := trodAll_cons hA
  obtain ⟨rfl, rfl, rfl⟩ := trodAll_nil r0
  obtain rfl : args = #[v0] := by cases args; simp_all
  obtain ⟨rfl, rfl⟩ := trodVars_none hV
  obtain ⟨a0, len0, cap0, rfl⟩ := okWide_slice Try.underlying22 (hval 0 22 v0 rfl rfl)
  have k0 := h0
  have lt0 : ∀ x ∈ p0, x.block < W.heap.size := by obtain ⟨m, hm⟩ := k0; exact DataW.trod_lt m _ _ _ hm
  obtain ⟨z0, w0⟩ : ∃ zs, IsRow .u8 W a0 len0 cap0 zs := by
    obtain ⟨fuel, hf⟩ := h0
    rcases open_ints Try.underlying22 Try.underlying5 (by kernel_rfl) hf with ⟨hcs, _⟩ | ⟨x, l, c, zs, hcs, _, hl, hm, hz, _, hcell, hwz⟩
    · simp [Value.cells] at hcs
      obtain ⟨rfl, rfl, rfl⟩ := hcs
      exact ⟨[], .inl ⟨rfl, rfl, rfl, rfl⟩⟩
    · simp [Value.cells] at hcs
      obtain ⟨rfl, rfl, rfl⟩ := hcs
      exact ⟨zs, .inr ⟨_, rfl, hl, hm, by simpa using hz, hcell, hwz⟩⟩
  clear hA0 hval0
  refine (walk a0 len0 cap0 z0 W w0).mono fun e W' ⟨he, bel⟩ => ?_
  subst he
  exact ⟨_, rfl, _, _, _, [], _, [], hW', trodAll_mk1 (shut_bool Try.underlying4 _), (trodAll_cons_mk (Below.trod laidOut (by kernel_rfl) (of_decide_eq_true (by kernel_rfl)) k0 bel lt0) trodAll_mk0), rfl, bel.frame _, fun h => by cases h⟩

theorem over : Rows.octetTakenRow.holds Try.pinned (OpenSpec.ofChange Rows.octetTakenSpec) :=
  OpenClaim.holds_of_wide 3 Try.f3 rfl rfl rfl rfl rfl rfl rfl ⟨rfl, rfl, rfl, rfl, rfl⟩ rfl rfl rfl rfl rfl (by kernel_rfl) Try.func3 (by kernel_rfl)
    (of_decide_eq_true (by kernel_rfl)) (by unfold Func.isWrapper; first | (rw [if_pos (by decide +kernel)]; kernel_rfl) | (rw [if_neg (by decide +kernel)]; exact ⟨rfl, rfl⟩))
    (fun os started H enc _ => lifted os started H enc)

theorem proved : Rows.OctetTakenSaid := over
end Go.Proofs.Ytbngedfpojnbjaa.octetTaken
namespace Go.Proofs.Ytbngedfpojnbjaa
theorem octetTaken_proved : Rows.OctetTakenSaid := octetTaken.proved
#print axioms octetTaken_proved
end Go.Proofs.Ytbngedfpojnbjaa
