import Derived.Test.YtjefbcphefckiacRows
import Derived.Test.YtjefbcphefckiacQf
import Derived.WalkKit
import Derived.ProofKit
import Derived.OpenShut
import Derived.ChangeOld
import Derived.Below
import Derived.JoinedCond
namespace Go.Proofs.Ytjefbcphefckiac.octetPacked
open Go.ChangeShapes Go.WideShapes Go.ChangeAt Go.RowKit Plain
set_option linter.unusedVariables false

theorem own : ownKnob Try.prog.godebug = none := by kernel_rfl
theorem laidOut : laidOutB Try.prog = true := by kernel_rfl

theorem packedWalk (vi vk vb : Value) (st : List It) (ks : List Int) (most : Int) (l : List Nat) (w : World) (hi : ItemsAt w vi st) (hk : IntsAt w vk ks) (hb : BytesAt w vb l) (hst : bulk st ≤ 1099511627776) (hl : l.length ≤ 1099511627776) (hkl : ks.length ≤ 1099511627776) (hm1 : -9223372036854775808 ≤ most) (hm2 : most ≤ 9223372036854775807) :
    Calls Try.prog 3 #[vi, vk, .int .i64 most, vb] w fun e w' => e = .returned (.bool true) ∧ Below w.heap.size w w' := by
  cases hf : st.all It.fits with
  | true => exact packedGood vi vk vb st ks most l w hi hk hb hst hl hkl hm1 hm2 hf
  | false => exact packedBad vi vk vb st ks most l w hi hk hb hst hl hkl hm1 hm2 hf

theorem lits_bulk {H : Type} (k : IntKind) (zs : List Int) : zs.length ≤ Rows.uptoBulkAll (lits (H := H) k zs) := by
  induction zs with
  | nil => simp
  | cons z r ih =>
    simp only [lits, List.map_cons, Rows.uptoBulkAll, Rows.uptoBulk, List.length_cons] at ih ⊢
    omega

theorem contract (H : Type) (enc : TypeId × Value → H) (W : World) (base : Nat) (args : Array Value) (ds gs : List (DataW H)) (before : List MemPlace)
    (hval : ∀ (j : Nat) t v, Try.f3.params[j]? = some t → args[j]? = some v → Value.okWide Try.prog W .any base t v)
    (hW : DataW.Whole enc Try.prog Try.f3.params.toList Rows.octetPackedSpec.vars false W args.toList ds gs before) (hk : Rows.uptoSmall H (ds ++ gs) = true) :
    Calls Try.prog 3 args W fun e W' => ∃ v, e = .returned v ∧ Rows.octetPackedSpec.post enc Try.prog Try.f3 false true false false W args v W' := by
  have hW' := hW
  obtain ⟨p, q, hA0, hV, rfl, hfz, hnd⟩ := hW
  have hA : DataW.TrodAll enc Try.prog W 0 (fun _ => true) true Try.f3.params.toList args.toList ds p := hA0
  rw [Try.params3] at hA hval
  obtain ⟨v0, vs0, d0, ds0, p0, q0, hargs, rfl, rfl, h0, r0⟩ := trodAll_cons hA
  obtain ⟨v1, vs1, d1, ds1, p1, q1, hargs1, rfl, rfl, h1, r1⟩ := trodAll_cons r0
  obtain ⟨v2, vs2, d2, ds2, p2, q2, hargs2, rfl, rfl, h2, r2⟩ := trodAll_cons r1
  obtain ⟨v3, vs3, d3, ds3, p3, q3, hargs3, rfl, rfl, h3, r3⟩ := trodAll_cons r2
  obtain ⟨rfl, rfl, rfl⟩ := trodAll_nil r3
  obtain rfl : args = #[v0, v1, v2, v3] := by cases args; simp_all
  obtain ⟨rfl, rfl⟩ := trodVars_none hV
  obtain ⟨a0, len0, cap0, rfl⟩ := okWide_slice Try.underlying22 (hval 0 22 v0 rfl rfl)
  obtain ⟨a1, len1, cap1, rfl⟩ := okWide_slice Try.underlying23 (hval 1 23 v1 rfl rfl)
  obtain ⟨a3, len3, cap3, rfl⟩ := okWide_slice Try.underlying24 (hval 3 24 v3 rfl rfl)
  have k0 := h0
  have k1 := h1
  have k2 := h2
  have k3 := h3
  have lt0 : ∀ x ∈ p0, x.block < W.heap.size := by obtain ⟨m, hm⟩ := k0; exact DataW.trod_lt m _ _ _ hm
  have lt1 : ∀ x ∈ p1, x.block < W.heap.size := by obtain ⟨m, hm⟩ := k1; exact DataW.trod_lt m _ _ _ hm
  have lt2 : ∀ x ∈ p2, x.block < W.heap.size := by obtain ⟨m, hm⟩ := k2; exact DataW.trod_lt m _ _ _ hm
  have lt3 : ∀ x ∈ p3, x.block < W.heap.size := by obtain ⟨m, hm⟩ := k3; exact DataW.trod_lt m _ _ _ hm
  have hbulk : Rows.uptoBulk d0 ≤ 1048576 ∧ Rows.uptoBulk d1 ≤ 1048576 ∧ Rows.uptoBulk d3 ≤ 1048576 := by
    have h : Rows.uptoBulkAll ([d0, d1, d2, d3] ++ []) ≤ 1048576 := of_decide_eq_true hk
    simp only [List.append_nil, Rows.uptoBulkAll] at h
    omega
  obtain ⟨st, hst, hload⟩ : ∃ st, ItemsAt W (.slice a0 len0 cap0) st ∧ bulk st ≤ 1099511627776 := by
    obtain ⟨fuel, hf⟩ := h0
    obtain ⟨st, g1, g2⟩ := open_items hf
    refine ⟨st, g1, ?_⟩
    rcases g2 with ⟨_, rfl⟩ | ⟨sp, e⟩
    · simp [bulk]
    · have e' : d0 = .slice (st.map datum) sp := e
      have hb := hbulk.1
      rw [e'] at hb
      simp only [Rows.uptoBulk] at hb
      have := load_bulk (H := H) st
      omega
  obtain ⟨n2, rfl, hn2⟩ : ∃ n : Int, v2 = .int .i64 n ∧ -9223372036854775808 ≤ n ∧ n ≤ 9223372036854775807 := by
    obtain ⟨fuel, hf⟩ := h2
    obtain ⟨n, e, _, wf⟩ := DataW.trod_int Try.underlying3 (cs := v2.cells.toList) hf
    have hv := hval 2 3 v2 rfl rfl
    obtain ⟨n', rfl⟩ := okWide_int Try.underlying3 hv
    simp [Value.cells] at e
    subst e
    have := bounds_i64 wf
    exact ⟨n', rfl, by omega⟩
  obtain ⟨ks, hks, hkl⟩ : ∃ ks, IntsAt W (.slice a1 len1 cap1) ks ∧ ks.length ≤ 1099511627776 := by
    obtain ⟨fuel, hf⟩ := h1
    rcases open_ints Try.underlying23 Try.underlying3 (by kernel_rfl) hf with ⟨hcs, _⟩ | ⟨x, l, c, zs, hcs, _, hl, hm, hz, hx, hcell, hwz⟩
    · simp [Value.cells] at hcs
      obtain ⟨rfl, rfl, rfl⟩ := hcs
      exact ⟨[], ⟨none, 0, rfl, by simp, by simp, by simp⟩, by simp⟩
    · simp [Value.cells] at hcs
      obtain ⟨rfl, rfl, rfl⟩ := hcs
      simp only [if_true] at hz
      simp only [Prod.mk.injEq] at hx
      have hb := hbulk.2.1
      have e : d1 = _ := hx.1
      rw [e] at hb
      simp only [Rows.uptoBulk] at hb
      have h1 := lits_bulk (H := H) .i64 (zs.take len1)
      have hlt : (zs.take len1).length = len1 := by simp; omega
      obtain ⟨b, off, spot⟩ := x
      refine ⟨zs.take len1, ⟨_, cap1, by rw [hlt], by rw [hlt]; omega, fun x hx' => ?_, fun hne => ?_⟩, by omega⟩
      · have := bounds_i64 (hwz x (List.mem_of_mem_take hx'))
        omega
      · have hlen : 0 < len1 := by
          rcases Nat.eq_zero_or_pos len1 with rfl | h
          · simp at hne
          · exact h
        have hspot : spot = none := by
          have := World.cell?_spot (hcell 0 (by omega))
          simpa [Addr.add] using this
        subst hspot
        refine ⟨b, off, rfl, fun j hj => ?_⟩
        rw [hlt] at hj
        have := hcell j (by omega)
        rw [WideShapes.add_plain] at this
        rw [this]
        simp [hj]
  obtain ⟨l, hB, hl⟩ : ∃ l : List Nat, BytesAt W (.slice a3 len3 cap3) l ∧ l.length ≤ 1099511627776 := by
    obtain ⟨fuel, hf⟩ := h3
    rcases open_ints Try.underlying24 Try.underlying5 (by kernel_rfl) hf with ⟨hcs, _⟩ | ⟨x, l, c, zs, hcs, _, hl, hm, hz, hx, hcell, hwz⟩
    · simp [Value.cells] at hcs
      obtain ⟨rfl, rfl, rfl⟩ := hcs
      exact ⟨[], BytesAt.nil W, by simp⟩
    · simp [Value.cells] at hcs
      obtain ⟨rfl, rfl, rfl⟩ := hcs
      simp only [if_true] at hz
      simp only [Prod.mk.injEq] at hx
      have hb := hbulk.2.2
      have e : d3 = _ := hx.1
      rw [e] at hb
      simp only [Rows.uptoBulk] at hb
      have h1 := lits_bulk (H := H) .u8 (zs.take len3)
      have hlt : (zs.take len3).length = len3 := by simp; omega
      obtain ⟨l, g1, g2⟩ := bytes_of_row (w := W) (a := some x) (len := len3) (cap := cap3) (zs := zs) (.inr ⟨x, rfl, hl, hm, hz, hcell, hwz⟩)
      exact ⟨l, g2, by omega⟩
  clear hA0
  refine (packedWalk _ _ _ st ks n2 l W hst hks hB hload hl hkl hn2.1 hn2.2).mono fun e W' ⟨he, bel⟩ => ?_
  subst he
  exact ⟨_, rfl, _, _, _, [], _, [], hW', trodAll_mk1 (shut_bool Try.underlying4 _), (trodAll_cons_mk (Below.trod laidOut (by kernel_rfl) (of_decide_eq_true (by kernel_rfl)) k0 bel lt0) (trodAll_cons_mk (Below.trod laidOut (by kernel_rfl) (of_decide_eq_true (by kernel_rfl)) k1 bel lt1) (trodAll_cons_mk (Below.trod laidOut (by kernel_rfl) (of_decide_eq_true (by kernel_rfl)) k2 bel lt2) (trodAll_cons_mk (Below.trod laidOut (by kernel_rfl) (of_decide_eq_true (by kernel_rfl)) k3 bel lt3) trodAll_mk0)))), rfl, bel.frame _, fun h => by cases h⟩

set_option maxRecDepth 100000 in
theorem lifted (os : Os) (started : os.Started) (H : Type) (enc : TypeId × Value → H) (F : Stop.Interp) :
    ReturnsInHanded {} Try.checked os 3 .any ((Rows.OpenSpec.upto Rows.octetPackedSpec).pre6 enc Try.prog Try.f3 Rows.octetPackedUptoRow.domain false) (((Rows.OpenSpec.upto Rows.octetPackedSpec).at F).post enc Try.prog Try.f3 false true false false) := by
  refine returnsInHanded_of_cond (C := Try.checked) (s := Rows.OpenSpec.upto Rows.octetPackedSpec) (k := Rows.uptoSmall) rfl own started (by kernel_rfl) Try.func3
    (OpenSpec.witness (enc := enc) (C := Try.checked) (s := Rows.OpenSpec.upto Rows.octetPackedSpec) (k := Rows.uptoSmall) rfl false ⟨#[], #[.slice none 0 0, .slice none 0 0, .int .i64 0, .slice none 0 0], []⟩ 8 (by kernel_rfl) (by kernel_rfl) (by kernel_rfl)
      (x := ([.nil, .nil, .lit (.int .i64 0), .nil], [], [])) (by kernel_rfl) rfl (by kernel_rfl)) ?_
  intro W base args ds gs before hval hW _ hk _
  exact contract H enc W base args ds gs before hval hW hk

theorem proved : Rows.OctetPackedUptoSaid :=
  OpenClaim.holds_of_cond 3 Try.f3 rfl rfl rfl rfl rfl rfl rfl ⟨rfl, rfl, rfl, rfl, rfl⟩ rfl rfl rfl rfl rfl (by kernel_rfl) Try.func3 (by kernel_rfl)
    (of_decide_eq_true (by kernel_rfl)) (by unfold Func.isWrapper; first | (rw [if_pos (by decide +kernel)]; kernel_rfl) | (rw [if_neg (by decide +kernel)]; exact ⟨rfl, rfl⟩))
    (fun os started H enc _ F => lifted os started H enc F)
end Go.Proofs.Ytjefbcphefckiac.octetPacked
namespace Go.Proofs.Ytjefbcphefckiac
theorem octetPacked_proved : Rows.OctetPackedUptoSaid := octetPacked.proved
#print axioms octetPacked_proved
end Go.Proofs.Ytjefbcphefckiac
