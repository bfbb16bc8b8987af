import Derived.Test.YtgffncbmchimdaaRows
import Derived.Test.YtgffncbmchimdaaMaJxx
import Derived.WalkKit
import Derived.ProofKit
import Derived.OpenShut
import Derived.ShutString
import Derived.ChangeOld
import Derived.Below
import Derived.SizedLaws
namespace Go.Proofs.Ytgffncbmchimdaa.manifestAgain
open Go.ChangeShapes Go.WideShapes Plain Go.ChangeAt Go.RowKit Go.Deep
set_option linter.unusedVariables false
set_option linter.constructorNameAsVariable false

theorem own : ownKnob Try.prog.godebug = none := by kernel_rfl
theorem laidOut : laidOutB Try.prog = true := by kernel_rfl

theorem open_p {H : Type} {enc : TypeId × Value → H} {W : World} {fuel : Nat} {a : Option Addr} {len cap : Nat} {x : DataW H × List MemPlace} (h : DataW.trod enc Try.prog W 0 (fun _ => true) true fuel 23 [.slice a len cap] = some x) : ∃ ps, PicksAt W (.slice a len cap) ps := by
  rcases open_ints Try.underlying23 Try.underlying3 (by kernel_rfl) h with ⟨hcs, _⟩ | ⟨x, l, c, zs, hcs, _, hl, hm, hz, hx, hcell, hwz⟩
  · simp at hcs
    obtain ⟨rfl, rfl, rfl⟩ := hcs
    exact ⟨[], none, 0, rfl, by simp, by simp, by simp, by simp⟩
  · simp at hcs
    obtain ⟨rfl, rfl, rfl⟩ := hcs
    simp only [if_true] at hz
    have hlt : (zs.take len).length = len := by simp; omega
    obtain ⟨b, off, spot⟩ := x
    refine ⟨zs.take len, _, cap, by rw [hlt], by rw [hlt]; exact hl, hm, fun x hx' => ?_, fun hne => ?_⟩
    · have := bounds_i64 (hwz x (List.mem_of_mem_take hx'))
      unfold I64
      omega
    · have hlen : 0 < len := by
        rcases Nat.eq_zero_or_pos len with rfl | h
        · simp at hne
        · exact h
      have hspot : spot = none := by
        have := World.cell?_spot (hcell 0 (by omega))
        simpa [Addr.add] using this
      subst hspot
      refine ⟨b, off, rfl, fun j x hj => ?_⟩
      have hj' := (List.getElem?_eq_some_iff.mp hj).1
      rw [hlt] at hj'
      have h6 := hcell j (by omega)
      rw [WideShapes.add_plain] at h6
      rw [h6]
      rw [List.getElem?_take_of_lt hj'] at hj
      simp [List.getD_eq_getElem?_getD, hj]
theorem off_of {W : World} {base : Nat} {a : Option Addr} {len cap : Nat} (h : Value.okWide Try.prog W .any base 23 (.slice a len cap)) : PicksOff W.heap.size (.slice a len cap) := by
  intro b off n c e
  simp only [Value.slice.injEq] at e
  obtain ⟨rfl, rfl, rfl⟩ := e
  simp only [Value.okWide, Try.underlying23, Cell.okWide, Cell.ok, World.has] at h
  obtain ⟨_, _, _, _, row, cells, hs, _⟩ := h
  simp only [World.shape?] at hs
  cases hh : W.heap[b]? with
  | none => rw [hh] at hs; simp at hs
  | some o => exact (Array.getElem?_eq_some_iff.mp hh).1

theorem cells_BB : Try.prog.cellsOf 27 = 1 := by kernel_rfl
theorem bytes_BB : Try.prog.bytesOf 27 = 24 := by kernel_rfl
theorem open_one {H : Type} {enc : TypeId × Value → H} {W : World} {n : Nat} {a : Addr} {i : Nat} {x : DataW H × List MemPlace} {cs' : List Value} (h1 : W.cells? 0 (a.add (i * Try.prog.cellsOf 27)) (Try.prog.cellsOf 27) = some cs')
    (h2 : DataW.trod enc Try.prog W 0 (fun _ => true) true n 27 cs' = some x) : ∃ s : Value × List Nat, (∃ aj nj cj, s.1 = .slice aj nj cj) ∧ BytesAt W s.1 s.2 ∧ W.cell? ((a.add (i * 1)).add 0) = some s.1 := by
  rw [cells_BB] at h1
  obtain ⟨_, hlen0, hcell⟩ := World.cells?_some h1
  match cs', hlen0 with
  | [v5], _ =>
    have c0 : W.cell? ((a.add (i * 1)).add 0) = some v5 := by simpa using hcell 0 (by omega)
    rcases open_ints Try.underlying27 Try.underlying5 cells_u8 h2 with ⟨hcs, _⟩ | ⟨x0, l, c, zs, hcs, _, hl0, hm0, hz, hx0, hcell0, hwz⟩
    · simp at hcs
      subst hcs
      exact ⟨(_, []), ⟨_, _, _, rfl⟩, BytesAt.nil W, c0⟩
    · simp at hcs
      subst hcs
      simp only [if_true] at hz
      obtain ⟨l', g1, g2⟩ := bytes_of_row (w := W) (a := some x0) (len := l) (cap := c) (zs := zs) (.inr ⟨x0, rfl, hl0, hm0, hz, hcell0, hwz⟩)
      exact ⟨(_, l'), ⟨_, _, _, rfl⟩, g2, c0⟩
theorem open_ts {H : Type} {enc : TypeId × Value → H} {W : World} {fuel : Nat} {v : Value} {x : DataW H × List MemPlace} (h : DataW.trod enc Try.prog W 0 (fun _ => true) true fuel 46 [v] = some x)
    (hsz : ∀ m ∈ x.1.weights Try.prog 46, m ≤ reachBytes) : ∃ ts : List (List Nat), TsAt W v ts ∧ ts.length ≤ 70368744177664 := by
  rcases open_slice Try.underlying46 h with ⟨hcs, hx⟩ | ⟨a, len, cap, m, n, D, Pl, hcs, hb, hl, hm, hmm, hx, hel⟩
  · simp at hcs
    subst hcs
    exact ⟨[], ⟨none, 0, rfl, by simp⟩, by simp⟩
  · simp at hcs
    subst hcs
    simp only [if_true] at hmm
    subst hmm
    have each : ∀ i, i < len → ∃ s : Value × List Nat, (∃ aj nj cj, s.1 = .slice aj nj cj) ∧ BytesAt W s.1 s.2 ∧ W.cell? ((a.add (i * 1)).add 0) = some s.1 := fun i hi => by
      obtain ⟨cs', h1, h2⟩ := hel i (by omega)
      exact open_one h1 h2
    have iT : Inhabited (Value × List Nat) := ⟨(.slice none 0 0, [])⟩
    obtain ⟨q, hq⟩ := choose_lt each
    have hbig : len ≤ 70368744177664 := by
      have := hsz _ (by rw [hx]; exact weights_slice Try.underlying46)
      rw [bytes_BB] at this
      simp [reachBytes] at this
      omega
    refine ⟨(List.range len).map fun i => (q i).2, ⟨some a, m, by simp, fun j hj => ?_⟩, by simpa using hbig⟩
    have hj' : j < len := by simpa using hj
    obtain ⟨b, off, spot⟩ := a
    obtain ⟨⟨aj, nj, cj, e⟩, hB, c0⟩ := hq j hj'
    have hspot : spot = none := by
      have := World.cell?_spot (hq 0 (by omega)).2.2
      simpa [Addr.add] using this
    subst hspot
    rw [WideShapes.add_plain, WideShapes.add_plain] at c0
    have e2 : ((List.range len).map fun i => (q i).2).getD j [] = (q j).2 := by simp [hj']
    refine ⟨b, off, rfl, aj, nj, cj, ?_, ?_⟩
    · rw [← e]
      simpa using c0
    · rw [e2, ← e]
      exact hB
theorem open_fs {H : Type} {enc : TypeId × Value → H} {W : World} {fuel : Nat} {a : Option Addr} {len cap : Nat} {x : DataW H × List MemPlace} (h : DataW.trod enc Try.prog W 0 (fun _ => true) true fuel 23 [.slice a len cap] = some x) (hsz : ∀ m ∈ x.1.weights Try.prog 23, m ≤ reachBytes) :
    len ≤ 70368744177664 ∧ ∀ u m, Below W.heap.size W u → m < len → ∃ b off z, a = some ⟨b, off, none⟩ ∧ I64 z ∧ u.cell? ⟨b, off + m, none⟩ = some (.int .i64 z) := by
  rcases open_ints Try.underlying23 Try.underlying3 (by kernel_rfl) h with ⟨hcs, _⟩ | ⟨x, l, c, zs, hcs, _, hl, hm, hz, hx, hcell, hwz⟩
  · simp at hcs
    obtain ⟨rfl, rfl, rfl⟩ := hcs
    exact ⟨by omega, fun u m _ hm => by omega⟩
  · simp at hcs
    obtain ⟨rfl, rfl, rfl⟩ := hcs
    simp only [if_true] at hz
    have hbig : len ≤ 70368744177664 := by
      have := hsz _ (by rw [hx]; exact weights_slice Try.underlying23)
      rw [show Try.prog.bytesOf 3 = 8 by kernel_rfl] at this
      simp [reachBytes, lits] at this
      omega
    refine ⟨hbig, fun u m hu hm => ?_⟩
    obtain ⟨b, off, spot⟩ := x
    have hc := hcell m (by omega)
    have hspot : spot = none := by
      have := World.cell?_spot (hcell 0 (by omega))
      simpa [Addr.add] using this
    subst hspot
    rw [WideShapes.add_plain] at hc
    have hlt : b < W.heap.size := cell_lt hc
    refine ⟨b, off, _, rfl, ?_, (hu.cell (p := ⟨b, off + m, none⟩) hlt).trans hc⟩
    have hmem : zs.getD m 0 ∈ zs := by
      rw [List.getD_eq_getElem?_getD, List.getElem?_eq_getElem (by omega : m < zs.length)]
      exact List.getElem_mem (by omega : m < zs.length)
    have := bounds_i64 (hwz _ hmem)
    unfold I64
    omega
theorem ts_len {W : World} {a : Option Addr} {len cap : Nat} {ts : List (List Nat)} (h : TsAt W (.slice a len cap) ts) : len = ts.length := by
  obtain ⟨a', c', e, _⟩ := h
  simp at e
  exact e.2.1
theorem ps_len {W : World} {a : Option Addr} {len cap : Nat} {ps : List Int} (h : PicksAt W (.slice a len cap) ps) : len = ps.length := by
  obtain ⟨a', c', e, _⟩ := h
  simp at e
  exact e.2.1

set_option maxRecDepth 100000 in
theorem lifted (os : Os) (started : os.Started) (H : Type) (enc : TypeId × Value → H) :
    ReturnsInHanded {} Try.checked os 4 .any (Rows.manifestAgainSpec.pre6 enc Try.prog Try.f4 Rows.manifestAgainRow.domain false) (Rows.manifestAgainSpec.post enc Try.prog Try.f4 false true false false) := by
  refine returnsInHanded_of_change_sized (C := Try.checked) own started (by kernel_rfl) Try.func4
    (ChangeSpec.witness6 (enc := enc) (C := Try.checked) false ⟨#[], #[.slice none 0 0, .slice none 0 0, .slice none 0 0], []⟩ 8 (by kernel_rfl) (by kernel_rfl) (by kernel_rfl) (by kernel_rfl)) ?_
  intro W base args ds gs before hval0 hW hcnd hsz0 _
  have hval : ∀ (j : Nat) t v, Try.f4.params[j]? = some t → args[j]? = some v → Value.okWide Try.prog W .any base t v := hval0
  have hW' := hW
  obtain ⟨p, q, hA0, hV, rfl, hfz, hnd⟩ := hW
  have hA : DataW.TrodAll enc Try.prog W 0 (fun _ => true) true Try.f4.params.toList args.toList ds p := hA0
  have hsz : (DataW.weightsEach Try.prog (Try.f4.params.toList ++ Rows.manifestAgainSpec.plain.varTypes Try.prog) (ds ++ gs)).all (· ≤ reachBytes) = true := hsz0
  rw [Try.params4] at hA hval hsz
  obtain ⟨v0, vs0, d0, ds0, p0, q0, hargs, rfl, rfl, h0, r0⟩ := trodAll_cons hA
  obtain ⟨v1, vs1, d1, ds1, p1, q1, rfl, rfl, rfl, h1, r1⟩ := trodAll_cons r0
  obtain ⟨v2, vs2, d2, ds2, p2, q2, rfl, rfl, rfl, h2, r2⟩ := trodAll_cons r1
  obtain ⟨rfl, rfl, rfl⟩ := trodAll_nil r2
  obtain rfl : args = #[v0, v1, v2] := by cases args; simp_all
  obtain ⟨rfl, rfl⟩ := trodVars_none hV
  obtain ⟨a0, len0, cap0, rfl⟩ := okWide_slice Try.underlying46 (hval 0 46 v0 rfl rfl)
  obtain ⟨a1, len1, cap1, rfl⟩ := okWide_slice Try.underlying23 (hval 1 23 v1 rfl rfl)
  obtain ⟨a2, len2, cap2, rfl⟩ := okWide_slice Try.underlying23 (hval 2 23 v2 rfl rfl)
  have k0 := h0
  have k1 := h1
  have k2 := h2
  have lt0 : ∀ x ∈ p0, x.block < W.heap.size := by obtain ⟨m, hm⟩ := k0; exact DataW.trod_lt m _ _ _ hm
  have lt1 : ∀ x ∈ p1, x.block < W.heap.size := by obtain ⟨m, hm⟩ := k1; exact DataW.trod_lt m _ _ _ hm
  have lt2 : ∀ x ∈ p2, x.block < W.heap.size := by obtain ⟨m, hm⟩ := k2; exact DataW.trod_lt m _ _ _ hm
  have hws0 : ∀ m ∈ d0.weights Try.prog 46, m ≤ reachBytes := fun m hm => by
    have := List.all_eq_true.1 hsz m (DataW.weights_mem_each (j := 0) (t := 46) rfl rfl m hm)
    simpa using this
  have hws1 : ∀ m ∈ d1.weights Try.prog 23, m ≤ reachBytes := fun m hm => by
    have := List.all_eq_true.1 hsz m (DataW.weights_mem_each (j := 1) (t := 23) rfl rfl m hm)
    simpa using this
  obtain ⟨ts, hts, htl⟩ : ∃ ts, TsAt W (.slice a0 len0 cap0) ts ∧ ts.length ≤ 70368744177664 := by obtain ⟨fuel, hf⟩ := h0; exact open_ts hf hws0
  obtain ⟨n1, hfs⟩ : len1 ≤ 70368744177664 ∧ ∀ u m, Below W.heap.size W u → m < len1 → ∃ b off z, a1 = some ⟨b, off, none⟩ ∧ I64 z ∧ u.cell? ⟨b, off + m, none⟩ = some (.int .i64 z) := by obtain ⟨fuel, hf⟩ := h1; exact open_fs hf hws1
  obtain ⟨ps, hps⟩ : ∃ ps, PicksAt W (.slice a2 len2 cap2) ps := by obtain ⟨fuel, hf⟩ := h2; exact open_p hf
  have hoff := off_of (hval 2 23 _ rfl rfl)
  obtain rfl := ts_len hts
  obtain rfl := ps_len hps
  clear hA0 hval0
  refine (againWalk a0 a1 a2 cap0 cap1 cap2 ts len1 ps W hts htl n1 hfs hps hoff).mono fun e W' ⟨he, bel⟩ => ?_
  subst he
  exact ⟨_, rfl, _, _, _, [], _, [], hW', trodAll_mk1 (shut_bool Try.underlying4 _), (trodAll_cons_mk (Below.trod laidOut (by kernel_rfl) (of_decide_eq_true (by kernel_rfl)) k0 bel lt0) (trodAll_cons_mk (Below.trod laidOut (by kernel_rfl) (of_decide_eq_true (by kernel_rfl)) k1 bel lt1) (trodAll_cons_mk (Below.trod laidOut (by kernel_rfl) (of_decide_eq_true (by kernel_rfl)) k2 bel lt2) trodAll_mk0))), rfl, bel.frame _, fun h => by cases h⟩

theorem over : Rows.manifestAgainRow.holds Try.pinned (OpenSpec.ofChange Rows.manifestAgainSpec) :=
  OpenClaim.holds_of_wide 4 Try.f4 rfl rfl rfl rfl rfl rfl rfl ⟨rfl, rfl, rfl, rfl, rfl⟩ rfl rfl rfl rfl rfl (by kernel_rfl) Try.func4 (by kernel_rfl)
    (of_decide_eq_true (by kernel_rfl)) (by unfold Func.isWrapper; first | (rw [if_pos (by decide +kernel)]; kernel_rfl) | (rw [if_neg (by decide +kernel)]; exact ⟨rfl, rfl⟩))
    (fun os started H enc _ => lifted os started H enc)

theorem proved : Rows.ManifestAgainSaid := over
end Go.Proofs.Ytgffncbmchimdaa.manifestAgain
namespace Go.Proofs.Ytgffncbmchimdaa
theorem manifestAgain_proved : Rows.ManifestAgainSaid := manifestAgain.proved
#print axioms manifestAgain_proved
end Go.Proofs.Ytgffncbmchimdaa
