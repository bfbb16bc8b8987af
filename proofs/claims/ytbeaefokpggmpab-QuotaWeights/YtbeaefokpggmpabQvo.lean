import Derived.Test.YtbeaefokpggmpabQvn
import Derived.Test.YtbeaefokpggmpabQLay
/-! quota: slices.Sorted of a slice's values. -/
namespace Go.Proofs.Ytbeaefokpggmpab
open Go.RowKit Go.Shelf Plain
attribute [local go_sem] Oper.semAt_some
set_option linter.unusedVariables false
set_option linter.unusedSimpArgs false

theorem isCellsL_of {W : World} {a : Addr} {v : Value} {o : Obj} (h : W.cell? a = some v) (ho : W.heap[a.block]? = some o) : o.isCells = true := by
  unfold World.cell? at h
  rw [ho] at h
  cases o <;> first | rfl | (simp at h)
theorem OwnL.firstC {w : World} {v : Value} {ts : List Int} {g : Nat} (h : OwnL w v ts (some g)) (hne : ts ≠ []) : ∃ u, w.cell? ⟨g, 0, none⟩ = some u := by
  have hp : 0 < ts.length := List.length_pos_iff.mpr hne
  rcases h.2 with ⟨_, _, h⟩ | ⟨g', cap, e, rfl, hg, h1, h2, h3, h4, h5⟩
  · simp at h
  · simp at e; subst e; exact ⟨_, h5 0 hp⟩
theorem OwnL.steady {W W' : World} {row : Option Nat} {v : Value} {ts : List Int} {r : Option Nat} (h : OwnL W v ts r) (hne : r ≠ none → ts ≠ []) (hg : W.grownBy W' row) (hr : ∀ k, row = some k → ∃ o : Obj, W.heap[k]? = some o ∧ o.isCells = false) : OwnL W' v ts r := by
  refine h.kept hg ?_
  cases r with
  | none => exact .inl rfl
  | some g =>
    refine .inr fun e => ?_
    obtain ⟨u, hu⟩ := h.firstC (hne (by simp))
    obtain ⟨o, ho, hc⟩ := hr g e.symm
    have := isCellsL_of hu ho
    rw [this] at hc
    cases hc
theorem OwnL.others {W W' : World} {v : Value} {ts : List Int} {r : Option Nat} (h : OwnL W v ts r) (hne : r ≠ none → ts ≠ []) (hg : W.grownBy W' r) : KeepsOthers W W' := KeepsOthers.of_grownBy hg fun j o e ho => by
  rw [e] at h
  obtain ⟨u, hu⟩ := h.firstC (hne (by rw [e]; simp))
  exact isCellsL_of hu ho
theorem wpListIn_append_l {F : Fence} {n : Nat} (w : World) {ops : Array Oper} {rest : List Oper} {o : Oper} {a : Act} {Q : Exit → Act → World → Prop}
    (hg : o.guard = none) (s x : Operand) (hop : o.op = Op.call { callee := Callee.builtin Builtin.append, args := #[s, x], argTypes := #[22, 22] })
    (v xv : Value) (ts ks : List Int) (r : Option Nat) (hs : a.eval s = v) (hx : a.eval x = xv) (hown : OwnL w v ts r) (hk : ∀ c ∈ ks, -9223372036854775808 ≤ c ∧ c ≤ 9223372036854775807) (hsrc : Src Try.prog 1 22 xv ks.length (lcells ks) w) (hlen : ts.length + ks.length ≤ 20000000000000) (hr0 : ks ≠ [])
    (hK : ∀ v' w' g, OwnL w' v' (ts ++ ks) (some g) → w.grownBy w' r → (some g = r ∨ g = w.heap.size) → wpListIn F n Try.prog ops Q rest (a.put o.dst v') w') :
    wpListIn F n Try.prog ops Q (o :: rest) a w := by
  refine wpListIn_plain hg fun K hK' => ?_
  obtain ⟨v', w', r', hrun, r1, r2, r3, r4⟩ := run_append_l w 22 22 o.type Try.underlying22 v xv ts ks r hown hk hsrc hlen
  obtain ⟨g, rfl⟩ : ∃ g, r' = some g := by
    cases r' with
    | none => exact absurd rfl (r4 hr0)
    | some g => exact ⟨g, rfl⟩
  unfold Oper.wpIn
  refine ⟨?_, ?_⟩
  · simp [Oper.about, hop, resolve, Target.leads, Sem.run_pure]
  · rw [Oper.semAt_plain F _ _ (by rw [hop]; intro c hc'; cases hc')]
    simp [execOp, hop, resolve, invoke, builtin, hs, hx, hrun, Result.andThen]
    refine hK' _ _ (hK v' w' g r1 r2 ?_)
    rcases r3 with e | e
    · exact .inl e
    · injection e with e; exact .inr e
/-- What has been got together. -/
structure ApL (w : World) (pre : List Z64) (W : World) : Prop where
  row : ∃ v r, W.cell? ⟨w.heap.size, 0, none⟩ = some v ∧ W.frozen? ⟨w.heap.size, 0, none⟩ = false ∧ OwnL W v (zL pre) r ∧ (r ≠ none → zL pre ≠ []) ∧ (∀ g, r = some g → w.heap.size + 1 ≤ g)
  below : Below w.heap.size w W
  sz : w.heap.size + 1 ≤ W.heap.size
theorem ApL.steady {w : World} {pre : List Z64} {W W' : World} {row : Option Nat} (h : ApL w pre W) (hg : W.grownBy W' row) (hr : ∀ k, row = some k → w.heap.size ≤ k ∧ ∃ o : Obj, W.heap[k]? = some o ∧ o.isCells = false) : ApL w pre W' := by
  obtain ⟨⟨v, r, h2, h3, h4, h5, h6⟩, h7, h8⟩ := h
  have hr2 := fun k e => (hr k e).2
  exact ⟨⟨v, r, cell_kept h2 hg hr2, (frozen_kept h2 hg hr2).trans h3, h4.steady h5 hg hr2, h5, h6⟩, h7.grown hg h7.size (fun k e => (hr k e).1), Nat.le_trans h8 hg.size⟩

set_option maxHeartbeats 4000000 in
set_option maxRecDepth 100000 in
theorem appendSeqOf (gf : Nat) (lb : Array Value) (S : List Z64 → Prop) (N : Nat) (w : World) (hN : N ≤ 64) (eg : ∀ args w, (callFunc gf args).run Try.prog w = .ok (.enter gf args) w)
    (hseq : SeqStopsK Fence.wide 4 Try.prog gf lb zArg (Below w.heap.size) S (fun _ => True) N w) :
    Calls Try.prog 41 #[.slice none 0 0, .func (.func gf) #[] lb] w fun e w' => ∃ v r xs, e = .returned v ∧ S xs ∧ OwnL w' v (zL xs) r ∧ (∀ g, r = some g → w.heap.size ≤ g) ∧ Below w.heap.size w w' := by
  obtain ⟨w0, hw0⟩ : ∃ w0, w.alloc (.cells #[.slice none 0 0] 22) = w0 := ⟨_, rfl⟩
  have hs0 : w0.heap.size = w.heap.size + 1 := by rw [← hw0]; simp
  have hb0 : Below w.heap.size w w0 := by rw [← hw0]; exact (Below.refl _ _).alloc (Nat.le_refl _) _
  have HI0 : ApL w [] w0 := ⟨⟨.slice none 0 0, none, by rw [← hw0]; exact World.cell?_alloc_at _ _ _ _ rfl, by rw [← hw0]; exact World.frozen?_alloc_at _ _ _ _ rfl, OwnL.nil _, fun h => absurd rfl h, fun g e => by cases e⟩, hb0, by omega⟩
  refine (callsIn_wide (n := 5)).1 ?_
  refine callsIn_of_wp_marks Try.func41 rfl trivial ?_ rfl
  simp only [Try.ntmps41, List.size_toArray, List.length_cons, List.length_nil, Nat.reduceAdd, Nat.reduceSub, Array.replicate_succ, Array.replicate_zero, List.push_toArray, List.append_toArray, List.nil_append, List.cons_append]
  gi_wp2_with fail
  have hFin : ∀ (D : Nat) (pre : List Z64) (W : World), ApL w pre W → w0.heap.size ≤ D → W.heap[D]? = some (.deferred (some [])) → ApL w pre (W.putObj D (.deferred none)) := fun D pre W h hD hK => h.steady (grownBy_putObj' W D _) (fun k e => by cases e; exact ⟨by omega, _, hK, rfl⟩)
  refine wpIn_rangeFunc_ownH (N := N) (S := S) (Sp := fun _ => True) rfl (by omega) (gf := gf) (lb := lb) rfl trivial eg hseq belowK_t (belowK_b (by omega)) hb0 (fun _ => rfl)
    (fun pre W => ApL w pre W)
    (fun c xs W => False)
    (fun s W W' row h1 hg hr => h1.steady hg (fun k e => ⟨by have := (hr k e).1; omega, (hr k e).2⟩))
    (fun c s W W' row h hg hr => h)
    HI0
    (fun x a' W => a' = { tmps := #[.slice none 0 0, .func (.func gf) #[] lb, .pointer (some ⟨w.heap.size, 0, none⟩), undef, .slice none 0 0, .int .i64 x.1, .func (.func gf) #[] lb, .int .i64 x.1, undef, undef, undef, undef, undef], defers := [] })
    (fun x a' s W W' row h2 hg hr => h2)
    ?assign ?body ?done ?stop
  case assign =>
    intro l pre x W K hI hK
    unfold zArg
    gi_wp2
    exact hK _ _ ((KeepsOthers.refl _).from _) (Below.refl _ _) hI rfl
  case body =>
    rintro l pre x a' W hl0 ⟨rc, hrc⟩ hI rfl hNl
    obtain ⟨⟨v, r, hv, hvf, hown, hr5, hr6⟩, hbw, hsz⟩ := hI
    obtain ⟨a, cap, rfl⟩ := hown.shp
    have hpl : (zL pre).length = pre.length := zL_len pre
    rw [hpl] at hv hown
    have HX : Hid (∀ c ∈ [x.1], -9223372036854775808 ≤ c ∧ c ≤ 9223372036854775807) := fun c hc => by rw [List.mem_singleton] at hc; subst hc; exact x.2
    gi_wp2_with (gi_at_builtin; refine wpListIn_append_l _ rfl _ _ rfl _ _ (zL pre) [x.1] r rfl rfl ?hOwn HX.out ?hSrc ?hLen (by simp) ?_)
    case hOwn => exact hown.later ((Below.refl _ W).alloc (Nat.le_refl _) _)
    case hSrc => exact src_l W x.1
    case hLen => rw [zL_len]; simp; omega
    intro v1 w1 g1 ho1 hg1 hgr1
    obtain ⟨a1, cap1, rfl⟩ := ho1.shp
    have hlen1 : (zL pre ++ [x.1]).length = pre.length + 1 := by rw [List.length_append, zL_len]; rfl
    rw [hlen1] at ho1 ⊢
    have hnb : ∀ j, j < w.heap.size + 1 → w1.heap[j]? = W.heap[j]? := fun j hj => (hg1.block j (by simp; omega) (fun e => by have := hr6 j e.symm; omega)).trans (Below.heap_alloc W _ j (by omega))
    have hv1 : w1.cell? ⟨w.heap.size, 0, none⟩ = some (.slice a pre.length cap) := (World.cell?_of_block (w := W) (a := ⟨w.heap.size, 0, none⟩) (hnb w.heap.size (by omega))).trans hv
    have hvf1 : w1.frozen? ⟨w.heap.size, 0, none⟩ = false := (World.frozen?_of_block (w := W) (a := ⟨w.heap.size, 0, none⟩) (hnb w.heap.size (by omega))).trans hvf
    have hs1 := hg1.size
    simp only [World.size_alloc] at hs1
    have hg1l : w.heap.size + 1 ≤ g1 := by
      rcases hgr1 with e | e
      · exact hr6 g1 e.symm
      · first | (simp at e; omega) | omega
    have hKO : KeepsOthers W w1 := (KeepsOthers.alloc W _).trans ((hown.later ((Below.refl _ W).alloc (Nat.le_refl _) _)).others hr5 hg1)
    have hBW : Below w.heap.size W w1 := ((Below.refl _ W).alloc (by omega) _).grown hg1 (by simp; omega) (fun k e => by have := hr6 k e; omega)
    have gS : w1.grownBy (w1.setCell ⟨w.heap.size, 0, none⟩ (.slice a1 (pre.length + 1) cap1)) (some w.heap.size) := grow_setCells w1 w.heap.size 0 [.slice a1 (pre.length + 1) cap1]
    have HE : Hid (KeepsFrom w0.heap.size W (w1.setCell ⟨w.heap.size, 0, none⟩ (.slice a1 (pre.length + 1) cap1)) ∧ Below w.heap.size W (w1.setCell ⟨w.heap.size, 0, none⟩ (.slice a1 (pre.length + 1) cap1)) ∧ ApL w (pre ++ [x]) (w1.setCell ⟨w.heap.size, 0, none⟩ (.slice a1 (pre.length + 1) cap1))) := by
      refine ⟨(hKO.trans (KeepsOthers.setCell _ _ _)).from _, hBW.setCell (p := ⟨w.heap.size, 0, none⟩) (Nat.le_refl _) _, ⟨⟨_, some g1, World.cell?_setCell_same' _ _ _ (by rw [hv1]; rfl), by rw [World.frozen?_setCell]; exact hvf1, ?_, fun _ => by rw [zL_app, zL_one]; simp, fun g e => by cases e; exact hg1l⟩, ?_, ?_⟩⟩
      · rw [zL_app, zL_one]; exact ho1.kept gS (.inr (fun e => by cases e; omega))
      · exact (hbw.trans hBW).setCell (p := ⟨w.heap.size, 0, none⟩) (Nat.le_refl _) _
      · exact Nat.le_trans (by omega) gS.size
    clear hKO hBW gS hnb ho1 hg1 hgr1
    gi_wp2
    exact HE.out
  case done =>
    rintro D ys W hD hS hI hK
    have hF := hFin D _ W hI hD hK
    obtain ⟨v, r, hv, hvf, hown, hr5, hr6⟩ := hI.row
    have hv' := cell_kept hv (grownBy_putObj' W D (.deferred none)) (fun k e => by cases e; exact ⟨_, hK, rfl⟩)
    obtain ⟨v2, r2, hv2', -, hown2, hr52, hr62⟩ := hF.row
    rw [hv'] at hv2'
    cases hv2'
    gi_wp2
    refine ⟨by simp, .inl ⟨_, _, rfl, run_takeDeferred hK, ?_⟩⟩
    exact ⟨_, results_tmp rfl _ _ _, v, r2, ys, rfl, hS, hown2, fun g e => by have := hr62 g e; omega, hF.below⟩
  case stop =>
    rintro D c pre' W hD hpre h hK
    exact h.elim
theorem enter_val : ∀ (args : Array Value) (w : World), (callFunc 38 args).run Try.prog w = .ok (.enter 38 args) w := enters_of Try.func38 (by kernel_rfl) rfl
/-- A slice's values, got together. -/
theorem collectOf (v : Value) (l : List Int) (Bs n₀ : Nat) (w : World) (hl : l.length ≤ 64) (hBs : Bs < w.heap.size) (hc : w.cell? ⟨Bs, 0, none⟩ = some v) (hI : NumsAt w v l) :
    Calls Try.prog 36 #[.func (.func 38) #[] #[.pointer (some ⟨Bs, 0, none⟩)]] w fun e w' => ∃ v' r, e = .returned v' ∧ OwnL w' v' l r ∧ (∀ g, r = some g → w.heap.size ≤ g) ∧ Below w.heap.size w w' := by
  have hlow : ∀ (a : Addr) (len cap : Nat), v = .slice (some a) len cap → l ≠ [] → a.block < w.heap.size := fun a len cap e hne => by
    obtain ⟨a', cap', e', h1, h2, h3, h4⟩ := hI
    obtain ⟨b, off, e2, h5⟩ := h4 hne
    rw [e', e2] at e
    simp only [Value.slice.injEq, Option.some.injEq] at e
    rw [← e.1]
    exact cell_lt (h5 0 (List.length_pos_iff.mpr hne))
  have HA : Hid (Calls Try.prog 41 #[.slice none 0 0, .func (.func 38) #[] #[.pointer (some ⟨Bs, 0, none⟩)]] w fun e w' => ∃ v r xs, e = .returned v ∧ (fun ys => zL ys = l) xs ∧ OwnL w' v (zL xs) r ∧ (∀ g, r = some g → w.heap.size ≤ g) ∧ Below w.heap.size w w') :=
    appendSeqOf 38 #[.pointer (some ⟨Bs, 0, none⟩)] (fun ys => zL ys = l) l.length w hl enter_val (valuesStops Fence.wide 4 trivial rfl (by omega) Bs w.heap.size v l hl w hBs (Nat.le_refl _) hc hI hlow)
  clear hlow hI hc
  go_enter Try.func36, Try.ntmps36
  go_wp2_with fail
  refine HA.out.mono ?_
  rintro e w1 ⟨v', r, xs, rfl, hx, ho, hr, hb⟩
  have HF : Hid (OwnL w1 v' l r ∧ (∀ g, r = some g → w.heap.size ≤ g) ∧ Below w.heap.size w w1) := ⟨by rw [← hx]; exact ho, hr, hb⟩
  obtain ⟨a, cap, rfl⟩ := ho.shp
  clear hx ho hr hb
  go_wp2
  go_ret
  exact ⟨_, r, rfl, HF.out⟩
end Go.Proofs.Ytbeaefokpggmpab
