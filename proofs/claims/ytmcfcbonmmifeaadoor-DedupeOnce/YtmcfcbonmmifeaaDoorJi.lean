import Derived.Test.YtmcfcbonmmifeaaDoorJh
import Derived.RangeFuncBox
import Derived.Maps.AppendAt
/-! dedupe: what an iterator gives, collected. -/
namespace Go.Proofs.YtmcfcbonmmifeaaDoor
open Go.RowKit Go.Shelf Plain
attribute [local go_sem] Oper.semAt_some
set_option linter.unusedVariables false
set_option linter.unusedSimpArgs false

theorem isCells_of {W : World} {a : Addr} {v : Value} {o : Obj} (h : W.cell? a = some v) (ho : W.heap[a.block]? = some o) : o.isCells = true := by
  unfold World.cell? at h
  rw [ho] at h
  cases o <;> first | rfl | (simp at h)
theorem OwnPr.first {w : World} {v : Value} {ts : List Pr} {g : Nat} (h : OwnPr w v ts (some g)) (hne : ts ≠ []) : ∃ u, w.cell? ⟨g, 0, none⟩ = some u := by
  have hp : 0 < ts.length := List.length_pos_iff.mpr hne
  exact ⟨_, by have := (h.at (j := 0) hp).c0; simpa using this⟩
theorem OwnPr.steady {W W' : World} {row : Option Nat} {v : Value} {ts : List Pr} {r : Option Nat} (h : OwnPr W v ts r) (hne : r ≠ none → ts ≠ []) (hg : W.grownBy W' row) (hr : ∀ k, row = some k → ∃ o : Obj, W.heap[k]? = some o ∧ o.isCells = false) : OwnPr W' v ts r := by
  refine h.kept hg ?_
  cases r with
  | none => exact .inl rfl
  | some g =>
    refine .inr fun e => ?_
    obtain ⟨u, hu⟩ := h.first (hne (by simp))
    obtain ⟨o, ho, hc⟩ := hr g e.symm
    have := isCells_of hu ho
    rw [this] at hc
    cases hc
theorem OwnPr.others {W W' : World} {v : Value} {ts : List Pr} {r : Option Nat} (h : OwnPr W v ts r) (hne : r ≠ none → ts ≠ []) (hg : W.grownBy W' r) : KeepsOthers W W' := KeepsOthers.of_grownBy hg fun j o e ho => by
  rw [e] at h
  obtain ⟨u, hu⟩ := h.first (hne (by rw [e]; simp))
  exact isCells_of hu ho
theorem wpListIn_append_q {F : Fence} {n : Nat} (w : World) {ops : Array Oper} {rest : List Oper} {o : Oper} {a : Act} {Q : Exit → Act → World → Prop}
    (hg : o.guard = none) (s x : Operand) (hop : o.op = Op.call { callee := Callee.builtin Builtin.append, args := #[s, x], argTypes := #[36, 36] })
    (v xv : Value) (ts ks : List Pr) (r : Option Nat) (hs : a.eval s = v) (hx : a.eval x = xv) (hown : OwnPr w v ts r) (hsrc : Src Tryd.prog 3 36 xv ks.length (qcells ks) w) (hlen : ts.length + ks.length ≤ 8796093022208) (hr0 : r ≠ none ∨ 0 < ks.length)
    (hK : ∀ v' w' g, OwnPr w' v' (ts ++ ks) (some g) → w.grownBy w' r → (some g = r ∨ g = w.heap.size) → wpListIn F n Tryd.prog ops Q rest (a.put o.dst v') w') :
    wpListIn F n Tryd.prog ops Q (o :: rest) a w := by
  refine wpListIn_plain hg fun K hK' => ?_
  obtain ⟨v', w', g, hrun, r1, r2, r3⟩ := run_append_q w o.type v xv ts ks r hown hsrc hlen hr0
  unfold Oper.wpIn
  refine ⟨?_, ?_⟩
  · simp [Oper.about, hop, resolve, Target.leads, Sem.run_pure]
  · rw [Oper.semAt_plain F _ _ (by rw [hop]; intro c hc'; cases hc')]
    simp [execOp, hop, resolve, invoke, builtin, hs, hx, hrun, Result.andThen]
    exact hK' _ _ (hK v' w' g r1 r2 r3)
theorem src_pr (W : World) (x : Pr) : Src Tryd.prog 3 36 (.slice (some ⟨W.heap.size, 0, none⟩) 1 1) [x].length (qcells [x]) (W.alloc (.cells #[.int .i64 x.pid, .int .i64 x.seq, .int .i64 x.off] 43)) :=
  Src.ofSlice _ Tryd.underlying36 _ 1 1 _ (by rfl) (fun j u hj => by
    rw [WideShapes.add_plain, World.cell?_alloc_at _ _ _ _ rfl, Nat.zero_add]
    rw [← hj]; simp [qcells, Pr.cells]) (fun u hu => by
    simp [qcells, Pr.cells] at hu
    rcases hu with rfl | rfl | rfl <;> rfl)

/-- What has been got together. -/
structure ApI (w : World) (pre : List Pr) (W : World) : Prop where
  row : ∃ v r, W.cell? ⟨w.heap.size, 0, none⟩ = some v ∧ W.frozen? ⟨w.heap.size, 0, none⟩ = false ∧ OwnPr W v pre r ∧ (r ≠ none → pre ≠ []) ∧ (∀ g, r = some g → w.heap.size + 1 ≤ g)
  below : Below w.heap.size w W
  sz : w.heap.size + 1 ≤ W.heap.size
theorem ApI.steady {w : World} {pre : List Pr} {W W' : World} {row : Option Nat} (h : ApI w pre W) (hg : W.grownBy W' row) (hr : ∀ k, row = some k → w.heap.size ≤ k ∧ ∃ o : Obj, W.heap[k]? = some o ∧ o.isCells = false) : ApI w pre W' := by
  obtain ⟨⟨v, r, h2, h3, h4, h5, h6⟩, h7, h8⟩ := h
  have hr2 := fun k e => (hr k e).2
  exact ⟨⟨v, r, cell_kept h2 hg hr2, (frozen_kept h2 hg hr2).trans h3, h4.steady h5 hg hr2, h5, h6⟩, h7.grown hg h7.size (fun k e => (hr k e).1), Nat.le_trans h8 hg.size⟩

set_option maxHeartbeats 4000000 in
set_option maxRecDepth 100000 in
theorem appendSeqOf (gf : Nat) (lb : Array Value) (S : List Pr → Prop) (N : Nat) (w : World) (hN : N ≤ 64) (eg : ∀ args w, (callFunc gf args).run Tryd.prog w = .ok (.enter gf args) w)
    (hseq : SeqStopsK Fence.wide 4 Tryd.prog gf lb (fun x : Pr => #[x.agg]) KeepsWalks S (fun _ => True) N w) :
    Calls Tryd.prog 32 #[.slice none 0 0, .func (.func gf) #[] lb] w fun e w' => ∃ v r xs, e = .returned v ∧ S xs ∧ OwnPr w' v xs r ∧ (r ≠ none → xs ≠ []) ∧ (∀ g, r = some g → w.heap.size ≤ g) ∧ Below w.heap.size w w' := by
  obtain ⟨w0, hw0⟩ : ∃ w0, w.alloc (.cells #[.slice none 0 0] 36) = w0 := ⟨_, rfl⟩
  have hs0 : w0.heap.size = w.heap.size + 1 := by rw [← hw0]; simp
  have hb0 : Below w.heap.size w w0 := by rw [← hw0]; exact (Below.refl _ _).alloc (Nat.le_refl _) _
  have HI0 : ApI w [] w0 := ⟨⟨.slice none 0 0, none, by rw [← hw0]; exact World.cell?_alloc_at _ _ _ _ rfl, by rw [← hw0]; exact World.frozen?_alloc_at _ _ _ _ rfl, OwnPr.nil _, fun h => absurd rfl h, fun g e => by cases e⟩, hb0, by omega⟩
  refine (callsIn_wide (n := 5)).1 ?_
  refine callsIn_of_wp_marks Tryd.func32 rfl trivial ?_ rfl
  simp only [Tryd.ntmps32, List.size_toArray, List.length_cons, List.length_nil, Nat.reduceAdd, Nat.reduceSub, Array.replicate_succ, Array.replicate_zero, List.push_toArray, List.append_toArray, List.nil_append, List.cons_append]
  gi_wp2_with fail
  have hFin : ∀ (D : Nat) (pre : List Pr) (W : World), ApI w pre W → w0.heap.size ≤ D → W.heap[D]? = some (.deferred (some [])) → ApI w pre (W.putObj D (.deferred none)) := fun D pre W h hD hK => h.steady (grownBy_putObj' W D _) (fun k e => by cases e; exact ⟨by omega, _, hK, rfl⟩)
  refine wpIn_rangeFunc_ownH (N := N) (S := S) (Sp := fun _ => True) rfl (by omega) (gf := gf) (lb := lb) rfl trivial eg hseq walksK_t walksK_b hb0 (fun _ => rfl)
    (fun pre W => ApI w pre W)
    (fun c xs W => False)
    (fun s W W' row h1 hg hr => h1.steady hg (fun k e => ⟨by have := (hr k e).1; omega, (hr k e).2⟩))
    (fun c s W W' row h hg hr => h)
    HI0
    (fun x a' W => ∃ Bx, Pr.CellsAt W Bx 0 x ∧ a' = { tmps := #[.slice none 0 0, .func (.func gf) #[] lb, .pointer (some ⟨w.heap.size, 0, none⟩), undef, .slice none 0 0, .pointer (some ⟨Bx, 0, none⟩), .func (.func gf) #[] lb, x.agg, undef, undef, undef, undef, undef], defers := [] })
    (fun x a' s W W' row ⟨Bx, ⟨k0, k1, k2⟩, h2⟩ hg hr => ⟨Bx, ⟨cell_kept k0 hg (fun k e => (hr k e).2), cell_kept k1 hg (fun k e => (hr k e).2), cell_kept k2 hg (fun k e => (hr k e).2)⟩, h2⟩)
    ?assign ?body ?done ?stop
  case assign =>
    intro l pre x W K hI hK
    have hsz := hI.below.size
    gi_wp2
    exact hK _ _ ((KeepsOthers.alloc _ _).from _) (KeepsWalks.alloc _ _) (hI.steady (World.grownBy_alloc W _ none) (fun k e => by cases e)) ⟨W.heap.size, ⟨World.cell?_alloc_at _ _ _ _ rfl, World.cell?_alloc_at _ _ _ _ rfl, World.cell?_alloc_at _ _ _ _ rfl⟩, rfl⟩
  case body =>
    rintro l pre x a' W hl0 ⟨rc, hrc⟩ hI ⟨Bx, ⟨k0, k1, k2⟩, rfl⟩ hNl
    obtain ⟨⟨v, r, hv, hvf, hown, hr5, hr6⟩, hbw, hsz⟩ := hI
    obtain ⟨a, cap, rfl, hcap, hle⟩ := hown.shape
    gi_wp2_with (gi_at_builtin; refine wpListIn_append_q _ rfl _ _ rfl _ _ pre [x] r rfl rfl ?hOwn ?hSrc ?hLen ?hR ?_)
    case hOwn => exact hown.later ((Below.refl _ W).alloc (Nat.le_refl _) _)
    case hSrc => exact src_pr W x
    case hLen => simp; omega
    case hR => exact .inr (by simp)
    intro v1 w1 g1 ho1 hg1 hgr1
    obtain ⟨a1, cap1, rfl, hcap1, hle1⟩ := ho1.shape
    have hlen1 : (pre ++ [x]).length = pre.length + 1 := by simp
    rw [hlen1] at ho1 hle1 ⊢
    have hnb : ∀ j, j < w.heap.size + 1 → w1.heap[j]? = W.heap[j]? := fun j hj => (hg1.block j (by simp; omega) (fun e => by have := hr6 j e.symm; omega)).trans (Below.heap_alloc W _ j (by omega))
    have hv1 : w1.cell? ⟨w.heap.size, 0, none⟩ = some (.slice a pre.length cap) := (World.cell?_of_block (w := W) (a := ⟨w.heap.size, 0, none⟩) (hnb w.heap.size (by omega))).trans hv
    have hvf1 : w1.frozen? ⟨w.heap.size, 0, none⟩ = false := (World.frozen?_of_block (w := W) (a := ⟨w.heap.size, 0, none⟩) (hnb w.heap.size (by omega))).trans hvf
    have hs1 := hg1.size
    simp only [World.size_alloc] at hs1
    have hg1l : w.heap.size + 1 ≤ g1 := by
      rcases hgr1 with e | e
      · exact hr6 g1 e.symm
      · first | (simp at e; omega) | omega
    have hKO : KeepsOthers W w1 := (KeepsOthers.alloc W _).trans ((hown.later ((Below.refl _ W).alloc (Nat.le_refl _) _)).others hr5 hg1)
    have hBW : Below w.heap.size W w1 := ((Below.refl _ W).alloc (by omega) _).grown hg1 (by simp; omega) (fun k e => by have := hr6 k e; omega)
    have gS := grow_setC w1 w.heap.size 0 (.slice a1 (pre.length + 1) cap1)
    have HE : Hid (KeepsFrom w0.heap.size W (w1.setCell ⟨w.heap.size, 0, none⟩ (.slice a1 (pre.length + 1) cap1)) ∧ KeepsWalks W (w1.setCell ⟨w.heap.size, 0, none⟩ (.slice a1 (pre.length + 1) cap1)) ∧ ApI w (pre ++ [x]) (w1.setCell ⟨w.heap.size, 0, none⟩ (.slice a1 (pre.length + 1) cap1))) := by
      refine ⟨(hKO.trans (KeepsOthers.setCell _ _ _)).from _, (hKO.trans (KeepsOthers.setCell _ _ _)).walks, ⟨⟨_, some g1, World.cell?_setCell_same' _ _ _ (by rw [hv1]; rfl), by rw [World.frozen?_setCell]; exact hvf1, ?_, fun _ => by simp, fun g e => by cases e; exact hg1l⟩, ?_, ?_⟩⟩
      · exact ho1.kept gS (.inr (fun e => by cases e; omega))
      · exact (hbw.trans hBW).setCell (p := ⟨w.heap.size, 0, none⟩) (Nat.le_refl _) _
      · exact Nat.le_trans (by omega) gS.size
    clear hKO hBW gS hnb ho1 hg1 hgr1
    gi_wp2
    exact HE.out
  case done =>
    rintro D ys W hD hS hI hK
    have hF := hFin D _ W hI hD hK
    obtain ⟨v, r, hv, hvf, hown, hr5, hr6⟩ := hI.row
    have hv' := cell_kept hv (grownBy_putObj' W D (.deferred none)) (fun k e => by cases e; exact ⟨_, hK, rfl⟩)
    obtain ⟨v2, r2, hv2', -, hown2, hr52, hr62⟩ := hF.row
    rw [hv'] at hv2'
    cases hv2'
    gi_wp2
    refine ⟨by simp, .inl ⟨_, _, rfl, run_takeDeferred hK, ?_⟩⟩
    exact ⟨_, results_tmp rfl _ _ _, v, r2, ys, rfl, hS, hown2, hr52, fun g e => by have := hr62 g e; omega, hF.below⟩
  case stop =>
    rintro D c pre' W hD hpre h hK
    exact h.elim
end Go.Proofs.YtmcfcbonmmifeaaDoor
