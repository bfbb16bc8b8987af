import Derived.Test.YthfnbcicpcbgjaaKra
import Derived.Test.YthfnbcicpcbgjaaKr
import Derived.RangeFuncBox
import Derived.Maps.AppendAt
/-! keydir: Range. -/
namespace Go.Proofs.Ythfnbcicpcbgjaa
open Go.RowKit Go.Shelf Plain
attribute [local go_sem] Oper.semAt_some
set_option linter.unusedVariables false
set_option linter.unusedSimpArgs false

def Ke.r (k : Ke) : Kr := ⟨k.key, k.e.seg, k.e.pos, k.e.size, k.e.off, k.e.time, k.e.tomb⟩

theorem isCells_of {W : World} {a : Addr} {v : Value} {o : Obj} (h : W.cell? a = some v) (ho : W.heap[a.block]? = some o) : o.isCells = true := by
  unfold World.cell? at h
  rw [ho] at h
  cases o <;> first | rfl | (simp at h)
theorem OwnKr.first {w : World} {v : Value} {ts : List Kr} {g : Nat} (h : OwnKr w v ts (some g)) (hne : ts ≠ []) : ∃ u, w.cell? ⟨g, 0, none⟩ = some u := by
  have hp : 0 < ts.length := List.length_pos_iff.mpr hne
  exact ⟨_, by have := (h.at (j := 0) hp).c0; simpa using this⟩
theorem OwnKr.steady {W W' : World} {row : Option Nat} {v : Value} {ts : List Kr} {r : Option Nat} (h : OwnKr W v ts r) (hne : r ≠ none → ts ≠ []) (hg : W.grownBy W' row) (hr : ∀ k, row = some k → ∃ o : Obj, W.heap[k]? = some o ∧ o.isCells = false) : OwnKr W' v ts r := by
  refine h.kept hg ?_
  cases r with
  | none => exact .inl rfl
  | some g =>
    refine .inr fun e => ?_
    obtain ⟨u, hu⟩ := h.first (hne (by simp))
    obtain ⟨o, ho, hc⟩ := hr g e.symm
    have := isCells_of hu ho
    rw [this] at hc
    cases hc
theorem OwnKr.others {W W' : World} {v : Value} {ts : List Kr} {r : Option Nat} (h : OwnKr W v ts r) (hne : r ≠ none → ts ≠ []) (hg : W.grownBy W' r) : KeepsOthers W W' := KeepsOthers.of_grownBy hg fun j o e ho => by
  rw [e] at h
  obtain ⟨u, hu⟩ := h.first (hne (by rw [e]; simp))
  exact isCells_of hu ho
theorem wpListIn_append_k {F : Fence} {n : Nat} (w : World) {ops : Array Oper} {rest : List Oper} {o : Oper} {a : Act} {Q : Exit → Act → World → Prop}
    (hg : o.guard = none) (s x : Operand) (hop : o.op = Op.call { callee := Callee.builtin Builtin.append, args := #[s, x], argTypes := #[24, 24] })
    (v xv : Value) (ts ks : List Kr) (r : Option Nat) (hs : a.eval s = v) (hx : a.eval x = xv) (hown : OwnKr w v ts r) (hsrc : Src Try.prog 7 24 xv ks.length (kcells ks) w) (hlen : ts.length + ks.length ≤ 2199023255552) (hr0 : r ≠ none ∨ 0 < ks.length)
    (hK : ∀ v' w' g, OwnKr w' v' (ts ++ ks) (some g) → w.grownBy w' r → (some g = r ∨ g = w.heap.size) → wpListIn F n Try.prog ops Q rest (a.put o.dst v') w') :
    wpListIn F n Try.prog ops Q (o :: rest) a w := by
  refine wpListIn_plain hg fun K hK' => ?_
  obtain ⟨v', w', g, hrun, r1, r2, r3⟩ := run_append_k w o.type v xv ts ks r hown hsrc hlen hr0
  unfold Oper.wpIn
  refine ⟨?_, ?_⟩
  · simp [Oper.about, hop, resolve, Target.leads, Sem.run_pure]
  · rw [Oper.semAt_plain F _ _ (by rw [hop]; intro c hc'; cases hc')]
    simp [execOp, hop, resolve, invoke, builtin, hs, hx, hrun, Result.andThen]
    exact hK' _ _ (hK v' w' g r1 r2 r3)
theorem src_kr (W : World) (x : Ke) : Src Try.prog 7 24 (.slice (some ⟨W.heap.size, 0, none⟩) 1 1) [x.r].length (kcells [x.r]) (W.alloc (.cells #[.string x.key, .int .i64 x.e.seg, .int .i64 x.e.pos, .int .i64 x.e.size, .int .i64 x.e.off, .int .i64 x.e.time, .bool x.e.tomb] 28)) :=
  Src.ofSlice _ Try.underlying24 _ 1 1 _ (by rfl) (fun j u hj => by
    rw [WideShapes.add_plain, World.cell?_alloc_at _ _ _ _ rfl, Nat.zero_add]
    rw [← hj]; simp [kcells, Kr.cells, Ke.r]) (fun u hu => by
    simp [kcells, Kr.cells, Ke.r] at hu
    rcases hu with rfl | rfl | rfl | rfl | rfl | rfl | rfl <;> rfl)

/-- What Range has got together. -/
structure RgI (w : World) (lim : Int) (pre : List Ke) (W : World) : Prop where
  lim : W.cell? ⟨w.heap.size, 0, none⟩ = some (.int .i64 lim)
  row : ∃ v r, W.cell? ⟨w.heap.size + 1, 0, none⟩ = some v ∧ W.frozen? ⟨w.heap.size + 1, 0, none⟩ = false ∧ OwnKr W v (pre.map Ke.r) r ∧ (r ≠ none → pre.map Ke.r ≠ []) ∧ (∀ g, r = some g → w.heap.size + 5 ≤ g)
  below : Below w.heap.size w W
  sz : w.heap.size + 5 ≤ W.heap.size
theorem RgI.steady {w : World} {lim : Int} {pre : List Ke} {W W' : World} {row : Option Nat} (h : RgI w lim pre W) (hg : W.grownBy W' row) (hr : ∀ k, row = some k → w.heap.size ≤ k ∧ ∃ o : Obj, W.heap[k]? = some o ∧ o.isCells = false) : RgI w lim pre W' := by
  obtain ⟨h1, ⟨v, r, h2, h3, h4, h5, h6⟩, h7, h8⟩ := h
  have hr2 := fun k e => (hr k e).2
  exact ⟨cell_kept h1 hg hr2, ⟨v, r, cell_kept h2 hg hr2, (frozen_kept h2 hg hr2).trans h3, h4.steady h5 hg hr2, h5, h6⟩, h7.grown hg h7.size (fun k e => (hr k e).1), Nat.le_trans h8 hg.size⟩

set_option maxHeartbeats 4000000 in
set_option maxRecDepth 100000 in
theorem rangeG {ks : List Ke} (da : Option Addr) (p : Option Addr) (d : Nat) (lo hi : ByteArray) (lim : Int) (w : World) (ht : TreeAt (fun _ => True) w d p ks) (hs : Srt ks) (hTop : ∀ u, Below w.heap.size w u → Calls Try.prog 35 #[.pointer da] u fun e w' => e = .returned (.pointer p) ∧ w' = u) (hlo : lo.size ≤ maxLen) (hhi : hi.size ≤ maxLen) (hl : ks.length ≤ 2199023255500) :
    Calls Try.prog 16 #[.pointer da, .string lo, .string hi, .int .i64 lim] w fun e w' => ∃ v r, e = .returned v ∧ OwnKr w' v (((rngL lo hi ks).take lim.toNat).map Ke.r) r ∧ (∀ g, r = some g → w.heap.size ≤ g) ∧ Below w.heap.size w w' := by
  have hrl : (rngL lo hi ks).length ≤ 2199023255500 := Nat.le_trans (List.length_filter_le ..) hl
  obtain ⟨w2, hw2⟩ : ∃ w2, (w.alloc (.cells #[.int .i64 lim] 3)).alloc (.cells #[.slice none 0 0] 24) = w2 := ⟨_, rfl⟩
  have hs2 : w2.heap.size = w.heap.size + 2 := by rw [← hw2]; simp
  have hb2 : Below w.heap.size w w2 := by rw [← hw2]; exact ((Below.refl _ _).alloc (Nat.le_refl _) _).alloc (by simp) _
  have hl2 : w2.cell? ⟨w.heap.size, 0, none⟩ = some (.int .i64 lim) := by
    rw [← hw2]
    have h1 : (w.alloc (.cells #[.int .i64 lim] 3)).cell? ⟨w.heap.size, 0, none⟩ = some (.int .i64 lim) := World.cell?_alloc_at _ _ _ _ rfl
    exact cell_kept h1 (World.grownBy_alloc _ _ none) (fun r e => by cases e)
  have hq : (w.alloc (.cells #[.int .i64 lim] 3)).heap.size = w.heap.size + 1 := by simp
  have hv2 : w2.cell? ⟨w.heap.size + 1, 0, none⟩ = some (.slice none 0 0) := by rw [← hw2, ← hq]; exact World.cell?_alloc_at _ _ _ _ rfl
  have hf2 : w2.frozen? ⟨w.heap.size + 1, 0, none⟩ = false := by rw [← hw2, ← hq]; exact World.frozen?_alloc_at _ _ _ _ rfl
  obtain ⟨w0, hw0⟩ : ∃ w0, ((w2.alloc (.cells #[.pointer da] 29)).alloc (.cells #[.string lo] 9)).alloc (.cells #[.string hi] 9) = w0 := ⟨_, rfl⟩
  have hs0 : w0.heap.size = w.heap.size + 5 := by rw [← hw0]; simp; omega
  have hb02 : Below w2.heap.size w2 w0 := by rw [← hw0]; exact (((Below.refl _ _).alloc (Nat.le_refl _) _).alloc (by simp) _).alloc (by simp; omega) _
  have hb0 : Below w.heap.size w w0 := hb2.trans (hb02.mono hb2.size)
  have hcap : CapAt w0 (w.heap.size + 2) (.pointer da) lo hi := by
    rw [← hw0, ← hs2]
    have e1 : (w2.alloc (.cells #[.pointer da] 29)).heap.size = w2.heap.size + 1 := by simp
    have e2 : ((w2.alloc (.cells #[.pointer da] 29)).alloc (.cells #[.string lo] 9)).heap.size = w2.heap.size + 2 := by simp
    have k1 : (w2.alloc (.cells #[.pointer da] 29)).cell? ⟨w2.heap.size, 0, none⟩ = some (.pointer da) := World.cell?_alloc_at _ _ _ _ rfl
    have k2 : ((w2.alloc (.cells #[.pointer da] 29)).alloc (.cells #[.string lo] 9)).cell? ⟨w2.heap.size + 1, 0, none⟩ = some (.string lo) := by rw [← e1]; exact World.cell?_alloc_at _ _ _ _ rfl
    refine ⟨?_, ?_, ?_⟩
    · exact cell_kept (cell_kept k1 (World.grownBy_alloc _ _ none) (fun r e => by cases e)) (World.grownBy_alloc _ _ none) (fun r e => by cases e)
    · exact cell_kept k2 (World.grownBy_alloc _ _ none) (fun r e => by cases e)
    · rw [← e2]; exact World.cell?_alloc_at _ _ _ _ rfl
  have hseq := allStops da (5 - 1) p lo hi hlo hhi w.heap.size (w.heap.size + 2) d ks w0 (by omega) (by omega) hcap
    (fun u hu => hTop u (hb0.trans (hu.mono (by omega)))) ((TreeAt.tight (fun g _ hg => hg) ht).later hb0) hs
  have HI0 : RgI w lim [] w0 := ⟨(hb02.cell (p := ⟨w.heap.size, 0, none⟩) (by show w.heap.size < _; omega)).trans hl2, ⟨.slice none 0 0, none, (hb02.cell (p := ⟨w.heap.size + 1, 0, none⟩) (by show w.heap.size + 1 < _; omega)).trans hv2, (hb02.frozen (p := ⟨w.heap.size + 1, 0, none⟩) (by show w.heap.size + 1 < _; omega)).trans hf2, OwnKr.nil _, fun h => absurd rfl h, fun g e => by cases e⟩, hb0, by omega⟩
  refine (callsIn_wide (n := 5)).1 ?_
  refine callsIn_of_wp_marks Try.func16 rfl trivial ?_ rfl
  simp only [Try.ntmps16, List.size_toArray, List.length_cons, List.length_nil, Nat.reduceAdd, Nat.reduceSub, Array.replicate_succ, Array.replicate_zero, List.push_toArray, List.append_toArray, List.nil_append, List.cons_append]
  gi_wp2_with fail
  refine ⟨trivial, (allIn 4 _ _ _ _).mono ?_⟩
  rintro e wx ⟨rfl, hwx⟩
  rw [hw0] at hwx
  subst hwx
  rw [hs2] at *
  gi_wp2_with fail
  have hFin : ∀ (D : Nat) (pre : List Ke) (W : World), RgI w lim pre W → wx.heap.size ≤ D → W.heap[D]? = some (.deferred (some [])) → RgI w lim pre (W.putObj D (.deferred none)) := fun D pre W h hD hK => h.steady (grownBy_putObj' W D _) (fun k e => by cases e; exact ⟨by omega, _, hK, rfl⟩)
  refine wpIn_rangeFunc_ownH rfl (by omega) (gf := 40) (lb := #[.pointer (some ⟨w.heap.size + 2, 0, none⟩), .pointer (some ⟨w.heap.size + 2 + 1, 0, none⟩), .pointer (some ⟨w.heap.size + 2 + 2, 0, none⟩)]) rfl trivial (enters_of Try.func40 (by kernel_rfl) rfl) hseq belowK_t (belowK_b (by omega)) (Below.refl _ _) (fun _ => rfl)
    (fun pre W => RgI w lim pre W ∧ pre.length ≤ lim.toNat)
    (fun c xs W => c = .exit 0 ∧ ∃ pre x, xs = pre ++ [x] ∧ RgI w lim pre W ∧ pre.length = lim.toNat)
    (fun s W W' row ⟨h1, h2⟩ hg hr => ⟨h1.steady hg (fun k e => ⟨by have := (hr k e).1; omega, (hr k e).2⟩), h2⟩)
    (fun c s W W' row ⟨h0, pre, x, h1, h2, h3⟩ hg hr => ⟨h0, pre, x, h1, h2.steady hg (fun k e => ⟨by have := (hr k e).1; omega, (hr k e).2⟩), h3⟩)
    ⟨HI0, Nat.zero_le _⟩
    (fun x a' W => ∃ Bx, EnAt W Bx x.e ∧ a' = { tmps := #[.pointer da, .string lo, .string hi, .int .i64 lim, undef, undef, undef, .pointer (some ⟨w.heap.size, 0, none⟩), .slice none 0 0, .pointer (some ⟨w.heap.size + 1, 0, none⟩), .string x.key, .pointer (some ⟨Bx, 0, none⟩), .pointer da, .string lo, .string hi, .func (.func 40) #[] #[.pointer (some ⟨w.heap.size + 2, 0, none⟩), .pointer (some ⟨w.heap.size + 2 + 1, 0, none⟩), .pointer (some ⟨w.heap.size + 2 + 2, 0, none⟩)], .string x.key, x.e.v, undef, undef, undef, undef, undef, undef, undef, undef, undef, undef, undef], defers := [] })
    (fun x a' s W W' row ⟨Bx, ⟨k0, k1, k2, k3, k4, k5⟩, h2⟩ hg hr => ⟨Bx, ⟨cell_kept k0 hg (fun k e => (hr k e).2), cell_kept k1 hg (fun k e => (hr k e).2), cell_kept k2 hg (fun k e => (hr k e).2), cell_kept k3 hg (fun k e => (hr k e).2), cell_kept k4 hg (fun k e => (hr k e).2), cell_kept k5 hg (fun k e => (hr k e).2)⟩, h2⟩)
    ?assign ?body ?done ?stop
  case assign =>
    intro l pre x W K hIh hK
    obtain ⟨hI, hpl⟩ := hIh
    have hsz := hI.below.size
    gi_wp2
    exact hK _ _ ((KeepsOthers.alloc _ _).from _) ((Below.refl _ W).alloc hsz _) ⟨hI.steady (World.grownBy_alloc W _ none) (fun k e => by cases e), hpl⟩ ⟨W.heap.size, EnAt.new W x.e, rfl⟩
  case body =>
    rintro l pre x a' W hl0 ⟨rc, hrc⟩ ⟨hI, hpl⟩ ⟨Bx, hen, rfl⟩ hN
    have hIc := hI
    obtain ⟨hlim, ⟨v, r, hv, hvf, hown, hr5, hr6⟩, hbw, hsz⟩ := hI
    obtain ⟨k0, k1, k2, k3, k4, k5⟩ := hen
    obtain ⟨a, cap, rfl, hcap, hle⟩ := hown.shape
    rw [List.length_map] at *
    by_cases hlt : (pre.length : Int) < lim
    · gi_wp2_with (gi_at_builtin; refine wpListIn_append_k _ rfl _ _ rfl _ _ (pre.map Ke.r) [x.r] r rfl rfl ?hOwn ?hSrc ?hLen ?hR ?_)
      case hOwn => exact hown.later ((Below.refl _ W).alloc (Nat.le_refl _) _)
      case hSrc => exact src_kr W x
      case hLen => simp; omega
      case hR => exact .inr (by simp)
      intro v1 w1 g1 ho1 hg1 hgr1
      obtain ⟨a1, cap1, rfl, hcap1, hle1⟩ := ho1.shape
      have hlen1 : (pre.map Ke.r ++ [x.r]).length = pre.length + 1 := by simp
      rw [hlen1] at ho1 hle1 ⊢
      have hnb : ∀ j, j < w.heap.size + 5 → w1.heap[j]? = W.heap[j]? := fun j hj => (hg1.block j (by simp; omega) (fun e => by have := hr6 j e.symm; omega)).trans (Below.heap_alloc W _ j (by omega))
      have hv1 : w1.cell? ⟨w.heap.size + 1, 0, none⟩ = some (.slice a pre.length cap) := (World.cell?_of_block (w := W) (a := ⟨w.heap.size + 1, 0, none⟩) (hnb (w.heap.size + 1) (by omega))).trans hv
      have hvf1 : w1.frozen? ⟨w.heap.size + 1, 0, none⟩ = false := (World.frozen?_of_block (w := W) (a := ⟨w.heap.size + 1, 0, none⟩) (hnb (w.heap.size + 1) (by omega))).trans hvf
      have hs1 := hg1.size
      simp only [World.size_alloc] at hs1
      have hg1l : w.heap.size + 5 ≤ g1 := by
        rcases hgr1 with e | e
        · exact hr6 g1 e.symm
        · first | (simp at e; omega) | omega
      have hKO : KeepsOthers W w1 := (KeepsOthers.alloc W _).trans ((hown.later ((Below.refl _ W).alloc (Nat.le_refl _) _)).others hr5 hg1)
      have hBW : Below w.heap.size W w1 := ((Below.refl _ W).alloc (by omega) _).grown hg1 (by simp; omega) (fun k e => by have := hr6 k e; omega)
      have gS := grow_setC w1 (w.heap.size + 1) 0 (.slice a1 (pre.length + 1) cap1)
      have HE : Hid (KeepsFrom wx.heap.size W (w1.setCell ⟨w.heap.size + 1, 0, none⟩ (.slice a1 (pre.length + 1) cap1)) ∧ Below w.heap.size W (w1.setCell ⟨w.heap.size + 1, 0, none⟩ (.slice a1 (pre.length + 1) cap1)) ∧ RgI w lim (pre ++ [x]) (w1.setCell ⟨w.heap.size + 1, 0, none⟩ (.slice a1 (pre.length + 1) cap1)) ∧ (pre ++ [x]).length ≤ lim.toNat) := by
        refine ⟨(hKO.trans (KeepsOthers.setCell _ _ _)).from _, hBW.setCell (p := ⟨w.heap.size + 1, 0, none⟩) (by show w.heap.size ≤ w.heap.size + 1; omega) _, ⟨?_, ⟨_, some g1, World.cell?_setCell_same' _ _ _ (by rw [hv1]; rfl), by rw [World.frozen?_setCell]; exact hvf1, ?_, fun _ => by simp, fun g e => by cases e; exact hg1l⟩, ?_, ?_⟩, ?_⟩
        · rw [World.cell?_of_block (w := w1) (a := ⟨w.heap.size, 0, none⟩) (gS.block w.heap.size (by omega) (fun e => by simp at e)), World.cell?_of_block (w := W) (a := ⟨w.heap.size, 0, none⟩) (hnb w.heap.size (by omega))]
          exact hlim
        · have h2 := ho1.kept gS (.inr (fun e => by cases e; omega))
          rw [List.map_append]
          exact h2
        · exact (hbw.trans hBW).setCell (p := ⟨w.heap.size + 1, 0, none⟩) (by show w.heap.size ≤ w.heap.size + 1; omega) _
        · exact Nat.le_trans (by omega) gS.size
        · rw [List.length_append, List.length_singleton]; omega
      clear hKO hBW gS hnb ho1 hg1 hgr1
      gi_wp2
      exact HE.out
    · have hq2 : pre.length = lim.toNat := by omega
      have HIc : Hid (RgI w lim pre W) := hIc
      gi_wp2
      exact ⟨KeepsFrom.refl _ _, rfl, pre, ⟨x, rfl⟩, HIc.out, hq2⟩
  case done =>
    rintro D ys W hD rfl ⟨hI, hpl⟩ hK
    have hF := hFin D _ W hI hD hK
    obtain ⟨v, r, hv, hvf, hown, hr5, hr6⟩ := hI.row
    have hv' := cell_kept hv (grownBy_putObj' W D (.deferred none)) (fun k e => by cases e; exact ⟨_, hK, rfl⟩)
    obtain ⟨v2, r2, hv2', -, hown2, -, hr62⟩ := hF.row
    rw [hv'] at hv2'
    cases hv2'
    gi_wp2
    refine ⟨by simp, .inl ⟨_, _, rfl, run_takeDeferred hK, ?_⟩⟩
    exact ⟨_, results_tmp rfl _ _ _, v, r2, rfl, by rw [List.take_of_length_le hpl]; exact hown2, fun g e => by have := hr62 g e; omega, hF.below⟩
  case stop =>
    rintro D c pre' W hD hpre ⟨rfl, pre, x, rfl, hI, hpl⟩ hK
    have hF := hFin D _ W hI hD hK
    obtain ⟨v, r, hv, hvf, hown, hr5, hr6⟩ := hI.row
    have hv' := cell_kept hv (grownBy_putObj' W D (.deferred none)) (fun k e => by cases e; exact ⟨_, hK, rfl⟩)
    obtain ⟨v2, r2, hv2', -, hown2, -, hr62⟩ := hF.row
    rw [hv'] at hv2'
    cases hv2'
    have htk : (rngL lo hi ks).take lim.toNat = pre := by
      obtain ⟨t, ht⟩ := hpre
      rw [← ht, ← hpl]
      simp
    gi_wp2
    refine ⟨by simp, .inl ⟨_, _, rfl, run_takeDeferred hK, ?_⟩⟩
    exact ⟨_, results_tmp rfl _ _ _, v, r2, rfl, by rw [htk]; exact hown2, fun g e => by have := hr62 g e; omega, hF.below⟩

theorem rangeOf {D : Nat → Prop} {gd : Nat} {ks : List Ke} (lo hi : ByteArray) (lim : Int) (w : World) (h : DirAt D w gd ks) (hlo : lo.size ≤ maxLen) (hhi : hi.size ≤ maxLen) (hl : ks.length ≤ 2199023255500) :
    Calls Try.prog 16 #[.pointer (some ⟨gd, 0, none⟩), .string lo, .string hi, .int .i64 lim] w fun e w' => ∃ v r, e = .returned v ∧ OwnKr w' v (((rngL lo hi ks).take lim.toNat).map Ke.r) r ∧ (∀ g, r = some g → w.heap.size ≤ g) ∧ Below w.heap.size w w' := by
  have hgl := h.lt
  obtain ⟨-, hs, -, d, p, hcd, ht⟩ := h
  exact rangeG (some ⟨gd, 0, none⟩) p d lo hi lim w (ht.weak fun _ _ => trivial) hs (fun u hu => topOf gd p u ((hu.cell (p := ⟨gd, 0, none⟩) hgl).trans hcd)) hlo hhi hl
end Go.Proofs.Ythfnbcicpcbgjaa
