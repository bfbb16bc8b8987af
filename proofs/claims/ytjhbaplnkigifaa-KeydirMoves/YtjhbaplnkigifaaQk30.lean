import Derived.Test.YtjhbaplnkigifaaQk29
/-! keydir: asked. -/
namespace Go.Proofs.Ytjhbaplnkigifaa
open Go.RowKit Plain
set_option linter.unusedVariables false
set_option linter.unusedSimpArgs false

set_option maxHeartbeats 8000000 in
set_option maxRecDepth 100000 in
theorem askedOf {D : Nat → Prop} (gl : Nat) (vL vW : Value) (rL rW : Option Nat) (its : List Lt) (p : Dp) (lo hi : ByteArray) (lim : Int) (w : World) (h : LtAt w gl vL vW rL rW its) (hp : PairAt D w p) (hlo : lo.size ≤ maxLen) (hhi : hi.size ≤ maxLen) (hn : its.length < 2199023254000) (hl : p.l.length < 2199023254000) :
    Calls Try.prog 38 #[.pointer (some ⟨gl, 0, none⟩), .pointer (some ⟨p.gd, 0, none⟩), .pointer (some ⟨p.gx, 0, none⟩), .string lo, .string hi, .int .i64 lim] w fun e w' => e = .returned (.bool true) ∧ ∃ vL' vW' rL' rW' y, LtAt w' gl vL' vW' rL' rW' (its ++ [y]) ∧ Chg (lateS gl rL rW) w w' ∧ ∀ g, LtB gl rL' rW' (its ++ [y]) g → LtB gl rL rW its g ∨ w.heap.size ≤ g := by
  have HR : Hid (Calls Try.prog 27 #[.pointer (some ⟨p.gd, 0, none⟩), .string lo, .string hi, .int .i64 lim] w fun e w' => ∃ v r, e = .returned v ∧ OwnKr w' v (rowK ((rngL lo hi p.l).take lim.toNat)) r ∧ (∀ g, r = some g → w.heap.size ≤ g) ∧ Below w.heap.size w w') := rangeOf lo hi lim w hp.dir hlo hhi (by omega)
  have HX : Hid (∀ u, Below w.heap.size w u → Calls Try.prog 29 #[.pointer (some ⟨p.gx, 0, none⟩), .string lo, .string hi, .int .i64 lim] u fun e w' => ∃ v' r', e = .returned v' ∧ KrNew u w' v' (rowK ((rngL lo hi p.l).take lim.toNat)) r') := fun u hu => xrangeOf p.gx p.v p.l p.r lo hi lim u (hp.xd.later hu) hlo hhi
  have HST : Hid ((rowK ((rngL lo hi p.l).take lim.toNat)).length ≤ 2199023254000 ∧ ∀ x ∈ rowK ((rngL lo hi p.l).take lim.toNat), x.Ok) := by
    refine ⟨?_, fun x hx => ?_⟩
    · have h1 : (rngL lo hi p.l).length ≤ p.l.length := List.length_filter_le ..
      simp [rowK]
      omega
    · obtain ⟨y, hy, rfl⟩ := List.mem_map.mp hx
      exact hp.ok y (List.mem_filter.mp (List.mem_of_mem_take hy)).1
  generalize rowK ((rngL lo hi p.l).take lim.toNat) = ST at *
  obtain ⟨aL, cL, e, hL1, hL2⟩ := h.rowL.shape
  obtain ⟨aW, cW, e2, hW1, hW2⟩ := h.rowW.shape
  rw [List.length_map] at e e2 hL2 hW2
  subst e e2
  have HL : Hid (LtAt w gl (.slice aL its.length cL) (.slice aW its.length cW) rL rW its) := h
  clear h hp hlo hhi hl
  go_enter Try.func38, Try.ntmps38
  go_wp2_with fail
  refine HR.out.mono ?_
  rintro e w1 ⟨v1, r1, rfl, ho1, hr1, hb1⟩
  have HO1 : Hid (OwnKr w1 v1 ST r1) := ho1
  have HB1 : Hid (Below w.heap.size w w1) := hb1
  have HR1 : Hid (∀ g, r1 = some g → w.heap.size ≤ g) := hr1
  obtain ⟨a1, c1, rfl, -, -⟩ := ho1.shape
  clear ho1 hb1 hr1 HR
  go_wp2_with fail
  refine (HX.out w1 HB1.out).mono ?_
  rintro e w2 ⟨v2, r2, rfl, hk2⟩
  have HK2 : Hid (KrNew w1 w2 v2 ST r2) := hk2
  obtain ⟨a2, c2, rfl, -, -⟩ := hk2.row.shape
  clear hk2 HX
  have hstl := HST.out.1
  go_wp2_with (at_builtin; refine wpList_append_ka _ rfl _ _ rfl (.slice none 0 0) (.slice a2 ST.length c2) [] ST none rfl rfl (OwnKr.nil _) (src_x HK2.out.row) (by simp; omega) ?_)
  intro v3 w3 r3 ho3 hg3 hr3
  obtain ⟨a3, c3, rfl, -, -⟩ := ho3.shape
  have hb12 : Below w.heap.size w w2 := HB1.out.trans (HK2.out.below.mono HB1.out.size)
  have hb23 : Below w2.heap.size w2 w3 := (Below.refl _ _).grown hg3 (Nat.le_refl _) (fun k e => by cases e)
  have hb3 : Below w.heap.size w w3 := hb12.trans (hb23.mono hb12.size)
  have HO3 : Hid (OwnKr w3 (.slice a3 ST.length c3) ST r3) := ho3
  have HO1' : Hid (OwnKr w3 (.slice a1 ST.length c1) ST r1) := (HO1.out.later HK2.out.below).later hb23
  have HR3 : Hid (∀ g, r3 = some g → w.heap.size ≤ g) := fun g e => by
    have := hb12.size
    rcases hr3 with q | q
    · rw [q] at e; cases e
    · rw [q] at e; cases e; exact this
  have HL3 : Hid (LtAt w3 gl (.slice aL its.length cL) (.slice aW its.length cW) rL rW its) := HL.out.later hb3
  have HB3 : Hid (Below w.heap.size w w3) := hb3
  clear hb12 hb23 hb3 ho3 hg3 hr3 HK2 HO1 HB1
  have k0 := HL3.out.c0
  have k1 := HL3.out.c1
  have f0 := HL3.out.fz 0
  have f1 := HL3.out.fz 1
  obtain ⟨ti, hti, hz0, hz1, hz2⟩ := info_parts Try.infoKS
  go_wp2_with (at_builtin; refine wpList_append_val2 _ rfl _ _ 33 43 ti (.slice none 0 0) rfl Try.underlying33 hti hz0 rfl hz1 (by rw [hz2]; decide) _ _ (.slice a1 ST.length c1) (its.map Lt.v) rL rfl rfl ?hOwnL ?hSrcL ?hLenL ?_)
  case hOwnL => exact HL3.out.rowL.of_block (by simp) (fun g e => Below.heap_alloc _ _ _ (by subst e; exact HL3.out.rowL.lt))
  case hSrcL => exact src_val _ _ rfl _ 43 _ Try.underlying33
  case hLenL => simp; omega
  intro v4 w4 g4 ho4 hg4 hr4
  obtain ⟨a4, N4, c4, rfl⟩ : ∃ a N c, v4 = .slice a N c := by
    obtain ⟨a6, cc6, e, -, -⟩ := ho4.shape
    exact ⟨a6, _, cc6, e⟩
  have hgl3 : gl < w3.heap.size := HL3.out.lt gl (.inl rfl)
  have hsA : (w3.alloc (.cells #[.slice a1 ST.length c1] 43)).heap.size = w3.heap.size + 1 := by simp
  have hs4 := hg4.size
  rw [hsA] at hs4
  have hn4 : ∀ j, j < w3.heap.size → rL ≠ some j → w4.heap[j]? = w3.heap[j]? := fun j hj hn => (hg4.block j (by rw [hsA]; omega) (fun e => hn e.symm)).trans (Below.heap_alloc _ _ _ hj)
  have hx4 : some g4 = rL ∨ w3.heap.size ≤ g4 := by
    rcases hr4 with e | e
    · exact .inl e
    · exact .inr (by first | omega | (rw [hsA] at e; omega))
  have hB4 : w4.heap[gl]? = w3.heap[gl]? := hn4 gl hgl3 HL3.out.nL
  have k04 : w4.cell? ⟨gl, 0, none⟩ = some (.slice aL its.length cL) := (World.cell?_of_block (w := w3) (a := ⟨gl, 0, none⟩) hB4).trans k0
  have f04 : w4.frozen? ⟨gl, 0, none⟩ = false := (World.frozen?_of_block (w := w3) (a := ⟨gl, 0, none⟩) hB4).trans f0
  have hg4w : g4 ≠ gl := fun e => by
    rcases hx4 with h | h
    · exact HL3.out.nL (by rw [← h, e])
    · omega
  have gS := grow_setC w4 gl 0 (.slice a4 N4 c4)
  have hs5 := gS.size
  obtain ⟨w5, hw5⟩ : ∃ w5, w4.setCell ⟨gl, 0, none⟩ (.slice a4 N4 c4) = w5 := ⟨_, rfl⟩
  have hb5 : ∀ j, j < w4.heap.size → j ≠ gl → w5.heap[j]? = w4.heap[j]? := fun j hj hn => by rw [← hw5]; exact gS.block j hj (fun e => hn (by cases e; rfl))
  have k05 : w5.cell? ⟨gl, 0, none⟩ = some (.slice a4 N4 c4) := by rw [← hw5]; exact World.cell?_setCell_same' _ _ _ (by rw [k04]; rfl)
  have k15 : w5.cell? ⟨gl, 1, none⟩ = some (.slice aW its.length cW) := by
    rw [← hw5, show w4.setCell ⟨gl, 0, none⟩ (.slice a4 N4 c4) = w4.setCells gl 0 [.slice a4 N4 c4] from rfl, World.cell?_setCells_out gl _ _ w4 _ (fun _ _ => by simp only [List.length_cons, List.length_nil]; omega)]
    exact (World.cell?_of_block (w := w3) (a := ⟨gl, 1, none⟩) hB4).trans k1
  have f5 : ∀ j, w5.frozen? ⟨gl, j, none⟩ = false := fun j => by
    rw [← hw5, World.frozen?_setCell]
    exact (World.frozen?_of_block (w := w3) (a := ⟨gl, j, none⟩) hB4).trans (HL3.out.fz j)
  have f15 := f5 1
  have HOL5 : Hid (OwnV w5 (.slice a4 N4 c4) (its.map Lt.v ++ [.slice a1 ST.length c1]) (some g4)) := by unfold Hid; rw [← hw5]; exact ho4.kept gS (.inr (fun e => hg4w (by cases e; rfl)))
  rw [hw5] at gS hs5
  have HC5 : Hid (Chg (lateS gl rL rW) w3 w5) := (((Chg.refl _ w3).more ((Below.refl _ _).alloc (Nat.le_refl _) _)).grown hg4 (fun g e => .inl (.inr (.inl e)))).grown gS (fun g e => .inl (.inl (by cases e; rfl)))
  have hrw3 : ∀ g, rW = some g → g < w3.heap.size := fun g e => HL3.out.lt g (.inr (.inr (.inl e)))
  have HOW5 : Hid (OwnV w5 (.slice aW its.length cW) (its.map Lt.u) rW) := HL3.out.rowW.of_block (by omega) (fun g e => (hb5 g (by have := hrw3 g e; omega) (fun e2 => HL3.out.nW (by rw [e, e2]))).trans (hn4 g (hrw3 g e) (fun e2 => HL3.out.nLW g e2 e)))
  have hgl5 : gl < w5.heap.size := by omega
  have hg45 : g4 < w5.heap.size := HOL5.out.lt
  have hs35 : w3.heap.size ≤ w5.heap.size := by omega
  have f04b := f5 0
  clear ho4 hg4 hr4 hn4 hB4 gS hb5 k0 k1 f0 f1 hs4 hsA
  go_wp2_with (at_builtin; refine wpList_append_val2 _ rfl _ _ 33 43 ti (.slice none 0 0) rfl Try.underlying33 hti hz0 rfl hz1 (by rw [hz2]; decide) _ _ (.slice a3 ST.length c3) (its.map Lt.u) rW rfl rfl ?hOwnW ?hSrcW ?hLenW ?_)
  case hOwnW => exact HOW5.out.of_block (by simp) (fun g e => Below.heap_alloc _ _ _ (by subst e; exact HOW5.out.lt))
  case hSrcW => exact src_val _ _ rfl _ 43 _ Try.underlying33
  case hLenW => simp; omega
  intro v6 w6 g6 ho6 hg6 hr6
  obtain ⟨a6, N6, c6, rfl⟩ : ∃ a N c, v6 = .slice a N c := by
    obtain ⟨a6, cc6, e, -, -⟩ := ho6.shape
    exact ⟨a6, _, cc6, e⟩
  have hsB : (w5.alloc (.cells #[.slice a3 ST.length c3] 43)).heap.size = w5.heap.size + 1 := by simp
  have hs6 := hg6.size
  rw [hsB] at hs6
  have hn6 : ∀ j, j < w5.heap.size → rW ≠ some j → w6.heap[j]? = w5.heap[j]? := fun j hj hn => (hg6.block j (by rw [hsB]; omega) (fun e => hn e.symm)).trans (Below.heap_alloc _ _ _ hj)
  have hx6 : some g6 = rW ∨ w5.heap.size ≤ g6 := by
    rcases hr6 with e | e
    · exact .inl e
    · exact .inr (by first | omega | (rw [hsB] at e; omega))
  have hB6 : w6.heap[gl]? = w5.heap[gl]? := hn6 gl hgl5 HL3.out.nW
  have k16 : w6.cell? ⟨gl, 1, none⟩ = some (.slice aW its.length cW) := (World.cell?_of_block (w := w5) (a := ⟨gl, 1, none⟩) hB6).trans k15
  have f16 : w6.frozen? ⟨gl, 1, none⟩ = false := (World.frozen?_of_block (w := w5) (a := ⟨gl, 1, none⟩) hB6).trans f15
  have hg6w : g6 ≠ gl := fun e => by
    rcases hx6 with h | h
    · exact HL3.out.nW (by rw [← h, e])
    · omega
  have gS := grow_setC w6 gl 1 (.slice a6 N6 c6)
  have hs7 := gS.size
  obtain ⟨w7, hw7⟩ : ∃ w7, w6.setCell ⟨gl, 1, none⟩ (.slice a6 N6 c6) = w7 := ⟨_, rfl⟩
  have hb7 : ∀ j, j < w6.heap.size → j ≠ gl → w7.heap[j]? = w6.heap[j]? := fun j hj hn => by rw [← hw7]; exact gS.block j hj (fun e => hn (by cases e; rfl))
  have k17 : w7.cell? ⟨gl, 1, none⟩ = some (.slice a6 N6 c6) := by rw [← hw7]; exact World.cell?_setCell_same' _ _ _ (by rw [k16]; rfl)
  have k07 : w7.cell? ⟨gl, 0, none⟩ = some (.slice a4 N4 c4) := by
    rw [← hw7, show w6.setCell ⟨gl, 1, none⟩ (.slice a6 N6 c6) = w6.setCells gl 1 [.slice a6 N6 c6] from rfl, World.cell?_setCells_out gl _ _ w6 _ (fun _ _ => by simp only [List.length_cons, List.length_nil]; omega)]
    exact (World.cell?_of_block (w := w5) (a := ⟨gl, 0, none⟩) hB6).trans k05
  have f7 : ∀ j, w7.frozen? ⟨gl, j, none⟩ = false := fun j => by
    rw [← hw7, World.frozen?_setCell]
    exact (World.frozen?_of_block (w := w5) (a := ⟨gl, j, none⟩) hB6).trans (f5 j)
  have hOW7 : OwnV w7 (.slice a6 N6 c6) (its.map Lt.u ++ [.slice a3 ST.length c3]) (some g6) := by rw [← hw7]; exact ho6.kept gS (.inr (fun e => hg6w (by cases e; rfl)))
  rw [hw7] at gS hs7
  have hC7 : Chg (lateS gl rL rW) w3 w7 := ((HC5.out.more ((Below.refl _ _).alloc (Nat.le_refl _) _)).grown hg6 (fun g e => .inl (.inr (.inr e)))).grown gS (fun g e => .inl (.inl (by cases e; rfl)))
  have hg4rW : rW ≠ some g4 := fun e => by
    rcases hx4 with h | h
    · exact HL3.out.nLW g4 h.symm e
    · have := hrw3 g4 e; omega
  have hOL7 : OwnV w7 (.slice a4 N4 c4) (its.map Lt.v ++ [.slice a1 ST.length c1]) (some g4) := HOL5.out.of_block (by omega) (fun g e => by
    cases e
    exact (hb7 g4 (by omega) hg4w).trans (hn6 g4 hg45 hg4rW))
  have hrl3 : ∀ g, rL = some g → g < w3.heap.size := fun g e => HL3.out.lt g (.inr (.inl e))
  have hg46 : g4 ≠ g6 := fun e => by
    rcases hx6 with h | h
    · exact hg4rW (by rw [← h, e])
    · omega
  have hP := LtAt.push HL.out HB3.out HO1'.out HO3.out HR1.out HR3.out hC7 k07 k17 f7 hOL7 hOW7 (hx4.imp id (fun h g e => by cases e; exact h)) (hx6.imp id (fun h g e => by cases e; omega)) (fun g e e2 => hg46 (by cases e; cases e2; rfl)) hn HST.out
  obtain ⟨hP1, hP2, hP3⟩ := hP
  have HFI : Hid (∀ u, Below w7.heap.size w7 u → ∃ vL' vW' rL' rW' y, LtAt u gl vL' vW' rL' rW' (its ++ [y]) ∧ Chg (lateS gl rL rW) w u ∧ ∀ g, LtB gl rL' rW' (its ++ [y]) g → LtB gl rL rW its g ∨ w.heap.size ≤ g) := fun u hu => ⟨_, _, _, _, _, hP1.later hu, hP2.more hu, hP3⟩
  have hnl : its.length < (its ++ [(⟨.slice a1 ST.length c1, .slice a3 ST.length c3, ST, r1, r3⟩ : Lt)]).length := by simp
  have hE1 := hP1.eachL its.length hnl
  have hE3 := hP1.eachW its.length hnl
  rw [lt_eq] at hE1 hE3
  have HSA : Hid (Calls Try.prog 28 #[.slice a1 ST.length c1, .slice a3 ST.length c3] w7 fun e w' => e = .returned (.bool true) ∧ ∃ m, w' = w7.drewN m) := sameOf _ _ ST w7 (hE1.recs (by show ST.length ≤ _; omega) HST.out.2) (hE3.recs (by show ST.length ≤ _; omega) HST.out.2)
  clear hP1 hP2 hP3 hE1 hE3 hnl ho6 hg6 hr6 hn6 hB6 gS hb7 k05 k15 f5 f15 f7 hOW7 hOL7 hC7
  go_wp2_with fail
  refine HSA.out.mono ?_
  rintro e w8 ⟨rfl, m, rfl⟩
  have HF8 : Hid (∃ vL' vW' rL' rW' y, LtAt (w7.drewN m) gl vL' vW' rL' rW' (its ++ [y]) ∧ Chg (lateS gl rL rW) w (w7.drewN m) ∧ ∀ g, LtB gl rL' rW' (its ++ [y]) g → LtB gl rL rW its g ∨ w.heap.size ≤ g) := HFI.out _ (below_drewN (Below.refl _ _) m)
  generalize w7.drewN m = w9 at *
  go_wp2
  go_ret
  exact ⟨rfl, HF8.out⟩
end Go.Proofs.Ytjhbaplnkigifaa

/-! keydir: alone. -/
namespace Go.Proofs.Ytjhbaplnkigifaa
open Go.RowKit Plain
set_option linter.unusedVariables false
set_option linter.unusedSimpArgs false

def Lt.ho (t : Lt) : Ho := ⟨t.v, t.st.length, t.r⟩
theorem getD_ho {its : List Lt} {k j : Nat} (hj : j < k) (hk : k ≤ its.length) : (((its.take k).map Lt.ho).getD j Ho.zero) = (its.getD j Lt.zero).ho := by
  have h1 : j < its.length := by omega
  rw [List.getD_eq_getElem?_getD, List.getElem?_map, List.getElem?_take_of_lt hj, List.getD_eq_getElem?_getD, List.getElem?_eq_getElem h1]
  rfl
theorem take_ho {its : List Lt} {k : Nat} (hk : k < its.length) : (its.take (k + 1)).map Lt.ho = (its.take k).map Lt.ho ++ [(its.getD k Lt.zero).ho] := by
  rw [List.take_add_one, List.getElem?_eq_getElem hk, List.map_append, List.getD_eq_getElem?_getD, List.getElem?_eq_getElem hk]
  rfl
/-- Of the lists the first k are full of their marks. -/
structure AlI (w0 : World) (rW : Option Nat) (gw gl : Nat) (vL : Value) (rL : Option Nat) (its : List Lt) (k : Nat) (wr : World) (vl : Value) (rl : Option Nat) : Prop where
  ls : LsAt wr vl ((its.take k).map Lt.ho) rl
  c2 : wr.cell? ⟨gw, 2, none⟩ = some vl
  f2 : wr.frozen? ⟨gw, 2, none⟩ = false
  nw : ∀ g, rl = some g → gw < g
  cL : wr.cell? ⟨gl, 0, none⟩ = some vL
  row : OwnV wr vL (its.map Lt.v) rL
  rest : ∀ j, k ≤ j → j < its.length → OwnKr wr (its.getD j Lt.zero).v (its.getD j Lt.zero).st (its.getD j Lt.zero).r
  big : gw < wr.heap.size
  chg : Chg (LtB gl rL rW its) w0 wr
theorem AlI.keep {gw gl : Nat} {vL vW vl : Value} {rL rW rl : Option Nat} {its : List Lt} {k : Nat} {w0 wr : World} (h0 : LtAt w0 gl vL vW rL rW its) (hgw : gw = w0.heap.size) (h : AlI w0 rW gw gl vL rL its k wr vl rl) (hk : k < its.length) :
    Calls Try.prog 30 #[.pointer (some ⟨gw, 0, none⟩), (its.getD k Lt.zero).v] wr fun e w' => (∃ u, e = .returned u) ∧ ∃ vl' rl', AlI w0 rW gw gl vL rL its (k + 1) w' vl' rl' := by
  have hlt := h0.lt
  have hgl : gl < gw := by have := hlt gl (.inl rfl); omega
  have hrL : ∀ g, rL = some g → g < gw := fun g e => by have := hlt g (.inr (.inl e)); omega
  have hr : ∀ j, j < its.length → ∀ g, (its.getD j Lt.zero).r = some g → g < gw := fun j hj g e => by have := hlt g (.inr (.inr (.inr ⟨j, hj, .inl e⟩))); omega
  have hlen := h0.len
  have htl : ((its.take k).map Lt.ho).length = k := by simp; omega
  have hbig := h.big
  refine (keepOf gw vl _ rl _ _ _ wr h.c2 h.f2 h.ls (h.rest k (Nat.le_refl _) hk) (h0.ok k hk).1 (fun e => ?_) (fun e => ?_) ?_ (fun j hj => ?_) (by omega)).mono ?_
  · have := hr k hk gw e; omega
  · have := h.nw gw e; omega
  · rcases e : (its.getD k Lt.zero).r with _ | g
    · exact .inl rfl
    · refine .inr (fun e2 => ?_)
      have := hr k hk g e; have := h.nw g e2.symm; omega
  · rw [htl] at hj
    rw [getD_ho hj (by omega)]
    have hjl : j < its.length := by omega
    refine ⟨fun e => ?_, ?_, ?_⟩
    · have := hr j hjl gw e; omega
    · rcases e : (its.getD k Lt.zero).r with _ | g
      · exact .inl rfl
      · exact .inr (fun e2 => h0.ap j k hjl hk (by omega) g e2 e)
    · rcases e : rl with _ | g
      · exact .inl rfl
      · exact .inr (fun e2 => by have := hr j hjl g e2; have := h.nw g e; omega)
  · rintro e w' ⟨he, vl', rl', ⟨q1, q2, q3⟩, q4, q5, q6⟩
    have hsz := q5.size
    have hnS : ∀ g, g < gw → (its.getD k Lt.zero).r ≠ some g → ¬ keepS gw rl (its.getD k Lt.zero).r g := fun g hg hn hs => by
      rcases hs with e | e | e
      · omega
      · have := h.nw g e; omega
      · exact hn e
    refine ⟨he, vl', rl', ?_, q1, q2, fun g e => ?_, ?_, ?_, fun j hj hjl => ?_, by omega, h.chg.trans' q5 (fun x hx => ?_)⟩
    · rw [take_ho hk]; exact q4
    · rcases q6 with e2 | e2
      · exact h.nw g (by rw [← e2]; exact e)
      · have := e2 g e; omega
    · exact (World.cell?_of_block (w := wr) (a := ⟨gl, 0, none⟩) (q5.block gl (by omega) (hnS gl hgl (fun e => (h0.ne k hk gl (.inl e)).1 rfl)))).trans h.cL
    · exact h.row.of_block hsz (fun g e => q5.block g (by have := hrL g e; omega) (hnS g (hrL g e) (fun e2 => (h0.ne k hk g (.inl e2)).2.1 e)))
    · exact (h.rest j (by omega) hjl).of_block hsz (fun g e => q5.block g (by have := hr j hjl g e; omega) (hnS g (hr j hjl g e) (fun e2 => h0.ap k j hk hjl (by omega) g e2 e)))
    · rcases hx with e | e | e
      · exact .inr (by omega)
      · exact .inr (by have := h.nw x e; omega)
      · exact .inl (.inr (.inr (.inr ⟨k, hk, .inl e⟩)))
theorem AlI.start {gl : Nat} {vL vW : Value} {rL rW : Option Nat} {its : List Lt} {w w1 : World} {t : TypeId} (h : LtAt w gl vL vW rL rW its) (e : w.alloc (.cells #[.slice none 0 0, .slice none 0 0, .slice none 0 0] t) = w1) : AlI w rW w.heap.size gl vL rL its 0 w1 (.slice none 0 0) none := by
  have hb : Below w.heap.size w w1 := by rw [← e]; exact (Below.refl _ _).alloc (Nat.le_refl _) _
  have h1 := h.later hb
  refine ⟨⟨OwnV.nil _, fun k hk => by simp at hk, by simp, fun k hk => by simp at hk⟩, by rw [← e]; exact World.cell?_alloc_at _ _ _ _ rfl, by rw [← e]; exact World.frozen?_alloc_new _ _ _ _, by simp, h1.c0, h1.rowL, fun j _ hj => h1.eachL j hj, (by rw [← e]; simp), Chg.ofBelow hb⟩
end Go.Proofs.Ytjhbaplnkigifaa

/-! keydir: alone, walked. -/
namespace Go.Proofs.Ytjhbaplnkigifaa
open Go.RowKit Plain
set_option linter.unusedVariables false
set_option linter.unusedSimpArgs false

theorem LtAt.at {w : World} {gl : Nat} {aL aW : Option Addr} {nL nW cL cW : Nat} {rL rW : Option Nat} {its : List Lt} (h : LtAt w gl (.slice aL nL cL) (.slice aW nW cW) rL rW its) {k : Nat} (hk : k < its.length) :
    ∃ g q x y c d, aL = some ⟨g, 0, none⟩ ∧ aW = some ⟨q, 0, none⟩ ∧ (its.getD k Lt.zero).v = .slice x (its.getD k Lt.zero).st.length c ∧ (its.getD k Lt.zero).u = .slice y (its.getD k Lt.zero).st.length d ∧ w.cell? ⟨g, k, none⟩ = some (its.getD k Lt.zero).v ∧ w.cell? ⟨q, k, none⟩ = some (its.getD k Lt.zero).u := by
  have j1 : (its.map Lt.v)[k]? = some (its.getD k Lt.zero).v := by
    rw [List.getElem?_map, List.getElem?_eq_getElem hk, List.getD_eq_getElem?_getD, List.getElem?_eq_getElem hk]; rfl
  have j2 : (its.map Lt.u)[k]? = some (its.getD k Lt.zero).u := by
    rw [List.getElem?_map, List.getElem?_eq_getElem hk, List.getD_eq_getElem?_getD, List.getElem?_eq_getElem hk]; rfl
  obtain ⟨g, e1, e2, e3⟩ := h.rowL.get j1
  obtain ⟨q, e4, e5, e6⟩ := h.rowW.get j2
  obtain ⟨x, c, e7, -, -⟩ := (h.eachL k hk).shape
  obtain ⟨y, d, e8, -, -⟩ := (h.eachW k hk).shape
  exact ⟨g, q, x, y, c, d, e2, e5, e7, e8, e3, e6⟩
theorem row_at {w : World} {a : Option Addr} {n c : Nat} {r : Option Nat} {its : List Lt} (h : OwnV w (.slice a n c) (its.map Lt.v) r) {k : Nat} (hk : k < its.length) : ∃ g, a = some ⟨g, 0, none⟩ ∧ w.cell? ⟨g, k, none⟩ = some (its.getD k Lt.zero).v := by
  have j1 : (its.map Lt.v)[k]? = some (its.getD k Lt.zero).v := by
    rw [List.getElem?_map, List.getElem?_eq_getElem hk, List.getD_eq_getElem?_getD, List.getElem?_eq_getElem hk]; rfl
  obtain ⟨g, e1, e2, e3⟩ := h.get j1
  exact ⟨g, e2, e3⟩
set_option maxHeartbeats 8000000 in
set_option maxRecDepth 100000 in
theorem aloneOf (gl : Nat) (vL vW : Value) (rL rW : Option Nat) (its : List Lt) (w : World) (h : LtAt w gl vL vW rL rW its) :
    Calls Try.prog 39 #[.pointer (some ⟨gl, 0, none⟩)] w fun e w' => e = .returned (.bool true) ∧ Chg (LtB gl rL rW its) w w' := by
  obtain ⟨aL, cL, e, hL1, hL2⟩ := h.rowL.shape
  obtain ⟨aW, cW, e2, hW1, hW2⟩ := h.rowW.shape
  rw [List.length_map] at e e2 hL2 hW2
  subst e e2
  have hlen := h.len
  have HL : Hid (LtAt w gl (.slice aL its.length cL) (.slice aW its.length cW) rL rW its ∧ Below w.heap.size w w) := ⟨h, Below.refl _ _⟩
  clear h
  go_enter Try.func39, Try.ntmps39
  go_wp2
  go_loopw [3] (fun i wr => ∃ k : Nat, k ≤ its.length ∧ i = .int .i64 k ∧ Hid (LtAt wr gl (.slice aL its.length cL) (.slice aW its.length cW) rL rW its ∧ Below w.heap.size w wr)) (fun i _ => its.length - (intOf i).toNat)
  case atStart => exact ⟨0, by omega, rfl, HL⟩
  case round =>
    obtain ⟨k, hk, rfl, HLB⟩ := hrel
    have HLr : Hid (LtAt wr gl (.slice aL its.length cL) (.slice aW its.length cW) rL rW its) := HLB.out.1
    have HBr : Hid (Below w.heap.size w wr) := HLB.out.2
    clear HLB
    have d0 := HLr.out.c0
    have d1 := HLr.out.c1
    by_cases hlt : k < its.length
    · have hki : (k : Int) < (its.length : Int) := by omega
      obtain ⟨g, q, x, y, c, d, rfl, rfl, e1, e2, g1, g2⟩ := HLr.out.at hlt
      have HSA : Hid (∀ n, Calls Try.prog 28 #[(its.getD k Lt.zero).v, (its.getD k Lt.zero).u] (wr.drewN n) fun e w' => e = .returned (.bool true) ∧ ∃ m, w' = (wr.drewN n).drewN m) := fun n => by
        have hb := below_drewN (Below.refl wr.heap.size wr) n
        have hst := (HLr.out.ok k hlt).1
        exact sameOf _ _ _ _ (((HLr.out.eachL k hlt).recs (by omega) (HLr.out.ok k hlt).2).later hb) (((HLr.out.eachW k hlt).recs (by omega) (HLr.out.ok k hlt).2).later hb)
      rw [e1] at g1 HSA
      rw [e2] at g2 HSA
      generalize (its.getD k Lt.zero).st.length = N at g1 g2 HSA
      have HLn : Hid (∀ n, LtAt (wr.drewN n) gl (.slice (some ⟨g, 0, none⟩) its.length cL) (.slice (some ⟨q, 0, none⟩) its.length cW) rL rW its ∧ Below w.heap.size w (wr.drewN n)) := fun n => ⟨HLr.out.later (below_drewN (Below.refl _ _) n), below_drewN HBr.out n⟩
      clear e1 e2
      go_wp2
      go_quiet ((first
        | (go_at_call 28; exact quiet_k (HSA.out _))))
      go_wp2
      go_roundw
      case rel => exact ⟨k + 1, by omega, by go_num, HLn.out _⟩
      case measure => simp [intOf]; omega
    · go_wp2
      refine wp_gen (P := fun u => ∃ vl rl, AlI wr rW wr.heap.size gl (.slice aL its.length cL) rL its 0 u vl rl) ⟨_, _, AlI.start HLr.out rfl⟩ ?_
      intro w5 H5
      generalize hwe : wr = wq at H5 HLr HBr ⊢
      clear hwe d0 d1 HL
      generalize hgw : wq.heap.size = gw at H5 ⊢
      have HG : Hid (gw = wq.heap.size) := hgw.symm
      have HA5 : Hid (∃ vl rl, AlI wq rW gw gl (.slice aL its.length cL) rL its 0 w5 vl rl) := H5
      clear H5 hgw
      go_loopw [5] (fun i wr => ∃ k : Nat, k ≤ its.length ∧ i = .int .i64 k ∧ Hid (∃ vl rl, AlI wq rW gw gl (.slice aL its.length cL) rL its k wr vl rl)) (fun i _ => its.length - (intOf i).toNat)
      case atStart => exact ⟨0, by omega, rfl, HA5⟩
      case round =>
        obtain ⟨k, hk, rfl, HK⟩ := hrel
        obtain ⟨vl, rl, hA⟩ := HK.out
        have hcL := hA.cL
        by_cases hlt : k < its.length
        · have hki : (k : Int) < (its.length : Int) := by omega
          obtain ⟨g, rfl, g1⟩ := row_at hA.row hlt
          have HC : Hid (Calls Try.prog 30 #[.pointer (some ⟨gw, 0, none⟩), (its.getD k Lt.zero).v] wr fun e w' => (∃ u, e = .returned u) ∧ ∃ vl' rl', AlI wq rW gw gl (.slice (some ⟨g, 0, none⟩) its.length cL) rL its (k + 1) w' vl' rl') := hA.keep HLr.out HG.out hlt
          obtain ⟨x, c, e1, -, -⟩ := (hA.rest k (Nat.le_refl _) hlt).shape
          rw [e1] at g1 HC
          generalize (its.getD k Lt.zero).st.length = N at g1 HC
          clear e1 hA
          go_wp2_with fail
          refine HC.out.mono ?_
          rintro e w6 ⟨⟨u, rfl⟩, h6⟩
          have HA6 : Hid (∃ vl rl, AlI wq rW gw gl (.slice (some ⟨g, 0, none⟩) its.length cL) rL its (k + 1) w6 vl rl) := h6
          clear h6 HC
          go_wp2
          go_roundw
          case rel => exact ⟨k + 1, by omega, by go_num, HA6⟩
          case measure => simp [intOf]; omega
        · have HS : Hid (Calls Try.prog 7 #[.pointer (some ⟨gw, 0, none⟩)] wr fun e w' => e = .returned (.bool true) ∧ ∃ n, w' = wr.drewN n) := standsOf gw vl _ rl wr hA.c2 hA.ls
          have HCH : Hid (∀ m, Chg (LtB gl rL rW its) w (wr.drewN m)) := fun m => ((Chg.ofBelow HBr.out).trans hA.chg).more (below_drewN (Below.refl _ _) m)
          clear hA
          go_wp2_with fail
          refine HS.out.mono ?_
          rintro e w6 ⟨rfl, m, rfl⟩
          go_wp2
          go_ret
          exact ⟨rfl, HCH.out m⟩
end Go.Proofs.Ytjhbaplnkigifaa

/-! keydir: the law's world and Late side by side. -/
namespace Go.Proofs.Ytjhbaplnkigifaa
open Go.RowKit Plain
set_option linter.unusedVariables false
set_option linter.unusedSimpArgs false

/-- Where other blocks of D than the law's own have turned. -/
theorem WS.late {D D' O S : Nat → Prop} {w w' : World} {gw B N : Nat} (h : WS D O w gw B N) (hc : Chg S w w') (hS : ∀ g, S g → D g ∧ ¬ O g) (h1 : ∀ g, D g → D' g) (h2 : ∀ g, D' g → D g ∨ (w.heap.size ≤ g ∧ g < w'.heap.size)) : WS D' O w' gw B N := by
  obtain ⟨vd, vx, vl, rd, rx, rl, ps, hs, rfl, q1, q2, q3⟩ := h
  refine ⟨vd, vx, vl, rd, rx, rl, ps, hs, rfl, ?_, q2, q3⟩
  exact q1.kept hc.size (fun g hg => hc.block g (q1.lt g hg) (fun hs' => (hS g hs').2 (.inl hg))) (q1.dw.freeW hc (fun g hg => (hS g hg).1) (fun g hg i hi ho => (hS g hg).2 (.inr ⟨i, hi, ho⟩)) h1 h2) h1 rfl rfl q1.notp
/-- The state of untold's loops; X: blocks that are only read. -/
def UnS (X : Nat → Prop) (w : World) (gw gl k n : Nat) (wr : World) : Prop :=
  ∃ D O vL vW rL rW its, (∀ g, D g → w.heap.size ≤ g) ∧ WS D O wr gw k k ∧ LtAt wr gl vL vW rL rW its ∧ its.length = n ∧ (∀ g, LtB gl rL rW its g → D g ∧ ¬ O g) ∧ Below w.heap.size w wr ∧ ∀ g, X g → g < wr.heap.size ∧ ¬ D g
theorem UnS.later {X : Nat → Prop} {w : World} {gw gl k n : Nat} {wr u : World} (h : UnS X w gw gl k n wr) (hb : Below wr.heap.size wr u) : UnS X w gw gl k n u := by
  obtain ⟨D, O, vL, vW, rL, rW, its, h1, h2, h3, h4, h5, h6, h7⟩ := h
  exact ⟨D, O, vL, vW, rL, rW, its, h1, h2.later hb, h3.later hb, h4, h5, h6.trans (hb.mono h6.size), fun g hg => ⟨Nat.lt_of_lt_of_le (h7 g hg).1 hb.size, (h7 g hg).2⟩⟩
theorem UnS.told (hEro : EroOk) {X : Nat → Prop} {w : World} {gw gl k n : Nat} {wr : World} (h : UnS X w gw gl k n wr) (m : Mv) (hm : m.Ok) (hk : k < 2199023253000) :
    Calls Try.prog 6 #[.pointer (some ⟨gw, 0, none⟩), m.v] wr fun e w' => e = .returned (.bool true) ∧ UnS X w gw gl (k + 1) n w' ∧ ∀ g, X g → w'.heap[g]? = wr.heap[g]? := by
  obtain ⟨D, O, vL, vW, rL, rW, its, h1, h2, h3, h4, h5, h6, h7⟩ := h
  refine (toldAny hEro m h2 hm hk hk).mono ?_
  rintro e w' ⟨he, D', O', hfr, hw⟩
  have hsz := h6.size
  have hlt := h3.lt
  refine ⟨he, ⟨D', O', vL, vW, rL, rW, its, fun g hg => ?_, hw, h3.kept hfr.1.size (fun g hg => hfr.1.block g (hlt g hg) (h5 g hg).2), h4, fun g hg => ⟨hfr.2.2.2 g (h5 g hg).1, fun ho => ?_⟩, h6.trans ⟨hfr.1.os, hfr.1.tape, hfr.1.output, hfr.1.size, fun g hg => hfr.1.block g (by omega) (fun hd => by have := h1 g (h2.sub g hd); omega)⟩, fun g hg => ⟨Nat.lt_of_lt_of_le (h7 g hg).1 hfr.1.size, fun hd => ?_⟩⟩, fun g hg => hfr.1.block g (h7 g hg).1 (fun ho => (h7 g hg).2 (h2.sub g ho))⟩
  · rcases hfr.2.2.1 g hg with e | e
    · exact h1 g e
    · omega
  · rcases hfr.2.1 g ho with e | e
    · exact (h5 g hg).2 e
    · have := hlt g hg; omega
  · rcases hfr.2.2.1 g hd with e | e
    · exact (h7 g hg).2 e
    · have := (h7 g hg).1; omega
theorem UnS.mono {X : Nat → Prop} {w : World} {gw gl k k' n : Nat} {wr : World} (h : UnS X w gw gl k n wr) (hk : k ≤ k') : UnS X w gw gl k' n wr := by
  obtain ⟨D, O, vL, vW, rL, rW, its, h1, h2, h3, h4, h5, h6, h7⟩ := h
  exact ⟨D, O, vL, vW, rL, rW, its, h1, h2.mono hk hk, h3, h4, h5, h6, h7⟩
/-- The dirs, and a question to one of them. -/
theorem UnS.dirs {X : Nat → Prop} {w : World} {gw gl k n : Nat} {wr : World} (h : UnS X w gw gl k n wr) (hk : k < 2199023253000) (hn : n < 2199023253000) : ∃ L, 1 ≤ L ∧ L ≤ 8 ∧ ∀ i, i < L → ∃ p : Dp, (∃ g1 g2 c1 c2, c1 ≤ maxLen ∧ c2 ≤ maxLen ∧ L ≤ c1 ∧ L ≤ c2 ∧ wr.cell? ⟨gw, 0, none⟩ = some (.slice (some ⟨g1, 0, none⟩) L c1) ∧ wr.cell? ⟨gw, 1, none⟩ = some (.slice (some ⟨g2, 0, none⟩) L c2) ∧ wr.cell? ⟨g1, i, none⟩ = some (.pointer (some ⟨p.gd, 0, none⟩)) ∧ wr.cell? ⟨g2, i, none⟩ = some (.pointer (some ⟨p.gx, 0, none⟩))) ∧
    ∀ lo hi lim, lo.size ≤ maxLen → hi.size ≤ maxLen → ∀ u, Below wr.heap.size wr u → Calls Try.prog 38 #[.pointer (some ⟨gl, 0, none⟩), .pointer (some ⟨p.gd, 0, none⟩), .pointer (some ⟨p.gx, 0, none⟩), .string lo, .string hi, .int .i64 lim] u fun e w' => e = .returned (.bool true) ∧ UnS X w gw gl k (n + 1) w' ∧ ∀ g, X g → w'.heap[g]? = u.heap[g]? := by
  obtain ⟨D, O, vL, vW, rL, rW, its, h1, h2, h3, h4, h5, h6, h7⟩ := h
  obtain ⟨vd, vx, vl, rd, rx, rl, ps, hs, hO, q1, q2, q3⟩ := id h2
  obtain ⟨ad, capd, e, hd1, hd2⟩ := q1.rowd.shape
  obtain ⟨ax, capx, e2, hx1, hx2⟩ := q1.rowx.shape
  rw [List.length_map] at e e2 hd2 hx2
  subst e e2
  refine ⟨ps.length, q1.some2.1, q1.some2.2, fun i hi => ⟨ps.getD i Dp.zero, ?_, fun lo hi' lim hlo hhi u hu => ?_⟩⟩
  · obtain ⟨g1, g2, rfl, rfl, p1, p2⟩ := q1.pick hi
    exact ⟨g1, g2, capd, capx, hd1, hx1, hd2, hx2, q1.c0, q1.c1, p1, p2⟩
  · have hL := h2.later hu
    have h3u := h3.later hu
    have h6u := h6.trans (hu.mono h6.size)
    have hp : PairAt D u (ps.getD i Dp.zero) := (q1.later hu).dw.pr i hi
    have hll := q2 i hi
    refine (askedOf gl vL vW rL rW its (ps.getD i Dp.zero) lo hi' lim u h3u hp hlo hhi (by omega) (by omega)).mono ?_
    rintro e w' ⟨he, vL', vW', rL', rW', y, a1, a2, a3⟩
    have hsz := h6u.size
    have hsz2 := a2.size
    have hlt := a1.lt
    have hS : ∀ g, lateS gl rL rW g → LtB gl rL rW its g := fun g hg => by
      rcases hg with e | e | e
      · exact .inl e
      · exact .inr (.inl e)
      · exact .inr (.inr (.inl e))
    refine ⟨he, ⟨fun g => D g ∨ LtB gl rL' rW' (its ++ [y]) g, O, vL', vW', rL', rW', its ++ [y], fun g hg => ?_, hL.late a2 (fun g hg => h5 g (hS g hg)) (fun g hg => .inl hg) (fun g hg => ?_), a1, by simp; omega, fun g hg => ⟨.inr hg, fun ho => ?_⟩, h6u.trans ⟨a2.os, a2.tape, a2.output, a2.size, fun g hg => a2.block g (by omega) (fun hs' => by have := h1 g (h5 g (hS g hs')).1; omega)⟩, fun g hg => ⟨by have := (h7 g hg).1; have := hu.size; omega, fun hd => ?_⟩⟩, fun g hg => a2.block g (by have := (h7 g hg).1; have := hu.size; omega) (fun hs' => (h7 g hg).2 (h5 g (hS g hs')).1)⟩
    · rcases hg with e | e
      · exact h1 g e
      · rcases a3 g e with q | q
        · exact h1 g (h5 g q).1
        · omega
    · rcases hg with e | e
      · exact .inl e
      · rcases a3 g e with q | q
        · exact .inl (h5 g q).1
        · exact .inr ⟨q, hlt g e⟩
    · rcases a3 g hg with q | q
      · exact (h5 g q).2 ho
      · have := hL.bnd g (hL.sub g ho); omega
    · rcases hd with e | e
      · exact (h7 g hg).2 e
      · rcases a3 g e with q | q
        · exact (h7 g hg).2 (h5 g q).1
        · have := (h7 g hg).1; have := hu.size; omega
theorem UnS.free {X : Nat → Prop} {w : World} {gw gl k n : Nat} {wr : World} (h : UnS X w gw gl k n wr) : UnS (fun _ => False) w gw gl k n wr := by
  obtain ⟨D, O, vL, vW, rL, rW, its, h1, h2, h3, h4, h5, h6, h7⟩ := h
  exact ⟨D, O, vL, vW, rL, rW, its, h1, h2, h3, h4, h5, h6, fun g hg => hg.elim⟩
/-- A box of untold's own. -/
theorem UnS.box {X : Nat → Prop} {w : World} {gw gl k n : Nat} {wr : World} (h : UnS X w gw gl k n wr) (o : Obj) : UnS (fun g => g = wr.heap.size) w gw gl k n (wr.alloc o) := by
  obtain ⟨D, O, vL, vW, rL, rW, its, h1, h2, h3, h4, h5, h6, h7⟩ := h
  have hb : Below wr.heap.size wr (wr.alloc o) := (Below.refl _ _).alloc (Nat.le_refl _) _
  exact ⟨D, O, vL, vW, rL, rW, its, h1, h2.later hb, h3.later hb, h4, h5, h6.trans (hb.mono h6.size), fun g hg => ⟨by subst hg; simp, fun hd => by have := h2.bnd g hd; omega⟩⟩
end Go.Proofs.Ytjhbaplnkigifaa

/-! keydir: the law's world and Late, its dirs by name. -/
namespace Go.Proofs.Ytjhbaplnkigifaa
open Go.RowKit Plain
set_option linter.unusedVariables false
set_option linter.unusedSimpArgs false

theorem WdAt.late {D D' S : Nat → Prop} {w w' : World} {gw : Nat} {vd vx vl : Value} {rd rx rl : Option Nat} {ps : List Dp} {hs : List Ho} (q1 : WdAt D w gw vd vx vl rd rx rl ps hs) (hc : Chg S w w') (hS : ∀ g, S g → D g ∧ ¬ WOwn gw rd rx rl ps hs g) (h1 : ∀ g, D g → D' g) (h2 : ∀ g, D' g → D g ∨ (w.heap.size ≤ g ∧ g < w'.heap.size)) : WdAt D' w' gw vd vx vl rd rx rl ps hs :=
  q1.kept hc.size (fun g hg => hc.block g (q1.lt g hg) (fun hs' => (hS g hs').2 (.inl hg))) (q1.dw.freeW hc (fun g hg => (hS g hg).1) (fun g hg i hi ho => (hS g hg).2 (.inr ⟨i, hi, ho⟩)) h1 h2) h1 rfl rfl q1.notp
/-- UnS, the rows of the dirs and the dirs by name. -/
def UnE (X : Nat → Prop) (w : World) (gw gl k n : Nat) (wr : World) (vd vx : Value) (ps : List Dp) : Prop :=
  ∃ D vl rd rx rl hs vL vW rL rW its, (∀ g, D g → w.heap.size ≤ g) ∧ (WdAt D wr gw vd vx vl rd rx rl ps hs ∧ (∀ i, i < ps.length → (ps.getD i Dp.zero).l.length ≤ k) ∧ hs.length ≤ k) ∧ LtAt wr gl vL vW rL rW its ∧ its.length = n ∧ (∀ g, LtB gl rL rW its g → D g ∧ ¬ WOwn gw rd rx rl ps hs g) ∧ Below w.heap.size w wr ∧ ∀ g, X g → g < wr.heap.size ∧ ¬ D g
theorem UnS.named {X : Nat → Prop} {w : World} {gw gl k n : Nat} {wr : World} (h : UnS X w gw gl k n wr) : ∃ vd vx ps, UnE X w gw gl k n wr vd vx ps := by
  obtain ⟨D, O, vL, vW, rL, rW, its, h1, ⟨vd, vx, vl, rd, rx, rl, ps, hs, rfl, q⟩, h3, h4, h5, h6, h7⟩ := h
  exact ⟨vd, vx, ps, D, vl, rd, rx, rl, hs, vL, vW, rL, rW, its, h1, q, h3, h4, h5, h6, h7⟩
theorem UnE.un {X : Nat → Prop} {w : World} {gw gl k n : Nat} {wr : World} {vd vx : Value} {ps : List Dp} (h : UnE X w gw gl k n wr vd vx ps) : UnS X w gw gl k n wr := by
  obtain ⟨D, vl, rd, rx, rl, hs, vL, vW, rL, rW, its, h1, q, h3, h4, h5, h6, h7⟩ := h
  exact ⟨D, _, vL, vW, rL, rW, its, h1, ⟨vd, vx, vl, rd, rx, rl, ps, hs, rfl, q⟩, h3, h4, h5, h6, h7⟩
theorem UnE.later {X : Nat → Prop} {w : World} {gw gl k n : Nat} {wr u : World} {vd vx : Value} {ps : List Dp} (h : UnE X w gw gl k n wr vd vx ps) (hb : Below wr.heap.size wr u) : UnE X w gw gl k n u vd vx ps := by
  obtain ⟨D, vl, rd, rx, rl, hs, vL, vW, rL, rW, its, h1, q, h3, h4, h5, h6, h7⟩ := h
  exact ⟨D, vl, rd, rx, rl, hs, vL, vW, rL, rW, its, h1, ⟨q.1.later hb, q.2⟩, h3.later hb, h4, h5, h6.trans (hb.mono h6.size), fun g hg => ⟨Nat.lt_of_lt_of_le (h7 g hg).1 hb.size, (h7 g hg).2⟩⟩
/-- The rows. -/
theorem UnE.rows {X : Nat → Prop} {w : World} {gw gl k n : Nat} {wr : World} {vd vx : Value} {ps : List Dp} (h : UnE X w gw gl k n wr vd vx ps) : 1 ≤ ps.length ∧ ps.length ≤ 8 ∧ ∃ g1 g2 c1 c2, vd = .slice (some ⟨g1, 0, none⟩) ps.length c1 ∧ vx = .slice (some ⟨g2, 0, none⟩) ps.length c2 ∧ wr.cell? ⟨gw, 0, none⟩ = some vd ∧ wr.cell? ⟨gw, 1, none⟩ = some vx ∧ ∀ i, i < ps.length → wr.cell? ⟨g1, i, none⟩ = some (.pointer (some ⟨(ps.getD i Dp.zero).gd, 0, none⟩)) ∧ wr.cell? ⟨g2, i, none⟩ = some (.pointer (some ⟨(ps.getD i Dp.zero).gx, 0, none⟩)) := by
  obtain ⟨D, vl, rd, rx, rl, hs, vL, vW, rL, rW, its, h1, ⟨q1, q2, q3⟩, h3, h4, h5, h6, h7⟩ := h
  obtain ⟨ad, capd, e, hd1, hd2⟩ := q1.rowd.shape
  obtain ⟨ax, capx, e2, hx1, hx2⟩ := q1.rowx.shape
  rw [List.length_map] at e e2 hd2 hx2
  subst e e2
  obtain ⟨g1, g2, rfl, rfl, -, -⟩ := q1.pick (k := 0) (by have := q1.some2.1; omega)
  refine ⟨q1.some2.1, q1.some2.2, g1, g2, capd, capx, rfl, rfl, q1.c0, q1.c1, fun i hi => ?_⟩
  obtain ⟨g1', g2', e1, e2, p1, p2⟩ := q1.pick hi
  cases e1
  cases e2
  exact ⟨p1, p2⟩
/-- A question to one of the dirs. -/
theorem UnE.asked {X : Nat → Prop} {w : World} {gw gl k n : Nat} {u : World} {vd vx : Value} {ps : List Dp} (h : UnE X w gw gl k n u vd vx ps) (hk : k < 2199023253000) (hn : n < 2199023253000) {i : Nat} (hi : i < ps.length) (lo hi' : ByteArray) (lim : Int) (hlo : lo.size ≤ maxLen) (hhi : hi'.size ≤ maxLen) :
    Calls Try.prog 38 #[.pointer (some ⟨gl, 0, none⟩), .pointer (some ⟨(ps.getD i Dp.zero).gd, 0, none⟩), .pointer (some ⟨(ps.getD i Dp.zero).gx, 0, none⟩), .string lo, .string hi', .int .i64 lim] u fun e w' => e = .returned (.bool true) ∧ UnE X w gw gl k (n + 1) w' vd vx ps ∧ ∀ g, X g → w'.heap[g]? = u.heap[g]? := by
  obtain ⟨D, vl, rd, rx, rl, hs, vL, vW, rL, rW, its, h1, ⟨q1, q2, q3⟩, h3, h4, h5, h6, h7⟩ := h
  have hll := q2 i hi
  have hOD : ∀ g, WOwn gw rd rx rl ps hs g → D g := fun g hg => by
    rcases hg with e | ⟨i, hi, e⟩
    · exact q1.inD g e
    · exact (q1.dw.pr i hi).own g e
  refine (askedOf gl vL vW rL rW its (ps.getD i Dp.zero) lo hi' lim u h3 (q1.dw.pr i hi) hlo hhi (by omega) (by omega)).mono ?_
  rintro e w' ⟨he, vL', vW', rL', rW', y, a1, a2, a3⟩
  have hsz := h6.size
  have hsz2 := a2.size
  have hlt := a1.lt
  have hS : ∀ g, lateS gl rL rW g → LtB gl rL rW its g := fun g hg => by
    rcases hg with e | e | e
    · exact .inl e
    · exact .inr (.inl e)
    · exact .inr (.inr (.inl e))
  refine ⟨he, ⟨fun g => D g ∨ LtB gl rL' rW' (its ++ [y]) g, vl, rd, rx, rl, hs, vL', vW', rL', rW', its ++ [y], fun g hg => ?_, ⟨q1.late a2 (fun g hg => h5 g (hS g hg)) (fun g hg => .inl hg) (fun g hg => ?_), q2, q3⟩, a1, by simp; omega, fun g hg => ⟨.inr hg, fun ho => ?_⟩, h6.trans ⟨a2.os, a2.tape, a2.output, a2.size, fun g hg => a2.block g (by omega) (fun hs' => by have := h1 g (h5 g (hS g hs')).1; omega)⟩, fun g hg => ⟨by have := (h7 g hg).1; omega, fun hd => ?_⟩⟩, fun g hg => a2.block g (h7 g hg).1 (fun hs' => (h7 g hg).2 (h5 g (hS g hs')).1)⟩
  · rcases hg with e | e
    · exact h1 g e
    · rcases a3 g e with q | q
      · exact h1 g (h5 g q).1
      · omega
  · rcases hg with e | e
    · exact .inl e
    · rcases a3 g e with q | q
      · exact .inl (h5 g q).1
      · exact .inr ⟨q, hlt g e⟩
  · rcases a3 g hg with q | q
    · exact (h5 g q).2 ho
    · have := q1.dw.bnd g (hOD g ho); omega
  · rcases hd with e | e
    · exact (h7 g hg).2 e
    · rcases a3 g e with q | q
      · exact (h7 g hg).2 (h5 g q).1
      · have := (h7 g hg).1; omega
end Go.Proofs.Ytjhbaplnkigifaa
