import Derived.Test.YteekmmgopnnioaaDoorMoF
import Derived.Test.YteekmmgopnnioaaDoorMoE
import Derived.Test.YteekmmgopnnioaaDoorMcN
import Derived.Test.YteekmmgopnnioaaDoorMnP
import Derived.Deep.RegionWith
import Derived.Test.YteekmmgopnnioaaDoorMcL
import Derived.BigRegion
import Derived.Test.YteekmmgopnnioaaDoorMcJ
import Derived.Test.YteekmmgopnnioaaDoorMoB
import Derived.Test.YteekmmgopnnioaaDoorRows
import Derived.ProofKit
import Derived.OpenShut
import Derived.SizedLaws
import Derived.Deep.Slices
import Derived.Deep.Strs
import Derived.ChangeSlices
import Derived.Lib.SmallJoins
/-! manifest: Orphans. -/
namespace Go.Proofs.YteekmmgopnnioaaDoor
open Go.RowKit Go.Maps Plain
open Mn (FN parseL ofT lastI leftP orphP strP thoseL thoseL_step thoseL_len)
set_option linter.unusedVariables false
set_option linter.unusedSimpArgs false

theorem parse_i64 (l : Mn.By) : I64 (parseL l).seg ∧ I64 (parseL l).id := by
  unfold parseL
  split
  · have := Mn.rd_ok l
    exact ⟨by have := this.s0; have := (Mn.rd_ok l).s1; unfold I64; omega, by have := this.i0; have := (Mn.rd_ok l).i1; unfold I64; omega⟩
  · exact ⟨by unfold I64 Mn.FN.zero; simp, by unfold I64 Mn.FN.zero; simp⟩
theorem lastI_take {l : List Int} {k : Nat} (hk : k < l.length) : lastI (l.take (k + 1)) = l.getD k 0 := by
  unfold lastI
  have e : (l.take (k + 1)).length - 1 = k := by simp; omega
  rw [e]
  simp [List.getD_eq_getElem?_getD]
theorem takeI_snoc {l : List Int} {k : Nat} (hk : k < l.length) : l.take (k + 1) = l.take k ++ [l.getD k 0] := by
  rw [List.take_succ_eq_append_getElem hk]
  simp [hk]
set_option maxHeartbeats 4000000 in
set_option maxRecDepth 100000 in
theorem orphOf (v vs vp : Value) (ss : List ByteArray) (m : Mf) (w : World) (h : TxAt w v ss) (hs : IntsAt w vs m.segs) (hP : ParseIs w) :
    Calls Tryd.prog 11 #[v, m.agg vs vp] w fun e w' => NewTx w e w' (thoseL (orphP m.id m.segs) ss) := by
  obtain ⟨w0, hw0⟩ : ∃ w0, w.alloc (m.obj vs vp) = w0 := ⟨_, rfl⟩
  have hb0 : Below w.heap.size w w0 := by rw [← hw0]; exact (Below.refl _ _).alloc (Nat.le_refl _) _
  obtain ⟨m0, _, _, _, _, m5, _⟩ := mobj_cells w m vs vp hw0
  have hz0 : w0.heap.size = w.heap.size + 1 := by rw [← hw0]; simp
  obtain ⟨wa, hwa⟩ : ∃ wa, w0.alloc (.map #[] 0) = wa := ⟨_, rfl⟩
  have hza : wa.heap.size = w.heap.size + 2 := by rw [← hwa]; simp; omega
  have hba : Below w.heap.size w wa := by rw [← hwa]; exact hb0.alloc hb0.size _
  have hSa : SetI wa w0.heap.size [] := by rw [← hwa]; exact SetI.made _
  obtain ⟨wb, hwb⟩ : ∃ wb, wa.alloc (.cells #[.map none] 53) = wb := ⟨_, rfl⟩
  have hzb : wb.heap.size = w.heap.size + 3 := by rw [← hwb]; simp; omega
  have cb : wb.cell? ⟨w.heap.size + 2, 0, none⟩ = some (.map none) := by rw [← hwb]; exact World.cell?_alloc_at _ _ _ _ (by simp [hza])
  have fb : wb.frozen? ⟨w.heap.size + 2, 0, none⟩ = false := by rw [← hwb]; exact World.frozen?_alloc_at _ _ _ _ (by simp [hza])
  have hbb : Below w.heap.size w wb := by rw [← hwb]; exact hba.alloc hba.size _
  have kb : ∀ b, b < w.heap.size + 2 → wb.heap[b]? = wa.heap[b]? := fun b hb => by rw [← hwb]; exact heap_alloc_old _ _ (by omega)
  obtain ⟨wc, hwc⟩ : ∃ wc, wb.setCell ⟨w.heap.size + 2, 0, none⟩ (.map (some (w.heap.size + 1))) = wc := ⟨_, rfl⟩
  have gc : wb.grownBy wc (some (w.heap.size + 2)) := by rw [← hwc]; exact grow_setC _ _ _ _
  have hzc : wc.heap.size = w.heap.size + 3 := by rw [← hwc, size_setC]; exact hzb
  have cc : wc.cell? ⟨w.heap.size + 2, 0, none⟩ = some (.map (some (w.heap.size + 1))) := by rw [← hwc]; exact World.cell?_setCell_same' _ _ _ (by rw [cb]; rfl)
  have hbc : Below w.heap.size w wc := hbb.grown gc hbb.size (fun k e => by injection e with e; omega)
  have kc : ∀ b, b < w.heap.size + 2 → wc.heap[b]? = wb.heap[b]? := fun b hb => gc.block b (by omega) (fun e => by injection e with e; omega)
  obtain ⟨wd, hwd⟩ : ∃ wd, wc.alloc (.cells #[.int .i64 0] 3) = wd := ⟨_, rfl⟩
  have hzd : wd.heap.size = w.heap.size + 4 := by rw [← hwd]; simp; omega
  have hbd : Below w.heap.size w wd := by rw [← hwd]; exact hbc.alloc hbc.size _
  have cd : wd.cell? ⟨w.heap.size + 3, 0, none⟩ = some (.int .i64 0) := by rw [← hwd]; exact World.cell?_alloc_at _ _ _ _ (by simp [hzc])
  have fd : wd.frozen? ⟨w.heap.size + 3, 0, none⟩ = false := by rw [← hwd]; exact World.frozen?_alloc_at _ _ _ _ (by simp [hzc])
  have kd : ∀ b, b < w.heap.size + 3 → wd.heap[b]? = wc.heap[b]? := fun b hb => by rw [← hwd]; exact heap_alloc_old _ _ (by omega)
  have k0 : ∀ b, b < w.heap.size + 1 → wa.heap[b]? = w0.heap[b]? := fun b hb => by rw [← hwa]; exact heap_alloc_old _ _ (by omega)
  have km : wd.heap[w.heap.size]? = w0.heap[w.heap.size]? := by rw [kd _ (by omega), kc _ (by omega), kb _ (by omega), k0 _ (by omega)]
  have d0 : wd.cell? ⟨w.heap.size, 0, none⟩ = some (.int .i64 m.id) := (World.cell?_of_block (w := w0) (a := ⟨w.heap.size, 0, none⟩) km).trans m0
  have d5 : wd.cell? ⟨w.heap.size, 5, none⟩ = some vs := (World.cell?_of_block (w := w0) (a := ⟨w.heap.size, 5, none⟩) km).trans m5
  have d2 : wd.cell? ⟨w.heap.size + 2, 0, none⟩ = some (.map (some (w.heap.size + 1))) := (World.cell?_of_block (w := wc) (a := ⟨w.heap.size + 2, 0, none⟩) (kd (w.heap.size + 2) (by omega))).trans cc
  have HS : Hid (SetI wd (w.heap.size + 1) []) := by
    rw [hz0] at hSa
    exact hSa.of_block (by rw [kd _ (by omega), kc _ (by omega), kb _ (by omega)])
  obtain ⟨we, hwe⟩ : ∃ we, wd.setCell ⟨w.heap.size + 3, 0, none⟩ (.int .i64 0) = we := ⟨_, rfl⟩
  have ge : wd.grownBy we (some (w.heap.size + 3)) := by rw [← hwe]; exact grow_setC _ _ _ _
  have ke : ∀ b, b < w.heap.size + 3 → we.heap[b]? = wd.heap[b]? := fun b hb => ge.block b (by omega) (fun e => by injection e with e; omega)
  have x0 : we.cell? ⟨w.heap.size, 0, none⟩ = some (.int .i64 m.id) := (World.cell?_of_block (w := wd) (a := ⟨w.heap.size, 0, none⟩) (ke w.heap.size (by omega))).trans d0
  have x5 : we.cell? ⟨w.heap.size, 5, none⟩ = some vs := (World.cell?_of_block (w := wd) (a := ⟨w.heap.size, 5, none⟩) (ke w.heap.size (by omega))).trans d5
  have x2 : we.cell? ⟨w.heap.size + 2, 0, none⟩ = some (.map (some (w.heap.size + 1))) := (World.cell?_of_block (w := wd) (a := ⟨w.heap.size + 2, 0, none⟩) (ke (w.heap.size + 2) (by omega))).trans d2
  have x3 : we.cell? ⟨w.heap.size + 3, 0, none⟩ = some (.int .i64 (lastI (m.segs.take 0))) := by rw [← hwe]; exact World.cell?_setCell_same' _ _ _ (by rw [cd]; rfl)
  have y3 : we.frozen? ⟨w.heap.size + 3, 0, none⟩ = false := by rw [← hwe, World.frozen?_setCell]; exact fd
  have HSE : Hid (SetI we (w.heap.size + 1) (m.segs.take 0)) := HS.out.of_block (ke _ (by omega))
  have HX : Hid (we.cell? ⟨w.heap.size, 0, none⟩ = some (.int .i64 m.id) ∧ we.cell? ⟨w.heap.size + 2, 0, none⟩ = some (.map (some (w.heap.size + 1))) ∧ we.cell? ⟨w.heap.size + 3, 0, none⟩ = some (.int .i64 (lastI (m.segs.take 0))) ∧ we.frozen? ⟨w.heap.size + 3, 0, none⟩ = false) := ⟨x0, x2, x3, y3⟩
  have HBD : Hid (Below w.heap.size w we) := hbd.grown ge hbd.size (fun k e => by injection e with e; omega)
  obtain ⟨a, cap, rfl, hcap, hl, hok, hcells⟩ := hs
  have HC : Hid (∀ u k, Below w.heap.size w u → k < m.segs.length → ∃ b off, a = some ⟨b, off, none⟩ ∧ u.cell? ⟨b, off + k, none⟩ = some (.int .i64 (m.segs.getD k 0)) ∧ I64 (m.segs.getD k 0)) := fun u k hu hk => by
    obtain ⟨b, off, e, hc⟩ := hcells (by intro e; rw [e] at hk; simp at hk)
    exact ⟨b, off, e, (hu.cell (p := ⟨b, off + k, none⟩) (cell_lt (hc k hk))).trans (hc k hk), hok _ (by simp [hk])⟩
  have HTX : Hid (TxAt w v ss) := h
  have HP : Hid (ParseIs w) := hP
  clear hbd hbc hbb hba hb0 kd kc kb k0 km gc ge ke x0 x2 x3 y3 d0 d5 d2 HS hSa h hP hcells hok
  have hmm := @run_makeMap Tryd.prog
  go_enter Tryd.func11, Tryd.ntmps11
  go_wp2
  go_loopw [13] (fun i wr => ∃ k : Nat, k ≤ m.segs.length ∧ i = .int .i64 k ∧ Hid (SetI wr (w.heap.size + 1) (m.segs.take k)) ∧ Hid (wr.cell? ⟨w.heap.size, 0, none⟩ = some (.int .i64 m.id)) ∧ Hid (wr.cell? ⟨w.heap.size + 2, 0, none⟩ = some (.map (some (w.heap.size + 1)))) ∧ Hid (wr.cell? ⟨w.heap.size + 3, 0, none⟩ = some (.int .i64 (lastI (m.segs.take k))) ∧ wr.frozen? ⟨w.heap.size + 3, 0, none⟩ = false) ∧ Hid (Below w.heap.size w wr)) (fun i _ => m.segs.length - (intOf i).toNat)
  case atStart => exact ⟨0, by omega, rfl, HSE.out, HX.out.1, HX.out.2.1, HX.out.2.2, HBD.out⟩
  case round =>
    obtain ⟨k, hk, rfl, HSK, HI, H2, H3, HBW⟩ := hrel
    clear HSE HX HBD hw0 hwa hwb hwc hwd hwe cb fb cc cd fd x5 m0 m5 hmm
    by_cases hlt : k < m.segs.length
    · obtain ⟨b, off, rfl, hc, hz⟩ := HC.out wr k HBW.out hlt
      obtain ⟨w1, hrun, hS1, hg1⟩ := HSK.out.store (m.segs.getD k 0) (by simp; omega) hz
      rw [← takeI_snoc hlt] at hS1
      have hlast : lastI (m.segs.take (k + 1)) = m.segs.getD k 0 := lastI_take hlt
      have blk : ∀ q v', q ≠ w.heap.size + 1 → wr.cell? ⟨q, 0, none⟩ = some v' → w1.cell? ⟨q, 0, none⟩ = some v' := fun q v' hq e => (World.cell?_of_block (w := wr) (a := ⟨q, 0, none⟩) (hg1.block q (cell_lt e) (fun e => hq (by injection e)))).trans e
      have e2 := H2.out
      have e3 := blk _ _ (by omega) H3.out.1
      have f3 : w1.frozen? ⟨w.heap.size + 3, 0, none⟩ = false := (World.frozen?_of_block (w := wr) (a := ⟨w.heap.size + 3, 0, none⟩) (hg1.block (w.heap.size + 3) (cell_lt H3.out.1) (fun e => by injection e with e; omega))).trans H3.out.2
      obtain ⟨w2, hw2⟩ : ∃ w2, w1.setCell ⟨w.heap.size + 3, 0, none⟩ (.int .i64 (m.segs.getD k 0)) = w2 := ⟨_, rfl⟩
      have HEND : Hid (SetI w2 (w.heap.size + 1) (m.segs.take (k + 1)) ∧ w2.cell? ⟨w.heap.size, 0, none⟩ = some (.int .i64 m.id) ∧ w2.cell? ⟨w.heap.size + 2, 0, none⟩ = some (.map (some (w.heap.size + 1))) ∧ (w2.cell? ⟨w.heap.size + 3, 0, none⟩ = some (.int .i64 (lastI (m.segs.take (k + 1)))) ∧ w2.frozen? ⟨w.heap.size + 3, 0, none⟩ = false) ∧ Below w.heap.size w w2) := by
        have g2 : w1.grownBy w2 (some (w.heap.size + 3)) := by rw [← hw2]; exact grow_setC _ _ _ _
        have b1 : Below w.heap.size w w1 := HBW.out.grown hg1 HBW.out.size (fun q e => by injection e with e; omega)
        have blk2 : ∀ q v', q ≠ w.heap.size + 3 → w1.cell? ⟨q, 0, none⟩ = some v' → w2.cell? ⟨q, 0, none⟩ = some v' := fun q v' hq e => (World.cell?_of_block (w := w1) (a := ⟨q, 0, none⟩) (g2.block q (cell_lt e) (fun e => hq (by injection e)))).trans e
        refine ⟨hS1.of_block (g2.block _ hS1.lt (fun e => by injection e with e; omega)), blk2 _ _ (by omega) (blk _ _ (by omega) HI.out), blk2 _ _ (by omega) (blk _ _ (by omega) e2), ⟨?_, ?_⟩, b1.grown g2 b1.size (fun q e => by injection e with e; omega)⟩
        · rw [hlast, ← hw2]
          exact World.cell?_setCell_same' _ _ _ (by rw [e3]; rfl)
        · rw [← hw2, World.frozen?_setCell]
          exact f3
      generalize m.segs.getD k 0 = x at hc hrun hw2
      have hki : (k : Int) < (m.segs.length : Int) := by omega
      clear hS1 hg1 hlast blk hz H2 H3 HI HSK
      go_wp2
      go_roundw
      case rel => exact ⟨k + 1, by omega, by go_num, HEND.out.1, HEND.out.2.1, HEND.out.2.2.1, HEND.out.2.2.2.1, HEND.out.2.2.2.2⟩
      case measure => simp [intOf]; omega
    · obtain rfl : k = m.segs.length := by omega
      rw [List.take_length] at HSK H3
      have HTH : Hid (Calls Tryd.prog 27 #[v, .func (.func 28) #[] #[.pointer (some ⟨w.heap.size + 2, 0, none⟩), .pointer (some ⟨w.heap.size + 3, 0, none⟩), .pointer (some ⟨w.heap.size, 0, none⟩)]] wr fun e w' => NewTx wr e w' (thoseL (orphP m.id m.segs) ss)) :=
        those_o v ss _ _ _ _ wr (HTX.out.later HBW.out) (HP.out.later HBW.out) (fun u hu s => by
          have hc : ∀ q v', wr.cell? ⟨q, 0, none⟩ = some v' → u.cell? ⟨q, 0, none⟩ = some v' := fun q v' e => (hu.cell (p := ⟨q, 0, none⟩) (cell_lt e)).trans e
          exact orph1Of _ _ _ _ _ _ _ _ m.id m.segs u (parse_i64 _).1 (hc _ _ H2.out) (hc _ _ H3.out.1) (hc _ _ HI.out) (HSK.out.below hu))
      clear HSK HI H2 H3 HC HTX HP
      go_wp2_with fail
      refine HTH.out.mono ?_
      rintro e w3 ⟨v3, r3, rfl, ho, hg, hb⟩
      have HF : Hid (OwnV w3 v3 (txs (thoseL (orphP m.id m.segs) ss)) r3 ∧ (∀ g, r3 = some g → w.heap.size ≤ g) ∧ Below w.heap.size w w3) := ⟨ho, fun g e => Nat.le_trans HBW.out.size (hg g e), below_step HBW.out hb⟩
      clear ho hg hb
      go_wp2
      go_ret
      exact ⟨_, r3, rfl, HF.out.1, HF.out.2.1, HF.out.2.2⟩
end Go.Proofs.YteekmmgopnnioaaDoor

/-! manifest: the law's copiedCat. -/
namespace Go.Proofs.YteekmmgopnnioaaDoor
open Go.RowKit Plain
set_option linter.unusedVariables false
set_option linter.unusedSimpArgs false

/-- A catalogue's cells at a place. -/
structure CC (w : World) (X : Nat) (n : Int) (v : Value) : Prop where
  c0 : w.cell? ⟨X, 0, none⟩ = some (.int .i64 n)
  c1 : w.cell? ⟨X, 1, none⟩ = some v
  fz : ∀ j, w.frozen? ⟨X, j, none⟩ = false
theorem CC.lt {w : World} {X : Nat} {n : Int} {v : Value} (h : CC w X n v) : X < w.heap.size := cell_lt h.c0
theorem CC.block {w w' : World} {X : Nat} {n : Int} {v : Value} (h : CC w X n v) (hb : w'.heap[X]? = w.heap[X]?) : CC w' X n v := by
  have hc : ∀ j, w'.cell? ⟨X, j, none⟩ = w.cell? ⟨X, j, none⟩ := fun j => World.cell?_of_block (w := w) (a := ⟨X, j, none⟩) hb
  exact ⟨by rw [hc]; exact h.c0, by rw [hc]; exact h.c1, fun j => by rw [World.frozen?_of_block (w := w) (a := ⟨X, j, none⟩) hb]; exact h.fz j⟩
theorem CC.set1 {w : World} {X : Nat} {n : Int} {u : Value} (h : CC w X n u) (v : Value) : CC (w.setCell ⟨X, 1, none⟩ v) X n v := by
  have ho : (w.setCell ⟨X, 1, none⟩ v).cell? ⟨X, 0, none⟩ = w.cell? ⟨X, 0, none⟩ := World.cell?_setCells_out X [v] 1 w ⟨X, 0, none⟩ (fun _ _ => by show 0 < 1 ∨ 2 ≤ 0; omega)
  refine ⟨by rw [ho]; exact h.c0, ?_, fun j => (World.frozen?_setCells X [v] 1 w ⟨X, j, none⟩).trans (h.fz j)⟩
  exact World.cell?_setCells_in X [v] 1 w (fun q hq => by simp at hq; subst hq; rw [Nat.add_zero, h.c1]; rfl) 0 (by simp)
theorem CC.made (w : World) (n : Int) (v : Value) : CC (w.alloc (.cells #[.int .i64 n, v] 34)) w.heap.size n v :=
  ⟨World.cell?_alloc_at _ _ _ _ rfl, World.cell?_alloc_at _ _ _ _ rfl, fun j => World.frozen?_alloc_at _ _ _ _ rfl⟩
theorem CC.stored {w : World} {X : Nat} {n z : Int} {u : Value} (h : CC w X z u) (v : Value) : CC ((w.setCell ⟨X, 0, none⟩ (.int .i64 n)).setCell ⟨X, 1, none⟩ v) X n v := by
  have key : ∀ (j : Nat) (hj : j < 2), (w.setCells X 0 [.int .i64 n, v]).cell? ⟨X, 0 + j, none⟩ = some ([Value.int .i64 n, v][j]'(by simpa using hj)) := fun j hj => World.cell?_setCells_in X _ 0 w (fun q hq => by
    have hq7 : q < 2 := by simpa using hq
    rw [Nat.zero_add]
    rcases (by omega : q = 0 ∨ q = 1) with rfl | rfl
    · rw [h.c0]; rfl
    · rw [h.c1]; rfl) j (by simpa using hj)
  exact ⟨key 0 (by decide), key 1 (by decide), fun j => (World.frozen?_setCells X [.int .i64 n, v] 0 w ⟨X, j, none⟩).trans (h.fz j)⟩
theorem hresT : Tryd.f10.results = #[.cell 2 34] := by kernel_rfl
/-- A copy of a catalogue: its list in a row of its own, a mark behind it. -/
def CatW (w : World) (g c : Nat) (l : List Te) : Prop := OwnTe w (.slice (some ⟨g, 0, none⟩) l.length c) l (some g)
set_option maxHeartbeats 8000000 in
set_option maxRecDepth 100000 in
theorem copiedCatOf (c : Ct) (v : Value) (w : World) (h1 : TesAt w v c.tops) : Calls Tryd.prog 10 #[c.agg v] w fun e w' => ∃ g cp, e = .returned (c.agg (.slice (some ⟨g, 0, none⟩) c.tops.length cp)) ∧ CatW w' g cp (c.tops ++ [markT]) ∧ w.heap.size ≤ g ∧ Below w.heap.size w w' := by
  have hs1 : c.tops.length ≤ 4398046511000 := by obtain ⟨_, _, _, h, _⟩ := h1; exact h
  have HS1 : Hid (∀ u, Below w.heap.size w u → Src Tryd.prog 4 32 v c.tops.length (tcells c.tops) u) := fun u hu => srcT (h1.later hu)
  obtain ⟨a1, c1, rfl⟩ : ∃ a cc, v = .slice a c.tops.length cc := by obtain ⟨a, cc, e, _⟩ := h1; exact ⟨a, cc, e⟩
  obtain ⟨nid, l⟩ := c
  simp only at hs1 HS1 h1 ⊢
  obtain ⟨w0, hw0⟩ : ∃ w0, w.alloc (.cells #[.int .i64 nid, .slice a1 l.length c1] 34) = w0 := ⟨_, rfl⟩
  have hs0 : w0.heap.size = w.heap.size + 1 := by rw [← hw0]; simp
  have HB0 : Hid (Below w.heap.size w w0) := by rw [← hw0]; exact (Below.refl _ _).alloc (Nat.le_refl _) _
  have HMC0 : Hid (CC w0 w.heap.size nid (.slice a1 l.length c1)) := by rw [← hw0]; exact CC.made _ _ _
  clear h1
  obtain ⟨w00, hw00⟩ : ∃ w00, w0.alloc (.cells #[.int .i64 0, .slice none 0 0] 34) = w00 := ⟨_, rfl⟩
  have hs00 : w00.heap.size = w.heap.size + 1 + 1 := by rw [← hw00]; simp [hs0]
  have HB00 : Hid (Below w.heap.size w w00) := by rw [← hw00]; exact below_step HB0.out ((Below.refl _ _).alloc (Nat.le_refl _) _)
  have HMC : Hid (CC w00 w.heap.size nid (.slice a1 l.length c1)) := HMC0.out.block (by rw [← hw00]; exact heap_alloc_old _ _ (by omega))
  clear HMC0
  obtain ⟨m0, m1, -⟩ := HMC.out
  unfold Ct.agg
  simp only
  go_enter Tryd.func10, Tryd.ntmps10
  go_wp2_with (at_builtin; refine wpList_append_t _ rfl _ _ rfl _ _ [] l (some (w.heap.size + 1 + 1)) rfl rfl ?hOwn ?hSrc ?hLen (.inl (by simp)) ?_)
  case hOwn => rw [← hs00]; exact OwnTe.made w00
  case hSrc => exact HS1.out _ (below_step HB00.out ((Below.refl _ _).alloc (Nat.le_refl _) _))
  case hLen => first | omega | (simp; omega)
  intro v1 w1 g1 ho1 hg1 hr1
  have hsz1 := hg1.size
  simp at hsz1
  have HB1 : Hid (Below w.heap.size w w1) := (below_step HB00.out ((Below.refl _ _).alloc (Nat.le_refl _) _)).trans (grow_below hg1 (by simp; omega) (fun g e => by cases e; omega))
  have hblk1 : ∀ X, X < w.heap.size + 1 + 1 → w1.heap[X]? = w00.heap[X]? := fun X hX => by
    rw [hg1.block X (by simp; omega) (fun e => by cases e; omega)]
    exact heap_alloc_old _ _ (by omega)
  have hg1b : w.heap.size + 1 + 1 ≤ g1 := by
    rcases hr1 with e | e
    · cases e; omega
    · rw [e]; first | omega | (simp; done) | (simp; omega)
  have HMC1 : Hid (CC w1 w.heap.size nid (.slice a1 l.length c1)) := HMC.out.block (hblk1 _ (by omega))
  have HRES1 : Hid (w1.heap[w.heap.size + 1]? = w00.heap[w.heap.size + 1]?) := hblk1 _ (by omega)
  have HO1 : Hid (OwnTe w1 v1 l (some g1)) := by unfold Hid; simpa using ho1
  obtain ⟨n0, n1, -⟩ := HMC1.out
  obtain ⟨b1, d1, rfl⟩ : ∃ a c, v1 = .slice a l.length c := by
    obtain ⟨a, c, e, _, _⟩ := HO1.out.shape
    exact ⟨a, c, e⟩
  clear ho1 hg1 hr1 m0 m1 hblk1
  go_wp2_with (at_builtin; refine wpList_append_t _ rfl _ _ rfl _ _ l [markT] (some g1) rfl rfl ?hOwn ?hSrc ?hLen (.inl (by simp)) ?_)
  case hOwn => exact HO1.out.later ((Below.refl _ _).alloc (Nat.le_refl _) _)
  case hSrc => exact src_te1 w1 markT
  case hLen => first | omega | (simp; omega)
  intro v2 w2 g2 ho2 hg2 hr2
  have hsz2 := hg2.size
  simp at hsz2
  have hg2b : w.heap.size + 1 + 1 ≤ g2 := by
    rcases hr2 with e | e
    · cases e; exact hg1b
    · rw [e]; first | omega | (simp; done) | (simp; omega)
  have HB2 : Hid (Below w.heap.size w w2) := (below_step HB1.out ((Below.refl _ _).alloc (Nat.le_refl _) _)).trans (grow_below hg2 (by simp; omega) (fun g e => by cases e; omega))
  have hblk2 : ∀ X, X < w.heap.size + 1 + 1 → w2.heap[X]? = w1.heap[X]? := fun X hX => by
    rw [hg2.block X (by simp; omega) (fun e => by cases e; omega)]
    exact heap_alloc_old _ _ (by omega)
  have HMC2 : Hid (CC w2 w.heap.size nid (.slice a1 l.length c1)) := HMC1.out.block (hblk2 _ (by omega))
  have HRES2 : Hid (w2.heap[w.heap.size + 1]? = w00.heap[w.heap.size + 1]?) := (hblk2 _ (by omega)).trans HRES1.out
  have HO2 : Hid (OwnTe w2 v2 (l ++ [markT]) (some g2)) := ho2
  obtain ⟨b2, rfl⟩ : ∃ c, v2 = .slice (some ⟨g2, 0, none⟩) (l.length + 1) c := by
    rcases HO2.out with ⟨_, _, e⟩ | ⟨g', c', e1, e2, _⟩
    · simp at e
    · cases e1
      exact ⟨c', by simpa using e2⟩
  have hcap2 : l.length + 1 ≤ b2 := by
    have := HO2.out
    rcases this with ⟨_, _, e⟩ | ⟨g', c', e1, e2, _, h, _⟩
    · simp at e
    · simp at e2; rw [e2.2]; simpa using h
  have hg2l : g2 < w2.heap.size := HO2.out.lt
  have HMC6 := HMC2.out.set1 (.slice (some ⟨g2, 0, none⟩) (l.length + 1) b2)
  have HMC7 := HMC6.set1 (.slice (some ⟨g2, 0, none⟩) l.length b2)
  obtain ⟨w6, hw6⟩ : ∃ u, w2.setCell ⟨w.heap.size, 1, none⟩ (.slice (some ⟨g2, 0, none⟩) (l.length + 1) b2) = u := ⟨_, rfl⟩
  rw [hw6] at HMC6 HMC7
  obtain ⟨w8, hw8⟩ : ∃ u, w6.setCell ⟨w.heap.size, 1, none⟩ (.slice (some ⟨g2, 0, none⟩) l.length b2) = u := ⟨_, rfl⟩
  rw [hw8] at HMC7
  have HB8 : Hid (Below w.heap.size w w8 ∧ w8.heap.size = w2.heap.size ∧ ∀ X, X < w2.heap.size → X ≠ w.heap.size → w8.heap[X]? = w2.heap[X]?) := by
    have e6 : w6.heap.size = w2.heap.size := by rw [← hw6]; exact size_setC _ _ _ _
    have e8 : w8.heap.size = w6.heap.size := by rw [← hw8]; exact size_setC _ _ _ _
    have s6 : Below w.heap.size w w6 := by rw [← hw6]; exact below_set HB2.out (Nat.le_refl _) HB2.out.size
    have s8 : Below w.heap.size w w8 := by rw [← hw8]; exact below_set s6 (Nat.le_refl _) s6.size
    refine ⟨s8, by omega, fun X hX hne => ?_⟩
    have k8 := (grow_setC w6 w.heap.size 1 (.slice (some ⟨g2, 0, none⟩) l.length b2)).block X (by omega) (fun e => hne (by injection e))
    have k6 := (grow_setC w2 w.heap.size 1 (.slice (some ⟨g2, 0, none⟩) (l.length + 1) b2)).block X (by omega) (fun e => hne (by injection e))
    rw [hw8] at k8; rw [hw6] at k6
    exact k8.trans k6
  have HEND : Hid (CatW w8 g2 b2 (l ++ [markT]) ∧ w.heap.size ≤ g2 ∧ w8.heap[w.heap.size + 1]? = w00.heap[w.heap.size + 1]?) := by
    obtain ⟨k1, k2, k3⟩ := HB8.out
    refine ⟨?_, by omega, (k3 _ (by omega) (by omega)).trans HRES2.out⟩
    have := HO2.out.of_block (w' := w8) (by omega) fun g e => by cases e; exact k3 g2 (by omega) (by omega)
    unfold CatW
    simpa using this
  have HZ : CC w8 (w.heap.size + 1) 0 (.slice none 0 0) := by
    have hm : CC w00 (w.heap.size + 1) 0 (.slice none 0 0) := by
      rw [← hw00, ← hs0]; exact CC.made w0 0 _
    exact hm.block HEND.out.2.2
  have HST : Hid (CC _ (w.heap.size + 1) nid (.slice (some ⟨g2, 0, none⟩) l.length b2)) := HZ.stored (n := nid) (.slice (some ⟨g2, 0, none⟩) l.length b2)
  have HFIN : Hid (∃ g cp, Ending.returned (.agg #[.int .i64 nid, .slice (some ⟨g2, 0, none⟩) l.length b2]) = .returned (.agg #[.int .i64 nid, .slice (some ⟨g, 0, none⟩) l.length cp]) ∧ CatW (w8.setCells (w.heap.size + 1) 0 [.int .i64 nid, .slice (some ⟨g2, 0, none⟩) l.length b2]) g cp (l ++ [markT]) ∧ w.heap.size ≤ g ∧ Below w.heap.size w (w8.setCells (w.heap.size + 1) 0 [.int .i64 nid, .slice (some ⟨g2, 0, none⟩) l.length b2])) := by
    obtain ⟨k1, k2, k4⟩ := HEND.out
    obtain ⟨j1, j2, j3⟩ := HB8.out
    have hgr := grow_setCells w8 (w.heap.size + 1) 0 [.int .i64 nid, .slice (some ⟨g2, 0, none⟩) l.length b2]
    refine ⟨g2, b2, rfl, OwnTe.of_block k1 hgr.size fun g e => ?_, k2, j1.trans (grow_below hgr j1.size (fun g e => by cases e; omega))⟩
    cases e; exact hgr.block g2 (by omega) (fun e => by cases e; omega)
  obtain ⟨z0, z1, zf⟩ := HZ
  have zf0 := zf 0
  have zf1 := zf 1
  obtain ⟨s0, s1, sf⟩ := HMC2.out
  obtain ⟨t0, t1, tf⟩ := HMC6
  obtain ⟨y0, y1, yf⟩ := HMC7
  have sf1 := sf 1
  have tf1 := tf 1
  clear ho2 hg2 hr2 n0 n1 sf tf yf hblk2 zf
  go_wp2
  refine bodyPost_ret (v := .agg #[.int .i64 nid, .slice (some ⟨g2, 0, none⟩) l.length b2]) ?_ rfl HFIN.out
  obtain ⟨p0, p1, -⟩ := HST.out
  simp only [results, hresT]
  go_simp
end Go.Proofs.YteekmmgopnnioaaDoor

/-! manifest: Strangers. -/
namespace Go.Proofs.YteekmmgopnnioaaDoor
open Go.RowKit Go.Maps Plain
open Mn (FN parseL ofT lastI leftP orphP strP thoseL thoseL_step thoseL_len)
set_option linter.unusedVariables false
set_option linter.unusedSimpArgs false

theorem idsTake {l : List Te} {k : Nat} (hk : k < l.length) : ((l.take (k + 1)).map (·.id)) = (l.take k).map (·.id) ++ [(l.getD k Te.zero).id] := by
  rw [List.take_succ_eq_append_getElem hk, List.map_append]
  congr 1
  simp [hk]
set_option maxHeartbeats 4000000 in
set_option maxRecDepth 100000 in
theorem strsOf (v vt : Value) (ss : List ByteArray) (c : Ct) (w : World) (h : TxAt w v ss) (hs : TesAt w vt c.tops) (hP : ParseIs w) :
    Calls Tryd.prog 12 #[v, c.agg vt] w fun e w' => NewTx w e w' (thoseL (strP (c.tops.map (·.id))) ss) := by
  obtain ⟨nid, l⟩ := c
  simp only at hs ⊢
  obtain ⟨w0, hw0⟩ : ∃ w0, w.alloc (.cells #[.int .i64 nid, vt] 34) = w0 := ⟨_, rfl⟩
  have hb0 : Below w.heap.size w w0 := by rw [← hw0]; exact (Below.refl _ _).alloc (Nat.le_refl _) _
  have m1 : w0.cell? ⟨w.heap.size, 1, none⟩ = some vt := by rw [← hw0]; exact World.cell?_alloc_at _ _ _ _ rfl
  have hz0 : w0.heap.size = w.heap.size + 1 := by rw [← hw0]; simp
  obtain ⟨wa, hwa⟩ : ∃ wa, w0.alloc (.map #[] 0) = wa := ⟨_, rfl⟩
  have hza : wa.heap.size = w.heap.size + 2 := by rw [← hwa]; simp; omega
  have hba : Below w.heap.size w wa := by rw [← hwa]; exact hb0.alloc hb0.size _
  have hSa : SetI wa w0.heap.size [] := by rw [← hwa]; exact SetI.made _
  obtain ⟨wb, hwb⟩ : ∃ wb, wa.alloc (.cells #[.map none] 53) = wb := ⟨_, rfl⟩
  have hzb : wb.heap.size = w.heap.size + 3 := by rw [← hwb]; simp; omega
  have cb : wb.cell? ⟨w.heap.size + 2, 0, none⟩ = some (.map none) := by rw [← hwb]; exact World.cell?_alloc_at _ _ _ _ (by simp [hza])
  have fb : wb.frozen? ⟨w.heap.size + 2, 0, none⟩ = false := by rw [← hwb]; exact World.frozen?_alloc_at _ _ _ _ (by simp [hza])
  have hbb : Below w.heap.size w wb := by rw [← hwb]; exact hba.alloc hba.size _
  have kb : ∀ b, b < w.heap.size + 2 → wb.heap[b]? = wa.heap[b]? := fun b hb => by rw [← hwb]; exact heap_alloc_old _ _ (by omega)
  obtain ⟨wc, hwc⟩ : ∃ wc, wb.setCell ⟨w.heap.size + 2, 0, none⟩ (.map (some (w.heap.size + 1))) = wc := ⟨_, rfl⟩
  have gc : wb.grownBy wc (some (w.heap.size + 2)) := by rw [← hwc]; exact grow_setC _ _ _ _
  have hzc : wc.heap.size = w.heap.size + 3 := by rw [← hwc, size_setC]; exact hzb
  have cc : wc.cell? ⟨w.heap.size + 2, 0, none⟩ = some (.map (some (w.heap.size + 1))) := by rw [← hwc]; exact World.cell?_setCell_same' _ _ _ (by rw [cb]; rfl)
  have HBC : Hid (Below w.heap.size w wc) := hbb.grown gc hbb.size (fun k e => by injection e with e; omega)
  have kc : ∀ b, b < w.heap.size + 2 → wc.heap[b]? = wb.heap[b]? := fun b hb => gc.block b (by omega) (fun e => by injection e with e; omega)
  have k0 : ∀ b, b < w.heap.size + 1 → wa.heap[b]? = w0.heap[b]? := fun b hb => by rw [← hwa]; exact heap_alloc_old _ _ (by omega)
  have km : wc.heap[w.heap.size]? = w0.heap[w.heap.size]? := by rw [kc _ (by omega), kb _ (by omega), k0 _ (by omega)]
  have x1 : wc.cell? ⟨w.heap.size, 1, none⟩ = some vt := (World.cell?_of_block (w := w0) (a := ⟨w.heap.size, 1, none⟩) km).trans m1
  have HS : Hid (SetI wc (w.heap.size + 1) []) := by
    rw [hz0] at hSa
    exact hSa.of_block (by rw [kc _ (by omega), kb _ (by omega)])
  have HX : Hid (wc.cell? ⟨w.heap.size + 2, 0, none⟩ = some (.map (some (w.heap.size + 1)))) := cc
  obtain ⟨a, cap, rfl, hcl, hok, hcells⟩ := hs
  have HC : Hid (∀ u k, Below w.heap.size w u → k < l.length → ∃ b off, a = some ⟨b, off, none⟩ ∧ Te.CellsAt u b (off + k * 4) (l.getD k Te.zero) ∧ I64 (l.getD k Te.zero).id) := fun u k hu hk => by
    obtain ⟨b, off, e, hc⟩ := hcells (by intro e; rw [e] at hk; simp at hk)
    exact ⟨b, off, e, (hc k hk).block (hu.block _ (hc k hk).lt), (hok _ (by simp [hk])).id⟩
  have HTX : Hid (TxAt w v ss) := h
  have HP : Hid (ParseIs w) := hP
  clear hbb hba hb0 kc kb k0 km gc hSa h hP hcells hok
  have hmm := @run_makeMap Tryd.prog
  go_enter Tryd.func12, Tryd.ntmps12
  go_wp2
  go_loopw [12] (fun i wr => ∃ k : Nat, k ≤ l.length ∧ i = .int .i64 k ∧ Hid (SetI wr (w.heap.size + 1) ((l.take k).map (·.id))) ∧ Hid (wr.cell? ⟨w.heap.size + 2, 0, none⟩ = some (.map (some (w.heap.size + 1)))) ∧ Hid (Below w.heap.size w wr)) (fun i _ => l.length - (intOf i).toNat)
  case atStart => exact ⟨0, by omega, rfl, by simpa using HS, HX.out, HBC.out⟩
  case round =>
    obtain ⟨k, hk, rfl, HSK, H2, HBW⟩ := hrel
    clear HS HX HBC hw0 hwa hwb hwc cb fb cc x1 m1 hmm
    by_cases hlt : k < l.length
    · obtain ⟨b, off, rfl, hc, hz⟩ := HC.out wr k HBW.out hlt
      have HT := idsTake hlt
      generalize l.getD k Te.zero = x at hc hz HT
      obtain ⟨xi, xn, xl, xh⟩ := x
      obtain ⟨c0, c1, c2, c3⟩ := hc
      simp only at c0 c1 c2 c3 hz HT
      obtain ⟨w1, hw1⟩ : ∃ w1, wr.alloc (.cells #[.int .i64 xi, .string xn, .int .i64 xl, .int .i64 xh] 52) = w1 := ⟨_, rfl⟩
      have hb1 : Below wr.heap.size wr w1 := by rw [← hw1]; exact (Below.refl _ _).alloc (Nat.le_refl _) _
      have n0 : w1.cell? ⟨wr.heap.size, 0, none⟩ = some (.int .i64 xi) := by rw [← hw1]; exact World.cell?_alloc_at _ _ _ _ rfl
      obtain ⟨w2, hrun, hS2, hg2⟩ := (HSK.out.below hb1).store xi (by simp; omega) hz
      rw [← HT] at hS2
      have e2 : w1.cell? ⟨w.heap.size + 2, 0, none⟩ = some (.map (some (w.heap.size + 1))) := (hb1.cell (p := ⟨w.heap.size + 2, 0, none⟩) (cell_lt H2.out)).trans H2.out
      have HEND : Hid (SetI w2 (w.heap.size + 1) ((l.take (k + 1)).map (·.id)) ∧ w2.cell? ⟨w.heap.size + 2, 0, none⟩ = some (.map (some (w.heap.size + 1))) ∧ Below w.heap.size w w2) := by
        have b1 : Below w.heap.size w w1 := below_step HBW.out hb1
        exact ⟨hS2, (World.cell?_of_block (w := w1) (a := ⟨w.heap.size + 2, 0, none⟩) (hg2.block (w.heap.size + 2) (cell_lt e2) (fun e => by injection e with e; omega))).trans e2, b1.grown hg2 b1.size (fun q e => by injection e with e; omega)⟩
      have hki : (k : Int) < (l.length : Int) := by omega
      clear hS2 hg2 HT hz H2 HSK hb1
      go_wp2
      go_roundw
      case rel => exact ⟨k + 1, by omega, by go_num, HEND.out.1, HEND.out.2.1, HEND.out.2.2⟩
      case measure => simp [intOf]; omega
    · obtain rfl : k = l.length := by omega
      rw [List.take_length] at HSK
      have HTH : Hid (Calls Tryd.prog 27 #[v, .func (.func 30) #[] #[.pointer (some ⟨w.heap.size + 2, 0, none⟩)]] wr fun e w' => NewTx wr e w' (thoseL (strP (l.map (·.id))) ss)) :=
        those_s v ss _ _ wr (HTX.out.later HBW.out) (HP.out.later HBW.out) (fun u hu s => by
          have hc : ∀ q v', wr.cell? ⟨q, 0, none⟩ = some v' → u.cell? ⟨q, 0, none⟩ = some v' := fun q v' e => (hu.cell (p := ⟨q, 0, none⟩) (cell_lt e)).trans e
          exact strs1Of _ _ _ _ _ _ (l.map (·.id)) u (parse_i64 _).2 (hc _ _ H2.out) (HSK.out.below hu))
      clear HSK H2 HC HTX HP
      go_wp2_with fail
      refine HTH.out.mono ?_
      rintro e w3 ⟨v3, r3, rfl, ho, hg, hb⟩
      have HF : Hid (OwnV w3 v3 (txs (thoseL (strP (l.map (·.id))) ss)) r3 ∧ (∀ g, r3 = some g → w.heap.size ≤ g) ∧ Below w.heap.size w w3) := ⟨ho, fun g e => Nat.le_trans HBW.out.size (hg g e), below_step HBW.out hb⟩
      clear ho hg hb
      go_wp2
      go_ret
      exact ⟨_, r3, rfl, HF.out.1, HF.out.2.1, HF.out.2.2⟩
end Go.Proofs.YteekmmgopnnioaaDoor

/-! manifest: the document's Orphans. -/
namespace Go.Proofs.YteekmmgopnnioaaDoor
open Go.RowKit Go.Maps Plain
open Mn (FN parseL ofT lastI leftP orphP strP orphQ strQ namedQ namedR knownQ thoseL thoseL_step thoseL_len parse_pn)
set_option linter.unusedVariables false
set_option linter.unusedSimpArgs false

/-- What the document's Parse answers. -/
def RParseIs : Prop := ∀ (u : World) (s : ByteArray), s.size ≤ 281474976710656 → Calls Tryd.prog 8 #[.string s] u fun e w' => e = .returned (fnV (parseL s.data.toList)) ∧ Below u.heap.size u w'
theorem orphQ_of {id : Int} {segs : List Int} {k i g : Int} {t C : Bool} (hC : segs.contains g = C) : orphQ id segs ⟨k, i, g, t⟩ = (!((k == 0) || (k == 4) || !(i == id)) && (t || !(if ((k == 2) && ((k == 3) || C)) = true then !(g == lastI segs) else ((k == 3) || C)))) := by
  subst hC
  rfl
set_option maxHeartbeats 40000000 in
set_option maxRecDepth 100000 in
theorem rorphOf (v vs vp : Value) (ss : List ByteArray) (m : Mf) (w : World) (h : TxAt w v ss) (hs : IntsAt w vs m.segs) (hP : RParseIs) :
    Calls Tryd.prog 18 #[v, m.agg vs vp] w fun e w' => NewTx w e w' (thoseL (orphQ m.id m.segs) ss) := by
  obtain ⟨w0, hw0⟩ : ∃ w0, w.alloc (m.obj vs vp) = w0 := ⟨_, rfl⟩
  have hb0 : Below w.heap.size w w0 := by rw [← hw0]; exact (Below.refl _ _).alloc (Nat.le_refl _) _
  have HB0 : Hid (Below w.heap.size w w0) := hb0
  obtain ⟨m0, _, _, _, _, m5, _⟩ := mobj_cells w m vs vp hw0
  have HM : Hid (∀ u, Below w0.heap.size w0 u → u.cell? ⟨w.heap.size, 0, none⟩ = some (.int .i64 m.id) ∧ u.cell? ⟨w.heap.size, 5, none⟩ = some vs ∧ IntsAt u vs m.segs) := fun u hu =>
    ⟨(hu.cell (p := ⟨w.heap.size, 0, none⟩) (cell_lt m0)).trans m0, (hu.cell (p := ⟨w.heap.size, 5, none⟩) (cell_lt m5)).trans m5, hs.later (below_step hb0 hu)⟩
  obtain ⟨a, cap, rfl, hcap, hl, hok, hcells⟩ := h
  have HC : Hid (∀ u k, Below w.heap.size w u → k < ss.length → ∃ b off, a = some ⟨b, off, none⟩ ∧ u.cell? ⟨b, off + k, none⟩ = some (.string (ss.getD k ⟨#[]⟩)) ∧ (ss.getD k ⟨#[]⟩).size ≤ 281474976710656 ∧ ss[k]? = some (ss.getD k ⟨#[]⟩)) := fun u k hu hm => by
    obtain ⟨b, off, e, hc⟩ := hcells (by intro e; rw [e] at hm; simp at hm)
    exact ⟨b, off, e, (hu.cell (p := ⟨b, off + k, none⟩) (cell_lt (hc k hm))).trans (hc k hm), hok _ (by simp [hm]), by simp [hm]⟩
  have HP : Hid RParseIs := hP
  obtain ⟨sa, sc, rfl, hscap, hsl, hsok, hscells⟩ := hs
  have HSC : Hid (m.segs ≠ [] → ∃ b off, sa = some ⟨b, off, none⟩ ∧ ∀ u, Below w.heap.size w u → u.cell? ⟨b, off + (m.segs.length - 1), none⟩ = some (.int .i64 (lastI m.segs))) := fun hne => by
    obtain ⟨b, off, e, hc⟩ := hscells hne
    have hp : 0 < m.segs.length := List.length_pos_iff.mpr hne
    have h1 := hc (m.segs.length - 1) (by omega)
    exact ⟨b, off, e, fun u hu => (hu.cell (p := ⟨b, off + (m.segs.length - 1), none⟩) (cell_lt h1)).trans h1⟩
  clear hcells hok hP hb0 hsok hscells m0 m5
  go_enter Tryd.func18, Tryd.ntmps18
  go_wp2
  go_loopw [5, 6] (fun l i wr => ∃ (k : Nat) (r : Option Nat), k ≤ ss.length ∧ i = .int .i64 k ∧ Hid (OwnV wr l (txs (thoseL (orphQ m.id m.segs) (ss.take k))) r) ∧ Hid (∀ g, r = some g → w.heap.size + 1 ≤ g) ∧ Hid (Below w0.heap.size w0 wr)) (fun _ i _ => ss.length - (intOf i).toNat)
  case atStart => exact ⟨0, none, by omega, rfl, by simpa [thoseL, txs, Hid] using OwnV.nil _, by simp [Hid], Below.refl _ _⟩
  case round =>
    obtain ⟨k, r, hk, rfl, HO, HG, HBW⟩ := hrel
    by_cases hlt : k < ss.length
    · obtain ⟨b, off, rfl, hc, hsz, hsk⟩ := HC.out wr k (below_step HB0.out HBW.out) hlt
      have HT : Hid (thoseL (orphQ m.id m.segs) (ss.take (k + 1)) = if orphQ m.id m.segs (parseL (ss.getD k ⟨#[]⟩).data.toList) = true then thoseL (orphQ m.id m.segs) (ss.take k) ++ [ss.getD k ⟨#[]⟩] else thoseL (orphQ m.id m.segs) (ss.take k)) := thoseL_step _ ss k _ hsk
      have HLN : Hid ((thoseL (orphQ m.id m.segs) (ss.take k)).length ≤ ss.length) := Nat.le_trans (thoseL_len _ _) (by simp; omega)
      generalize ss.getD k ⟨#[]⟩ = s at hc hsz HT
      have hki : (k : Int) < (ss.length : Int) := by omega
      have HPS : Hid (Calls Tryd.prog 8 #[.string s] wr fun e w' => e = .returned (fnV (parseL s.data.toList)) ∧ Below wr.heap.size wr w') := HP.out wr s hsz
      have hpn := parse_pn s.data.toList
      generalize parseL s.data.toList = n at HPS HT hpn
      generalize thoseL (orphQ m.id m.segs) (ss.take k) = L at HO HT HLN
      clear hsk hsz
      obtain ⟨nk, ni, ng, nt⟩ := n
      have hpk := hpn.k
      clear hpn
      simp only at hpk
      simp only [fnV] at HPS
      go_wp2_with fail
      refine HPS.out.mono ?_
      rintro e w1 ⟨rfl, hb1⟩
      have hz0 : w0.heap.size = w.heap.size + 1 := by rw [← hw0]; simp
      obtain ⟨w2, hw2⟩ : ∃ w2, w1.alloc (.cells #[.int .i64 nk, .int .i64 ni, .int .i64 ng, .bool nt] 23) = w2 := ⟨_, rfl⟩
      have hb2 : Below wr.heap.size wr w2 := by rw [← hw2]; exact below_step hb1 ((Below.refl _ _).alloc (Nat.le_refl _) _)
      have q0 : w2.cell? ⟨w1.heap.size, 0, none⟩ = some (.int .i64 nk) := by rw [← hw2]; exact World.cell?_alloc_at _ _ _ _ rfl
      have q1 : w2.cell? ⟨w1.heap.size, 1, none⟩ = some (.int .i64 ni) := by rw [← hw2]; exact World.cell?_alloc_at _ _ _ _ rfl
      have q2 : w2.cell? ⟨w1.heap.size, 2, none⟩ = some (.int .i64 ng) := by rw [← hw2]; exact World.cell?_alloc_at _ _ _ _ rfl
      have q3 : w2.cell? ⟨w1.heap.size, 3, none⟩ = some (.bool nt) := by rw [← hw2]; exact World.cell?_alloc_at _ _ _ _ rfl
      have HBW2 : Hid (Below w0.heap.size w0 w2) := below_step HBW.out hb2
      obtain ⟨d0, d5, dS⟩ := HM.out w2 HBW2.out
      have HSEG : Hid (IntsAt w2 (.slice sa m.segs.length sc) m.segs) := dS
      have hc2 : w2.cell? ⟨b, off + k, none⟩ = some (.string s) := (hb2.cell (p := ⟨b, off + k, none⟩) (cell_lt hc)).trans hc
      have HO2 : Hid (OwnV w2 _ (txs L) r) := HO.out.of_block hb2.size (fun g e => hb2.block g (by subst e; exact HO.out.lt))
      have HLC : Hid (m.segs ≠ [] → ∃ b off, sa = some ⟨b, off, none⟩ ∧ w2.cell? ⟨b, off + (m.segs.length - 1), none⟩ = some (.int .i64 (lastI m.segs))) := fun hne => by
        obtain ⟨b, off, e, hc⟩ := HSC.out hne
        exact ⟨b, off, e, hc w2 (below_step HB0.out HBW2.out)⟩
      have HBn : Hid (∀ u : World, (∃ n, u = w2.drewN n) → Below w0.heap.size w0 u) := fun u ⟨n, hu⟩ => by subst hu; exact ⟨HBW2.out.os, HBW2.out.tape, HBW2.out.output, HBW2.out.size, HBW2.out.block⟩
      have HOn : Hid (∀ u : World, (∃ n, u = w2.drewN n) → OwnV u _ (txs L) r) := fun u ⟨n, hu⟩ => by subst hu; exact HO2.out.of_block (Nat.le_refl _) (fun _ _ => rfl)
      have HFIN : Hid (∀ u : World, (∃ n, u = w2.drewN n) → ∀ v3 w3 g3, OwnV w3 v3 (txs L ++ [.string s]) (some g3) → (u.alloc (.cells #[.string s] 9)).grownBy w3 r → (some g3 = r ∨ g3 = u.heap.size + 1) → OwnV w3 v3 (txs (L ++ [s])) (some g3) ∧ (∀ g, some g3 = some g → w.heap.size + 1 ≤ g) ∧ Below w0.heap.size w0 w3) := fun u hu v3 w3 g3 ho3 hg3 hr3 => by
        have hbu := HBn.out u hu
        have h4 := hbu.alloc hbu.size (.cells #[.string s] 9)
        refine ⟨by rw [txs_snoc]; exact ho3, fun g e => ?_, h4.grown hg3 h4.size (fun g e => by have := HG.out g e; omega)⟩
        injection e with e
        subst e
        rcases hr3 with e | e
        · exact HG.out _ e.symm
        · have h2 := hbu.size
          rw [e]
          omega
      clear hb1 hb2 hc dS HO HM HSC HC HPS HP
      go_upto_region 6 with fail
      by_cases h0 : nk = 0
      · subst h0
        have HT1 : Hid (thoseL (orphQ m.id m.segs) (ss.take (k + 1)) = L) := by rw [Hid, HT.out, if_neg (by rw [orphQ_of rfl]; simp)]
        clear HT
        skip
        go_wp2
        go_roundw
        case rel => exact ⟨k + 1, r, by omega, by go_num, by rw [Hid, HT1.out]; exact HOn.out w2 ⟨0, rfl⟩, HG.out, HBn.out w2 ⟨0, rfl⟩⟩
        case measure => simp [intOf]; omega
      · by_cases h4 : nk = 4
        · subst h4
          have HT1 : Hid (thoseL (orphQ m.id m.segs) (ss.take (k + 1)) = L) := by rw [Hid, HT.out, if_neg (by rw [orphQ_of rfl]; simp)]
          clear HT
          skip
          go_wp2
          go_roundw
          case rel => exact ⟨k + 1, r, by omega, by go_num, by rw [Hid, HT1.out]; exact HOn.out w2 ⟨0, rfl⟩, HG.out, HBn.out w2 ⟨0, rfl⟩⟩
          case measure => simp [intOf]; omega
        · have h0' : (nk == 0) = false := by simpa using h0
          have h4' : (nk == 4) = false := by simpa using h4
          by_cases hi : ni = m.id
          · subst hi
            cases hC : m.segs.contains ng with
            | true =>
              have hne : m.segs ≠ [] := by rintro e; rw [e] at hC; simp at hC
              obtain ⟨b2, off2, rfl, hlc⟩ := HLC.out hne
              obtain ⟨q, hq⟩ : ∃ q, m.segs.length = q + 1 := ⟨m.segs.length - 1, by have := List.length_pos_iff.mpr hne; omega⟩
              have hlc2 : w2.cell? ⟨b2, off2 + q, none⟩ = some (.int .i64 (lastI m.segs)) := by rw [hq] at hlc; exact hlc
              have HHQ : Hid (m.segs.length = q + 1) := hq
              have hqb : q < 17592186044416 := by omega
              rw [hq] at d5 HSEG
              clear hlc HLC hq hsl hscap hne
              generalize hla : lastI m.segs = la at hlc2
              have HLA : Hid (lastI m.segs = la) := hla
              clear hla
              rcases hpk with e | rfl | rfl | rfl | e
              · exact absurd e h0
              · cases nt
                · have HT1 : Hid (thoseL (orphQ m.id m.segs) (ss.take (k + 1)) = L) := by rw [Hid, HT.out, if_neg (by rw [orphQ_of hC]; simp)]
                  clear HT
                  go_wp2_with fail
                  refine (inROf _ _ ng _ HSEG.out).mono ?_
                  rintro e w3 ⟨rfl, hw3⟩
                  obtain rfl : w2 = w3 := hw3.symm
                  rw [hC]
                  go_wp2
                  go_roundw
                  case rel => exact ⟨k + 1, r, by omega, by go_num, by rw [Hid, HT1.out]; exact HOn.out w2 ⟨0, rfl⟩, HG.out, HBn.out w2 ⟨0, rfl⟩⟩
                  case measure => simp [intOf]; omega
                · have HT1 : Hid (thoseL (orphQ m.id m.segs) (ss.take (k + 1)) = L ++ [s]) := by rw [Hid, HT.out, if_pos (by rw [orphQ_of hC]; simp)]
                  clear HT
                  go_wp2_with fail
                  refine (inROf _ _ ng _ HSEG.out).mono ?_
                  rintro e w3 ⟨rfl, hw3⟩
                  obtain rfl : w2 = w3 := hw3.symm
                  rw [hC]
                  go_wp2_with (at_builtin; refine wpList_append_txs _ rfl _ _ rfl _ _ (txs L) [.string s] r rfl rfl ?hOwn ?hSrc ?hLen ?hR ?_)
                  case hOwn => exact (HOn.out w2 ⟨0, rfl⟩).kept (World.grownBy_alloc _ _ none) (by cases r <;> simp)
                  case hSrc => first | exact srcTx _ _ | exact srcTx (w2.drewN _) _
                  case hLen => rw [txs_len]; have := HLN.out; simp; omega
                  case hR => exact .inr (by simp)
                  intro v3 w3 g3 ho3 hg3 hr3
                  have HE : Hid (OwnV w3 v3 (txs (L ++ [s])) (some g3) ∧ (∀ g, some g3 = some g → w.heap.size + 1 ≤ g) ∧ Below w0.heap.size w0 w3) := HFIN.out w2 ⟨0, rfl⟩ v3 w3 g3 ho3 hg3 hr3
                  clear ho3 hg3 hr3
                  go_wp2
                  go_roundw
                  case rel => exact ⟨k + 1, some g3, by omega, by go_num, by rw [Hid, HT1.out]; exact HE.out.1, HE.out.2.1, HE.out.2.2⟩
                  case measure => simp [intOf]; omega
              · by_cases hg : ng = la
                · have hgl : (ng == lastI m.segs) = true := by rw [HLA.out]; simpa using hg
                  subst hg
                  cases nt
                  · have HT1 : Hid (thoseL (orphQ m.id m.segs) (ss.take (k + 1)) = L ++ [s]) := by rw [Hid, HT.out, if_pos (by rw [orphQ_of hC, hgl]; simp)]
                    clear HT
                    go_wp2_with fail
                    refine (inROf _ _ ng _ HSEG.out).mono ?_
                    rintro e w3 ⟨rfl, hw3⟩
                    obtain rfl : w2 = w3 := hw3.symm
                    rw [hC]
                    go_wp2
                    go_quiet (fail)
                    go_wp2_with (at_builtin; refine wpList_append_txs _ rfl _ _ rfl _ _ (txs L) [.string s] r rfl rfl ?hOwn ?hSrc ?hLen ?hR ?_)
                    case hOwn => exact (HOn.out _ ⟨_, rfl⟩).kept (World.grownBy_alloc _ _ none) (by cases r <;> simp)
                    case hSrc => first | exact srcTx _ _ | exact srcTx (w2.drewN _) _
                    case hLen => rw [txs_len]; have := HLN.out; simp; omega
                    case hR => exact .inr (by simp)
                    intro v3 w3 g3 ho3 hg3 hr3
                    have HE : Hid (OwnV w3 v3 (txs (L ++ [s])) (some g3) ∧ (∀ g, some g3 = some g → w.heap.size + 1 ≤ g) ∧ Below w0.heap.size w0 w3) := HFIN.out _ ⟨_, rfl⟩ v3 w3 g3 ho3 hg3 hr3
                    clear ho3 hg3 hr3
                    go_wp2
                    go_roundw
                    case rel => exact ⟨k + 1, some g3, by omega, by go_num, by rw [Hid, HT1.out]; exact HE.out.1, HE.out.2.1, HE.out.2.2⟩
                    case measure => simp [intOf]; omega
                  · have HT1 : Hid (thoseL (orphQ m.id m.segs) (ss.take (k + 1)) = L ++ [s]) := by rw [Hid, HT.out, if_pos (by rw [orphQ_of hC, hgl]; simp)]
                    clear HT
                    go_wp2_with fail
                    refine (inROf _ _ ng _ HSEG.out).mono ?_
                    rintro e w3 ⟨rfl, hw3⟩
                    obtain rfl : w2 = w3 := hw3.symm
                    rw [hC]
                    go_wp2
                    go_quiet (fail)
                    go_wp2_with (at_builtin; refine wpList_append_txs _ rfl _ _ rfl _ _ (txs L) [.string s] r rfl rfl ?hOwn ?hSrc ?hLen ?hR ?_)
                    case hOwn => exact (HOn.out _ ⟨_, rfl⟩).kept (World.grownBy_alloc _ _ none) (by cases r <;> simp)
                    case hSrc => first | exact srcTx _ _ | exact srcTx (w2.drewN _) _
                    case hLen => rw [txs_len]; have := HLN.out; simp; omega
                    case hR => exact .inr (by simp)
                    intro v3 w3 g3 ho3 hg3 hr3
                    have HE : Hid (OwnV w3 v3 (txs (L ++ [s])) (some g3) ∧ (∀ g, some g3 = some g → w.heap.size + 1 ≤ g) ∧ Below w0.heap.size w0 w3) := HFIN.out _ ⟨_, rfl⟩ v3 w3 g3 ho3 hg3 hr3
                    clear ho3 hg3 hr3
                    go_wp2
                    go_roundw
                    case rel => exact ⟨k + 1, some g3, by omega, by go_num, by rw [Hid, HT1.out]; exact HE.out.1, HE.out.2.1, HE.out.2.2⟩
                    case measure => simp [intOf]; omega
                · have hgl : (ng == lastI m.segs) = false := by rw [HLA.out]; simpa using hg
                  have hgn : (ng != la) = true := by simpa using hg
                  cases nt
                  · have HT1 : Hid (thoseL (orphQ m.id m.segs) (ss.take (k + 1)) = L) := by rw [Hid, HT.out, if_neg (by rw [orphQ_of hC, hgl]; simp)]
                    clear HT
                    go_wp2_with fail
                    refine (inROf _ _ ng _ HSEG.out).mono ?_
                    rintro e w3 ⟨rfl, hw3⟩
                    obtain rfl : w2 = w3 := hw3.symm
                    rw [hC]
                    go_wp2
                    go_quiet (fail)
                    go_wp2
                    go_roundw
                    case rel => exact ⟨k + 1, r, by omega, by go_num, by rw [Hid, HT1.out]; exact HOn.out _ ⟨_, rfl⟩, HG.out, HBn.out _ ⟨_, rfl⟩⟩
                    case measure => simp [intOf]; omega
                  · have HT1 : Hid (thoseL (orphQ m.id m.segs) (ss.take (k + 1)) = L ++ [s]) := by rw [Hid, HT.out, if_pos (by rw [orphQ_of hC, hgl]; simp)]
                    clear HT
                    go_wp2_with fail
                    refine (inROf _ _ ng _ HSEG.out).mono ?_
                    rintro e w3 ⟨rfl, hw3⟩
                    obtain rfl : w2 = w3 := hw3.symm
                    rw [hC]
                    go_wp2
                    go_quiet (fail)
                    go_wp2_with (at_builtin; refine wpList_append_txs _ rfl _ _ rfl _ _ (txs L) [.string s] r rfl rfl ?hOwn ?hSrc ?hLen ?hR ?_)
                    case hOwn => exact (HOn.out _ ⟨_, rfl⟩).kept (World.grownBy_alloc _ _ none) (by cases r <;> simp)
                    case hSrc => first | exact srcTx _ _ | exact srcTx (w2.drewN _) _
                    case hLen => rw [txs_len]; have := HLN.out; simp; omega
                    case hR => exact .inr (by simp)
                    intro v3 w3 g3 ho3 hg3 hr3
                    have HE : Hid (OwnV w3 v3 (txs (L ++ [s])) (some g3) ∧ (∀ g, some g3 = some g → w.heap.size + 1 ≤ g) ∧ Below w0.heap.size w0 w3) := HFIN.out _ ⟨_, rfl⟩ v3 w3 g3 ho3 hg3 hr3
                    clear ho3 hg3 hr3
                    go_wp2
                    go_roundw
                    case rel => exact ⟨k + 1, some g3, by omega, by go_num, by rw [Hid, HT1.out]; exact HE.out.1, HE.out.2.1, HE.out.2.2⟩
                    case measure => simp [intOf]; omega
              · cases nt
                · have HT1 : Hid (thoseL (orphQ m.id m.segs) (ss.take (k + 1)) = L) := by rw [Hid, HT.out, if_neg (by rw [orphQ_of hC]; simp)]
                  clear HT
                  skip
                  go_wp2
                  go_roundw
                  case rel => exact ⟨k + 1, r, by omega, by go_num, by rw [Hid, HT1.out]; exact HOn.out w2 ⟨0, rfl⟩, HG.out, HBn.out w2 ⟨0, rfl⟩⟩
                  case measure => simp [intOf]; omega
                · have HT1 : Hid (thoseL (orphQ m.id m.segs) (ss.take (k + 1)) = L ++ [s]) := by rw [Hid, HT.out, if_pos (by rw [orphQ_of hC]; simp)]
                  clear HT
                  skip
                  go_wp2_with (at_builtin; refine wpList_append_txs _ rfl _ _ rfl _ _ (txs L) [.string s] r rfl rfl ?hOwn ?hSrc ?hLen ?hR ?_)
                  case hOwn => exact (HOn.out w2 ⟨0, rfl⟩).kept (World.grownBy_alloc _ _ none) (by cases r <;> simp)
                  case hSrc => first | exact srcTx _ _ | exact srcTx (w2.drewN _) _
                  case hLen => rw [txs_len]; have := HLN.out; simp; omega
                  case hR => exact .inr (by simp)
                  intro v3 w3 g3 ho3 hg3 hr3
                  have HE : Hid (OwnV w3 v3 (txs (L ++ [s])) (some g3) ∧ (∀ g, some g3 = some g → w.heap.size + 1 ≤ g) ∧ Below w0.heap.size w0 w3) := HFIN.out w2 ⟨0, rfl⟩ v3 w3 g3 ho3 hg3 hr3
                  clear ho3 hg3 hr3
                  go_wp2
                  go_roundw
                  case rel => exact ⟨k + 1, some g3, by omega, by go_num, by rw [Hid, HT1.out]; exact HE.out.1, HE.out.2.1, HE.out.2.2⟩
                  case measure => simp [intOf]; omega
              · exact absurd e h4
            | false =>
              clear HLC
              rcases hpk with e | rfl | rfl | rfl | e
              · exact absurd e h0
              · cases nt
                · have HT1 : Hid (thoseL (orphQ m.id m.segs) (ss.take (k + 1)) = L ++ [s]) := by rw [Hid, HT.out, if_pos (by rw [orphQ_of hC]; simp)]
                  clear HT
                  go_wp2_with fail
                  refine (inROf _ _ ng _ HSEG.out).mono ?_
                  rintro e w3 ⟨rfl, hw3⟩
                  obtain rfl : w2 = w3 := hw3.symm
                  rw [hC]
                  go_wp2_with (at_builtin; refine wpList_append_txs _ rfl _ _ rfl _ _ (txs L) [.string s] r rfl rfl ?hOwn ?hSrc ?hLen ?hR ?_)
                  case hOwn => exact (HOn.out w2 ⟨0, rfl⟩).kept (World.grownBy_alloc _ _ none) (by cases r <;> simp)
                  case hSrc => first | exact srcTx _ _ | exact srcTx (w2.drewN _) _
                  case hLen => rw [txs_len]; have := HLN.out; simp; omega
                  case hR => exact .inr (by simp)
                  intro v3 w3 g3 ho3 hg3 hr3
                  have HE : Hid (OwnV w3 v3 (txs (L ++ [s])) (some g3) ∧ (∀ g, some g3 = some g → w.heap.size + 1 ≤ g) ∧ Below w0.heap.size w0 w3) := HFIN.out w2 ⟨0, rfl⟩ v3 w3 g3 ho3 hg3 hr3
                  clear ho3 hg3 hr3
                  go_wp2
                  go_roundw
                  case rel => exact ⟨k + 1, some g3, by omega, by go_num, by rw [Hid, HT1.out]; exact HE.out.1, HE.out.2.1, HE.out.2.2⟩
                  case measure => simp [intOf]; omega
                · have HT1 : Hid (thoseL (orphQ m.id m.segs) (ss.take (k + 1)) = L ++ [s]) := by rw [Hid, HT.out, if_pos (by rw [orphQ_of hC]; simp)]
                  clear HT
                  go_wp2_with fail
                  refine (inROf _ _ ng _ HSEG.out).mono ?_
                  rintro e w3 ⟨rfl, hw3⟩
                  obtain rfl : w2 = w3 := hw3.symm
                  rw [hC]
                  go_wp2_with (at_builtin; refine wpList_append_txs _ rfl _ _ rfl _ _ (txs L) [.string s] r rfl rfl ?hOwn ?hSrc ?hLen ?hR ?_)
                  case hOwn => exact (HOn.out w2 ⟨0, rfl⟩).kept (World.grownBy_alloc _ _ none) (by cases r <;> simp)
                  case hSrc => first | exact srcTx _ _ | exact srcTx (w2.drewN _) _
                  case hLen => rw [txs_len]; have := HLN.out; simp; omega
                  case hR => exact .inr (by simp)
                  intro v3 w3 g3 ho3 hg3 hr3
                  have HE : Hid (OwnV w3 v3 (txs (L ++ [s])) (some g3) ∧ (∀ g, some g3 = some g → w.heap.size + 1 ≤ g) ∧ Below w0.heap.size w0 w3) := HFIN.out w2 ⟨0, rfl⟩ v3 w3 g3 ho3 hg3 hr3
                  clear ho3 hg3 hr3
                  go_wp2
                  go_roundw
                  case rel => exact ⟨k + 1, some g3, by omega, by go_num, by rw [Hid, HT1.out]; exact HE.out.1, HE.out.2.1, HE.out.2.2⟩
                  case measure => simp [intOf]; omega
              · cases nt
                · have HT1 : Hid (thoseL (orphQ m.id m.segs) (ss.take (k + 1)) = L ++ [s]) := by rw [Hid, HT.out, if_pos (by rw [orphQ_of hC]; simp)]
                  clear HT
                  go_wp2_with fail
                  refine (inROf _ _ ng _ HSEG.out).mono ?_
                  rintro e w3 ⟨rfl, hw3⟩
                  obtain rfl : w2 = w3 := hw3.symm
                  rw [hC]
                  go_wp2_with (at_builtin; refine wpList_append_txs _ rfl _ _ rfl _ _ (txs L) [.string s] r rfl rfl ?hOwn ?hSrc ?hLen ?hR ?_)
                  case hOwn => exact (HOn.out w2 ⟨0, rfl⟩).kept (World.grownBy_alloc _ _ none) (by cases r <;> simp)
                  case hSrc => first | exact srcTx _ _ | exact srcTx (w2.drewN _) _
                  case hLen => rw [txs_len]; have := HLN.out; simp; omega
                  case hR => exact .inr (by simp)
                  intro v3 w3 g3 ho3 hg3 hr3
                  have HE : Hid (OwnV w3 v3 (txs (L ++ [s])) (some g3) ∧ (∀ g, some g3 = some g → w.heap.size + 1 ≤ g) ∧ Below w0.heap.size w0 w3) := HFIN.out w2 ⟨0, rfl⟩ v3 w3 g3 ho3 hg3 hr3
                  clear ho3 hg3 hr3
                  go_wp2
                  go_roundw
                  case rel => exact ⟨k + 1, some g3, by omega, by go_num, by rw [Hid, HT1.out]; exact HE.out.1, HE.out.2.1, HE.out.2.2⟩
                  case measure => simp [intOf]; omega
                · have HT1 : Hid (thoseL (orphQ m.id m.segs) (ss.take (k + 1)) = L ++ [s]) := by rw [Hid, HT.out, if_pos (by rw [orphQ_of hC]; simp)]
                  clear HT
                  go_wp2_with fail
                  refine (inROf _ _ ng _ HSEG.out).mono ?_
                  rintro e w3 ⟨rfl, hw3⟩
                  obtain rfl : w2 = w3 := hw3.symm
                  rw [hC]
                  go_wp2_with (at_builtin; refine wpList_append_txs _ rfl _ _ rfl _ _ (txs L) [.string s] r rfl rfl ?hOwn ?hSrc ?hLen ?hR ?_)
                  case hOwn => exact (HOn.out w2 ⟨0, rfl⟩).kept (World.grownBy_alloc _ _ none) (by cases r <;> simp)
                  case hSrc => first | exact srcTx _ _ | exact srcTx (w2.drewN _) _
                  case hLen => rw [txs_len]; have := HLN.out; simp; omega
                  case hR => exact .inr (by simp)
                  intro v3 w3 g3 ho3 hg3 hr3
                  have HE : Hid (OwnV w3 v3 (txs (L ++ [s])) (some g3) ∧ (∀ g, some g3 = some g → w.heap.size + 1 ≤ g) ∧ Below w0.heap.size w0 w3) := HFIN.out w2 ⟨0, rfl⟩ v3 w3 g3 ho3 hg3 hr3
                  clear ho3 hg3 hr3
                  go_wp2
                  go_roundw
                  case rel => exact ⟨k + 1, some g3, by omega, by go_num, by rw [Hid, HT1.out]; exact HE.out.1, HE.out.2.1, HE.out.2.2⟩
                  case measure => simp [intOf]; omega
              · cases nt
                · have HT1 : Hid (thoseL (orphQ m.id m.segs) (ss.take (k + 1)) = L) := by rw [Hid, HT.out, if_neg (by rw [orphQ_of hC]; simp)]
                  clear HT
                  skip
                  go_wp2
                  go_roundw
                  case rel => exact ⟨k + 1, r, by omega, by go_num, by rw [Hid, HT1.out]; exact HOn.out w2 ⟨0, rfl⟩, HG.out, HBn.out w2 ⟨0, rfl⟩⟩
                  case measure => simp [intOf]; omega
                · have HT1 : Hid (thoseL (orphQ m.id m.segs) (ss.take (k + 1)) = L ++ [s]) := by rw [Hid, HT.out, if_pos (by rw [orphQ_of hC]; simp)]
                  clear HT
                  skip
                  go_wp2_with (at_builtin; refine wpList_append_txs _ rfl _ _ rfl _ _ (txs L) [.string s] r rfl rfl ?hOwn ?hSrc ?hLen ?hR ?_)
                  case hOwn => exact (HOn.out w2 ⟨0, rfl⟩).kept (World.grownBy_alloc _ _ none) (by cases r <;> simp)
                  case hSrc => first | exact srcTx _ _ | exact srcTx (w2.drewN _) _
                  case hLen => rw [txs_len]; have := HLN.out; simp; omega
                  case hR => exact .inr (by simp)
                  intro v3 w3 g3 ho3 hg3 hr3
                  have HE : Hid (OwnV w3 v3 (txs (L ++ [s])) (some g3) ∧ (∀ g, some g3 = some g → w.heap.size + 1 ≤ g) ∧ Below w0.heap.size w0 w3) := HFIN.out w2 ⟨0, rfl⟩ v3 w3 g3 ho3 hg3 hr3
                  clear ho3 hg3 hr3
                  go_wp2
                  go_roundw
                  case rel => exact ⟨k + 1, some g3, by omega, by go_num, by rw [Hid, HT1.out]; exact HE.out.1, HE.out.2.1, HE.out.2.2⟩
                  case measure => simp [intOf]; omega
              · exact absurd e h4
          · have hi' : (ni == m.id) = false := by simpa using hi
            have HT1 : Hid (thoseL (orphQ m.id m.segs) (ss.take (k + 1)) = L) := by rw [Hid, HT.out, if_neg (by rw [orphQ_of rfl, hi']; simp)]
            clear HT
            skip
            go_wp2
            go_roundw
            case rel => exact ⟨k + 1, r, by omega, by go_num, by rw [Hid, HT1.out]; exact HOn.out w2 ⟨0, rfl⟩, HG.out, HBn.out w2 ⟨0, rfl⟩⟩
            case measure => simp [intOf]; omega
    · obtain rfl : k = ss.length := by omega
      rw [List.take_length] at HO
      have HF : Hid ((∀ g, r = some g → w.heap.size ≤ g) ∧ Below w.heap.size w wr) := ⟨fun g e => by have := HG.out g e; omega, below_step HB0.out HBW.out⟩
      go_wp2
      go_ret
      exact ⟨_, r, rfl, HO.out, HF.out.1, HF.out.2⟩
end Go.Proofs.YteekmmgopnnioaaDoor

/-! manifest: the document's Strangers. -/
namespace Go.Proofs.YteekmmgopnnioaaDoor
open Go.RowKit Go.Maps Plain
open Mn (FN parseL ofT lastI leftP orphP strP orphQ strQ namedQ namedR knownQ thoseL thoseL_step thoseL_len parse_pn)
set_option linter.unusedVariables false
set_option linter.unusedSimpArgs false

theorem strQ_of {ids : List Int} {k i g : Int} {t C : Bool} (hC : ((i == 0) || ids.contains i) = C) : strQ ids ⟨k, i, g, t⟩ = ((((k == 1) || (k == 2) || (k == 3)) && !C) || ((k == 4) && t)) := by
  subst hC
  simp only [strQ, ofT, knownQ, Bool.or_assoc]
theorem contains_snoc (xs : List Int) (a b : Int) : (xs ++ [a]).contains b = (xs.contains b || (a == b)) := by
  rw [Bool.eq_iff_iff]
  simp only [List.contains_eq_mem, List.mem_append, List.mem_singleton, Bool.or_eq_true, decide_eq_true_eq, beq_iff_eq]
  exact ⟨fun h => h.imp id Eq.symm, fun h => h.imp id Eq.symm⟩
theorem idsTakeJ {l : List Te} {k : Nat} (hk : k < l.length) : ((l.take (k + 1)).map (·.id)) = (l.take k).map (·.id) ++ [(l.getD k Te.zero).id] := by
  rw [List.take_succ_eq_append_getElem hk, List.map_append]
  congr 1
  simp [hk]
set_option maxHeartbeats 20000000 in
set_option maxRecDepth 100000 in
theorem rstrsOf (v vt : Value) (ss : List ByteArray) (c : Ct) (w : World) (h : TxAt w v ss) (hs : TesAt w vt c.tops) (hP : RParseIs) :
    Calls Tryd.prog 19 #[v, c.agg vt] w fun e w' => NewTx w e w' (thoseL (strQ (c.tops.map (·.id))) ss) := by
  obtain ⟨nid, l⟩ := c
  simp only at hs ⊢
  obtain ⟨w0, hw0⟩ : ∃ w0, w.alloc (.cells #[.int .i64 nid, vt] 34) = w0 := ⟨_, rfl⟩
  have hb0 : Below w.heap.size w w0 := by rw [← hw0]; exact (Below.refl _ _).alloc (Nat.le_refl _) _
  have HB0 : Hid (Below w.heap.size w w0) := hb0
  have m1 : w0.cell? ⟨w.heap.size, 1, none⟩ = some vt := by rw [← hw0]; exact World.cell?_alloc_at _ _ _ _ rfl
  have hz0 : w0.heap.size = w.heap.size + 1 := by rw [← hw0]; simp
  obtain ⟨a', cap', rfl, hcl', hok', hcells'⟩ := hs
  have HM : Hid (∀ u, Below w0.heap.size w0 u → u.cell? ⟨w.heap.size, 1, none⟩ = some (.slice a' l.length cap')) := fun u hu => (hu.cell (p := ⟨w.heap.size, 1, none⟩) (cell_lt m1)).trans m1
  have HTE : Hid (∀ u k, Below w.heap.size w u → k < l.length → ∃ b off, a' = some ⟨b, off, none⟩ ∧ u.cell? ⟨b, off + k * 4, none⟩ = some (.int .i64 (l.getD k Te.zero).id)) := fun u k hu hk => by
    obtain ⟨b, off, e, hc⟩ := hcells' (by intro e; rw [e] at hk; simp at hk)
    exact ⟨b, off, e, ((hc k hk).block (hu.block _ (hc k hk).lt)).c0⟩
  obtain ⟨a, cap, rfl, hcap, hl, hok, hcells⟩ := h
  have HC : Hid (∀ u k, Below w.heap.size w u → k < ss.length → ∃ b off, a = some ⟨b, off, none⟩ ∧ u.cell? ⟨b, off + k, none⟩ = some (.string (ss.getD k ⟨#[]⟩)) ∧ (ss.getD k ⟨#[]⟩).size ≤ 281474976710656 ∧ ss[k]? = some (ss.getD k ⟨#[]⟩)) := fun u k hu hm => by
    obtain ⟨b, off, e, hc⟩ := hcells (by intro e; rw [e] at hm; simp at hm)
    exact ⟨b, off, e, (hu.cell (p := ⟨b, off + k, none⟩) (cell_lt (hc k hm))).trans (hc k hm), hok _ (by simp [hm]), by simp [hm]⟩
  have HP : Hid RParseIs := hP
  clear hcells hok hP hb0 hcells' hok' m1
  go_enter Tryd.func19, Tryd.ntmps19
  go_wp2
  go_loopw [5, 6] (fun lv i wr => ∃ (k : Nat) (r : Option Nat), k ≤ ss.length ∧ i = .int .i64 k ∧ Hid (OwnV wr lv (txs (thoseL (strQ (l.map (·.id))) (ss.take k))) r) ∧ Hid (∀ g, r = some g → w.heap.size + 1 ≤ g) ∧ Hid (Below w0.heap.size w0 wr)) (fun _ i _ => ss.length - (intOf i).toNat)
  case atStart => exact ⟨0, none, by omega, rfl, by simpa [thoseL, txs, Hid] using OwnV.nil _, by simp [Hid], Below.refl _ _⟩
  case round =>
    obtain ⟨k, r, hk, rfl, HO, HG, HBW⟩ := hrel
    by_cases hlt : k < ss.length
    · obtain ⟨b, off, rfl, hc, hsz, hsk⟩ := HC.out wr k (below_step HB0.out HBW.out) hlt
      have HT : Hid (thoseL (strQ (l.map (·.id))) (ss.take (k + 1)) = if strQ (l.map (·.id)) (parseL (ss.getD k ⟨#[]⟩).data.toList) = true then thoseL (strQ (l.map (·.id))) (ss.take k) ++ [ss.getD k ⟨#[]⟩] else thoseL (strQ (l.map (·.id))) (ss.take k)) := thoseL_step _ ss k _ hsk
      have HLN : Hid ((thoseL (strQ (l.map (·.id))) (ss.take k)).length ≤ ss.length) := Nat.le_trans (thoseL_len _ _) (by simp; omega)
      generalize ss.getD k ⟨#[]⟩ = s at hc hsz HT
      have hki : (k : Int) < (ss.length : Int) := by omega
      have HPS : Hid (Calls Tryd.prog 8 #[.string s] wr fun e w' => e = .returned (fnV (parseL s.data.toList)) ∧ Below wr.heap.size wr w') := HP.out wr s hsz
      have hpn := parse_pn s.data.toList
      generalize parseL s.data.toList = n at HPS HT hpn
      generalize thoseL (strQ (l.map (·.id))) (ss.take k) = L at HO HT HLN
      clear hsk hsz
      obtain ⟨nk, ni, ng, nt⟩ := n
      have hpk := hpn.k
      clear hpn
      simp only at hpk
      simp only [fnV] at HPS
      go_wp2_with fail
      refine HPS.out.mono ?_
      rintro e w1 ⟨rfl, hb1⟩
      obtain ⟨w2, hw2⟩ : ∃ w2, w1.alloc (.cells #[.int .i64 nk, .int .i64 ni, .int .i64 ng, .bool nt] 23) = w2 := ⟨_, rfl⟩
      have hb2 : Below wr.heap.size wr w2 := by rw [← hw2]; exact below_step hb1 ((Below.refl _ _).alloc (Nat.le_refl _) _)
      have q0 : w2.cell? ⟨w1.heap.size, 0, none⟩ = some (.int .i64 nk) := by rw [← hw2]; exact World.cell?_alloc_at _ _ _ _ rfl
      have q1 : w2.cell? ⟨w1.heap.size, 1, none⟩ = some (.int .i64 ni) := by rw [← hw2]; exact World.cell?_alloc_at _ _ _ _ rfl
      have q3 : w2.cell? ⟨w1.heap.size, 3, none⟩ = some (.bool nt) := by rw [← hw2]; exact World.cell?_alloc_at _ _ _ _ rfl
      have HBW2 : Hid (Below w0.heap.size w0 w2) := below_step HBW.out hb2
      have HNB : Hid (∀ u, Below w2.heap.size w2 u → u.cell? ⟨w1.heap.size, 0, none⟩ = some (.int .i64 nk) ∧ u.cell? ⟨w1.heap.size, 1, none⟩ = some (.int .i64 ni) ∧ u.cell? ⟨w1.heap.size, 3, none⟩ = some (.bool nt)) := fun u hu =>
        ⟨(hu.cell (p := ⟨w1.heap.size, 0, none⟩) (cell_lt q0)).trans q0, (hu.cell (p := ⟨w1.heap.size, 1, none⟩) (cell_lt q1)).trans q1, (hu.cell (p := ⟨w1.heap.size, 3, none⟩) (cell_lt q3)).trans q3⟩
      have HO2 : Hid (OwnV w2 _ (txs L) r) := HO.out.of_block hb2.size (fun g e => hb2.block g (by subst e; exact HO.out.lt))
      have HC2 : Hid (∀ u, Below w2.heap.size w2 u → u.cell? ⟨b, off + k, none⟩ = some (.string s)) := fun u hu => ((below_step hb2 hu).cell (p := ⟨b, off + k, none⟩) (cell_lt hc)).trans hc
      clear hb1 hb2 hc HO HC HPS HP q0 q3
      go_upto_region 7 with fail
      go_wp2
      go_loopw [8, 9] (fun kn i wx => ∃ j : Nat, j ≤ l.length ∧ i = .int .i64 j ∧ kn = .bool ((ni == 0) || (((l.take j).map (·.id)).contains ni)) ∧ Below w2.heap.size w2 wx) (fun _ i _ => l.length - (intOf i).toNat)
      case atStart => exact ⟨0, by omega, rfl, by simp, Below.refl _ _⟩
      case round =>
        obtain ⟨j, hj, rfl, rfl, hbx⟩ := hrel
        have HBX : Hid (Below w2.heap.size w2 wr) := hbx
        clear hbx
        obtain ⟨p0, p1, p3⟩ := HNB.out wr HBX.out
        have pm := HM.out wr (below_step HBW2.out HBX.out)
        by_cases hjl : j < l.length
        · obtain ⟨b2, off2, rfl, pc⟩ := HTE.out wr j (below_step HB0.out (below_step HBW2.out HBX.out)) hjl
          have HK : Hid (((ni == 0) || (((l.take (j + 1)).map (·.id)).contains ni)) = (((ni == 0) || (((l.take j).map (·.id)).contains ni)) || ((l.getD j Te.zero).id == ni))) := by
            unfold Hid
            rw [idsTakeJ hjl, contains_snoc, Bool.or_assoc]
          generalize ((ni == 0) || (((l.take j).map (·.id)).contains ni)) = K0 at HK ⊢
          generalize (l.getD j Te.zero).id = ti at pc HK
          cases K0 with
          | true =>
            have HK1 : Hid (((ni == 0) || (((l.take (j + 1)).map (·.id)).contains ni)) = true) := by unfold Hid; rw [HK.out]; rfl
            clear HK
            go_wp2
            go_quiet (fail)
            go_wp2
            go_roundw
            case rel => exact ⟨j + 1, by omega, by go_num, by rw [HK1.out], ⟨HBX.out.os, HBX.out.tape, HBX.out.output, HBX.out.size, HBX.out.block⟩⟩
            case measure => simp [intOf]; omega
          | false =>
            have HK1 : Hid (((ni == 0) || (((l.take (j + 1)).map (·.id)).contains ni)) = (ti == ni)) := by unfold Hid; rw [HK.out]; rfl
            clear HK
            go_wp2
            go_quiet (fail)
            go_wp2
            go_roundw
            case rel => exact ⟨j + 1, by omega, by go_num, by rw [HK1.out], ⟨HBX.out.os, HBX.out.tape, HBX.out.output, HBX.out.size, HBX.out.block⟩⟩
            case measure => simp [intOf]; omega
        · obtain rfl : j = l.length := by omega
          obtain ⟨K, hKK⟩ : ∃ K, ((ni == 0) || (((l.take l.length).map (·.id)).contains ni)) = K := ⟨_, rfl⟩
          have hK : ((ni == 0) || ((l.map (·.id)).contains ni)) = K := by rw [← hKK, List.take_length]
          rw [hKK]
          clear hKK
          have pcs := HC2.out wr HBX.out
          have HBn : Hid (∀ u : World, (∃ n, u = wr.drewN n) → Below w0.heap.size w0 u) := fun u ⟨n, hu⟩ => by
            have h9 := below_step HBW2.out HBX.out
            subst hu
            exact ⟨h9.os, h9.tape, h9.output, h9.size, h9.block⟩
          have HOn : Hid (∀ u : World, (∃ n, u = wr.drewN n) → OwnV u _ (txs L) r) := fun u ⟨n, hu⟩ => by
            have h9 := HO2.out.of_block HBX.out.size (fun g e => HBX.out.block g (by subst e; exact HO2.out.lt))
            subst hu
            exact h9.of_block (Nat.le_refl _) (fun _ _ => rfl)
          have HFIN : Hid (∀ u : World, (∃ n, u = wr.drewN n) → ∀ v3 w3 g3, OwnV w3 v3 (txs L ++ [.string s]) (some g3) → (u.alloc (.cells #[.string s] 9)).grownBy w3 r → (some g3 = r ∨ g3 = u.heap.size + 1) → OwnV w3 v3 (txs (L ++ [s])) (some g3) ∧ (∀ g, some g3 = some g → w.heap.size + 1 ≤ g) ∧ Below w0.heap.size w0 w3) := fun u hu v3 w3 g3 ho3 hg3 hr3 => by
            have hbu := HBn.out u hu
            have h4 := hbu.alloc hbu.size (.cells #[.string s] 9)
            refine ⟨by rw [txs_snoc]; exact ho3, fun g e => ?_, h4.grown hg3 h4.size (fun g e => by have := HG.out g e; omega)⟩
            injection e with e
            subst e
            rcases hr3 with e | e
            · exact HG.out _ e.symm
            · have h2 := hbu.size
              rw [e]
              omega
          clear HO2 HBW2 HC2 HNB HBX HTE HM hjl hj
          rcases hpk with rfl | rfl | rfl | rfl | rfl
          · have HT1 : Hid (thoseL (strQ (l.map (·.id))) (ss.take (k + 1)) = L) := by rw [Hid, HT.out, if_neg (by rw [strQ_of hK]; simp)]
            clear HT
            skip
            go_wp2
            go_roundw
            case rel => exact ⟨k + 1, r, by omega, by go_num, by rw [Hid, HT1.out]; exact HOn.out wr ⟨0, rfl⟩, HG.out, HBn.out wr ⟨0, rfl⟩⟩
            case measure => simp [intOf]; omega
          · cases K
            · have HT1 : Hid (thoseL (strQ (l.map (·.id))) (ss.take (k + 1)) = L ++ [s]) := by rw [Hid, HT.out, if_pos (by rw [strQ_of hK]; simp)]
              clear HT
              skip
              go_wp2_with (at_builtin; refine wpList_append_txs _ rfl _ _ rfl _ _ (txs L) [.string s] r rfl rfl ?hOwn ?hSrc ?hLen ?hR ?_)
              case hOwn => exact (HOn.out wr ⟨0, rfl⟩).kept (World.grownBy_alloc _ _ none) (by cases r <;> simp)
              case hSrc => first | exact srcTx _ _ | exact srcTx (w2.drewN _) _
              case hLen => rw [txs_len]; have := HLN.out; simp; omega
              case hR => exact .inr (by simp)
              intro v3 w3 g3 ho3 hg3 hr3
              have HE : Hid (OwnV w3 v3 (txs (L ++ [s])) (some g3) ∧ (∀ g, some g3 = some g → w.heap.size + 1 ≤ g) ∧ Below w0.heap.size w0 w3) := HFIN.out wr ⟨0, rfl⟩ v3 w3 g3 ho3 hg3 hr3
              clear ho3 hg3 hr3
              go_wp2
              go_roundw
              case rel => exact ⟨k + 1, some g3, by omega, by go_num, by rw [Hid, HT1.out]; exact HE.out.1, HE.out.2.1, HE.out.2.2⟩
              case measure => simp [intOf]; omega
            · have HT1 : Hid (thoseL (strQ (l.map (·.id))) (ss.take (k + 1)) = L) := by rw [Hid, HT.out, if_neg (by rw [strQ_of hK]; simp)]
              clear HT
              skip
              go_wp2
              go_roundw
              case rel => exact ⟨k + 1, r, by omega, by go_num, by rw [Hid, HT1.out]; exact HOn.out wr ⟨0, rfl⟩, HG.out, HBn.out wr ⟨0, rfl⟩⟩
              case measure => simp [intOf]; omega
          · cases K
            · have HT1 : Hid (thoseL (strQ (l.map (·.id))) (ss.take (k + 1)) = L ++ [s]) := by rw [Hid, HT.out, if_pos (by rw [strQ_of hK]; simp)]
              clear HT
              skip
              go_wp2_with (at_builtin; refine wpList_append_txs _ rfl _ _ rfl _ _ (txs L) [.string s] r rfl rfl ?hOwn ?hSrc ?hLen ?hR ?_)
              case hOwn => exact (HOn.out wr ⟨0, rfl⟩).kept (World.grownBy_alloc _ _ none) (by cases r <;> simp)
              case hSrc => first | exact srcTx _ _ | exact srcTx (w2.drewN _) _
              case hLen => rw [txs_len]; have := HLN.out; simp; omega
              case hR => exact .inr (by simp)
              intro v3 w3 g3 ho3 hg3 hr3
              have HE : Hid (OwnV w3 v3 (txs (L ++ [s])) (some g3) ∧ (∀ g, some g3 = some g → w.heap.size + 1 ≤ g) ∧ Below w0.heap.size w0 w3) := HFIN.out wr ⟨0, rfl⟩ v3 w3 g3 ho3 hg3 hr3
              clear ho3 hg3 hr3
              go_wp2
              go_roundw
              case rel => exact ⟨k + 1, some g3, by omega, by go_num, by rw [Hid, HT1.out]; exact HE.out.1, HE.out.2.1, HE.out.2.2⟩
              case measure => simp [intOf]; omega
            · have HT1 : Hid (thoseL (strQ (l.map (·.id))) (ss.take (k + 1)) = L) := by rw [Hid, HT.out, if_neg (by rw [strQ_of hK]; simp)]
              clear HT
              skip
              go_wp2
              go_roundw
              case rel => exact ⟨k + 1, r, by omega, by go_num, by rw [Hid, HT1.out]; exact HOn.out wr ⟨0, rfl⟩, HG.out, HBn.out wr ⟨0, rfl⟩⟩
              case measure => simp [intOf]; omega
          · cases K
            · have HT1 : Hid (thoseL (strQ (l.map (·.id))) (ss.take (k + 1)) = L ++ [s]) := by rw [Hid, HT.out, if_pos (by rw [strQ_of hK]; simp)]
              clear HT
              skip
              go_wp2_with (at_builtin; refine wpList_append_txs _ rfl _ _ rfl _ _ (txs L) [.string s] r rfl rfl ?hOwn ?hSrc ?hLen ?hR ?_)
              case hOwn => exact (HOn.out wr ⟨0, rfl⟩).kept (World.grownBy_alloc _ _ none) (by cases r <;> simp)
              case hSrc => first | exact srcTx _ _ | exact srcTx (w2.drewN _) _
              case hLen => rw [txs_len]; have := HLN.out; simp; omega
              case hR => exact .inr (by simp)
              intro v3 w3 g3 ho3 hg3 hr3
              have HE : Hid (OwnV w3 v3 (txs (L ++ [s])) (some g3) ∧ (∀ g, some g3 = some g → w.heap.size + 1 ≤ g) ∧ Below w0.heap.size w0 w3) := HFIN.out wr ⟨0, rfl⟩ v3 w3 g3 ho3 hg3 hr3
              clear ho3 hg3 hr3
              go_wp2
              go_roundw
              case rel => exact ⟨k + 1, some g3, by omega, by go_num, by rw [Hid, HT1.out]; exact HE.out.1, HE.out.2.1, HE.out.2.2⟩
              case measure => simp [intOf]; omega
            · have HT1 : Hid (thoseL (strQ (l.map (·.id))) (ss.take (k + 1)) = L) := by rw [Hid, HT.out, if_neg (by rw [strQ_of hK]; simp)]
              clear HT
              skip
              go_wp2
              go_roundw
              case rel => exact ⟨k + 1, r, by omega, by go_num, by rw [Hid, HT1.out]; exact HOn.out wr ⟨0, rfl⟩, HG.out, HBn.out wr ⟨0, rfl⟩⟩
              case measure => simp [intOf]; omega
          · cases nt
            · have HT1 : Hid (thoseL (strQ (l.map (·.id))) (ss.take (k + 1)) = L) := by rw [Hid, HT.out, if_neg (by rw [strQ_of hK]; simp)]
              clear HT
              skip
              go_wp2
              go_roundw
              case rel => exact ⟨k + 1, r, by omega, by go_num, by rw [Hid, HT1.out]; exact HOn.out wr ⟨0, rfl⟩, HG.out, HBn.out wr ⟨0, rfl⟩⟩
              case measure => simp [intOf]; omega
            · have HT1 : Hid (thoseL (strQ (l.map (·.id))) (ss.take (k + 1)) = L ++ [s]) := by rw [Hid, HT.out, if_pos (by rw [strQ_of hK]; simp)]
              clear HT
              skip
              go_wp2_with (at_builtin; refine wpList_append_txs _ rfl _ _ rfl _ _ (txs L) [.string s] r rfl rfl ?hOwn ?hSrc ?hLen ?hR ?_)
              case hOwn => exact (HOn.out wr ⟨0, rfl⟩).kept (World.grownBy_alloc _ _ none) (by cases r <;> simp)
              case hSrc => first | exact srcTx _ _ | exact srcTx (w2.drewN _) _
              case hLen => rw [txs_len]; have := HLN.out; simp; omega
              case hR => exact .inr (by simp)
              intro v3 w3 g3 ho3 hg3 hr3
              have HE : Hid (OwnV w3 v3 (txs (L ++ [s])) (some g3) ∧ (∀ g, some g3 = some g → w.heap.size + 1 ≤ g) ∧ Below w0.heap.size w0 w3) := HFIN.out wr ⟨0, rfl⟩ v3 w3 g3 ho3 hg3 hr3
              clear ho3 hg3 hr3
              go_wp2
              go_roundw
              case rel => exact ⟨k + 1, some g3, by omega, by go_num, by rw [Hid, HT1.out]; exact HE.out.1, HE.out.2.1, HE.out.2.2⟩
              case measure => simp [intOf]; omega
    · obtain rfl : k = ss.length := by omega
      rw [List.take_length] at HO
      have HF : Hid ((∀ g, r = some g → w.heap.size ≤ g) ∧ Below w.heap.size w wr) := ⟨fun g e => by have := HG.out g e; omega, below_step HB0.out HBW.out⟩
      go_wp2
      go_ret
      exact ⟨_, r, rfl, HO.out, HF.out.1, HF.out.2⟩
end Go.Proofs.YteekmmgopnnioaaDoor

/-! manifest: the law's own helpers on names. -/
namespace Go.Proofs.YteekmmgopnnioaaDoor
open Go.RowKit Go.Maps Plain
set_option linter.unusedVariables false
set_option linter.unusedSimpArgs false

theorem txEq (a : ByteArray) : (a.toList == a.toList) = true := by simp

set_option maxHeartbeats 2000000 in
theorem sameNamesOf (va vb : Value) (ss : List ByteArray) (w : World) (ha : TxAt w va ss) (hb : TxAt w vb ss) :
    Calls Tryd.prog 17 #[va, vb] w fun e w' => e = .returned (.bool true) ∧ Below w.heap.size w w' := by
  obtain ⟨a, cap, rfl, hcap, hl, hok, hcells⟩ := ha
  obtain ⟨a', cap', rfl, hcap', -, -, hcells'⟩ := hb
  have HC : Hid (∀ k, k < ss.length → ∃ b off, a = some ⟨b, off, none⟩ ∧ w.cell? ⟨b, off + k, none⟩ = some (.string (ss.getD k ⟨#[]⟩))) := fun k hm => by
    obtain ⟨b, off, e, hc⟩ := hcells (by intro e; rw [e] at hm; simp at hm)
    exact ⟨b, off, e, hc k hm⟩
  have HC' : Hid (∀ k, k < ss.length → ∃ b off, a' = some ⟨b, off, none⟩ ∧ w.cell? ⟨b, off + k, none⟩ = some (.string (ss.getD k ⟨#[]⟩))) := fun k hm => by
    obtain ⟨b, off, e, hc⟩ := hcells' (by intro e; rw [e] at hm; simp at hm)
    exact ⟨b, off, e, hc k hm⟩
  clear hcells hcells' hok
  go_enter Tryd.func17, Tryd.ntmps17
  go_wp2
  go_loopw [5] (fun i w' => ∃ k n : Nat, w' = w.drewN n ∧ k ≤ ss.length ∧ i = .int .i64 k) (fun i _ => ss.length - (intOf i).toNat)
  case atStart => exact ⟨0, 0, rfl, by omega, rfl⟩
  case round =>
    obtain ⟨k, n, rfl, hk, rfl⟩ := hrel
    by_cases hlt : k < ss.length
    · obtain ⟨b, off, rfl, hc⟩ := HC.out k hlt
      obtain ⟨b', off', rfl, hc'⟩ := HC'.out k hlt
      generalize ss.getD k ⟨#[]⟩ = s at hc hc'
      have he := txEq s
      go_wp2
      go_quiet (fail)
      go_wp2
      go_roundw
      case rel => exact ⟨k + 1, _, rfl, by omega, by go_num⟩
      case measure => simp [intOf]; omega
    · go_wp2
      go_ret
      have hbr : Below w.heap.size w w := Below.refl _ _
      exact ⟨rfl, hbr.os, hbr.tape, hbr.output, hbr.size, hbr.block⟩

theorem txs_set (l : List ByteArray) (j : Nat) (s : ByteArray) : (txs l).set j (.string s) = txs (l.set j s) := by
  unfold txs
  rw [List.map_set]
theorem OwnV.cellT {w : World} {v : Value} {g : Nat} {l : List ByteArray} (h : OwnV w v (txs l) (some g)) {j : Nat} (hj : j < l.length) : w.cell? ⟨g, j, none⟩ = some (.string (l.getD j ⟨#[]⟩)) ∧ w.frozen? ⟨g, j, none⟩ = false := by
  rcases h with ⟨_, _, h⟩ | ⟨g', cap, e, rfl, hg, h1, h2, h3, h4, h5⟩
  · simp at h
  · cases e
    rw [txs_len] at h1
    exact ⟨by rw [h5 j (by rw [txs_len]; exact hj), txs_get hj], h3 j (by omega)⟩
theorem OwnV.shapeT {w : World} {v : Value} {r : Option Nat} {l : List ByteArray} (h : OwnV w v (txs l) r) : ∃ a cap, v = .slice a l.length cap ∧ cap ≤ maxLen ∧ l.length ≤ cap ∧ (0 < l.length → ∃ g, r = some g ∧ a = some ⟨g, 0, none⟩) := by
  rcases h with ⟨rfl, h, rfl⟩ | ⟨g', cap, rfl, rfl, hg, h1, h2, _⟩
  · have : l = [] := by simpa [txs] using h
    subst this
    exact ⟨none, 0, rfl, by simp, by simp, by simp⟩
  · rw [txs_len] at h1
    exact ⟨_, cap, by rw [txs_len], h2, h1, fun _ => ⟨g', rfl, rfl⟩⟩

set_option maxHeartbeats 4000000 in
theorem spoiltNamesOf (v : Value) (l : List ByteArray) (r : Option Nat) (w : World) (ho : OwnV w v (txs l) r) (hl : l.length ≤ 8796093022208) :
    Calls Tryd.prog 20 #[v] w fun e w' => e = .returned (.tuple #[]) ∧ w.grownBy w' r := by
  obtain ⟨a, cap, rfl, hcap, hle, hag⟩ := ho.shapeT
  unfold maxLen at hcap
  have HAG : Hid (0 < l.length → ∃ g, r = some g ∧ a = some ⟨g, 0, none⟩) := hag
  have HO : Hid (OwnV w (.slice a l.length cap) (txs l) r) := ho
  clear ho hag
  go_enter Tryd.func20, Tryd.ntmps20
  go_wp2
  go_loopw [2] (fun i wr => ∃ (k : Nat) (us : List ByteArray), k ≤ l.length ∧ i = .int .i64 k ∧ us.length = l.length ∧ OwnV wr (.slice a l.length cap) (txs us) r ∧ w.grownBy wr r) (fun i _ => l.length - (intOf i).toNat)
  case atStart => exact ⟨0, l, by omega, rfl, rfl, HO.out, below_grow (Below.refl _ _) _⟩
  case round =>
    obtain ⟨k, us, hk, rfl, hus, hown, hgr⟩ := hrel
    have HU : Hid (us.length = l.length) := hus
    have HOW : Hid (OwnV wr (.slice a l.length cap) (txs us) r) := hown
    have HG : Hid (w.grownBy wr r) := hgr
    clear hus hown hgr
    by_cases hlt : k < l.length
    · obtain ⟨g, hrg, hag⟩ := HAG.out (by omega)
      subst hrg hag
      obtain ⟨d0, f0⟩ := HOW.out.cellT (j := k) (by rw [HU.out]; exact hlt)
      have HNN : Hid (∀ s : ByteArray, OwnV (wr.setCell ⟨g, k, none⟩ (.string s)) (.slice (some ⟨g, 0, none⟩) l.length cap) (txs (us.set k s)) (some g)) := fun s => by
        have := HOW.out.put (j := k) (by rw [txs_len, HU.out]; exact hlt) (.string s)
        rw [txs_set] at this
        exact this
      have HG2 : Hid (∀ s : Value, w.grownBy (wr.setCell ⟨g, k, none⟩ s) (some g)) := fun s => grow_trans HG.out (grow_setCells wr g k [s]) (.inl rfl)
      have HU2 : Hid (∀ s, (us.set k s).length = l.length) := fun s => by rw [List.length_set]; exact HU.out
      go_wp2
      go_roundw
      case rel => exact ⟨k + 1, _, by omega, by go_num, HU2.out _, HNN.out _, HG2.out _⟩
      case measure => simp [intOf]; omega
    · obtain rfl : k = l.length := by omega
      clear HO HAG hlt hk
      go_wp2
      go_loopw [0, 3] (fun s0 s4 wx => ∃ (k : Nat) (a2 : Option Addr) (n2 c2 : Nat) (us2 : List ByteArray) (r2 : Option Nat), k ≤ 64 ∧ s4 = .int .i64 k ∧ s0 = .slice a2 n2 c2 ∧ n2 = l.length + k ∧ us2.length = n2 ∧ OwnV wx (.slice a2 n2 c2) (txs us2) r2 ∧ (r2 = r ∨ ∃ g, r2 = some g ∧ w.heap.size ≤ g) ∧ w.grownBy wx r) (fun _ i _ => 64 - (intOf i).toNat)
      case atStart => exact ⟨0, a, l.length, cap, us, r, by omega, rfl, rfl, rfl, HU.out, HOW.out, .inl rfl, HG.out⟩
      case round =>
        obtain ⟨k, a2, n2, c2, us2, r2, hk, rfl, rfl, hn2, hus2, hown2, hr2, hgr2⟩ := hrel
        have HOW2 : Hid (OwnV wr (.slice a2 n2 c2) (txs us2) r2) := hown2
        have HG2 : Hid (w.grownBy wr r) := hgr2
        have HR2 : Hid (r2 = r ∨ ∃ g, r2 = some g ∧ w.heap.size ≤ g) := hr2
        have HU2 : Hid (us2.length = n2) := hus2
        clear HOW HG HU hown2 hgr2 hr2 hus2
        by_cases hlt : k < 64
        · go_wp2_with (at_builtin; refine wpList_append_txs _ rfl _ _ rfl _ _ (txs us2) [.string ⟨#[109, 111, 114, 101]⟩] r2 rfl rfl ?hOwn ?hSrc ?hLen ?hR ?_)
          case hOwn => exact HOW2.out.kept (World.grownBy_alloc _ _ none) (by cases r2 <;> simp)
          case hSrc => exact srcTx _ _
          case hLen => rw [txs_len]; have := HU2.out; simp; omega
          case hR => exact .inr (by simp)
          intro v' w7 g3 ho3 hg3 hr3
          rw [← txs_snoc] at ho3
          have hl3 := HU2.out
          obtain ⟨a3, c3', rfl, hm3, -, -⟩ := ho3.shapeT
          rw [show (us2 ++ [(⟨#[109, 111, 114, 101]⟩ : ByteArray)]).length = n2 + 1 by simp; omega] at ho3 ⊢
          have HO3 : Hid (OwnV w7 (.slice a3 (n2 + 1) c3') (txs (us2 ++ [⟨#[109, 111, 114, 101]⟩])) (some g3)) := ho3
          have HL3 : Hid (∀ s, (us2 ++ [s]).length = n2 + 1) := fun s => by simp; omega
          have HR3 : Hid (some g3 = r ∨ ∃ g, some g3 = some g ∧ w.heap.size ≤ g) := by
            have hs := HG2.out.size
            rcases hr3 with e | rfl
            · rcases HR2.out with h | h
              · exact .inl (e.trans h)
              · obtain ⟨g, h1, h2⟩ := h
                exact .inr ⟨g, e.trans h1, h2⟩
            · exact .inr ⟨_, rfl, Nat.le_succ_of_le hs⟩
          have HG3 : Hid (w.grownBy w7 r) := by
            refine grow_trans (grow_trans HG2.out (World.grownBy_alloc wr _ none) (.inr (.inl rfl))) hg3 ?_
            rcases HR2.out with h | h
            · exact .inl h
            · exact .inr (.inr h)
          clear ho3 hg3 hr3 hl3 hm3
          go_wp2
          go_roundw
          case rel => exact ⟨k + 1, a3, n2 + 1, c3', _, _, by omega, by go_num, rfl, by omega, HL3.out _, HO3.out, HR3.out, HG3.out⟩
          case measure => simp [intOf]; omega
        · obtain rfl : k = 64 := by omega
          go_wp2
          go_end0
          exact ⟨rfl, HG2.out⟩
end Go.Proofs.YteekmmgopnnioaaDoor

/-! manifest: the law's moved, back. -/
namespace Go.Proofs.YteekmmgopnnioaaDoor
open Go.RowKit Plain
set_option linter.unusedVariables false
set_option linter.unusedSimpArgs false

/-- The copy while it is written to. -/
structure Mv (w0 w : World) (g1 c1 g2 c2 n1 n2 : Nat) (l1 : List Int) (l2 : List Pr) : Prop where
  man : ManW w g1 c1 g2 c2 l1 l2
  len1 : l1.length = n1 + 1
  len2 : l2.length = n2 + 1
  ok1 : ∀ z ∈ l1, I64 z
  ok2 : ∀ x ∈ l2, x.Ok
  mk1 : l1.getD n1 0 = -77
  mk2 : l2.getD n2 Pr.zero = markP
  chg : Chg (fun k => k = g1 ∨ k = g2) w0 w
theorem Mv.seg {w0 w : World} {g1 c1 g2 c2 n1 n2 : Nat} {l1 : List Int} {l2 : List Pr} (h : Mv w0 w g1 c1 g2 c2 n1 n2 l1 l2) {j : Nat} (hj : j < n1) {z : Int} (hz : I64 z) : Mv w0 (w.setCell ⟨g1, j, none⟩ (.int .i64 z)) g1 c1 g2 c2 n1 n2 (l1.set j z) l2 := by
  have hgr := grow_setC w g1 j (.int .i64 z)
  refine ⟨⟨?_, h.man.p.of_block hgr.size fun g e => ?_, h.man.ne⟩, by simp [h.len1], h.len2, fun y hy => ?_, h.ok2, ?_, h.mk2, h.chg.grown hgr fun g e => .inl (.inl (by injection e with e; exact e.symm))⟩
  · have := h.man.s.put (j := j) (by rw [ints_len, h.len1]; omega) (.int .i64 z)
    rw [ints_set] at this
    rw [List.length_set]
    exact this
  · cases e; exact hgr.block g2 h.man.p.lt (fun e => h.man.ne (by injection e with e; exact e.symm))
  · rcases List.mem_or_eq_of_mem_set hy with h1 | h1
    · exact h.ok1 y h1
    · rw [h1]; exact hz
  · rw [List.getD_eq_getElem?_getD, List.getElem?_set_ne (by omega), ← List.getD_eq_getElem?_getD]; exact h.mk1
theorem Mv.seq {w0 w : World} {g1 c1 g2 c2 n1 n2 : Nat} {l1 : List Int} {l2 : List Pr} (h : Mv w0 w g1 c1 g2 c2 n1 n2 l1 l2) {j : Nat} (hj : j < n2) {z : Int} (hz : I64 z) : Mv w0 (w.setCell ⟨g2, j * 3 + 1, none⟩ (.int .i64 z)) g1 c1 g2 c2 n1 n2 l1 (l2.set j ⟨(l2.getD j Pr.zero).pid, z, (l2.getD j Pr.zero).off⟩) := by
  have hgr := grow_setC w g2 (j * 3 + 1) (.int .i64 z)
  have hjl : j < l2.length := by rw [h.len2]; omega
  refine ⟨⟨h.man.s.of_block hgr.size fun g e => ?_, ?_, h.man.ne⟩, h.len1, by simp [h.len2], h.ok1, fun y hy => ?_, h.mk1, ?_, h.chg.grown hgr fun g e => .inl (.inr (by injection e with e; exact e.symm))⟩
  · cases e; exact hgr.block g1 h.man.s.lt (fun e => h.man.ne (by injection e))
  · rw [List.length_set]; exact h.man.p.putSeq hjl z
  · rcases List.mem_or_eq_of_mem_set hy with h1 | h1
    · exact h.ok2 y h1
    · have hx := h.ok2 (l2.getD j Pr.zero) (by simp [hjl])
      rw [h1]; exact ⟨hx.pid, hz, hx.off⟩
  · rw [List.getD_eq_getElem?_getD, List.getElem?_set_ne (by omega), ← List.getD_eq_getElem?_getD]; exact h.mk2
theorem Mv.prod {w0 w : World} {g1 c1 g2 c2 n1 n2 : Nat} {l1 : List Int} {l2 : List Pr} (h : Mv w0 w g1 c1 g2 c2 n1 n2 l1 l2) {j : Nat} (hj : j < n2) {x : Pr} (hx : x.Ok) : Mv w0 (w.setCells g2 (j * 3) x.cells) g1 c1 g2 c2 n1 n2 l1 (l2.set j x) := by
  have hgr := grow_setCells w g2 (j * 3) x.cells
  have hjl : j < l2.length := by rw [h.len2]; omega
  refine ⟨⟨h.man.s.of_block hgr.size fun g e => ?_, ?_, h.man.ne⟩, h.len1, by simp [h.len2], h.ok1, fun y hy => ?_, h.mk1, ?_, h.chg.grown hgr fun g e => .inl (.inr (by injection e with e; exact e.symm))⟩
  · cases e; exact hgr.block g1 h.man.s.lt (fun e => h.man.ne (by injection e))
  · rw [List.length_set]; exact h.man.p.putAll hjl x
  · rcases List.mem_or_eq_of_mem_set hy with h1 | h1
    · exact h.ok2 y h1
    · rw [h1]; exact hx
  · rw [List.getD_eq_getElem?_getD, List.getElem?_set_ne (by omega), ← List.getD_eq_getElem?_getD]; exact h.mk2
theorem wrapI (z : Int) : I64 (RowKit.wrap64 z) := by
  have := bounds_i64 (RowKit.wrap64_wf z)
  unfold I64; omega
theorem Mv.drew {w0 w : World} {g1 c1 g2 c2 n1 n2 : Nat} {l1 : List Int} {l2 : List Pr} (h : Mv w0 w g1 c1 g2 c2 n1 n2 l1 l2) : Mv w0 w.drew g1 c1 g2 c2 n1 n2 l1 l2 :=
  ⟨⟨h.man.s.of_block (Nat.le_refl _) fun _ _ => rfl, h.man.p.of_block (Nat.le_refl _) fun _ _ => rfl, h.man.ne⟩, h.len1, h.len2, h.ok1, h.ok2, h.mk1, h.mk2, ⟨h.chg.os, h.chg.tape, h.chg.output, h.chg.size, h.chg.block⟩⟩
theorem hresM : Tryd.f13.results = #[.cell 2 31] := by kernel_rfl
set_option maxHeartbeats 8000000 in
set_option maxRecDepth 100000 in
theorem movedOf (m : Mf) (g1 c1 g2 c2 n1 n2 : Nat) (l1 : List Int) (l2 : List Pr) (w : World) (h : Mv w w g1 c1 g2 c2 n1 n2 l1 l2) (hn1 : n1 ≤ 17592186044416) (hn2 : n2 ≤ 8796093022000) :
    Calls Tryd.prog 13 #[m.agg (.slice (some ⟨g1, 0, none⟩) n1 c1) (.slice (some ⟨g2, 0, none⟩) n2 c2)] w fun e w' => e = .returned (m.agg (.slice (some ⟨g1, 0, none⟩) n1 c1) (.slice (some ⟨g2, 0, none⟩) n2 c2)) ∧ ∃ l1' l2', Mv w w' g1 c1 g2 c2 n1 n2 l1' l2' := by
  have hg1 : g1 < w.heap.size := h.man.s.lt
  have hg2 : g2 < w.heap.size := h.man.p.lt
  obtain ⟨w0, hw0⟩ : ∃ w0, w.alloc (m.obj (.slice (some ⟨g1, 0, none⟩) n1 c1) (.slice (some ⟨g2, 0, none⟩) n2 c2)) = w0 := ⟨_, rfl⟩
  have hs0 : w0.heap.size = w.heap.size + 1 := by rw [← hw0]; simp
  have HB0 : Hid (Below w.heap.size w w0) := by rw [← hw0]; exact (Below.refl _ _).alloc (Nat.le_refl _) _
  have HMC0 : Hid (MC w0 w.heap.size m (.slice (some ⟨g1, 0, none⟩) n1 c1) (.slice (some ⟨g2, 0, none⟩) n2 c2)) := by rw [← hw0]; exact MC.made _ _ _ _
  obtain ⟨w00, hw00⟩ : ∃ w00, w0.alloc (.cells #[.int .i64 0, .int .i64 0, .int .i64 0, .int .i64 0, .int .i64 0, .slice none 0 0, .slice none 0 0] 31) = w00 := ⟨_, rfl⟩
  have hs00 : w00.heap.size = w.heap.size + 1 + 1 := by rw [← hw00]; simp [hs0]
  have HB00 : Hid (Below w.heap.size w w00) := by rw [← hw00]; exact below_step HB0.out ((Below.refl _ _).alloc (Nat.le_refl _) _)
  have HMC : Hid (MC w00 w.heap.size m (.slice (some ⟨g1, 0, none⟩) n1 c1) (.slice (some ⟨g2, 0, none⟩) n2 c2)) := HMC0.out.block (by rw [← hw00]; exact heap_alloc_old _ _ (by omega))
  have HZ0 : Hid (MC w00 (w.heap.size + 1) ⟨0, 0, 0, 0, 0, [], []⟩ (.slice none 0 0) (.slice none 0 0)) := by
    unfold Hid
    rw [← hw00, ← hs0]; exact MC.made w0 ⟨0, 0, 0, 0, 0, [], []⟩ _ _
  have HM0 : Hid (Mv w00 w00 g1 c1 g2 c2 n1 n2 l1 l2) :=
    ⟨⟨h.man.s.later HB00.out, h.man.p.later HB00.out, h.man.ne⟩, h.len1, h.len2, h.ok1, h.ok2, h.mk1, h.mk2, Chg.refl _ _⟩
  have HCB : Hid (∀ u X, Chg (fun k => k = g1 ∨ k = g2) w00 u → X < w.heap.size + 1 + 1 → w.heap.size ≤ X → u.heap[X]? = w00.heap[X]?) := fun u X hu h1 h2 => hu.block X (by omega) (by rintro (e | e) <;> omega)
  clear HMC0 h
  obtain ⟨m0, m1, m2, m3, m4, m5, m6, -⟩ := HMC.out
  obtain ⟨mi, mn, mx, mk, mc, sg, pd⟩ := m
  simp only at HMC m0 m1 m2 m3 m4 m5 m6 hw0
  unfold Mf.agg
  simp only
  go_enter Tryd.func13, Tryd.ntmps13
  go_wp2
  go_loopw [3] (fun i wr => ∃ (k : Nat) (l : List Int), k ≤ n1 ∧ i = .int .i64 k ∧ Hid (Mv w00 wr g1 c1 g2 c2 n1 n2 l l2)) (fun i _ => n1 - (intOf i).toNat)
  case atStart => exact ⟨0, l1, Nat.zero_le _, rfl, HM0.out⟩
  case round =>
    obtain ⟨k, l, hk, rfl, HV⟩ := hrel
    clear m0 m1 m2 m3 m4 m5 m6
    obtain ⟨m0, m1, m2, m3, m4, m5, m6, -⟩ := HMC.out.block (HCB.out wr _ HV.out.chg (by omega) (Nat.le_refl _))
    simp only at m0 m1 m2 m3 m4 m5 m6
    by_cases hlt : k < n1
    · obtain ⟨e1, e2⟩ := HV.out.man.s.cellI (j := k) (by rw [HV.out.len1]; omega)
      generalize l.getD k 0 = z at e1
      have hki : (k : Int) < (n1 : Int) := by omega
      have HN : Hid (∀ y, I64 y → Mv w00 (wr.setCell ⟨g1, k, none⟩ (.int .i64 y)).drew g1 c1 g2 c2 n1 n2 (l.set k y) l2) := fun y hy => (HV.out.seg hlt hy).drew
      go_wp2
      go_region
      all_goals go_wp2
      exact ⟨⟨k + 1, _, by omega, by go_num, HN.out _ (wrapI _)⟩, by simp [intOf]; omega⟩
    · have hki : ¬ (k : Int) < (n1 : Int) := by omega
      go_wp2
      clear m0 m1 m2 m3 m4 m5 m6
      go_loopw [4] (fun i wr => ∃ (q : Nat) (l' : List Pr), q ≤ n2 ∧ i = .int .i64 q ∧ Hid (Mv w00 wr g1 c1 g2 c2 n1 n2 l l')) (fun i _ => n2 - (intOf i).toNat)
      case atStart => exact ⟨0, l2, Nat.zero_le _, rfl, HV.out⟩
      case round =>
        clear HV
        obtain ⟨q, l', hq, rfl, HV⟩ := hrel
        have HMw : Hid (MC wr w.heap.size ⟨mi, mn, mx, mk, mc, sg, pd⟩ (.slice (some ⟨g1, 0, none⟩) n1 c1) (.slice (some ⟨g2, 0, none⟩) n2 c2)) := HMC.out.block (HCB.out wr _ HV.out.chg (by omega) (Nat.le_refl _))
        obtain ⟨m0, m1, m2, m3, m4, m5, m6, -⟩ := HMw.out
        simp only at m0 m1 m2 m3 m4 m5 m6
        by_cases hlt2 : q < n2
        · have hcc := HV.out.man.p.at (j := q) (by rw [HV.out.len2]; omega)
          have e2 := HV.out.man.p.fz (j := q * 3 + 1) (by rw [HV.out.len2]; omega)
          obtain ⟨d0, d1, d2⟩ := hcc
          generalize (l'.getD q Pr.zero).seq = z at d1
          have hqi : (q : Int) < (n2 : Int) := by omega
          have HN : Hid (∀ y, I64 y → Mv w00 (wr.setCell ⟨g2, q * 3 + 1, none⟩ (.int .i64 y)).drew g1 c1 g2 c2 n1 n2 l (l'.set q ⟨(l'.getD q Pr.zero).pid, y, (l'.getD q Pr.zero).off⟩)) := fun y hy => (HV.out.seq hlt2 hy).drew
          clear d0 d2
          go_wp2
          go_region
          all_goals go_wp2
          exact ⟨⟨q + 1, _, by omega, by go_num, HN.out _ (wrapI _)⟩, by simp [intOf]; omega⟩
        · have hqi : ¬ (q : Int) < (n2 : Int) := by omega
          have HZ : MC wr (w.heap.size + 1) ⟨0, 0, 0, 0, 0, [], []⟩ (.slice none 0 0) (.slice none 0 0) := HZ0.out.block (HCB.out wr _ HV.out.chg (by omega) (by omega))
          have HST : Hid (MC _ (w.heap.size + 1) ⟨mi, mn, mx, mk, mc, sg, pd⟩ (.slice (some ⟨g1, 0, none⟩) n1 c1) (.slice (some ⟨g2, 0, none⟩) n2 c2)) := HZ.stored ⟨mi, mn, mx, mk, mc, sg, pd⟩ (.slice (some ⟨g1, 0, none⟩) n1 c1) (.slice (some ⟨g2, 0, none⟩) n2 c2)
          have HFIN : Hid (∃ l1' l2', Mv w (wr.setCells (w.heap.size + 1) 0 [.int .i64 mi, .int .i64 mn, .int .i64 mx, .int .i64 mk, .int .i64 mc, .slice (some ⟨g1, 0, none⟩) n1 c1, .slice (some ⟨g2, 0, none⟩) n2 c2]) g1 c1 g2 c2 n1 n2 l1' l2') := by
            have h := HV.out
            have hsz := h.chg.size
            have hgr := grow_setCells wr (w.heap.size + 1) 0 [.int .i64 mi, .int .i64 mn, .int .i64 mx, .int .i64 mk, .int .i64 mc, .slice (some ⟨g1, 0, none⟩) n1 c1, .slice (some ⟨g2, 0, none⟩) n2 c2]
            refine ⟨l, l', ⟨h.man.s.of_block hgr.size fun g e => ?_, h.man.p.of_block hgr.size fun g e => ?_, h.man.ne⟩, h.len1, h.len2, h.ok1, h.ok2, h.mk1, h.mk2, ?_⟩
            · cases e; exact hgr.block g1 h.man.s.lt (fun e => by cases e; omega)
            · cases e; exact hgr.block g2 h.man.p.lt (fun e => by cases e; omega)
            · exact ((Chg.ofBelow HB00.out).trans h.chg).grown hgr fun g e => .inr (by cases e; omega)
          obtain ⟨z0, z1, z2, z3, z4, z5, z6, zf⟩ := HZ
          simp only at z0 z1 z2 z3 z4
          have zf0 := zf 0
          have zf1 := zf 1
          have zf2 := zf 2
          have zf3 := zf 3
          have zf4 := zf 4
          have zf5 := zf 5
          have zf6 := zf 6
          clear zf
          go_wp2
          refine bodyPost_ret (v := .agg #[.int .i64 mi, .int .i64 mn, .int .i64 mx, .int .i64 mk, .int .i64 mc, .slice (some ⟨g1, 0, none⟩) n1 c1, .slice (some ⟨g2, 0, none⟩) n2 c2]) ?_ rfl ⟨rfl, HFIN.out⟩
          obtain ⟨p0, p1, p2, p3, p4, p5, p6, -⟩ := HST.out
          simp only at p0 p1 p2 p3 p4 p5 p6
          simp only [results, hresM]
          go_simp
end Go.Proofs.YteekmmgopnnioaaDoor

/-! manifest: the law's back. -/
namespace Go.Proofs.YteekmmgopnnioaaDoor
open Go.RowKit Plain
set_option linter.unusedVariables false
set_option linter.unusedSimpArgs false

set_option maxHeartbeats 8000000 in
set_option maxRecDepth 100000 in
theorem backOf (m : Mf) (g1 c1 g2 c2 : Nat) (l1 : List Int) (l2 : List Pr) (vs vp : Value) (W w : World) (h : Mv w w g1 c1 g2 c2 m.segs.length m.prods.length l1 l2) (hW : Below W.heap.size W w) (hg1W : W.heap.size ≤ g1) (hg2W : W.heap.size ≤ g2) (h1 : IntsAt W vs m.segs) (h2 : PrsAt W vp m.prods) :
    Calls Tryd.prog 14 #[m.agg (.slice (some ⟨g1, 0, none⟩) m.segs.length c1) (.slice (some ⟨g2, 0, none⟩) m.prods.length c2), m.agg vs vp] w fun e w' => e = .returned (.tuple #[]) ∧ Mv w w' g1 c1 g2 c2 m.segs.length m.prods.length (m.segs ++ [-77]) (m.prods ++ [markP]) := by
  have hg1 : g1 < w.heap.size := h.man.s.lt
  have hg2 : g2 < w.heap.size := h.man.p.lt
  obtain ⟨w0, hw0⟩ : ∃ w0, w.alloc (m.obj (.slice (some ⟨g1, 0, none⟩) m.segs.length c1) (.slice (some ⟨g2, 0, none⟩) m.prods.length c2)) = w0 := ⟨_, rfl⟩
  have hs0 : w0.heap.size = w.heap.size + 1 := by rw [← hw0]; simp
  have HB0 : Hid (Below w.heap.size w w0) := by rw [← hw0]; exact (Below.refl _ _).alloc (Nat.le_refl _) _
  have HMC0 : Hid (MC w0 w.heap.size m (.slice (some ⟨g1, 0, none⟩) m.segs.length c1) (.slice (some ⟨g2, 0, none⟩) m.prods.length c2)) := by rw [← hw0]; exact MC.made _ _ _ _
  obtain ⟨w00, hw00⟩ : ∃ w00, w0.alloc (m.obj vs vp) = w00 := ⟨_, rfl⟩
  have hs00 : w00.heap.size = w.heap.size + 1 + 1 := by rw [← hw00]; simp [hs0]
  have HB00 : Hid (Below w.heap.size w w00) := by rw [← hw00]; exact below_step HB0.out ((Below.refl _ _).alloc (Nat.le_refl _) _)
  have HMC : Hid (MC w00 w.heap.size m (.slice (some ⟨g1, 0, none⟩) m.segs.length c1) (.slice (some ⟨g2, 0, none⟩) m.prods.length c2)) := HMC0.out.block (by rw [← hw00]; exact heap_alloc_old _ _ (by omega))
  have HMD : Hid (MC w00 (w.heap.size + 1) m vs vp) := by
    unfold Hid
    rw [← hw00, ← hs0]; exact MC.made w0 m vs vp
  have HM0 : Hid (Mv w00 w00 g1 c1 g2 c2 m.segs.length m.prods.length l1 l2) :=
    ⟨⟨h.man.s.later HB00.out, h.man.p.later HB00.out, h.man.ne⟩, h.len1, h.len2, h.ok1, h.ok2, h.mk1, h.mk2, Chg.refl _ _⟩
  have HCB : Hid (∀ u X, Chg (fun k => k = g1 ∨ k = g2) w00 u → X < w.heap.size + 1 + 1 → w.heap.size ≤ X → u.heap[X]? = w00.heap[X]?) := fun u X hu h1 h2 => hu.block X (by omega) (by rintro (e | e) <;> omega)
  have HWB : Hid (∀ u, Chg (fun k => k = g1 ∨ k = g2) w00 u → Below W.heap.size W u) := fun u hu =>
    (hW.trans (HB00.out.mono hW.size)).trans (hu.below (by have := hW.size; omega) (fun k hk => by rcases hk with e | e <;> (subst e; assumption)))
  have HIS : Hid (∀ u j, Chg (fun k => k = g1 ∨ k = g2) w00 u → j < m.segs.length → ∃ b o, (∃ c, vs = .slice (some ⟨b, o, none⟩) m.segs.length c) ∧ u.cell? ⟨b, o + j, none⟩ = some (.int .i64 (m.segs.getD j 0)) ∧ I64 (m.segs.getD j 0)) := fun u j hu hj => by
    obtain ⟨a, c, e, _, _, hok, hc⟩ := h1.later (HWB.out u hu)
    obtain ⟨b, o, e2, hc⟩ := hc (by intro e; rw [e] at hj; simp at hj)
    exact ⟨b, o, ⟨c, by rw [e, e2]⟩, hc j hj, hok _ (by simp [hj])⟩
  have HPS : Hid (∀ u j, Chg (fun k => k = g1 ∨ k = g2) w00 u → j < m.prods.length → ∃ b o, (∃ c, vp = .slice (some ⟨b, o, none⟩) m.prods.length c) ∧ Pr.CellsAt u b (o + j * 3) (m.prods.getD j Pr.zero) ∧ (m.prods.getD j Pr.zero).Ok) := fun u j hu hj => by
    obtain ⟨a, c, e, _, hok, hc⟩ := h2.later (HWB.out u hu)
    obtain ⟨b, o, e2, hc⟩ := hc (by intro e; rw [e] at hj; simp at hj)
    exact ⟨b, o, ⟨c, by rw [e, e2]⟩, hc j hj, hok _ (by simp [hj])⟩
  have hn1 : m.segs.length ≤ 17592186044416 := by obtain ⟨_, _, _, _, h, _⟩ := h1; exact h
  have hn2 : m.prods.length ≤ 8796093022000 := by obtain ⟨_, _, _, h, _⟩ := h2; exact h
  obtain ⟨a1, k1, rfl⟩ : ∃ a c, vs = .slice a m.segs.length c := by obtain ⟨a, c, e, _⟩ := h1; exact ⟨a, c, e⟩
  obtain ⟨a2, k2, rfl⟩ : ∃ a c, vp = .slice a m.prods.length c := by obtain ⟨a, c, e, _⟩ := h2; exact ⟨a, c, e⟩
  clear HMC0 h h1 h2
  obtain ⟨m0, m1, m2, m3, m4, m5, m6, -⟩ := HMC.out
  obtain ⟨y0, y1, y2, y3, y4, y5, y6, -⟩ := HMD.out
  obtain ⟨mi, mn, mx, mk, mc, sg, pd⟩ := m
  simp only at HMC HMD HM0 HIS HPS hn1 hn2 m0 m1 m2 m3 m4 m5 m6 y0 y1 y2 y3 y4 y5 y6 hw0 hw00 ⊢
  unfold Mf.agg
  simp only
  go_enter Tryd.func14, Tryd.ntmps14
  go_wp2
  go_loopw [4] (fun i wr => ∃ (k : Nat) (l : List Int), k ≤ sg.length ∧ i = .int .i64 k ∧ Hid (∀ j, j < k → l.getD j 0 = sg.getD j 0) ∧ Hid (Mv w00 wr g1 c1 g2 c2 sg.length pd.length l l2)) (fun i _ => sg.length - (intOf i).toNat)
  case atStart => exact ⟨0, l1, Nat.zero_le _, rfl, fun j hj => absurd hj (Nat.not_lt_zero _), HM0.out⟩
  case round =>
    obtain ⟨k, l, hk, rfl, HEQ, HV⟩ := hrel
    clear m0 m1 m2 m3 m4 m5 m6 y0 y1 y2 y3 y4 y5 y6
    obtain ⟨m0, m1, m2, m3, m4, m5, m6, -⟩ := HMC.out.block (HCB.out wr _ HV.out.chg (by omega) (Nat.le_refl _))
    obtain ⟨y0, y1, y2, y3, y4, y5, y6, -⟩ := HMD.out.block (HCB.out wr _ HV.out.chg (by omega) (by omega))
    simp only at m0 m1 m2 m3 m4 m5 m6 y0 y1 y2 y3 y4 y5 y6
    by_cases hlt : k < sg.length
    · obtain ⟨e1, e2⟩ := HV.out.man.s.cellI (j := k) (by rw [HV.out.len1]; omega)
      obtain ⟨b, o, ⟨c, hcc⟩, e3, e4⟩ := HIS.out wr k HV.out.chg hlt
      injection hcc with hc1 hc2 hc3
      subst hc1 hc3
      have HNX : Hid (Mv w00 (wr.setCell ⟨g1, k, none⟩ (.int .i64 (sg.getD k 0))).drew g1 c1 g2 c2 sg.length pd.length (l.set k (sg.getD k 0)) l2 ∧ ∀ j, j < k + 1 → (l.set k (sg.getD k 0)).getD j 0 = sg.getD j 0) := by
        refine ⟨(HV.out.seg hlt e4).drew, fun j hj => ?_⟩
        by_cases hjk : j = k
        · subst hjk
          rw [List.getD_eq_getElem?_getD, List.getElem?_set_self (by rw [HV.out.len1]; omega)]; rfl
        · rw [List.getD_eq_getElem?_getD, List.getElem?_set_ne (Ne.symm hjk), ← List.getD_eq_getElem?_getD]
          exact HEQ.out j (by omega)
      generalize sg.getD k 0 = z at e3 HNX
      generalize l.getD k 0 = z' at e1
      have hki : (k : Int) < (sg.length : Int) := by omega
      clear e4
      go_wp2
      go_region
      all_goals go_wp2
      exact ⟨⟨k + 1, _, by omega, by go_num, HNX.out.2, HNX.out.1⟩, by simp [intOf]; omega⟩
    · have hki : ¬ (k : Int) < (sg.length : Int) := by omega
      obtain rfl : k = sg.length := by omega
      have HL1 : Hid (l = sg ++ [-77]) := by
        have h := HV.out
        refine List.ext_getElem (by simp [h.len1]) fun j hj1 hj2 => ?_
        have e1 : l[j] = l.getD j 0 := by simp [hj1]
        rw [e1]
        by_cases hjs : j < sg.length
        · rw [HEQ.out j hjs, List.getElem_append_left hjs]; simp [hjs]
        · obtain rfl : j = sg.length := by rw [h.len1] at hj1; omega
          rw [h.mk1]; simp
      have HV' : Hid (Mv w00 wr g1 c1 g2 c2 sg.length pd.length (sg ++ [-77]) l2) := by rw [← HL1.out]; exact HV.out
      clear HV HEQ HL1
      go_wp2
      clear m0 m1 m2 m3 m4 m5 m6 y0 y1 y2 y3 y4 y5 y6
      go_loopw [5] (fun i wr => ∃ (q : Nat) (l' : List Pr), q ≤ pd.length ∧ i = .int .i64 q ∧ Hid (∀ j, j < q → l'.getD j Pr.zero = pd.getD j Pr.zero) ∧ Hid (Mv w00 wr g1 c1 g2 c2 sg.length pd.length (sg ++ [-77]) l')) (fun i _ => pd.length - (intOf i).toNat)
      case atStart => exact ⟨0, l2, Nat.zero_le _, rfl, fun j hj => absurd hj (Nat.not_lt_zero _), HV'.out⟩
      case round =>
        clear HV'
        obtain ⟨q, l', hq, rfl, HEQ, HV⟩ := hrel
        obtain ⟨m0, m1, m2, m3, m4, m5, m6, -⟩ := HMC.out.block (HCB.out wr _ HV.out.chg (by omega) (Nat.le_refl _))
        obtain ⟨y0, y1, y2, y3, y4, y5, y6, -⟩ := HMD.out.block (HCB.out wr _ HV.out.chg (by omega) (by omega))
        simp only at m0 m1 m2 m3 m4 m5 m6 y0 y1 y2 y3 y4 y5 y6
        by_cases hlt2 : q < pd.length
        · obtain ⟨d0, d1, d2⟩ := HV.out.man.p.at (j := q) (by rw [HV.out.len2]; omega)
          have f0 := HV.out.man.p.fz (j := q * 3) (by rw [HV.out.len2]; omega)
          have f1 := HV.out.man.p.fz (j := q * 3 + 1) (by rw [HV.out.len2]; omega)
          have f2 := HV.out.man.p.fz (j := q * 3 + 2) (by rw [HV.out.len2]; omega)
          obtain ⟨b, o, ⟨c, hcc⟩, ⟨e0, e1, e2⟩, e4⟩ := HPS.out wr q HV.out.chg hlt2
          injection hcc with hc1 hc2 hc3
          subst hc1 hc3
          have HNX : Hid (Mv w00 (((wr.setCell ⟨g2, q * 3, none⟩ (.int .i64 (pd.getD q Pr.zero).pid)).setCell ⟨g2, q * 3 + 1, none⟩ (.int .i64 (pd.getD q Pr.zero).seq)).setCell ⟨g2, q * 3 + 2, none⟩ (.int .i64 (pd.getD q Pr.zero).off)).drew g1 c1 g2 c2 sg.length pd.length (sg ++ [-77]) (l'.set q (pd.getD q Pr.zero)) ∧ ∀ j, j < q + 1 → (l'.set q (pd.getD q Pr.zero)).getD j Pr.zero = pd.getD j Pr.zero) := by
            refine ⟨(HV.out.prod hlt2 e4).drew, fun j hj => ?_⟩
            by_cases hjk : j = q
            · subst hjk
              rw [List.getD_eq_getElem?_getD, List.getElem?_set_self (by rw [HV.out.len2]; omega)]; rfl
            · rw [List.getD_eq_getElem?_getD, List.getElem?_set_ne (Ne.symm hjk), ← List.getD_eq_getElem?_getD]
              exact HEQ.out j (by omega)
          generalize hS : l'.set q (pd.getD q Pr.zero) = lS at HNX
          generalize (pd.getD q Pr.zero).pid = x1 at e0 HNX
          generalize (pd.getD q Pr.zero).seq = x2 at e1 HNX
          generalize (pd.getD q Pr.zero).off = x3 at e2 HNX
          generalize (l'.getD q Pr.zero).pid = u1 at d0
          generalize (l'.getD q Pr.zero).seq = u2 at d1
          generalize (l'.getD q Pr.zero).off = u3 at d2
          have hqi : (q : Int) < (pd.length : Int) := by omega
          clear e4 hS
          go_wp2
          go_region
          all_goals go_wp2
          exact ⟨⟨q + 1, lS, by omega, by go_num, HNX.out.2, HNX.out.1⟩, by simp [intOf]; omega⟩
        · have hqi : ¬ (q : Int) < (pd.length : Int) := by omega
          obtain rfl : q = pd.length := by omega
          have HFIN : Hid (Mv w wr g1 c1 g2 c2 sg.length pd.length (sg ++ [-77]) (pd ++ [markP])) := by
            have h := HV.out
            have hl : l' = pd ++ [markP] := by
              refine List.ext_getElem (by simp [h.len2]) fun j hj1 hj2 => ?_
              have e1 : l'[j] = l'.getD j Pr.zero := by simp [hj1]
              rw [e1]
              by_cases hjs : j < pd.length
              · rw [HEQ.out j hjs, List.getElem_append_left hjs]; simp [hjs]
              · obtain rfl : j = pd.length := by rw [h.len2] at hj1; omega
                rw [h.mk2]; simp
            rw [← hl]
            exact ⟨h.man, h.len1, h.len2, h.ok1, h.ok2, h.mk1, h.mk2, (Chg.ofBelow HB00.out).trans h.chg⟩
          clear HV HEQ
          go_wp2
          go_end0
          exact ⟨rfl, HFIN.out⟩
end Go.Proofs.YteekmmgopnnioaaDoor

/-! manifest: the law's movedCat, backCat. -/
namespace Go.Proofs.YteekmmgopnnioaaDoor
open Go.RowKit Plain
set_option linter.unusedVariables false
set_option linter.unusedSimpArgs false

/-- The copy while it is written to. -/
structure Cv (w0 w : World) (g c n : Nat) (l : List Te) : Prop where
  cat : CatW w g c l
  len : l.length = n + 1
  ok : ∀ x ∈ l, x.Ok
  mkT : l.getD n Te.zero = markT
  chg : Chg (fun k => k = g) w0 w
theorem Cv.drew {w0 w : World} {g c n : Nat} {l : List Te} (h : Cv w0 w g c n l) : Cv w0 w.drew g c n l :=
  ⟨OwnTe.of_block h.cat (Nat.le_refl _) fun _ _ => rfl, h.len, h.ok, h.mkT, ⟨h.chg.os, h.chg.tape, h.chg.output, h.chg.size, h.chg.block⟩⟩
theorem Cv.idT {w0 w : World} {g c n : Nat} {l : List Te} (h : Cv w0 w g c n l) {j : Nat} (hj : j < n) {z : Int} (hz : I64 z) : Cv w0 (w.setCell ⟨g, j * 4, none⟩ (.int .i64 z)) g c n (l.set j ⟨z, (l.getD j Te.zero).name, (l.getD j Te.zero).lim, (l.getD j Te.zero).hor⟩) := by
  have hgr := grow_setC w g (j * 4) (.int .i64 z)
  have hjl : j < l.length := by rw [h.len]; omega
  refine ⟨?_, by simp [h.len], fun y hy => ?_, ?_, h.chg.grown hgr fun g' e => .inl (by injection e with e; exact e.symm)⟩
  · unfold CatW
    rw [List.length_set]; exact OwnTe.putId h.cat hjl z
  · rcases List.mem_or_eq_of_mem_set hy with h1 | h1
    · exact h.ok y h1
    · have hx := h.ok (l.getD j Te.zero) (by simp [hjl])
      rw [h1]; exact ⟨hz, hx.name, hx.lim, hx.hor⟩
  · rw [List.getD_eq_getElem?_getD, List.getElem?_set_ne (by omega), ← List.getD_eq_getElem?_getD]; exact h.mkT
theorem Cv.all {w0 w : World} {g c n : Nat} {l : List Te} (h : Cv w0 w g c n l) {j : Nat} (hj : j < n) {x : Te} (hx : x.Ok) : Cv w0 (w.setCells g (j * 4) x.cells) g c n (l.set j x) := by
  have hgr := grow_setCells w g (j * 4) x.cells
  have hjl : j < l.length := by rw [h.len]; omega
  refine ⟨?_, by simp [h.len], fun y hy => ?_, ?_, h.chg.grown hgr fun g' e => .inl (by injection e with e; exact e.symm)⟩
  · unfold CatW
    rw [List.length_set]; exact OwnTe.putAll h.cat hjl x
  · rcases List.mem_or_eq_of_mem_set hy with h1 | h1
    · exact h.ok y h1
    · rw [h1]; exact hx
  · rw [List.getD_eq_getElem?_getD, List.getElem?_set_ne (by omega), ← List.getD_eq_getElem?_getD]; exact h.mkT
theorem hresMC : Tryd.f15.results = #[.cell 2 34] := by kernel_rfl
set_option maxHeartbeats 8000000 in
set_option maxRecDepth 100000 in
theorem movedCatOf (nid : Int) (g c n : Nat) (l0 : List Te) (w : World) (h : Cv w w g c n l0) (hn : n ≤ 4398046511000) :
    Calls Tryd.prog 15 #[.agg #[.int .i64 nid, .slice (some ⟨g, 0, none⟩) n c]] w fun e w' => e = .returned (.agg #[.int .i64 nid, .slice (some ⟨g, 0, none⟩) n c]) ∧ ∃ l', Cv w w' g c n l' := by
  have hg : g < w.heap.size := OwnTe.lt h.cat
  obtain ⟨w0, hw0⟩ : ∃ w0, w.alloc (.cells #[.int .i64 nid, .slice (some ⟨g, 0, none⟩) n c] 34) = w0 := ⟨_, rfl⟩
  have hs0 : w0.heap.size = w.heap.size + 1 := by rw [← hw0]; simp
  have HB0 : Hid (Below w.heap.size w w0) := by rw [← hw0]; exact (Below.refl _ _).alloc (Nat.le_refl _) _
  have HMC0 : Hid (CC w0 w.heap.size nid (.slice (some ⟨g, 0, none⟩) n c)) := by rw [← hw0]; exact CC.made _ _ _
  obtain ⟨w00, hw00⟩ : ∃ w00, w0.alloc (.cells #[.int .i64 0, .slice none 0 0] 34) = w00 := ⟨_, rfl⟩
  have hs00 : w00.heap.size = w.heap.size + 1 + 1 := by rw [← hw00]; simp [hs0]
  have HB00 : Hid (Below w.heap.size w w00) := by rw [← hw00]; exact below_step HB0.out ((Below.refl _ _).alloc (Nat.le_refl _) _)
  have HMC : Hid (CC w00 w.heap.size nid (.slice (some ⟨g, 0, none⟩) n c)) := HMC0.out.block (by rw [← hw00]; exact heap_alloc_old _ _ (by omega))
  have HZ0 : Hid (CC w00 (w.heap.size + 1) 0 (.slice none 0 0)) := by
    unfold Hid
    rw [← hw00, ← hs0]; exact CC.made w0 0 _
  have HM0 : Hid (Cv w00 w00 g c n l0) := ⟨OwnTe.later h.cat HB00.out, h.len, h.ok, h.mkT, Chg.refl _ _⟩
  have HCB : Hid (∀ u X, Chg (fun k => k = g) w00 u → X < w.heap.size + 1 + 1 → w.heap.size ≤ X → u.heap[X]? = w00.heap[X]?) := fun u X hu h1 h2 => hu.block X (by omega) (by intro e; omega)
  clear HMC0 h
  obtain ⟨m0, m1, -⟩ := HMC.out
  go_enter Tryd.func15, Tryd.ntmps15
  go_wp2
  go_loopw [3] (fun i wr => ∃ (k : Nat) (l : List Te), k ≤ n ∧ i = .int .i64 k ∧ Hid (Cv w00 wr g c n l)) (fun i _ => n - (intOf i).toNat)
  case atStart => exact ⟨0, l0, Nat.zero_le _, rfl, HM0.out⟩
  case round =>
    obtain ⟨k, l, hk, rfl, HV⟩ := hrel
    clear m0 m1
    obtain ⟨m0, m1, -⟩ := HMC.out.block (HCB.out wr _ HV.out.chg (by omega) (Nat.le_refl _))
    by_cases hlt : k < n
    · obtain ⟨d0, d1, d2, d3⟩ := OwnTe.at HV.out.cat (j := k) (by rw [HV.out.len]; omega)
      have f0 := OwnTe.fz HV.out.cat (j := k * 4) (by rw [HV.out.len]; omega)
      have HN : Hid (∀ y, I64 y → Cv w00 (wr.setCell ⟨g, k * 4, none⟩ (.int .i64 y)).drew g c n (l.set k ⟨y, (l.getD k Te.zero).name, (l.getD k Te.zero).lim, (l.getD k Te.zero).hor⟩)) := fun y hy => (HV.out.idT hlt hy).drew
      generalize (l.getD k Te.zero).id = z at d0
      have hki : (k : Int) < (n : Int) := by omega
      clear d1 d2 d3
      go_wp2
      go_region
      all_goals go_wp2
      exact ⟨⟨k + 1, _, by omega, by go_num, HN.out _ (wrapI _)⟩, by simp [intOf]; omega⟩
    · have hki : ¬ (k : Int) < (n : Int) := by omega
      have HZ : CC wr (w.heap.size + 1) 0 (.slice none 0 0) := HZ0.out.block (HCB.out wr _ HV.out.chg (by omega) (by omega))
      have HST : Hid (CC _ (w.heap.size + 1) nid (.slice (some ⟨g, 0, none⟩) n c)) := HZ.stored (n := nid) (.slice (some ⟨g, 0, none⟩) n c)
      have HFIN : Hid (∃ l', Cv w (wr.setCells (w.heap.size + 1) 0 [.int .i64 nid, .slice (some ⟨g, 0, none⟩) n c]) g c n l') := by
        have h := HV.out
        have hsz := h.chg.size
        have hgr := grow_setCells wr (w.heap.size + 1) 0 [.int .i64 nid, .slice (some ⟨g, 0, none⟩) n c]
        refine ⟨l, OwnTe.of_block h.cat hgr.size fun g' e => ?_, h.len, h.ok, h.mkT, ((Chg.ofBelow HB00.out).trans h.chg).grown hgr fun g' e => .inr (by cases e; omega)⟩
        cases e; exact hgr.block g (OwnTe.lt h.cat) (fun e => by cases e; omega)
      obtain ⟨z0, z1, zf⟩ := HZ
      have zf0 := zf 0
      have zf1 := zf 1
      clear zf
      go_wp2
      refine bodyPost_ret (v := .agg #[.int .i64 nid, .slice (some ⟨g, 0, none⟩) n c]) ?_ rfl ⟨rfl, HFIN.out⟩
      obtain ⟨p0, p1, -⟩ := HST.out
      simp only [results, hresMC]
      go_simp
set_option maxHeartbeats 8000000 in
set_option maxRecDepth 100000 in
theorem backCatOf (ct : Ct) (g c : Nat) (l0 : List Te) (v : Value) (W w : World) (h : Cv w w g c ct.tops.length l0) (hW : Below W.heap.size W w) (hgW : W.heap.size ≤ g) (h2 : TesAt W v ct.tops) :
    Calls Tryd.prog 16 #[ct.agg (.slice (some ⟨g, 0, none⟩) ct.tops.length c), ct.agg v] w fun e w' => e = .returned (.tuple #[]) ∧ Cv w w' g c ct.tops.length (ct.tops ++ [markT]) := by
  have hg : g < w.heap.size := OwnTe.lt h.cat
  obtain ⟨nid, pd⟩ := ct
  simp only at h h2 ⊢
  obtain ⟨w0, hw0⟩ : ∃ w0, w.alloc (.cells #[.int .i64 nid, .slice (some ⟨g, 0, none⟩) pd.length c] 34) = w0 := ⟨_, rfl⟩
  have hs0 : w0.heap.size = w.heap.size + 1 := by rw [← hw0]; simp
  have HB0 : Hid (Below w.heap.size w w0) := by rw [← hw0]; exact (Below.refl _ _).alloc (Nat.le_refl _) _
  have HMC0 : Hid (CC w0 w.heap.size nid (.slice (some ⟨g, 0, none⟩) pd.length c)) := by rw [← hw0]; exact CC.made _ _ _
  obtain ⟨w00, hw00⟩ : ∃ w00, w0.alloc (.cells #[.int .i64 nid, v] 34) = w00 := ⟨_, rfl⟩
  have hs00 : w00.heap.size = w.heap.size + 1 + 1 := by rw [← hw00]; simp [hs0]
  have HB00 : Hid (Below w.heap.size w w00) := by rw [← hw00]; exact below_step HB0.out ((Below.refl _ _).alloc (Nat.le_refl _) _)
  have HMC : Hid (CC w00 w.heap.size nid (.slice (some ⟨g, 0, none⟩) pd.length c)) := HMC0.out.block (by rw [← hw00]; exact heap_alloc_old _ _ (by omega))
  have HMD : Hid (CC w00 (w.heap.size + 1) nid v) := by
    unfold Hid
    rw [← hw00, ← hs0]; exact CC.made w0 nid v
  have HM0 : Hid (Cv w00 w00 g c pd.length l0) := ⟨OwnTe.later h.cat HB00.out, h.len, h.ok, h.mkT, Chg.refl _ _⟩
  have HCB : Hid (∀ u X, Chg (fun k => k = g) w00 u → X < w.heap.size + 1 + 1 → w.heap.size ≤ X → u.heap[X]? = w00.heap[X]?) := fun u X hu h1 h2 => hu.block X (by omega) (by intro e; omega)
  have HWB : Hid (∀ u, Chg (fun k => k = g) w00 u → Below W.heap.size W u) := fun u hu =>
    (hW.trans (HB00.out.mono hW.size)).trans (hu.below (by have := hW.size; omega) (fun k hk => by subst hk; assumption))
  have HPS : Hid (∀ u j, Chg (fun k => k = g) w00 u → j < pd.length → ∃ b o, (∃ c, v = .slice (some ⟨b, o, none⟩) pd.length c) ∧ Te.CellsAt u b (o + j * 4) (pd.getD j Te.zero) ∧ (pd.getD j Te.zero).Ok) := fun u j hu hj => by
    obtain ⟨a, c, e, _, hok, hc⟩ := h2.later (HWB.out u hu)
    obtain ⟨b, o, e2, hc⟩ := hc (by intro e; rw [e] at hj; simp at hj)
    exact ⟨b, o, ⟨c, by rw [e, e2]⟩, hc j hj, hok _ (by simp [hj])⟩
  have hn2 : pd.length ≤ 4398046511000 := by obtain ⟨_, _, _, h, _⟩ := h2; exact h
  obtain ⟨a2, k2, rfl⟩ : ∃ a c, v = .slice a pd.length c := by obtain ⟨a, c, e, _⟩ := h2; exact ⟨a, c, e⟩
  clear HMC0 h h2
  obtain ⟨m0, m1, -⟩ := HMC.out
  obtain ⟨y0, y1, -⟩ := HMD.out
  unfold Ct.agg
  simp only
  go_enter Tryd.func16, Tryd.ntmps16
  go_wp2
  go_loopw [4] (fun i wr => ∃ (q : Nat) (l' : List Te), q ≤ pd.length ∧ i = .int .i64 q ∧ Hid (∀ j, j < q → l'.getD j Te.zero = pd.getD j Te.zero) ∧ Hid (Cv w00 wr g c pd.length l')) (fun i _ => pd.length - (intOf i).toNat)
  case atStart => exact ⟨0, l0, Nat.zero_le _, rfl, fun j hj => absurd hj (Nat.not_lt_zero _), HM0.out⟩
  case round =>
    obtain ⟨q, l', hq, rfl, HEQ, HV⟩ := hrel
    clear m0 m1 y0 y1
    obtain ⟨m0, m1, -⟩ := HMC.out.block (HCB.out wr _ HV.out.chg (by omega) (Nat.le_refl _))
    obtain ⟨y0, y1, -⟩ := HMD.out.block (HCB.out wr _ HV.out.chg (by omega) (by omega))
    by_cases hlt2 : q < pd.length
    · obtain ⟨d0, d1, d2, d3⟩ := OwnTe.at HV.out.cat (j := q) (by rw [HV.out.len]; omega)
      have f0 := OwnTe.fz HV.out.cat (j := q * 4) (by rw [HV.out.len]; omega)
      have f1 := OwnTe.fz HV.out.cat (j := q * 4 + 1) (by rw [HV.out.len]; omega)
      have f2 := OwnTe.fz HV.out.cat (j := q * 4 + 2) (by rw [HV.out.len]; omega)
      have f3 := OwnTe.fz HV.out.cat (j := q * 4 + 3) (by rw [HV.out.len]; omega)
      obtain ⟨b, o, ⟨c, hcc⟩, ⟨e0, e1, e2, e3⟩, e4⟩ := HPS.out wr q HV.out.chg hlt2
      injection hcc with hc1 hc2 hc3
      subst hc1 hc3
      have HNX : Hid (Cv w00 ((((wr.setCell ⟨g, q * 4, none⟩ (.int .i64 (pd.getD q Te.zero).id)).setCell ⟨g, q * 4 + 1, none⟩ (.string (pd.getD q Te.zero).name)).setCell ⟨g, q * 4 + 2, none⟩ (.int .i64 (pd.getD q Te.zero).lim)).setCell ⟨g, q * 4 + 3, none⟩ (.int .i64 (pd.getD q Te.zero).hor)).drew g c pd.length (l'.set q (pd.getD q Te.zero)) ∧ ∀ j, j < q + 1 → (l'.set q (pd.getD q Te.zero)).getD j Te.zero = pd.getD j Te.zero) := by
        refine ⟨(HV.out.all hlt2 e4).drew, fun j hj => ?_⟩
        by_cases hjk : j = q
        · subst hjk
          rw [List.getD_eq_getElem?_getD, List.getElem?_set_self (by rw [HV.out.len]; omega)]; rfl
        · rw [List.getD_eq_getElem?_getD, List.getElem?_set_ne (Ne.symm hjk), ← List.getD_eq_getElem?_getD]
          exact HEQ.out j (by omega)
      generalize hS : l'.set q (pd.getD q Te.zero) = lS at HNX
      generalize (pd.getD q Te.zero).id = x1 at e0 HNX
      generalize (pd.getD q Te.zero).name = x2 at e1 HNX
      generalize (pd.getD q Te.zero).lim = x3 at e2 HNX
      generalize (pd.getD q Te.zero).hor = x4 at e3 HNX
      generalize (l'.getD q Te.zero).id = u1 at d0
      generalize (l'.getD q Te.zero).name = u2 at d1
      generalize (l'.getD q Te.zero).lim = u3 at d2
      generalize (l'.getD q Te.zero).hor = u4 at d3
      have hqi : (q : Int) < (pd.length : Int) := by omega
      clear e4 hS
      go_wp2
      go_region
      all_goals go_wp2
      exact ⟨⟨q + 1, lS, by omega, by go_num, HNX.out.2, HNX.out.1⟩, by simp [intOf]; omega⟩
    · have hqi : ¬ (q : Int) < (pd.length : Int) := by omega
      obtain rfl : q = pd.length := by omega
      have HFIN : Hid (Cv w wr g c pd.length (pd ++ [markT])) := by
        have h := HV.out
        have hl : l' = pd ++ [markT] := by
          refine List.ext_getElem (by simp [h.len]) fun j hj1 hj2 => ?_
          have e1 : l'[j] = l'.getD j Te.zero := by simp [hj1]
          rw [e1]
          by_cases hjs : j < pd.length
          · rw [HEQ.out j hjs, List.getElem_append_left hjs]; simp [hjs]
          · obtain rfl : j = pd.length := by rw [h.len] at hj1; omega
            rw [h.mkT]; simp
        rw [← hl]
        exact ⟨h.cat, h.len, h.ok, h.mkT, (Chg.ofBelow HB00.out).trans h.chg⟩
      clear HV HEQ
      go_wp2
      go_end0
      exact ⟨rfl, HFIN.out⟩
end Go.Proofs.YteekmmgopnnioaaDoor

/-! manifest: the law's kept, keptCat. -/
namespace Go.Proofs.YteekmmgopnnioaaDoor
open Go.RowKit Plain
set_option linter.unusedVariables false
set_option linter.unusedSimpArgs false

theorem ManW.later {w w' : World} {g1 c1 g2 c2 : Nat} {l1 : List Int} {l2 : List Pr} (h : ManW w g1 c1 g2 c2 l1 l2) (hb : Below w.heap.size w w') : ManW w' g1 c1 g2 c2 l1 l2 := ⟨h.s.later hb, h.p.later hb, h.ne⟩
/-- The copy reads as the manifest. -/
theorem ManW.reads {w : World} {g1 c1 g2 c2 : Nat} {s : List Int} {p : List Pr} (h : ManW w g1 c1 g2 c2 (s ++ [-77]) (p ++ [markP])) (hs : s.length ≤ 17592186044400) (hp : p.length ≤ 8796093021000) (ho1 : ∀ z ∈ s, I64 z) (ho2 : ∀ x ∈ p, x.Ok) : IntsAt w (.slice (some ⟨g1, 0, none⟩) s.length c1) s ∧ PrsAt w (.slice (some ⟨g2, 0, none⟩) p.length c2) p := by
  constructor
  · have h1 : IntsAt w _ (s ++ [-77]) := h.s.reads (by simp; omega) (fun z hz => by
      rcases List.mem_append.mp hz with h | h
      · exact ho1 z h
      · simp at h; rw [h]; unfold I64; omega)
    have := h1.take s.length (by simp)
    rwa [List.take_left'] at this
    rfl
  · have := h.p.first (k := p.length) (by simp) (by simp; omega) (fun x hx => by
      rcases List.mem_append.mp hx with h | h
      · exact ho2 x h
      · simp at h; rw [h]; exact ⟨by unfold markP I64; simp, by unfold markP I64; simp, by unfold markP I64; simp⟩)
    rwa [List.take_left'] at this
    rfl
theorem CatW.later {w w' : World} {g c : Nat} {l : List Te} (h : CatW w g c l) (hb : Below w.heap.size w w') : CatW w' g c l := OwnTe.later h hb
theorem CatW.reads {w : World} {g c : Nat} {p : List Te} (h : CatW w g c (p ++ [markT])) (hp : p.length ≤ 4398046510000) (ho2 : ∀ x ∈ p, x.Ok) : TesIn w (.slice (some ⟨g, 0, none⟩) p.length c) p := by
  refine ⟨?_, fun a n c' e => ?_⟩
  · have := OwnTe.first h (k := p.length) (by simp) (by simp; omega) (fun x hx => by
      rcases List.mem_append.mp hx with h | h
      · exact ho2 x h
      · simp at h; rw [h]; exact ⟨by unfold markT I64; simp, by unfold markT; exact Nat.zero_le _, by unfold markT I64; simp, by unfold markT I64; simp⟩)
    rwa [List.take_left'] at this
    rfl
  · injection e with e1 e2 e3
    have := (OwnTe.capP h).2
    simp at this
    omega
set_option maxHeartbeats 8000000 in
set_option maxRecDepth 100000 in
theorem keptOf (m : Mf) (g1 c1 g2 c2 : Nat) (vs vp : Value) (w : World) (h : ManW w g1 c1 g2 c2 (m.segs ++ [-77]) (m.prods ++ [markP])) (h1 : IntsAt w vs m.segs) (h2 : PrsAt w vp m.prods) (hl1 : m.segs.length ≤ 17592186044400) (hl2 : m.prods.length ≤ 8796093021000) :
    Calls Tryd.prog 21 #[m.agg (.slice (some ⟨g1, 0, none⟩) m.segs.length c1) (.slice (some ⟨g2, 0, none⟩) m.prods.length c2), m.agg vs vp] w fun e w' => e = .returned (.bool true) ∧ Below w.heap.size w w' := by
  have ho1 : ∀ z ∈ m.segs, I64 z := by obtain ⟨_, _, _, _, _, h, _⟩ := h1; exact h
  have ho2 : ∀ x ∈ m.prods, x.Ok := by obtain ⟨_, _, _, _, h, _⟩ := h2; exact h
  have hc1 : m.segs.length + 1 ≤ c1 := by have := h.s.capI.2; simpa using this
  have hc2 : m.prods.length + 1 ≤ c2 := by have := (OwnPr.capP h.p).2; simpa using this
  obtain ⟨w0, hw0⟩ : ∃ w0, w.alloc (m.obj (.slice (some ⟨g1, 0, none⟩) m.segs.length c1) (.slice (some ⟨g2, 0, none⟩) m.prods.length c2)) = w0 := ⟨_, rfl⟩
  have hs0 : w0.heap.size = w.heap.size + 1 := by rw [← hw0]; simp
  have HB0 : Hid (Below w.heap.size w w0) := by rw [← hw0]; exact (Below.refl _ _).alloc (Nat.le_refl _) _
  have HMC0 : Hid (MC w0 w.heap.size m (.slice (some ⟨g1, 0, none⟩) m.segs.length c1) (.slice (some ⟨g2, 0, none⟩) m.prods.length c2)) := by rw [← hw0]; exact MC.made _ _ _ _
  obtain ⟨w00, hw00⟩ : ∃ w00, w0.alloc (m.obj vs vp) = w00 := ⟨_, rfl⟩
  have hs00 : w00.heap.size = w.heap.size + 1 + 1 := by rw [← hw00]; simp [hs0]
  have HB00 : Hid (Below w.heap.size w w00) := by rw [← hw00]; exact below_step HB0.out ((Below.refl _ _).alloc (Nat.le_refl _) _)
  have HMC : Hid (MC w00 w.heap.size m (.slice (some ⟨g1, 0, none⟩) m.segs.length c1) (.slice (some ⟨g2, 0, none⟩) m.prods.length c2)) := HMC0.out.block (by rw [← hw00]; exact heap_alloc_old _ _ (by omega))
  have HMD : Hid (MC w00 (w.heap.size + 1) m vs vp) := by
    unfold Hid
    rw [← hw00, ← hs0]; exact MC.made w0 m vs vp
  have HSM : Hid (Calls Tryd.prog 32 #[m.agg (.slice (some ⟨g1, 0, none⟩) m.segs.length c1) (.slice (some ⟨g2, 0, none⟩) m.prods.length c2), m.agg vs vp] w00 fun e w' => e = .returned (.bool true) ∧ Below w00.heap.size w00 w') := by
    obtain ⟨r1, r2⟩ := (h.later HB00.out).reads hl1 hl2 ho1 ho2
    exact sameManOf m _ _ _ _ w00 r1 r2 (h1.later HB00.out) (h2.later HB00.out)
  have HK : Hid (∀ u, Below w00.heap.size w00 u → u.cell? ⟨g1, m.segs.length, none⟩ = some (.int .i64 (-77)) ∧ u.cell? ⟨g2, m.prods.length * 3, none⟩ = some (.int .i64 (-77)) ∧ MC u w.heap.size m (.slice (some ⟨g1, 0, none⟩) m.segs.length c1) (.slice (some ⟨g2, 0, none⟩) m.prods.length c2)) := fun u hu => by
    have hm := h.later (below_step HB00.out hu)
    have e1 := (hm.s.cellI (j := m.segs.length) (by simp)).1
    have e2 := (hm.p.at (j := m.prods.length) (by simp)).c0
    refine ⟨by rw [e1]; simp, by rw [e2]; simp [markP], HMC.out.block (hu.block _ (by omega))⟩
  obtain ⟨a1, k1, rfl⟩ : ∃ a c, vs = .slice a m.segs.length c := by obtain ⟨a, c, e, _⟩ := h1; exact ⟨a, c, e⟩
  obtain ⟨a2, k2, rfl⟩ : ∃ a c, vp = .slice a m.prods.length c := by obtain ⟨a, c, e, _⟩ := h2; exact ⟨a, c, e⟩
  clear HMC0 h h1 h2 ho1 ho2
  obtain ⟨m0, m1, m2, m3, m4, m5, m6, -⟩ := HMC.out
  obtain ⟨y0, y1, y2, y3, y4, y5, y6, -⟩ := HMD.out
  obtain ⟨mi, mn, mx, mk, mc, sg, pd⟩ := m
  simp only at HMC HMD HSM HK hl1 hl2 hc1 hc2 m0 m1 m2 m3 m4 m5 m6 y0 y1 y2 y3 y4 y5 y6 hw0 hw00 ⊢
  unfold Mf.agg at HSM ⊢
  simp only at HSM ⊢
  go_enter Tryd.func21, Tryd.ntmps21
  go_wp2_with fail
  refine HSM.out.mono ?_
  rintro e w2 ⟨rfl, hb2⟩
  have HB2 : Hid (Below w.heap.size w w2) := below_step HB00.out hb2
  obtain ⟨x1, x2, n0, n1, n2, n3, n4, n5, n6, -⟩ := HK.out w2 hb2
  simp only at n0 n1 n2 n3 n4
  clear hb2
  go_wp2
  go_ret
  exact ⟨rfl, HB2.out⟩
set_option maxHeartbeats 8000000 in
set_option maxRecDepth 100000 in
theorem keptCatOf (ct : Ct) (g c : Nat) (v : Value) (w : World) (h : CatW w g c (ct.tops ++ [markT])) (h2 : TesAt w v ct.tops) (hl2 : ct.tops.length ≤ 4398046510000) :
    Calls Tryd.prog 22 #[ct.agg (.slice (some ⟨g, 0, none⟩) ct.tops.length c), ct.agg v] w fun e w' => e = .returned (.bool true) ∧ Below w.heap.size w w' := by
  obtain ⟨nid, pd⟩ := ct
  simp only at h h2 hl2 ⊢
  have ho2 : ∀ x ∈ pd, x.Ok := by obtain ⟨_, _, _, _, h, _⟩ := h2; exact h
  have hc2 : pd.length + 1 ≤ c := by have := (OwnTe.capP h).2; simpa using this
  obtain ⟨w0, hw0⟩ : ∃ w0, w.alloc (.cells #[.int .i64 nid, .slice (some ⟨g, 0, none⟩) pd.length c] 34) = w0 := ⟨_, rfl⟩
  have hs0 : w0.heap.size = w.heap.size + 1 := by rw [← hw0]; simp
  have HB0 : Hid (Below w.heap.size w w0) := by rw [← hw0]; exact (Below.refl _ _).alloc (Nat.le_refl _) _
  have HMC0 : Hid (CC w0 w.heap.size nid (.slice (some ⟨g, 0, none⟩) pd.length c)) := by rw [← hw0]; exact CC.made _ _ _
  obtain ⟨w00, hw00⟩ : ∃ w00, w0.alloc (.cells #[.int .i64 nid, v] 34) = w00 := ⟨_, rfl⟩
  have hs00 : w00.heap.size = w.heap.size + 1 + 1 := by rw [← hw00]; simp [hs0]
  have HB00 : Hid (Below w.heap.size w w00) := by rw [← hw00]; exact below_step HB0.out ((Below.refl _ _).alloc (Nat.le_refl _) _)
  have HMC : Hid (CC w00 w.heap.size nid (.slice (some ⟨g, 0, none⟩) pd.length c)) := HMC0.out.block (by rw [← hw00]; exact heap_alloc_old _ _ (by omega))
  have HMD : Hid (CC w00 (w.heap.size + 1) nid v) := by
    unfold Hid
    rw [← hw00, ← hs0]; exact CC.made w0 nid v
  have HSM : Hid (Calls Tryd.prog 33 #[.agg #[.int .i64 nid, .slice (some ⟨g, 0, none⟩) pd.length c], .agg #[.int .i64 nid, v]] w00 fun e w' => e = .returned (.bool true) ∧ Below w00.heap.size w00 w') := sameCatOf ⟨nid, pd⟩ _ _ w00 ((h.later HB00.out).reads hl2 ho2).1 (h2.later HB00.out)
  have HK : Hid (∀ u, Below w00.heap.size w00 u → u.cell? ⟨g, pd.length * 4, none⟩ = some (.int .i64 (-77)) ∧ CC u w.heap.size nid (.slice (some ⟨g, 0, none⟩) pd.length c)) := fun u hu => by
    have hm := h.later (below_step HB00.out hu)
    have e2 := (OwnTe.at hm (j := pd.length) (by simp)).c0
    exact ⟨by rw [e2]; simp [markT], HMC.out.block (hu.block _ (by omega))⟩
  obtain ⟨a2, k2, rfl⟩ : ∃ a c, v = .slice a pd.length c := by obtain ⟨a, c, e, _⟩ := h2; exact ⟨a, c, e⟩
  clear HMC0 h h2 ho2
  obtain ⟨m0, m1, -⟩ := HMC.out
  obtain ⟨y0, y1, -⟩ := HMD.out
  unfold Ct.agg
  simp only
  go_enter Tryd.func22, Tryd.ntmps22
  go_wp2_with fail
  refine HSM.out.mono ?_
  rintro e w2 ⟨rfl, hb2⟩
  have HB2 : Hid (Below w.heap.size w w2) := below_step HB00.out hb2
  obtain ⟨x2, n0, n1, -⟩ := HK.out w2 hb2
  clear hb2
  go_wp2
  go_ret
  exact ⟨rfl, HB2.out⟩
end Go.Proofs.YteekmmgopnnioaaDoor

/-! manifest: the document's CheckCatalogue. -/
namespace Go.Proofs.YteekmmgopnnioaaDoor
open Go.RowKit Plain
set_option linter.unusedVariables false
set_option linter.unusedSimpArgs false

end Go.Proofs.YteekmmgopnnioaaDoor

/-! manifest: the law of checks: its walk. -/
namespace Go.Proofs.YteekmmgopnnioaaDoor
open Go.RowKit Plain
set_option linter.unusedVariables false
set_option linter.unusedSimpArgs false

theorem Mv.reads {w0 w : World} {g1 c1 g2 c2 n1 n2 : Nat} {l1 : List Int} {l2 : List Pr} (h : Mv w0 w g1 c1 g2 c2 n1 n2 l1 l2) (hs : n1 ≤ 17592186044400) (hp : n2 ≤ 8796093021000) : IntsAt w (.slice (some ⟨g1, 0, none⟩) n1 c1) (l1.take n1) ∧ PrsAt w (.slice (some ⟨g2, 0, none⟩) n2 c2) (l2.take n2) := by
  constructor
  · have h1 : IntsAt w _ l1 := h.man.s.reads (by rw [h.len1]; omega) h.ok1
    exact h1.take n1 (by rw [h.len1]; omega)
  · exact h.man.p.first (k := n2) (by rw [h.len2]; omega) (by rw [h.len2]; omega) h.ok2
theorem Cv.reads {w0 w : World} {g c n : Nat} {l : List Te} (h : Cv w0 w g c n l) (hp : n ≤ 4398046510000) : TesIn w (.slice (some ⟨g, 0, none⟩) n c) (l.take n) := by
  refine ⟨OwnTe.first h.cat (k := n) (by rw [h.len]; omega) (by rw [h.len]; omega) h.ok, fun a n' c' e => ?_⟩
  injection e with e1 e2 e3
  have := (OwnTe.capP h.cat).2
  have := h.len
  omega
theorem Mv.again {w0 w w' : World} {g1 c1 g2 c2 n1 n2 : Nat} {l1 : List Int} {l2 : List Pr} (h : Mv w0 w g1 c1 g2 c2 n1 n2 l1 l2) (hb : Below w.heap.size w w') : Mv w' w' g1 c1 g2 c2 n1 n2 l1 l2 :=
  ⟨h.man.later hb, h.len1, h.len2, h.ok1, h.ok2, h.mk1, h.mk2, Chg.refl _ _⟩
theorem Cv.again {w0 w w' : World} {g c n : Nat} {l : List Te} (h : Cv w0 w g c n l) (hb : Below w.heap.size w w') : Cv w' w' g c n l :=
  ⟨h.cat.later hb, h.len, h.ok, h.mkT, Chg.refl _ _⟩
theorem ManW.start {w : World} {g1 c1 g2 c2 : Nat} {s : List Int} {p : List Pr} (h : ManW w g1 c1 g2 c2 (s ++ [-77]) (p ++ [markP])) (ho1 : ∀ z ∈ s, I64 z) (ho2 : ∀ x ∈ p, x.Ok) : Mv w w g1 c1 g2 c2 s.length p.length (s ++ [-77]) (p ++ [markP]) :=
  ⟨h, by simp, by simp, fun z hz => by
      rcases List.mem_append.mp hz with h | h
      · exact ho1 z h
      · simp at h; rw [h]; unfold I64; omega, fun x hx => by
      rcases List.mem_append.mp hx with h | h
      · exact ho2 x h
      · simp at h; rw [h]; exact ⟨by unfold markP I64; simp, by unfold markP I64; simp, by unfold markP I64; simp⟩, by simp, by simp, Chg.refl _ _⟩
theorem CatW.start {w : World} {g c : Nat} {p : List Te} (h : CatW w g c (p ++ [markT])) (ho2 : ∀ x ∈ p, x.Ok) : Cv w w g c p.length (p ++ [markT]) :=
  ⟨h, by simp, fun x hx => by
      rcases List.mem_append.mp hx with h | h
      · exact ho2 x h
      · simp at h; rw [h]; exact ⟨by unfold markT I64; simp, by unfold markT; exact Nat.zero_le _, by unfold markT I64; simp, by unfold markT I64; simp⟩, by simp, Chg.refl _ _⟩
theorem CatW.chg {w w' : World} {g c : Nat} {l : List Te} {S : Nat → Prop} (h : CatW w g c l) (hc : Chg S w w') (hn : ¬ S g) : CatW w' g c l := OwnTe.of_block h hc.size fun g' e => by cases e; exact hc.block g (OwnTe.lt h) hn
theorem ManW.chg {w w' : World} {g1 c1 g2 c2 : Nat} {l1 : List Int} {l2 : List Pr} {S : Nat → Prop} (h : ManW w g1 c1 g2 c2 l1 l2) (hc : Chg S w w') (h1 : ¬ S g1) (h2 : ¬ S g2) : ManW w' g1 c1 g2 c2 l1 l2 :=
  ⟨h.s.of_block hc.size fun g' e => by cases e; exact hc.block g1 h.s.lt h1, h.p.of_block hc.size fun g' e => by cases e; exact hc.block g2 h.p.lt h2, h.ne⟩
/-- All that the law holds. -/
structure LW (W0 w : World) (m : Mf) (ct : Ct) (g1 c1 g2 c2 g3 c3 xn xd : Nat) (l1 : List Int) (l2 : List Pr) (l3 : List Te) : Prop where
  man : ManW w g1 c1 g2 c2 l1 l2
  cat : CatW w g3 c3 l3
  nc : MC w xn m (.slice (some ⟨g1, 0, none⟩) m.segs.length c1) (.slice (some ⟨g2, 0, none⟩) m.prods.length c2)
  dc : CC w xd ct.nid (.slice (some ⟨g3, 0, none⟩) ct.tops.length c3)
  base : Below W0.heap.size W0 w
  e1 : W0.heap.size ≤ g1
  e2 : W0.heap.size ≤ g2
  e3 : W0.heap.size ≤ g3
  d1 : g3 ≠ g1
  d2 : g3 ≠ g2
  x1 : xn ≠ g1
  x2 : xn ≠ g2
  x3 : xn ≠ g3
  y1 : xd ≠ g1
  y2 : xd ≠ g2
  y3 : xd ≠ g3
theorem LW.later {W0 w w' : World} {m : Mf} {ct : Ct} {g1 c1 g2 c2 g3 c3 xn xd : Nat} {l1 : List Int} {l2 : List Pr} {l3 : List Te} (h : LW W0 w m ct g1 c1 g2 c2 g3 c3 xn xd l1 l2 l3) (hb : Below w.heap.size w w') : LW W0 w' m ct g1 c1 g2 c2 g3 c3 xn xd l1 l2 l3 :=
  ⟨h.man.later hb, h.cat.later hb, h.nc.block (hb.block _ h.nc.lt), h.dc.block (hb.block _ h.dc.lt), below_step h.base hb, h.e1, h.e2, h.e3, h.d1, h.d2, h.x1, h.x2, h.x3, h.y1, h.y2, h.y3⟩
theorem LW.mv {W0 w w' : World} {m : Mf} {ct : Ct} {g1 c1 g2 c2 g3 c3 xn xd n1 n2 : Nat} {l1 l1' : List Int} {l2 l2' : List Pr} {l3 : List Te} (h : LW W0 w m ct g1 c1 g2 c2 g3 c3 xn xd l1 l2 l3) (hv : Mv w w' g1 c1 g2 c2 n1 n2 l1' l2') : LW W0 w' m ct g1 c1 g2 c2 g3 c3 xn xd l1' l2' l3 :=
  ⟨hv.man, h.cat.chg hv.chg (by rintro (e | e); exact h.d1 e; exact h.d2 e), h.nc.block (hv.chg.block _ h.nc.lt (by rintro (e | e); exact h.x1 e; exact h.x2 e)), h.dc.block (hv.chg.block _ h.dc.lt (by rintro (e | e); exact h.y1 e; exact h.y2 e)), h.base.trans (hv.chg.below h.base.size (fun k hk => by
    have := h.e1
    have := h.e2
    rcases hk with e | e <;> omega)), h.e1, h.e2, h.e3, h.d1, h.d2, h.x1, h.x2, h.x3, h.y1, h.y2, h.y3⟩
theorem LW.cv {W0 w w' : World} {m : Mf} {ct : Ct} {g1 c1 g2 c2 g3 c3 xn xd n : Nat} {l1 : List Int} {l2 : List Pr} {l3 l3' : List Te} (h : LW W0 w m ct g1 c1 g2 c2 g3 c3 xn xd l1 l2 l3) (hv : Cv w w' g3 c3 n l3') : LW W0 w' m ct g1 c1 g2 c2 g3 c3 xn xd l1 l2 l3' :=
  ⟨h.man.chg hv.chg (fun e => h.d1 e.symm) (fun e => h.d2 e.symm), hv.cat, h.nc.block (hv.chg.block _ h.nc.lt h.x3), h.dc.block (hv.chg.block _ h.dc.lt h.y3), h.base.trans (hv.chg.below h.base.size (fun k hk => by
    have := h.e3
    omega)), h.e1, h.e2, h.e3, h.d1, h.d2, h.x1, h.x2, h.x3, h.y1, h.y2, h.y3⟩
end Go.Proofs.YteekmmgopnnioaaDoor

/-! manifest: the law of orphans: what it writes to. -/
namespace Go.Proofs.YteekmmgopnnioaaDoor
open Go.RowKit Go.Maps Plain
open Mn (FN parseL ofT lastI leftP orphP strP orphQ strQ namedQ namedR knownQ thoseL thoseL_step thoseL_len thoseL_eq parse_pn orphan_eq strange_eq)
set_option linter.unusedVariables false
set_option linter.unusedSimpArgs false

def slT : ByteArray := ⟨#[47]⟩
def revT (ss : List ByteArray) (k : Nat) : List ByteArray := (List.range k).map fun i => ss.getD (ss.length - 1 - i) ⟨#[]⟩
theorem revT_len (ss : List ByteArray) (k : Nat) : (revT ss k).length = k := by simp [revT]
theorem revT_succ (ss : List ByteArray) (k : Nat) : revT ss (k + 1) = revT ss k ++ [ss.getD (ss.length - 1 - k) ⟨#[]⟩] := by simp [revT, List.range_succ]
theorem revT_ok {ss : List ByteArray} (h : ∀ s ∈ ss, s.size ≤ 281474976710656) : ∀ s ∈ revT ss ss.length, s.size ≤ 281474976710656 := by
  intro s hs
  obtain ⟨i, hi, rfl⟩ := List.mem_map.mp hs
  have hi' := List.mem_range.mp hi
  exact h _ (by
    have : ss.length - 1 - i < ss.length := by omega
    simp [this])
/-- A row with a mark behind it reads. -/
theorem OwnV.headT {w : World} {g n c k : Nat} {T : List ByteArray} {m : ByteArray} (h : OwnV w (.slice (some ⟨g, 0, none⟩) n c) (txs (T ++ [m])) (some g)) (hk : T.length = k) (hl : T.length ≤ 8796093022208) (hok : ∀ s ∈ T, s.size ≤ 281474976710656) : TxAt w (.slice (some ⟨g, 0, none⟩) k c) T := by
  have hc : T.length ≤ c := by
    rcases h with ⟨_, _, h⟩ | ⟨g', cap, e, e2, hg, h1, _⟩
    · simp at h
    · simp at e2
      rw [txs_len] at h1
      simp at h1
      omega
  refine ⟨_, c, by rw [hk], hc, hl, hok, fun _ => ⟨g, 0, rfl, fun j hj => ?_⟩⟩
  have := (h.cellT (j := j) (by simp; omega)).1
  rw [show (T ++ [m]).getD j ⟨#[]⟩ = T.getD j ⟨#[]⟩ by simp [List.getElem?_append_left hj]] at this
  rw [Nat.zero_add]
  exact this
theorem LW.gl {W0 w w' : World} {m : Mf} {ct : Ct} {g1 c1 g2 c2 g3 c3 xn xd gl : Nat} {l1 : List Int} {l2 : List Pr} {l3 : List Te} (h : LW W0 w m ct g1 c1 g2 c2 g3 c3 xn xd l1 l2 l3) (hc : Chg (fun k => k = gl) w w') (el : W0.heap.size ≤ gl) (z1 : gl ≠ g1) (z2 : gl ≠ g2) (z3 : gl ≠ g3) (z4 : gl ≠ xn) (z5 : gl ≠ xd) : LW W0 w' m ct g1 c1 g2 c2 g3 c3 xn xd l1 l2 l3 :=
  ⟨h.man.chg hc (fun e => z1 e.symm) (fun e => z2 e.symm), h.cat.chg hc (fun e => z3 e.symm), h.nc.block (hc.block _ h.nc.lt (fun e => z4 e.symm)), h.dc.block (hc.block _ h.dc.lt (fun e => z5 e.symm)), h.base.trans (hc.below h.base.size (fun k hk => by omega)), h.e1, h.e2, h.e3, h.d1, h.d2, h.x1, h.x2, h.x3, h.y1, h.y2, h.y3⟩
/-- The copies, and beside them the row of names. -/
structure OW (W0 w : World) (m : Mf) (ct : Ct) (g1 c1 g2 c2 g3 c3 xn xd : Nat) (l1 : List Int) (l2 : List Pr) (l3 : List Te) (gl cl nl : Nat) (T : List ByteArray) : Prop where
  lw : LW W0 w m ct g1 c1 g2 c2 g3 c3 xn xd l1 l2 l3
  row : OwnV w (.slice (some ⟨gl, 0, none⟩) nl cl) (txs T) (some gl)
  el : W0.heap.size ≤ gl
  z1 : gl ≠ g1
  z2 : gl ≠ g2
  z3 : gl ≠ g3
  z4 : gl ≠ xn
  z5 : gl ≠ xd
theorem OW.later {W0 w w' : World} {m : Mf} {ct : Ct} {g1 c1 g2 c2 g3 c3 xn xd gl cl nl : Nat} {l1 : List Int} {l2 : List Pr} {l3 : List Te} {T : List ByteArray} (h : OW W0 w m ct g1 c1 g2 c2 g3 c3 xn xd l1 l2 l3 gl cl nl T) (hb : Below w.heap.size w w') : OW W0 w' m ct g1 c1 g2 c2 g3 c3 xn xd l1 l2 l3 gl cl nl T :=
  ⟨h.lw.later hb, h.row.of_block hb.size (fun g e => hb.block g (by cases e; exact h.row.lt)), h.el, h.z1, h.z2, h.z3, h.z4, h.z5⟩
theorem OW.mv {W0 w w' : World} {m : Mf} {ct : Ct} {g1 c1 g2 c2 g3 c3 xn xd gl cl nl n1 n2 : Nat} {l1 l1' : List Int} {l2 l2' : List Pr} {l3 : List Te} {T : List ByteArray} (h : OW W0 w m ct g1 c1 g2 c2 g3 c3 xn xd l1 l2 l3 gl cl nl T) (hv : Mv w w' g1 c1 g2 c2 n1 n2 l1' l2') : OW W0 w' m ct g1 c1 g2 c2 g3 c3 xn xd l1' l2' l3 gl cl nl T :=
  ⟨h.lw.mv hv, h.row.of_block hv.chg.size (fun g e => by cases e; exact hv.chg.block _ h.row.lt (by rintro (e | e); exact h.z1 e; exact h.z2 e)), h.el, h.z1, h.z2, h.z3, h.z4, h.z5⟩
theorem OW.cv {W0 w w' : World} {m : Mf} {ct : Ct} {g1 c1 g2 c2 g3 c3 xn xd gl cl nl n : Nat} {l1 : List Int} {l2 : List Pr} {l3 l3' : List Te} {T : List ByteArray} (h : OW W0 w m ct g1 c1 g2 c2 g3 c3 xn xd l1 l2 l3 gl cl nl T) (hv : Cv w w' g3 c3 n l3') : OW W0 w' m ct g1 c1 g2 c2 g3 c3 xn xd l1 l2 l3' gl cl nl T :=
  ⟨h.lw.cv hv, h.row.of_block hv.chg.size (fun g e => by cases e; exact hv.chg.block _ h.row.lt h.z3), h.el, h.z1, h.z2, h.z3, h.z4, h.z5⟩
theorem OW.put {W0 w : World} {m : Mf} {ct : Ct} {g1 c1 g2 c2 g3 c3 xn xd gl cl nl : Nat} {l1 : List Int} {l2 : List Pr} {l3 : List Te} {T : List ByteArray} (h : OW W0 w m ct g1 c1 g2 c2 g3 c3 xn xd l1 l2 l3 gl cl nl T) {j : Nat} (hj : j < T.length) (s : ByteArray) : OW W0 (w.setCell ⟨gl, j, none⟩ (.string s)) m ct g1 c1 g2 c2 g3 c3 xn xd l1 l2 l3 gl cl nl (T.set j s) := by
  have hr := h.row.put (j := j) (by rw [txs_len]; exact hj) (.string s)
  rw [txs_set] at hr
  exact ⟨h.lw.gl ((Chg.refl _ w).grown (grow_setCells w gl j [.string s]) (fun g e => by simp at e; exact .inl e.symm)) h.el h.z1 h.z2 h.z3 h.z4 h.z5, hr, h.el, h.z1, h.z2, h.z3, h.z4, h.z5⟩
theorem tback_step (st ts : List ByteArray) (k : Nat) (h1 : k < st.length) (h2 : st.length ≤ ts.length) : (st.take k ++ ts.drop k).set k (st.getD k ⟨#[]⟩) = st.take (k + 1) ++ ts.drop (k + 1) := by
  have hk : (st.take k).length = k := by simp; omega
  rw [List.set_append_right _ _ (by omega), hk, Nat.sub_self, List.drop_eq_getElem_cons (by omega), List.set_cons_zero, List.take_succ_eq_append_getElem h1, List.append_assoc]
  congr 1
  simp [h1]
end Go.Proofs.YteekmmgopnnioaaDoor

/-! manifest: the law of orphans: the walk. -/
namespace Go.Proofs.YteekmmgopnnioaaDoor
open Go.RowKit Go.Maps Plain
open Mn (FN parseL ofT lastI leftP orphP strP orphQ strQ namedQ namedR knownQ thoseL thoseL_step thoseL_len thoseL_eq parse_pn orphan_eq strange_eq)
set_option linter.unusedVariables false
set_option linter.unusedSimpArgs false

theorem thoseL_ok {q : FN → Bool} {ss : List ByteArray} (h : ∀ s ∈ ss, s.size ≤ 281474976710656) : ∀ s ∈ thoseL q ss, s.size ≤ 281474976710656 := fun s hs => h s (List.mem_filter.mp hs).1

set_option maxHeartbeats 60000000 in
set_option maxRecDepth 100000 in
theorem orphansWalk (vn : Value) (ss : List ByteArray) (m : Mf) (vs vp : Value) (ct : Ct) (v : Value) (W : World) (h0 : TxAt W vn ss) (h1 : IntsAt W vs m.segs) (h2 : PrsAt W vp m.prods) (h3 : TesIn W v ct.tops) (hl1 : m.segs.length ≤ 17592186044400) (hl2 : m.prods.length ≤ 8796093021000) (hl3 : ct.tops.length ≤ 4398046510000) (hP : ParseIs W) (hQ : RParseIs) :
    Calls Tryd.prog 4 #[vn, m.agg vs vp, ct.agg v] W fun e w' => e = .returned (.bool true) ∧ Below W.heap.size W w' := by
  have HO1 : Hid (∀ z ∈ m.segs, I64 z) := by obtain ⟨_, _, _, _, _, h, _⟩ := h1; exact h
  have HO2 : Hid (∀ x ∈ m.prods, x.Ok) := by obtain ⟨_, _, _, _, h, _⟩ := h2; exact h
  have HO3 : Hid (∀ x ∈ ct.tops, x.Ok) := by obtain ⟨⟨_, _, _, _, h, _⟩, _⟩ := h3; exact h
  obtain ⟨wa, hwa⟩ : ∃ u, W.alloc (m.obj vs vp) = u := ⟨_, rfl⟩
  obtain ⟨W0, hW0⟩ : ∃ u, wa.alloc (.cells #[.int .i64 ct.nid, v] 34) = u := ⟨_, rfl⟩
  have hsa : wa.heap.size = W.heap.size + 1 := by rw [← hwa]; simp
  have hs0 : W0.heap.size = W.heap.size + 1 + 1 := by rw [← hW0]; simp [hsa]
  have HBA : Hid (Below W.heap.size W wa) := by rw [← hwa]; exact (Below.refl _ _).alloc (Nat.le_refl _) _
  have HBW : Hid (Below W.heap.size W W0) := by rw [← hW0]; exact below_step HBA.out ((Below.refl _ _).alloc (Nat.le_refl _) _)
  have HMC : Hid (∀ u, Below W0.heap.size W0 u → MC u W.heap.size m vs vp ∧ CC u (W.heap.size + 1) ct.nid v) := fun u hu => by
    have ha : MC wa W.heap.size m vs vp := by rw [← hwa]; exact MC.made _ _ _ _
    have hb : CC W0 (W.heap.size + 1) ct.nid v := by rw [← hW0, ← hsa]; exact CC.made _ _ _
    refine ⟨ha.block ((hu.block _ (by omega)).trans ?_), hb.block (hu.block _ (by omega))⟩
    rw [← hW0]; exact heap_alloc_old _ _ (by omega)
  have h1' := h1.later HBW.out
  have h2' := h2.later HBW.out
  have h3' := h3.later HBW.out
  have h0' := h0.later HBW.out
  have HP : Hid (∀ u, Below W0.heap.size W0 u → ParseIs u) := fun u hu => hP.later (below_step HBW.out hu)
  have HQ : Hid RParseIs := hQ
  have H0 : Hid (∀ u, Below W0.heap.size W0 u → TxAt u vn ss) := fun u hu => h0'.later hu
  have H1 : Hid (∀ u, Below W0.heap.size W0 u → IntsAt u vs m.segs) := fun u hu => h1'.later hu
  have H2 : Hid (∀ u, Below W0.heap.size W0 u → PrsAt u vp m.prods) := fun u hu => h2'.later hu
  have H3 : Hid (∀ u, Below W0.heap.size W0 u → TesIn u v ct.tops) := fun u hu => h3'.later hu
  have HBK : Hid (∀ (g1 c1 g2 c2 : Nat) (l1 : List Int) (l2 : List Pr) (w : World), Mv w w g1 c1 g2 c2 m.segs.length m.prods.length l1 l2 → Below W0.heap.size W0 w → W0.heap.size ≤ g1 → W0.heap.size ≤ g2 → Calls Tryd.prog 14 #[m.agg (.slice (some ⟨g1, 0, none⟩) m.segs.length c1) (.slice (some ⟨g2, 0, none⟩) m.prods.length c2), m.agg vs vp] w fun e w' => e = .returned (.tuple #[]) ∧ Mv w w' g1 c1 g2 c2 m.segs.length m.prods.length (m.segs ++ [-77]) (m.prods ++ [markP])) := fun g1 c1 g2 c2 l1 l2 w a b c d => backOf m g1 c1 g2 c2 l1 l2 vs vp W0 w a b c d h1' h2'
  have HBC : Hid (∀ (g c : Nat) (l : List Te) (w : World), Cv w w g c ct.tops.length l → Below W0.heap.size W0 w → W0.heap.size ≤ g → Calls Tryd.prog 16 #[ct.agg (.slice (some ⟨g, 0, none⟩) ct.tops.length c), ct.agg v] w fun e w' => e = .returned (.tuple #[]) ∧ Cv w w' g c ct.tops.length (ct.tops ++ [markT])) := fun g c l w a b d => backCatOf ct g c l v W0 w a b d h3'.1
  obtain ⟨a1, k1, rfl⟩ : ∃ a c, vs = .slice a m.segs.length c := by obtain ⟨a, c, e, _⟩ := h1; exact ⟨a, c, e⟩
  obtain ⟨a2, k2, rfl⟩ : ∃ a c, vp = .slice a m.prods.length c := by obtain ⟨a, c, e, _⟩ := h2; exact ⟨a, c, e⟩
  obtain ⟨a3, k3, rfl⟩ : ∃ a c, v = .slice a ct.tops.length c := by obtain ⟨a, c, e, _⟩ := h3.1; exact ⟨a, c, e⟩
  obtain ⟨a0, k0, rfl, hcap0, hcl0, hok0, hcells0⟩ := h0
  have HOK : Hid (∀ s ∈ ss, s.size ≤ 281474976710656) := hok0
  have HC : Hid (∀ u k, Below W0.heap.size W0 u → k < ss.length → ∃ b off, a0 = some ⟨b, off, none⟩ ∧ b < W0.heap.size ∧ u.cell? ⟨b, off + k, none⟩ = some (.string (ss.getD k ⟨#[]⟩))) := fun u k hu hm => by
    obtain ⟨b, off, e, hc⟩ := hcells0 (by intro e; rw [e] at hm; simp at hm)
    have hlt := cell_lt (hc k hm)
    exact ⟨b, off, e, by show b < _; simp at hlt; omega, ((below_step HBW.out hu).cell (p := ⟨b, off + k, none⟩) (cell_lt (hc k hm))).trans (hc k hm)⟩
  clear h1 h2 h3 h1' h2' h3' h0' hP hQ hok0 hcells0
  obtain ⟨⟨m0, m1, m2, m3, m4, m5, m6, -⟩, ⟨q0, q1, -⟩⟩ := HMC.out W0 (Below.refl _ _)
  go_enter Tryd.func4, Tryd.ntmps4
  go_wp2
  go_loopw [7, 8] (fun lv i wr => ∃ (k : Nat) (r : Option Nat), k ≤ ss.length ∧ i = .int .i64 k ∧ Hid (OwnV wr lv (txs (revT ss k)) r) ∧ Hid (∀ g, r = some g → W0.heap.size ≤ g) ∧ Hid (Below W0.heap.size W0 wr)) (fun _ i _ => ss.length - (intOf i).toNat)
  case atStart => exact ⟨0, none, by omega, rfl, by simpa [revT, txs, Hid] using OwnV.nil _, by simp [Hid], Below.refl _ _⟩
  case round =>
    obtain ⟨k, r, hk, rfl, HO, HG, HB⟩ := hrel
    by_cases hlt : k < ss.length
    · obtain ⟨P, hP⟩ : ∃ P, ss.length - 1 - k = P := ⟨_, rfl⟩
      have hP2 : P < ss.length := by omega
      have hw1 : wrap64 ((ss.length : Int) - 1) = (ss.length : Int) - 1 := by unfold wrap64; omega
      have hw2 : wrap64 ((ss.length : Int) - 1 - (k : Int)) = (P : Int) := by unfold wrap64; omega
      obtain ⟨b, off, rfl, hb0, hc⟩ := HC.out wr P HB.out hP2
      have HS : Hid (revT ss (k + 1) = revT ss k ++ [ss.getD P ⟨#[]⟩]) := by unfold Hid; rw [revT_succ, hP]
      have HLN : Hid ((revT ss k).length = k) := revT_len ss k
      generalize ss.getD P ⟨#[]⟩ = s at hc HS
      generalize revT ss k = L at HO HS HLN
      go_wp2_with (at_builtin; refine wpList_append_txs _ rfl _ _ rfl _ _ (txs L) [.string s] r rfl rfl ?hOwn ?hSrc ?hLen ?hR ?_)
      case hOwn => exact HO.out.kept (World.grownBy_alloc _ _ none) (by cases r <;> simp)
      case hSrc => exact srcTx _ _
      case hLen => rw [txs_len]; have := HLN.out; simp; omega
      case hR => exact .inr (by simp)
      intro v3 w3 g3 ho3 hg3 hr3
      have HE : Hid (OwnV w3 v3 (txs (L ++ [s])) (some g3) ∧ (∀ g, some g3 = some g → W0.heap.size ≤ g) ∧ Below W0.heap.size W0 w3) := by
        have h4 := HB.out.alloc HB.out.size (.cells #[.string s] 9)
        refine ⟨by rw [txs_snoc]; exact ho3, fun g e => ?_, h4.grown hg3 h4.size (fun g e => HG.out g e)⟩
        injection e with e
        subst e
        rcases hr3 with e | e
        · exact HG.out _ e.symm
        · have h2 := HB.out.size
          rw [e]
          simp
          omega
      clear ho3 hg3 hr3
      go_wp2
      go_roundw
      case rel => exact ⟨k + 1, some g3, by omega, by go_num, by rw [Hid, HS.out]; exact HE.out.1, HE.out.2.1, HE.out.2.2⟩
      case measure => simp [intOf]; omega
    · obtain rfl : k = ss.length := by omega
      clear hlt hk m0 m1 m2 m3 m4 m5 m6 q0 q1
      go_wp2_with (at_builtin; refine wpList_append_txs _ rfl _ _ rfl _ _ (txs (revT ss ss.length)) [.string ⟨#[47]⟩] r rfl rfl ?hOwn ?hSrc ?hLen ?hR ?_)
      case hOwn => exact HO.out.kept (World.grownBy_alloc _ _ none) (by cases r <;> simp)
      case hSrc => exact srcTx _ _
      case hLen => rw [txs_len, revT_len]; simp; omega
      case hR => exact .inr (by simp)
      intro v3 wl gl ho3 hg3 hr3
      rw [← txs_snoc] at ho3
      obtain ⟨al, cl, rfl, hclm, hcll, hag⟩ := ho3.shapeT
      obtain ⟨gl', e1, rfl⟩ := hag (by simp)
      obtain rfl : gl = gl' := by simpa using e1
      obtain ⟨NL, hNL⟩ : ∃ N, ss.length + 1 = N := ⟨_, rfl⟩
      have hlen : (revT ss ss.length ++ [(⟨#[47]⟩ : ByteArray)]).length = NL := by rw [List.length_append, revT_len]; exact hNL
      rw [hlen] at ho3 hcll ⊢
      have HNL : Hid (ss.length + 1 = NL) := hNL
      have hnl1 : ss.length < NL := by omega
      unfold maxLen at hclm
      have HRW : Hid (OwnV wl (.slice (some ⟨gl, 0, none⟩) NL cl) (txs (revT ss ss.length ++ [slT])) (some gl)) := ho3
      have HBL : Hid (Below W0.heap.size W0 wl ∧ W0.heap.size ≤ gl) := by
        have h4 := HB.out.alloc HB.out.size (.cells #[.string ⟨#[47]⟩] 9)
        refine ⟨h4.grown hg3 h4.size (fun g e => HG.out g e), ?_⟩
        rcases hr3 with e | e
        · exact HG.out _ e.symm
        · have h2 := HB.out.size
          rw [e]
          simp
          omega
      clear ho3 hg3 hr3 HO HG HB hlen e1 hNL
      have HCP : Hid (Calls Tryd.prog 9 #[m.agg (.slice a1 m.segs.length k1) (.slice a2 m.prods.length k2)] wl fun e w' => ∃ g1 c1 g2 c2, e = .returned (m.agg (.slice (some ⟨g1, 0, none⟩) m.segs.length c1) (.slice (some ⟨g2, 0, none⟩) m.prods.length c2)) ∧ ManW w' g1 c1 g2 c2 (m.segs ++ [-77]) (m.prods ++ [markP]) ∧ wl.heap.size ≤ g1 ∧ wl.heap.size ≤ g2 ∧ Below wl.heap.size wl w') := copiedOf m _ _ wl (H1.out wl HBL.out.1) (H2.out wl HBL.out.1)
      obtain ⟨⟨m0, m1, m2, m3, m4, m5, m6, -⟩, ⟨q0, q1, -⟩⟩ := HMC.out wl HBL.out.1
      go_wp2_with fail
      refine HCP.out.mono ?_
      rintro e w1 ⟨g1, c1, g2, c2, rfl, hm1, hg1, hg2, hb1⟩
      obtain ⟨w1a, hw1a⟩ : ∃ u, w1.alloc (m.obj (.slice (some ⟨g1, 0, none⟩) m.segs.length c1) (.slice (some ⟨g2, 0, none⟩) m.prods.length c2)) = u := ⟨_, rfl⟩
      have hs1a : w1a.heap.size = w1.heap.size + 1 := by rw [← hw1a]; simp
      have HBX : Hid (Below w1.heap.size w1 w1a) := by rw [← hw1a]; exact (Below.refl _ _).alloc (Nat.le_refl _) _
      have HM1 : Hid (ManW w1a g1 c1 g2 c2 (m.segs ++ [-77]) (m.prods ++ [markP])) := hm1.later HBX.out
      have HN1 : Hid (MC w1a w1.heap.size m (.slice (some ⟨g1, 0, none⟩) m.segs.length c1) (.slice (some ⟨g2, 0, none⟩) m.prods.length c2)) := by rw [← hw1a]; exact MC.made _ _ _ _
      have HB1 : Hid (Below wl.heap.size wl w1a) := below_step hb1 HBX.out
      have HGL : Hid (g1 < w1.heap.size ∧ g2 < w1.heap.size ∧ wl.heap.size ≤ g1 ∧ wl.heap.size ≤ g2 ∧ wl.heap.size ≤ w1.heap.size) := ⟨hm1.s.lt, hm1.p.lt, hg1, hg2, hb1.size⟩
      clear hm1 hb1 HCP hg1 hg2 m0 m1 m2 m3 m4 m5 m6 q0 q1
      have HB01 : Hid (Below W0.heap.size W0 w1a) := below_step HBL.out.1 HB1.out
      obtain ⟨⟨m0, m1, m2, m3, m4, m5, m6, -⟩, ⟨q0, q1, -⟩⟩ := HMC.out w1a HB01.out
      go_wp2_with fail
      refine (copiedCatOf ct (.slice a3 ct.tops.length k3) w1a (H3.out w1a HB01.out).1).mono ?_
      rintro e w2 ⟨g3, c3, rfl, hc2, hg3, hb2⟩
      obtain ⟨w2a, hw2a⟩ : ∃ u, w2.alloc (.cells #[.int .i64 ct.nid, (.slice (some ⟨g3, 0, none⟩) ct.tops.length c3)] 34) = u := ⟨_, rfl⟩
      have HL2 : Hid (OW W0 w2a m ct g1 c1 g2 c2 g3 c3 w1.heap.size w2.heap.size (m.segs ++ [-77]) (m.prods ++ [markP]) (ct.tops ++ [markT]) gl cl NL (revT ss ss.length ++ [slT])) := by
        have hbx : Below w2.heap.size w2 w2a := by rw [← hw2a]; exact (Below.refl _ _).alloc (Nat.le_refl _) _
        have hbb := below_step hb2 hbx
        obtain ⟨f1, f2, f3, f4, f5⟩ := HGL.out
        have hsz := hb2.size
        have hg3l : g3 < w2.heap.size := OwnTe.lt hc2
        have hgl := HRW.out.lt
        have hl0 := HBL.out.1.size
        have hlw := HBL.out.2
        have hN1 := HN1.out
        have hDC : CC w2a w2.heap.size ct.nid (.slice (some ⟨g3, 0, none⟩) ct.tops.length c3) := by rw [← hw2a]; exact CC.made _ _ _
        exact ⟨⟨HM1.out.later hbb, hc2.later hbx, hN1.block (hbb.block _ hN1.lt), hDC, below_step HB01.out hbb, by omega, by omega, by omega, by omega, by omega, by omega, by omega, by omega, by omega, by omega, by omega⟩,
          HRW.out.of_block (by have := HB1.out.size; have := hbb.size; omega) (fun g e => by cases e; rw [hbb.block _ (by omega), HB1.out.block _ hgl]), hlw, by omega, by omega, by omega, by omega, by omega⟩
      clear hc2 hb2 hg3 HM1 HN1 HB1 HB01 HGL HBX HRW HBL m0 m1 m2 m3 m4 m5 m6 q0 q1
      obtain ⟨n0, n1, n2, n3, n4, n5, n6, -⟩ := HL2.out.lw.nc
      have HT2 : Hid (TxAt w2a (.slice (some ⟨gl, 0, none⟩) ss.length cl) (revT ss ss.length)) := HL2.out.row.headT (revT_len _ _) (by rw [revT_len]; exact hcl0) (revT_ok HOK.out)
      have HR2 := HL2.out.lw.man.reads hl1 hl2 HO1.out HO2.out
      go_wp2_with fail
      refine (orphOf _ _ _ _ m w2a HT2.out HR2.1 (HP.out _ HL2.out.lw.base)).mono ?_
      rintro e w3 ⟨v3, r3, rfl, -, -, hb3⟩
      have HL3 : Hid (OW W0 w3 m ct g1 c1 g2 c2 g3 c3 w1.heap.size w2.heap.size (m.segs ++ [-77]) (m.prods ++ [markP]) (ct.tops ++ [markT]) gl cl NL (revT ss ss.length ++ [slT])) := HL2.out.later hb3
      clear hb3 HL2 HT2 HR2 n0 n1 n2 n3 n4 n5 n6
      obtain ⟨d0, d1, -⟩ := HL3.out.lw.dc
      have HT3 : Hid (TxAt w3 (.slice (some ⟨gl, 0, none⟩) ss.length cl) (revT ss ss.length)) := HL3.out.row.headT (revT_len _ _) (by rw [revT_len]; exact hcl0) (revT_ok HOK.out)
      go_wp2_with fail
      refine (strsOf _ _ _ ct w3 HT3.out (HL3.out.lw.cat.reads hl3 HO3.out).1 (HP.out _ HL3.out.lw.base)).mono ?_
      rintro e w4 ⟨v4, r4, rfl, -, -, hb4⟩
      have HL4 : Hid (OW W0 w4 m ct g1 c1 g2 c2 g3 c3 w1.heap.size w2.heap.size (m.segs ++ [-77]) (m.prods ++ [markP]) (ct.tops ++ [markT]) gl cl NL (revT ss ss.length ++ [slT])) := HL3.out.later hb4
      clear hb4 HL3 HT3 d0 d1
      go_wp2
      go_loopw [11] (fun i wr => ∃ k : Nat, k ≤ ss.length ∧ i = .int .i64 k ∧ OW W0 wr m ct g1 c1 g2 c2 g3 c3 w1.heap.size w2.heap.size (m.segs ++ [-77]) (m.prods ++ [markP]) (ct.tops ++ [markT]) gl cl NL (ss.take k ++ (revT ss ss.length ++ [slT]).drop k)) (fun i _ => ss.length - (intOf i).toNat)
      case atStart => exact ⟨0, by omega, rfl, by simpa using HL4.out⟩
      case round =>
        obtain ⟨k, hk, rfl, how⟩ := hrel
        have HL5 : Hid (OW W0 wr m ct g1 c1 g2 c2 g3 c3 w1.heap.size w2.heap.size (m.segs ++ [-77]) (m.prods ++ [markP]) (ct.tops ++ [markT]) gl cl NL (ss.take k ++ (revT ss ss.length ++ [slT]).drop k)) := how
        clear how HL4
        by_cases hlt : k < ss.length
        · obtain ⟨b, off, rfl, hb0, hc⟩ := HC.out wr k HL5.out.lw.base hlt
          have hll : (ss.take k ++ (revT ss ss.length ++ [slT]).drop k).length = ss.length + 1 := by simp [revT_len]; omega
          obtain ⟨t0, tf⟩ := HL5.out.row.cellT (j := k) (by rw [hll]; omega)
          have HL6 : Hid (OW W0 (wr.setCell ⟨gl, k, none⟩ (.string (ss.getD k ⟨#[]⟩))) m ct g1 c1 g2 c2 g3 c3 w1.heap.size w2.heap.size (m.segs ++ [-77]) (m.prods ++ [markP]) (ct.tops ++ [markT]) gl cl NL (ss.take (k + 1) ++ (revT ss ss.length ++ [slT]).drop (k + 1))) := by
            have h9 := HL5.out.put (j := k) (by rw [hll]; omega) (ss.getD k ⟨#[]⟩)
            rw [tback_step ss _ k hlt (by simp [revT_len])] at h9
            exact h9
          have hel := HL5.out.el
          generalize ss.getD k ⟨#[]⟩ = s at hc HL6
          clear hll
          go_wp2
          go_roundw
          case rel => exact ⟨k + 1, by omega, by go_num, HL6.out⟩
          case measure => simp [intOf]; omega
        · obtain rfl : k = ss.length := by omega
          have HL6 : Hid (OW W0 wr m ct g1 c1 g2 c2 g3 c3 w1.heap.size w2.heap.size (m.segs ++ [-77]) (m.prods ++ [markP]) (ct.tops ++ [markT]) gl cl NL (ss ++ [slT])) := by
            have := HL5.out
            rw [List.take_length, List.drop_left' (revT_len _ _)] at this
            exact this
          clear HL5 hlt hk
          obtain ⟨n0, n1, n2, n3, n4, n5, n6, -⟩ := HL6.out.lw.nc
          go_wp2_with fail
          refine (movedOf m g1 c1 g2 c2 m.segs.length m.prods.length _ _ wr (HL6.out.lw.man.start HO1.out HO2.out) (by omega) (by omega)).mono ?_
          rintro e w5 ⟨rfl, l1', l2', hv5⟩
          have HL7 : Hid (OW W0 w5 m ct g1 c1 g2 c2 g3 c3 w1.heap.size w2.heap.size l1' l2' (ct.tops ++ [markT]) gl cl NL (ss ++ [slT])) := HL6.out.mv hv5
          have HV5 : Hid (Mv wr w5 g1 c1 g2 c2 m.segs.length m.prods.length l1' l2') := hv5
          clear hv5 HL6 n0 n1 n2 n3 n4 n5 n6
          have HOR : Hid (Calls Tryd.prog 11 #[(.slice (some ⟨gl, 0, none⟩) ss.length cl), m.agg (.slice (some ⟨g1, 0, none⟩) m.segs.length c1) (.slice (some ⟨g2, 0, none⟩) m.prods.length c2)] w5 fun e w' => (∃ v, e = .returned v) ∧ Below w5.heap.size w5 w') := by
            obtain ⟨r1, r2⟩ := HV5.out.reads hl1 hl2
            refine (orphOf _ _ _ ss ⟨m.id, m.nseg, m.next, m.mark, m.clk, l1'.take m.segs.length, l2'.take m.prods.length⟩ w5 (HL7.out.row.headT rfl hcl0 HOK.out) r1 (HP.out _ HL7.out.lw.base)).mono ?_
            rintro e w' ⟨v9, r9, rfl, -, -, hb⟩
            exact ⟨⟨_, rfl⟩, hb⟩
          go_wp2_with fail
          refine HOR.out.mono ?_
          rintro e w6 ⟨⟨z6, rfl⟩, hb6⟩
          have HV6 : Hid (Mv w6 w6 g1 c1 g2 c2 m.segs.length m.prods.length l1' l2') := HV5.out.again hb6
          have HL8 : Hid (OW W0 w6 m ct g1 c1 g2 c2 g3 c3 w1.heap.size w2.heap.size l1' l2' (ct.tops ++ [markT]) gl cl NL (ss ++ [slT])) := HL7.out.later hb6
          clear hb6 HV5 HL7 HOR
          obtain ⟨n0, n1, n2, n3, n4, n5, n6, -⟩ := HL8.out.lw.nc
          obtain ⟨⟨m0, m1, m2, m3, m4, m5, m6, -⟩, ⟨q0, q1, -⟩⟩ := HMC.out w6 HL8.out.lw.base
          go_wp2_with fail
          refine (HBK.out g1 c1 g2 c2 l1' l2' w6 HV6.out HL8.out.lw.base HL8.out.lw.e1 HL8.out.lw.e2).mono ?_
          rintro e w7 ⟨rfl, hv7⟩
          have HL9 : Hid (OW W0 w7 m ct g1 c1 g2 c2 g3 c3 w1.heap.size w2.heap.size (m.segs ++ [-77]) (m.prods ++ [markP]) (ct.tops ++ [markT]) gl cl NL (ss ++ [slT])) := HL8.out.mv hv7
          clear hv7 HV6 HL8 n0 n1 n2 n3 n4 n5 n6 m0 m1 m2 m3 m4 m5 m6 q0 q1
          obtain ⟨d0, d1, -⟩ := HL9.out.lw.dc
          go_wp2_with fail
          refine (movedCatOf ct.nid g3 c3 ct.tops.length _ w7 (HL9.out.lw.cat.start HO3.out) (by omega)).mono ?_
          rintro e w8 ⟨rfl, l3', hv8⟩
          have HV8 : Hid (Cv w7 w8 g3 c3 ct.tops.length l3') := hv8
          have HLa : Hid (OW W0 w8 m ct g1 c1 g2 c2 g3 c3 w1.heap.size w2.heap.size (m.segs ++ [-77]) (m.prods ++ [markP]) l3' gl cl NL (ss ++ [slT])) := HL9.out.cv hv8
          clear hv8 HL9 d0 d1
          have HST : Hid (Calls Tryd.prog 12 #[(.slice (some ⟨gl, 0, none⟩) ss.length cl), ct.agg (.slice (some ⟨g3, 0, none⟩) ct.tops.length c3)] w8 fun e w' => (∃ v, e = .returned v) ∧ Below w8.heap.size w8 w') := by
            refine (strsOf _ _ ss ⟨ct.nid, l3'.take ct.tops.length⟩ w8 (HLa.out.row.headT rfl hcl0 HOK.out) (HV8.out.reads hl3).1 (HP.out _ HLa.out.lw.base)).mono ?_
            rintro e w' ⟨v9, r9, rfl, -, -, hb⟩
            exact ⟨⟨_, rfl⟩, hb⟩
          go_wp2_with fail
          refine HST.out.mono ?_
          rintro e w9 ⟨⟨z9, rfl⟩, hb9⟩
          have HV9 : Hid (Cv w9 w9 g3 c3 ct.tops.length l3') := HV8.out.again hb9
          have HLb : Hid (OW W0 w9 m ct g1 c1 g2 c2 g3 c3 w1.heap.size w2.heap.size (m.segs ++ [-77]) (m.prods ++ [markP]) l3' gl cl NL (ss ++ [slT])) := HLa.out.later hb9
          clear hb9 HV8 HLa HST
          obtain ⟨d0, d1, -⟩ := HLb.out.lw.dc
          obtain ⟨⟨m0, m1, m2, m3, m4, m5, m6, -⟩, ⟨q0, q1, -⟩⟩ := HMC.out w9 HLb.out.lw.base
          go_wp2_with fail
          refine (HBC.out g3 c3 l3' w9 HV9.out HLb.out.lw.base HLb.out.lw.e3).mono ?_
          rintro e wA ⟨rfl, hvA⟩
          have HW : Hid (OW W0 wA m ct g1 c1 g2 c2 g3 c3 w1.heap.size w2.heap.size (m.segs ++ [-77]) (m.prods ++ [markP]) (ct.tops ++ [markT]) gl cl NL (ss ++ [slT])) := HLb.out.cv hvA
          clear hvA HV9 HLb d0 d1 m0 m1 m2 m3 m4 m5 m6 q0 q1
          obtain ⟨La, hLa⟩ : ∃ L, thoseL (orphP m.id m.segs) ss = L := ⟨_, rfl⟩
          obtain ⟨Lb, hLb⟩ : ∃ L, thoseL (strP (ct.tops.map (·.id))) ss = L := ⟨_, rfl⟩
          have HLA : Hid (La.length ≤ 8796093022208 ∧ ∀ s ∈ La, s.size ≤ 281474976710656) := by rw [← hLa]; exact ⟨Nat.le_trans (thoseL_len _ _) hcl0, thoseL_ok HOK.out⟩
          have HLB : Hid (Lb.length ≤ 8796093022208 ∧ ∀ s ∈ Lb, s.size ≤ 281474976710656) := by rw [← hLb]; exact ⟨Nat.le_trans (thoseL_len _ _) hcl0, thoseL_ok HOK.out⟩
          have HWX : Hid (∀ u, Below wA.heap.size wA u → OW W0 u m ct g1 c1 g2 c2 g3 c3 w1.heap.size w2.heap.size (m.segs ++ [-77]) (m.prods ++ [markP]) (ct.tops ++ [markT]) gl cl NL (ss ++ [slT])) := fun u hu => HW.out.later hu
          have HOR : Hid (∀ u, Below wA.heap.size wA u → Calls Tryd.prog 11 #[(.slice (some ⟨gl, 0, none⟩) ss.length cl), m.agg (.slice (some ⟨g1, 0, none⟩) m.segs.length c1) (.slice (some ⟨g2, 0, none⟩) m.prods.length c2)] u fun e w' => NewTx u e w' La) := fun u hu => by
            have h9 := HWX.out u hu
            rw [← hLa]
            exact orphOf _ _ _ ss m u (h9.row.headT rfl hcl0 HOK.out) (h9.lw.man.reads hl1 hl2 HO1.out HO2.out).1 (HP.out _ h9.lw.base)
          have HST : Hid (∀ u, Below wA.heap.size wA u → Calls Tryd.prog 12 #[(.slice (some ⟨gl, 0, none⟩) ss.length cl), ct.agg (.slice (some ⟨g3, 0, none⟩) ct.tops.length c3)] u fun e w' => NewTx u e w' Lb) := fun u hu => by
            have h9 := HWX.out u hu
            rw [← hLb]
            exact strsOf _ _ ss ct u (h9.row.headT rfl hcl0 HOK.out) (h9.lw.cat.reads hl3 HO3.out).1 (HP.out _ h9.lw.base)
          have HRO : Hid (∀ u, Below W0.heap.size W0 u → Calls Tryd.prog 18 #[.slice a0 ss.length k0, m.agg (.slice a1 m.segs.length k1) (.slice a2 m.prods.length k2)] u fun e w' => NewTx u e w' La) := fun u hu => by
            have h9 := rorphOf _ _ (.slice a2 m.prods.length k2) ss m u (H0.out u hu) (H1.out u hu) HQ.out
            rw [thoseL_eq _ _ ss (orphan_eq m.id m.segs), hLa] at h9
            exact h9
          have HRS : Hid (∀ u, Below W0.heap.size W0 u → Calls Tryd.prog 19 #[.slice a0 ss.length k0, ct.agg (.slice a3 ct.tops.length k3)] u fun e w' => NewTx u e w' Lb) := fun u hu => by
            have h9 := rstrsOf _ _ ss ct u (H0.out u hu) (H3.out u hu).1 HQ.out
            rw [thoseL_eq _ _ ss (strange_eq (ct.tops.map (·.id))), hLb] at h9
            exact h9
          have HBA0 : Hid (Below W0.heap.size W0 wA) := HW.out.lw.base
          clear hLa hLb
          obtain ⟨n0, n1, n2, n3, n4, n5, n6, -⟩ := HW.out.lw.nc
          go_wp2_with fail
          refine (HOR.out wA (Below.refl _ _)).mono ?_
          rintro e wB ⟨va, ra, rfl, hoa, hra, hbB⟩
          have HAB : Hid (Below wA.heap.size wA wB) := hbB
          have HVA : Hid (OwnV wB va (txs La) ra ∧ (∀ g, ra = some g → wA.heap.size ≤ g)) := ⟨hoa, hra⟩
          clear hoa hra hbB n0 n1 n2 n3 n4 n5 n6
          obtain ⟨d0, d1, -⟩ := (HWX.out wB HAB.out).lw.dc
          go_wp2_with fail
          refine (HST.out wB HAB.out).mono ?_
          rintro e wC ⟨vb, rb, rfl, hob, hrb, hbC⟩
          have HBC1 : Hid (Below wB.heap.size wB wC) := hbC
          have HAC : Hid (Below wA.heap.size wA wC) := below_step HAB.out hbC
          have HVB : Hid (OwnV wC vb (txs Lb) rb ∧ (∀ g, rb = some g → wB.heap.size ≤ g)) := ⟨hob, hrb⟩
          clear hob hrb hbC d0 d1
          obtain ⟨n0, n1, n2, n3, n4, n5, n6, -⟩ := (HWX.out wC HAC.out).lw.nc
          go_wp2_with fail
          refine (HOR.out wC HAC.out).mono ?_
          rintro e wD ⟨vc, rc, rfl, hoc, hrc, hbD⟩
          have HCD : Hid (Below wC.heap.size wC wD) := hbD
          have HAD : Hid (Below wA.heap.size wA wD) := below_step HAC.out hbD
          have HVC : Hid (OwnV wD vc (txs La) rc ∧ (∀ g, rc = some g → wC.heap.size ≤ g)) := ⟨hoc, hrc⟩
          clear hoc hrc hbD n0 n1 n2 n3 n4 n5 n6
          obtain ⟨d0, d1, -⟩ := (HWX.out wD HAD.out).lw.dc
          go_wp2_with fail
          refine (HST.out wD HAD.out).mono ?_
          rintro e wE ⟨vd, rd, rfl, hod, hrd, hbE⟩
          have HDE : Hid (Below wD.heap.size wD wE) := hbE
          have HAE : Hid (Below wA.heap.size wA wE) := below_step HAD.out hbE
          have HVD : Hid (OwnV wE vd (txs Lb) rd ∧ (∀ g, rd = some g → wD.heap.size ≤ g)) := ⟨hod, hrd⟩
          clear hod hrd hbE d0 d1
          obtain ⟨⟨m0, m1, m2, m3, m4, m5, m6, -⟩, ⟨q0, q1, -⟩⟩ := HMC.out wE (below_step HBA0.out HAE.out)
          go_wp2_with fail
          refine (HRO.out wE (below_step HBA0.out HAE.out)).mono ?_
          rintro e wF ⟨vf, rf, rfl, hof, -, hbF⟩
          have HEF : Hid (Below wE.heap.size wE wF) := hbF
          have HTF : Hid (TxAt wF vf La) := hof.readsT HLA.out.1 HLA.out.2
          have HTA : Hid (TxAt wF va La) := ((HVA.out.1.readsT HLA.out.1 HLA.out.2).later (below_step HBC1.out (below_step HCD.out (below_step HDE.out hbF))))
          clear hof hbF m0 m1 m2 m3 m4 m5 m6 q0 q1
          go_wp2_with fail
          refine (sameNamesOf _ _ La wF HTA.out HTF.out).mono ?_
          rintro e wG ⟨rfl, hbG⟩
          have HEG : Hid (Below wE.heap.size wE wG) := below_step HEF.out hbG
          clear hbG HTF HTA HEF
          obtain ⟨⟨m0, m1, m2, m3, m4, m5, m6, -⟩, ⟨q0, q1, -⟩⟩ := HMC.out wG (below_step HBA0.out (below_step HAE.out HEG.out))
          go_wp2_with fail
          refine (HRS.out wG (below_step HBA0.out (below_step HAE.out HEG.out))).mono ?_
          rintro e wH ⟨vh, rh, rfl, hoh, -, hbH⟩
          have HEH : Hid (Below wE.heap.size wE wH) := below_step HEG.out hbH
          have HTH : Hid (TxAt wH vh Lb) := hoh.readsT HLB.out.1 HLB.out.2
          have HTB : Hid (TxAt wH vb Lb) := ((HVB.out.1.readsT HLB.out.1 HLB.out.2).later (below_step HCD.out (below_step HDE.out HEH.out)))
          clear hoh hbH HEG m0 m1 m2 m3 m4 m5 m6 q0 q1
          go_wp2_with fail
          refine (sameNamesOf _ _ Lb wH HTB.out HTH.out).mono ?_
          rintro e wI ⟨rfl, hbI⟩
          have HEI : Hid (Below wE.heap.size wE wI) := below_step HEH.out hbI
          clear hbI HTH HTB HEH
          have HSZ : Hid (wA.heap.size ≤ wB.heap.size ∧ wB.heap.size ≤ wC.heap.size ∧ wC.heap.size ≤ wD.heap.size ∧ wD.heap.size ≤ wE.heap.size ∧ wE.heap.size ≤ wI.heap.size ∧ (∀ g, ra = some g → g < wB.heap.size) ∧ (∀ g, rb = some g → g < wC.heap.size)) :=
            ⟨HAB.out.size, HBC1.out.size, HCD.out.size, HDE.out.size, HEI.out.size, fun g e => by have h9 := HVA.out.1; rw [e] at h9; exact h9.lt, fun g e => by have h9 := HVB.out.1; rw [e] at h9; exact h9.lt⟩
          have later9 : ∀ (x y : World) (v : Value) (L : List ByteArray) (r : Option Nat), OwnV x v (txs L) r → Below x.heap.size x y → OwnV y v (txs L) r := fun x y v L r h hb => h.of_block hb.size (fun g e => hb.block g (by subst e; exact h.lt))
          have HIA : Hid (OwnV wI va (txs La) ra) := later9 _ _ _ _ _ HVA.out.1 (below_step HBC1.out (below_step HCD.out (below_step HDE.out HEI.out)))
          have HIB : Hid (OwnV wI vb (txs Lb) rb) := later9 _ _ _ _ _ HVB.out.1 (below_step HCD.out (below_step HDE.out HEI.out))
          have HIC : Hid (OwnV wI vc (txs La) rc) := later9 _ _ _ _ _ HVC.out.1 (below_step HDE.out HEI.out)
          have HID : Hid (OwnV wI vd (txs Lb) rd) := later9 _ _ _ _ _ HVD.out.1 HEI.out
          have HAI : Hid (Below wA.heap.size wA wI) := below_step HAE.out HEI.out
          have HRA : Hid (∀ g, ra = some g → wA.heap.size ≤ g) := HVA.out.2
          have HRB : Hid (∀ g, rb = some g → wB.heap.size ≤ g) := HVB.out.2
          have HRC : Hid (∀ g, rc = some g → wC.heap.size ≤ g) := HVC.out.2
          have HRD : Hid (∀ g, rd = some g → wD.heap.size ≤ g) := HVD.out.2
          clear later9 HVA HVB HVC HVD HAB HBC1 HCD HDE HAC HAD HAE HEI
          go_wp2_with fail
          refine (spoiltNamesOf va La ra wI HIA.out HLA.out.1).mono ?_
          rintro e wJ ⟨rfl, hgJ⟩
          have HAJ : Hid (Below wA.heap.size wA wJ) := HAI.out.grown hgJ HAI.out.size HRA.out
          have keep9 : ∀ (v : Value) (L : List ByteArray) (r : Option Nat), OwnV wI v (txs L) r → (∀ g, r = some g → wB.heap.size ≤ g) → OwnV wJ v (txs L) r := fun v L r h hr => h.of_block hgJ.size (fun g e => hgJ.block g (by subst e; exact h.lt) (fun e9 => by
            have h1 := hr g e
            have h2 := HSZ.out.2.2.2.2.2.1 g e9.symm
            omega))
          have HJB : Hid (OwnV wJ vb (txs Lb) rb) := keep9 _ _ _ HIB.out HRB.out
          have HJC : Hid (OwnV wJ vc (txs La) rc) := keep9 _ _ _ HIC.out (fun g e => by have h1 := HRC.out g e; have h2 := HSZ.out; omega)
          have HJD : Hid (OwnV wJ vd (txs Lb) rd) := keep9 _ _ _ HID.out (fun g e => by have h1 := HRD.out g e; have h2 := HSZ.out; omega)
          clear hgJ keep9 HIA HIB HIC HID HAI
          go_wp2_with fail
          refine (spoiltNamesOf vb Lb rb wJ HJB.out HLB.out.1).mono ?_
          rintro e wK ⟨rfl, hgK⟩
          have HAK : Hid (Below wA.heap.size wA wK) := HAJ.out.grown hgK HAJ.out.size (fun g e => by have h1 := HRB.out g e; have h2 := HSZ.out; omega)
          have keep9 : ∀ (v : Value) (L : List ByteArray) (r : Option Nat), OwnV wJ v (txs L) r → (∀ g, r = some g → wC.heap.size ≤ g) → OwnV wK v (txs L) r := fun v L r h hr => h.of_block hgK.size (fun g e => hgK.block g (by subst e; exact h.lt) (fun e9 => by
            have h1 := hr g e
            have h2 := HSZ.out.2.2.2.2.2.2 g e9.symm
            omega))
          have HKC : Hid (TxAt wK vc La) := (keep9 _ _ _ HJC.out HRC.out).readsT HLA.out.1 HLA.out.2
          have HKD : Hid (TxAt wK vd Lb) := (keep9 _ _ _ HJD.out (fun g e => by have h1 := HRD.out g e; have h2 := HSZ.out; omega)).readsT HLB.out.1 HLB.out.2
          clear hgK keep9 HJB HJC HJD HAJ HRA HRB HRC HRD HSZ
          obtain ⟨n0, n1, n2, n3, n4, n5, n6, -⟩ := (HWX.out wK HAK.out).lw.nc
          go_wp2_with fail
          refine (HOR.out wK HAK.out).mono ?_
          rintro e wL ⟨ve, re, rfl, hoe, -, hbL⟩
          have HKL : Hid (Below wK.heap.size wK wL) := hbL
          have HTE : Hid (TxAt wL ve La) := hoe.readsT HLA.out.1 HLA.out.2
          have H0L : Hid (Below W0.heap.size W0 wL) := below_step HBA0.out (below_step HAK.out hbL)
          clear hoe hbL n0 n1 n2 n3 n4 n5 n6
          obtain ⟨⟨m0, m1, m2, m3, m4, m5, m6, -⟩, ⟨q0, q1, -⟩⟩ := HMC.out wL H0L.out
          go_wp2_with fail
          refine (HRO.out wL H0L.out).mono ?_
          rintro e wM ⟨v5, r5, rfl, ho5, -, hbM⟩
          have HLM : Hid (Below wL.heap.size wL wM) := hbM
          have HT5 : Hid (TxAt wM v5 La) := ho5.readsT HLA.out.1 HLA.out.2
          clear ho5 hbM m0 m1 m2 m3 m4 m5 m6 q0 q1
          go_wp2_with fail
          refine (sameNamesOf _ _ La wM (HKC.out.later (below_step HKL.out HLM.out)) HT5.out).mono ?_
          rintro e wN ⟨rfl, hbN⟩
          have HLN : Hid (Below wL.heap.size wL wN) := below_step HLM.out hbN
          clear hbN HLM HT5
          obtain ⟨⟨m0, m1, m2, m3, m4, m5, m6, -⟩, ⟨q0, q1, -⟩⟩ := HMC.out wN (below_step H0L.out HLN.out)
          go_wp2_with fail
          refine (HRS.out wN (below_step H0L.out HLN.out)).mono ?_
          rintro e wO ⟨v6, r6, rfl, ho6, -, hbO⟩
          have HLO : Hid (Below wL.heap.size wL wO) := below_step HLN.out hbO
          have HT6 : Hid (TxAt wO v6 Lb) := ho6.readsT HLB.out.1 HLB.out.2
          clear ho6 hbO HLN m0 m1 m2 m3 m4 m5 m6 q0 q1
          go_wp2_with fail
          refine (sameNamesOf _ _ Lb wO (HKD.out.later (below_step HKL.out HLO.out)) HT6.out).mono ?_
          rintro e wP ⟨rfl, hbP⟩
          have HLP : Hid (Below wL.heap.size wL wP) := below_step HLO.out hbP
          clear hbP HLO HT6
          obtain ⟨⟨m0, m1, m2, m3, m4, m5, m6, -⟩, ⟨q0, q1, -⟩⟩ := HMC.out wP (below_step H0L.out HLP.out)
          go_wp2_with fail
          refine (HRO.out wP (below_step H0L.out HLP.out)).mono ?_
          rintro e wQ ⟨v7, r7, rfl, ho7, -, hbQ⟩
          have HLQ : Hid (Below wL.heap.size wL wQ) := below_step HLP.out hbQ
          have HT7 : Hid (TxAt wQ v7 La) := ho7.readsT HLA.out.1 HLA.out.2
          clear ho7 hbQ HLP m0 m1 m2 m3 m4 m5 m6 q0 q1
          go_wp2_with fail
          refine (sameNamesOf _ _ La wQ (HTE.out.later HLQ.out) HT7.out).mono ?_
          rintro e wR ⟨rfl, hbR⟩
          have HLR : Hid (Below wL.heap.size wL wR) := below_step HLQ.out hbR
          have HAR : Hid (Below wA.heap.size wA wR) := below_step HAK.out (below_step HKL.out HLR.out)
          clear hbR HLQ HT7 HTE HKC HKD HLR HKL H0L HAK
          have HWR : Hid (OW W0 wR m ct g1 c1 g2 c2 g3 c3 w1.heap.size w2.heap.size (m.segs ++ [-77]) (m.prods ++ [markP]) (ct.tops ++ [markT]) gl cl NL (ss ++ [slT])) := HWX.out wR HAR.out
          go_wp2_with fail
          refine (sameNamesOf _ _ ss wR (HWR.out.row.headT rfl hcl0 HOK.out) (H0.out wR HWR.out.lw.base)).mono ?_
          rintro e wS ⟨rfl, hbS⟩
          have HWS : Hid (OW W0 wS m ct g1 c1 g2 c2 g3 c3 w1.heap.size w2.heap.size (m.segs ++ [-77]) (m.prods ++ [markP]) (ct.tops ++ [markT]) gl cl NL (ss ++ [slT])) := HWR.out.later hbS
          clear hbS HWR HAR
          have hsl := (HWS.out.row.cellT (j := ss.length) (by simp)).1
          rw [show (ss ++ [slT]).getD ss.length ⟨#[]⟩ = slT by simp] at hsl
          unfold slT at hsl
          obtain ⟨n0, n1, n2, n3, n4, n5, n6, -⟩ := HWS.out.lw.nc
          obtain ⟨⟨m0, m1, m2, m3, m4, m5, m6, -⟩, ⟨q0, q1, -⟩⟩ := HMC.out wS HWS.out.lw.base
          have HKP : Hid (Calls Tryd.prog 21 #[m.agg (.slice (some ⟨g1, 0, none⟩) m.segs.length c1) (.slice (some ⟨g2, 0, none⟩) m.prods.length c2), m.agg (.slice a1 m.segs.length k1) (.slice a2 m.prods.length k2)] wS fun e w' => e = .returned (.bool true) ∧ Below wS.heap.size wS w') := keptOf m g1 c1 g2 c2 _ _ wS HWS.out.lw.man (H1.out _ HWS.out.lw.base) (H2.out _ HWS.out.lw.base) hl1 hl2
          go_wp2_with fail
          refine HKP.out.mono ?_
          rintro e wT ⟨rfl, hbT⟩
          have HWT : Hid (OW W0 wT m ct g1 c1 g2 c2 g3 c3 w1.heap.size w2.heap.size (m.segs ++ [-77]) (m.prods ++ [markP]) (ct.tops ++ [markT]) gl cl NL (ss ++ [slT])) := HWS.out.later hbT
          clear hbT HWS HKP n0 n1 n2 n3 n4 n5 n6 m0 m1 m2 m3 m4 m5 m6 q0 q1 hsl
          have HKC9 : Hid (Calls Tryd.prog 22 #[ct.agg (.slice (some ⟨g3, 0, none⟩) ct.tops.length c3), ct.agg (.slice a3 ct.tops.length k3)] wT fun e w' => e = .returned (.bool true) ∧ Below wT.heap.size wT w') := keptCatOf ct g3 c3 _ wT HWT.out.lw.cat (H3.out _ HWT.out.lw.base).1 hl3
          obtain ⟨d0, d1, -⟩ := HWT.out.lw.dc
          obtain ⟨⟨m0, m1, m2, m3, m4, m5, m6, -⟩, ⟨q0, q1, -⟩⟩ := HMC.out wT HWT.out.lw.base
          go_wp2_with fail
          refine HKC9.out.mono ?_
          rintro e wU ⟨rfl, hbU⟩
          have HBU : Hid (Below W.heap.size W wU) := below_step (below_step HBW.out HWT.out.lw.base) hbU
          clear hbU
          go_wp2
          go_ret
          exact ⟨rfl, HBU.out⟩
end Go.Proofs.YteekmmgopnnioaaDoor

/-! manifest: names that came in. -/
namespace Go.Proofs.YteekmmgopnnioaaDoor
open Go.RowKit Go.Deep Go.ChangeShapes Go.WideShapes Go.ChangeAt Plain
set_option linter.unusedVariables false

theorem cells_9N : Tryd.prog.cellsOf 9 = 1 := by kernel_rfl
theorem bytes_9N : Tryd.prog.bytesOf 9 = 16 := by kernel_rfl
theorem weightsAll_mem {H : Type} {P : Program} {e : TypeId} : ∀ {ds : List (DataW H)} {d : DataW H}, d ∈ ds → ∀ n ∈ d.weights P e, n ∈ DataW.weightsAll P e ds
  | x :: r, d, hd, n, hn => by
    simp only [DataW.weightsAll, List.mem_append]
    rcases List.mem_cons.mp hd with rfl | h
    · exact .inl hn
    · exact .inr (weightsAll_mem h n hn)
  | [], d, hd, _, _ => by simp at hd

theorem open_txs {H : Type} {enc : TypeId × Value → H} {W : World} {fuel : Nat} {v : Value} {x : DataW H × List MemPlace} (h : DataW.trod enc Tryd.prog W 0 (fun _ => true) true fuel 27 [v] = some x)
    (hsz : ∀ n ∈ x.1.weights Tryd.prog 27, n ≤ reachBytes) : ∃ ss : List ByteArray, TxAt W v ss := by
  rcases open_strings Tryd.underlying27 Tryd.underlying9 cells_9N h with ⟨hcs, hx⟩ | ⟨a, len, cap, ss, hcs, hb, hl, hm, hsl, hx, hcell, hlen⟩
  · simp at hcs
    subst hcs
    exact ⟨[], ⟨none, 0, rfl, by simp, by simp, by simp, by simp⟩⟩
  · simp at hcs
    subst hcs
    simp only [if_true] at hsl
    rw [hx] at hsz
    have hbig := hsz _ (by simp only [DataW.weights, Tryd.underlying27]; exact List.mem_cons_self)
    rw [bytes_9N] at hbig
    have htk : (ss.take len).length = len := by simp; omega
    refine ⟨ss.take len, ⟨some a, cap, by rw [htk], by rw [htk]; omega, ?_, fun s hs => ?_, fun hne => ?_⟩⟩
    · rw [htk]
      simp [strs, reachBytes] at hbig
      omega
    · have h1 := hsz s.data.toList.length (by
        simp only [DataW.weights, Tryd.underlying27]
        refine List.mem_cons_of_mem _ (List.mem_append_left _ (weightsAll_mem (d := .lit (.string s.data.toList)) ?_ _ (by simp [DataW.weights])))
        simp only [strs]
        exact List.mem_map.mpr ⟨s, hs, rfl⟩)
      have h2 : reachBytes ≤ 281474976710656 := by decide
      have h3 : s.data.toList.length = s.size := Array.length_toList
      omega
    · obtain ⟨b, off, spot⟩ := a
      have hl0 : 0 < len := by
        rcases Nat.eq_zero_or_pos len with h0 | h0
        · rw [h0] at hne; simp at hne
        · exact h0
      have hspot : spot = none := by
        have := World.cell?_spot (hcell 0 (by omega))
        simpa [Addr.add] using this
      subst hspot
      refine ⟨b, off, rfl, fun j hj => ?_⟩
      rw [htk] at hj
      have hc := hcell j (by omega)
      rw [WideShapes.add_plain] at hc
      rw [hc]
      have e : (ss.take len).getD j ⟨#[]⟩ = ss.getD j ByteArray.empty := by
        simp [List.getD_eq_getElem?_getD, hj]
        rfl
      rw [e]
end Go.Proofs.YteekmmgopnnioaaDoor

/-! manifest: manifests and catalogues that came in. -/
namespace Go.Proofs.YteekmmgopnnioaaDoor
open Go.RowKit Go.Deep Go.ChangeShapes Go.WideShapes Go.ChangeAt Go.Joins Plain
set_option linter.unusedVariables false
set_option linter.unusedSimpArgs false

theorem cells_2 : Tryd.prog.cellsOf 2 = 1 := by kernel_rfl
theorem cells_3 : Tryd.prog.cellsOf 3 = 1 := by kernel_rfl
theorem cells_IS : Tryd.prog.cellsOf 28 = 1 := by kernel_rfl
theorem cells_PS : Tryd.prog.cellsOf 29 = 1 := by kernel_rfl
theorem cells_ES : Tryd.prog.cellsOf 32 = 1 := by kernel_rfl
theorem cells_MF : Tryd.prog.cellsOf 31 = 7 := by kernel_rfl
theorem cells_CT : Tryd.prog.cellsOf 34 = 2 := by kernel_rfl
theorem bytes_3 : Tryd.prog.bytesOf 3 = 8 := by kernel_rfl
theorem wfI {z : Int} (h : (Lit.int .i64 z).wf = true) : I64 z := by
  have := bounds_i64 h
  unfold I64
  omega
theorem weights_agg {H : Type} {P : Program} {t t' : TypeId} {fs : Array Field} {parts : List (DataW H)} {d : DataW H} {j : Nat} (hu : P.underlying t = some (.struct fs)) (ht : (fs.toList.map (·.type))[j]? = some t') (hd : parts[j]? = some d) : ∀ n ∈ d.weights P t', n ∈ (DataW.agg parts).weights P t := fun n hn => by
  simp only [DataW.weights, hu]
  exact DataW.weights_mem_each ht hd n hn
theorem weights_all {H : Type} {P : Program} {e : TypeId} : ∀ {ds : List (DataW H)} {d : DataW H}, d ∈ ds → ∀ n ∈ d.weights P e, n ∈ DataW.weightsAll P e ds
  | [], d, h, _, _ => by simp at h
  | x :: ds, d, h, n, hn => by
    simp only [DataW.weightsAll, List.mem_append]
    rcases List.mem_cons.mp h with rfl | h
    · exact .inl hn
    · exact .inr (weights_all h n hn)
theorem weights_slice {H : Type} {P : Program} {t e : TypeId} {el sp : List (DataW H)} (hu : P.underlying t = some (.slice e)) : (el.length + sp.length) * P.bytesOf e ∈ (DataW.slice el sp).weights P t := by simp [DataW.weights, hu]
theorem weights_elem {H : Type} {P : Program} {t e : TypeId} {el sp : List (DataW H)} (hu : P.underlying t = some (.slice e)) {d : DataW H} (hd : d ∈ el) : ∀ n ∈ d.weights P e, n ∈ (DataW.slice el sp).weights P t := fun n hn => by
  simp only [DataW.weights, hu, List.mem_cons, List.mem_append]
  exact .inr (.inl (weights_all hd n hn))

theorem cells_pr : Tryd.prog.cellsOf 50 = 3 := by kernel_rfl
theorem bytes_pr : Tryd.prog.bytesOf 50 = 24 := by kernel_rfl
set_option maxRecDepth 100000 in
theorem open_pr {H : Type} {enc : TypeId × Value → H} {W : World} {n : Nat} {a : Addr} {i : Nat} {x : DataW H × List MemPlace} {cs' : List Value} (h1 : W.cells? 0 (a.add (i * Tryd.prog.cellsOf 50)) (Tryd.prog.cellsOf 50) = some cs')
    (h2 : DataW.trod enc Tryd.prog W 0 (fun _ => true) true n 50 cs' = some x) :
    ∃ s : Pr, s.Ok ∧ W.cell? ((a.add (i * 3)).add 0) = some (.int .i64 s.pid) ∧ W.cell? ((a.add (i * 3)).add 1) = some (.int .i64 s.seq) ∧ W.cell? ((a.add (i * 3)).add 2) = some (.int .i64 s.off) := by
  rw [cells_pr] at h1
  obtain ⟨_, hlen0, hcell⟩ := World.cells?_some h1
  obtain ⟨xs, m, _, hx, hl, hlen, hf⟩ := DataW.trod_struct Tryd.underlying50 h2
  rw [cells_pr] at hl
  have hlen : xs.length = 3 := hlen
  match cs', hl with
  | [v0, v1, v2], _ =>
    match xs, hlen with
    | [y0, y1, y2], _ =>
      have k0 : DataW.trod enc Tryd.prog W 0 (fun _ => true) true m 2 [v0] = some y0 := by simpa [cells_2, cells_3] using hf 0 _ rfl
      have k1 : DataW.trod enc Tryd.prog W 0 (fun _ => true) true m 2 [v1] = some y1 := by simpa [cells_2, cells_3] using hf 1 _ rfl
      have k2 : DataW.trod enc Tryd.prog W 0 (fun _ => true) true m 2 [v2] = some y2 := by simpa [cells_2, cells_3] using hf 2 _ rfl
      obtain ⟨n0, e0, _, w0⟩ := DataW.trod_int Tryd.underlying2 k0
      obtain ⟨n1, e1, _, w1⟩ := DataW.trod_int Tryd.underlying2 k1
      obtain ⟨n2, e2, _, w2⟩ := DataW.trod_int Tryd.underlying2 k2
      simp only [List.cons.injEq, and_true] at e0 e1 e2
      subst e0 e1 e2
      exact ⟨⟨n0, n1, n2⟩, ⟨wfI w0, wfI w1, wfI w2⟩, by simpa using hcell 0 (by omega), by simpa using hcell 1 (by omega), by simpa using hcell 2 (by omega)⟩

theorem open_prs {H : Type} {enc : TypeId × Value → H} {W : World} {fuel : Nat} {v : Value} {x : DataW H × List MemPlace} (h : DataW.trod enc Tryd.prog W 0 (fun _ => true) true fuel 29 [v] = some x)
    (hsz : ∀ el sp, x.1 = .slice el sp → (el.length + sp.length) * Tryd.prog.bytesOf 50 ≤ reachBytes) : ∃ st : List Pr, PrsAt W v st ∧ st.length ≤ 8796093021000 := by
  rcases open_slice Tryd.underlying29 h with ⟨hcs, hx⟩ | ⟨a, len, cap, m, n, D, PP, hcs, hb, hl, hm, hmm, hx, hel⟩
  · simp at hcs
    subst hcs
    exact ⟨[], ⟨none, 0, rfl, by simp, by simp, by simp⟩, by simp⟩
  · simp at hcs
    subst hcs
    simp only [if_true] at hmm
    subst hmm
    have each := fun i hi => (hel i hi).elim fun cs' h12 => open_pr (i := i) h12.1 h12.2
    have iSt : Inhabited Pr := ⟨Pr.zero⟩
    obtain ⟨q, hq⟩ := choose_lt each
    have hbig : len ≤ 8796093021000 := by
      have := hsz _ _ (by rw [hx])
      rw [bytes_pr] at this
      simp [reachBytes] at this
      omega
    refine ⟨(List.range len).map q, ⟨some a, m, by simp, by simp; omega, ?_, ?_⟩, by simpa using hbig⟩
    · intro s hs
      obtain ⟨i, hi, rfl⟩ := List.mem_map.mp hs
      exact (hq i (by have := List.mem_range.mp hi; omega)).1
    · intro hne
      have hlen : 0 < len := by
        rcases Nat.eq_zero_or_pos len with rfl | h
        · simp at hne
        · exact h
      obtain ⟨b, off, spot⟩ := a
      have hspot : spot = none := by
        have := World.cell?_spot (hq 0 (by omega)).2.1
        simpa [Addr.add] using this
      subst hspot
      refine ⟨b, off, rfl, fun j hj => ?_⟩
      have hj' : j < len := by simpa using hj
      obtain ⟨_, c0, c1, c2⟩ := hq j (by omega)
      rw [WideShapes.add_plain, WideShapes.add_plain] at c0 c1 c2
      have e : ((List.range len).map q).getD j Pr.zero = q j := by simp [hj']
      rw [e]
      exact ⟨c0, c1, c2⟩
theorem cells_te : Tryd.prog.cellsOf 52 = 4 := by kernel_rfl
theorem bytes_te : Tryd.prog.bytesOf 52 = 40 := by kernel_rfl
theorem cells_9 : Tryd.prog.cellsOf 9 = 1 := by kernel_rfl
set_option maxRecDepth 100000 in
theorem open_te {H : Type} {enc : TypeId × Value → H} {W : World} {n : Nat} {a : Addr} {i : Nat} {x : DataW H × List MemPlace} {cs' : List Value} (h1 : W.cells? 0 (a.add (i * Tryd.prog.cellsOf 52)) (Tryd.prog.cellsOf 52) = some cs')
    (h2 : DataW.trod enc Tryd.prog W 0 (fun _ => true) true n 52 cs' = some x) :
    ∃ s : Te, s.Ok ∧ W.cell? ((a.add (i * 4)).add 0) = some (.int .i64 s.id) ∧ W.cell? ((a.add (i * 4)).add 1) = some (.string s.name) ∧ W.cell? ((a.add (i * 4)).add 2) = some (.int .i64 s.lim) ∧ W.cell? ((a.add (i * 4)).add 3) = some (.int .i64 s.hor) := by
  rw [cells_te] at h1
  obtain ⟨_, hlen0, hcell⟩ := World.cells?_some h1
  obtain ⟨xs, m, _, hx, hl, hlen, hf⟩ := DataW.trod_struct Tryd.underlying52 h2
  rw [cells_te] at hl
  have hlen : xs.length = 4 := hlen
  match cs', hl with
  | [v0, v1, v2, v3], _ =>
    match xs, hlen with
    | [y0, y1, y2, y3], _ =>
      have k0 : DataW.trod enc Tryd.prog W 0 (fun _ => true) true m 3 [v0] = some y0 := by simpa [cells_2, cells_3, cells_9] using hf 0 _ rfl
      have k1 : DataW.trod enc Tryd.prog W 0 (fun _ => true) true m 9 [v1] = some y1 := by simpa [cells_2, cells_3, cells_9] using hf 1 _ rfl
      have k2 : DataW.trod enc Tryd.prog W 0 (fun _ => true) true m 3 [v2] = some y2 := by simpa [cells_2, cells_3, cells_9] using hf 2 _ rfl
      have k3 : DataW.trod enc Tryd.prog W 0 (fun _ => true) true m 2 [v3] = some y3 := by simpa [cells_2, cells_3, cells_9] using hf 3 _ rfl
      obtain ⟨n0, e0, _, w0⟩ := DataW.trod_int Tryd.underlying3 k0
      obtain ⟨n1, e1, _, w1⟩ := DataW.trod_string Tryd.underlying9 k1
      obtain ⟨n2, e2, _, w2⟩ := DataW.trod_int Tryd.underlying3 k2
      obtain ⟨n3, e3, _, w3⟩ := DataW.trod_int Tryd.underlying2 k3
      simp only [List.cons.injEq, and_true] at e0 e1 e2 e3
      subst e0 e1 e2 e3
      exact ⟨⟨n0, n1, n2, n3⟩, ⟨wfI w0, w1, wfI w2, wfI w3⟩, by simpa using hcell 0 (by omega), by simpa using hcell 1 (by omega), by simpa using hcell 2 (by omega), by simpa using hcell 3 (by omega)⟩

theorem open_tes {H : Type} {enc : TypeId × Value → H} {W : World} {fuel : Nat} {v : Value} {x : DataW H × List MemPlace} (h : DataW.trod enc Tryd.prog W 0 (fun _ => true) true fuel 32 [v] = some x)
    (hsz : ∀ el sp, x.1 = .slice el sp → (el.length + sp.length) * Tryd.prog.bytesOf 52 ≤ reachBytes) : ∃ st : List Te, TesIn W v st ∧ st.length ≤ 4398046510000 := by
  rcases open_slice Tryd.underlying32 h with ⟨hcs, hx⟩ | ⟨a, len, cap, m, n, D, PP, hcs, hb, hl, hm, hmm, hx, hel⟩
  · simp at hcs
    subst hcs
    exact ⟨[], ⟨⟨none, 0, rfl, by simp, by simp, by simp⟩, fun a n c e => by injection e with _ e2 e3; omega⟩, by simp⟩
  · simp at hcs
    subst hcs
    simp only [if_true] at hmm
    subst hmm
    have each := fun i hi => (hel i hi).elim fun cs' h12 => open_te (i := i) h12.1 h12.2
    have iSt : Inhabited Te := ⟨Te.zero⟩
    obtain ⟨q, hq⟩ := choose_lt each
    have hbig : len ≤ 4398046510000 := by
      have := hsz _ _ (by rw [hx])
      rw [bytes_te] at this
      simp [reachBytes] at this
      omega
    refine ⟨(List.range len).map q, ⟨⟨some a, m, by simp, by simp; omega, ?_, ?_⟩, fun a' n' c' e => by injection e with _ e2 e3; omega⟩, by simpa using hbig⟩
    · intro s hs
      obtain ⟨i, hi, rfl⟩ := List.mem_map.mp hs
      exact (hq i (by have := List.mem_range.mp hi; omega)).1
    · intro hne
      have hlen : 0 < len := by
        rcases Nat.eq_zero_or_pos len with rfl | h
        · simp at hne
        · exact h
      obtain ⟨b, off, spot⟩ := a
      have hspot : spot = none := by
        have := World.cell?_spot (hq 0 (by omega)).2.1
        simpa [Addr.add] using this
      subst hspot
      refine ⟨b, off, rfl, fun j hj => ?_⟩
      have hj' : j < len := by simpa using hj
      obtain ⟨_, c0, c1, c2, c3⟩ := hq j (by omega)
      rw [WideShapes.add_plain, WideShapes.add_plain] at c0 c1 c2 c3
      have e : ((List.range len).map q).getD j Te.zero = q j := by simp [hj']
      rw [e]
      exact ⟨c0, c1, c2, c3⟩

theorem open_seg {H : Type} {enc : TypeId × Value → H} {W : World} {fuel : Nat} {v : Value} {x : DataW H × List MemPlace} (h : DataW.trod enc Tryd.prog W 0 (fun _ => true) true fuel 28 [v] = some x) (hsz : ∀ el sp, x.1 = .slice el sp → (el.length + sp.length) * Tryd.prog.bytesOf 3 ≤ reachBytes) :
    ∃ l : List Int, IntsAt W v l ∧ l.length ≤ 17592186044400 := by
  rcases open_ints Tryd.underlying28 Tryd.underlying3 (by kernel_rfl) h with ⟨hcs, _⟩ | ⟨x, l, c, zs, hcs, _, hl, hm, hz, hx, hcell, hwz⟩
  · simp at hcs
    subst hcs
    exact ⟨[], ⟨none, 0, rfl, by simp, by simp, by simp, by simp⟩, by simp⟩
  · simp at hcs
    subst hcs
    simp only [if_true] at hz
    have hbig := hsz _ _ (by rw [hx])
    rw [bytes_3] at hbig
    have hlen : l ≤ 17592186044400 := by simp [lits, reachBytes] at hbig; omega
    have htl : (zs.take l).length = l := by simp; omega
    refine ⟨zs.take l, ⟨some x, c, by rw [htl], by rw [htl]; exact hl, by rw [htl]; omega, fun z hzm => ?_, fun hne => ?_⟩, by rw [htl]; exact hlen⟩
    · exact wfI (hwz z (List.mem_of_mem_take hzm))
    · have hl0 : 0 < l := by
        rcases Nat.eq_zero_or_pos l with rfl | h
        · simp at hne
        · exact h
      obtain ⟨b, off, spot⟩ := x
      have hspot : spot = none := by
        have := World.cell?_spot (hcell 0 (by omega))
        simpa [Addr.add] using this
      subst hspot
      refine ⟨b, off, rfl, fun j hj => ?_⟩
      rw [htl] at hj
      have hc := hcell j (by omega)
      rw [WideShapes.add_plain] at hc
      have e : (zs.take l).getD j 0 = zs.getD j 0 := by simp [List.getD_eq_getElem?_getD, hj]
      rw [hc, e]
theorem array7 {α : Type} {cs : Array α} (h : cs.size = 7) : ∃ c0 c1 c2 c3 c4 c5 c6, cs = #[c0, c1, c2, c3, c4, c5, c6] := by
  obtain ⟨l⟩ := cs
  match l, h with
  | [c0, c1, c2, c3, c4, c5, c6], _ => exact ⟨c0, c1, c2, c3, c4, c5, c6, rfl⟩
set_option maxRecDepth 100000 in
theorem open_man {H : Type} {enc : TypeId × Value → H} {W : World} {base : Nat} {v : Value} {d : DataW H} {p : List MemPlace} (hv : Value.okWide Tryd.prog W .any base 31 v) (h : DataW.Trod enc Tryd.prog W 0 (fun _ => true) true 31 v d p) (hw : ∀ n ∈ d.weights Tryd.prog 31, n ≤ reachBytes) :
    ∃ (m : Mf) (vs vp : Value), v = m.agg vs vp ∧ IntsAt W vs m.segs ∧ PrsAt W vp m.prods ∧ m.segs.length ≤ 17592186044400 ∧ m.prods.length ≤ 8796093021000 := by
  obtain ⟨cs, rfl, hsz⟩ := okWide_struct Tryd.underlying31 hv
  obtain ⟨v0, v1, v2, v3, v4, v5, v6, rfl⟩ := array7 (hsz.trans cells_MF)
  obtain ⟨fuel, hf⟩ := h
  obtain ⟨xs, m, _, hx, hl, hlen, hfs⟩ := DataW.trod_struct Tryd.underlying31 hf
  have hlen : xs.length = 7 := hlen
  match xs, hlen with
  | [y0, y1, y2, y3, y4, y5, y6], _ =>
    have k0 : DataW.trod enc Tryd.prog W 0 (fun _ => true) true m 3 [v0] = some y0 := by simpa [Value.cells, cells_2, cells_3, cells_IS, cells_PS] using hfs 0 _ rfl
    have k1 : DataW.trod enc Tryd.prog W 0 (fun _ => true) true m 3 [v1] = some y1 := by simpa [Value.cells, cells_2, cells_3, cells_IS, cells_PS] using hfs 1 _ rfl
    have k2 : DataW.trod enc Tryd.prog W 0 (fun _ => true) true m 2 [v2] = some y2 := by simpa [Value.cells, cells_2, cells_3, cells_IS, cells_PS] using hfs 2 _ rfl
    have k3 : DataW.trod enc Tryd.prog W 0 (fun _ => true) true m 2 [v3] = some y3 := by simpa [Value.cells, cells_2, cells_3, cells_IS, cells_PS] using hfs 3 _ rfl
    have k4 : DataW.trod enc Tryd.prog W 0 (fun _ => true) true m 2 [v4] = some y4 := by simpa [Value.cells, cells_2, cells_3, cells_IS, cells_PS] using hfs 4 _ rfl
    have k5 : DataW.trod enc Tryd.prog W 0 (fun _ => true) true m 28 [v5] = some y5 := by simpa [Value.cells, cells_2, cells_3, cells_IS, cells_PS] using hfs 5 _ rfl
    have k6 : DataW.trod enc Tryd.prog W 0 (fun _ => true) true m 29 [v6] = some y6 := by simpa [Value.cells, cells_2, cells_3, cells_IS, cells_PS] using hfs 6 _ rfl
    obtain ⟨n0, e0, _, _⟩ := DataW.trod_int Tryd.underlying3 k0
    obtain ⟨n1, e1, _, _⟩ := DataW.trod_int Tryd.underlying3 k1
    obtain ⟨n2, e2, _, _⟩ := DataW.trod_int Tryd.underlying2 k2
    obtain ⟨n3, e3, _, _⟩ := DataW.trod_int Tryd.underlying2 k3
    obtain ⟨n4, e4, _, _⟩ := DataW.trod_int Tryd.underlying2 k4
    simp only [List.cons.injEq, and_true] at e0 e1 e2 e3 e4
    subst e0 e1 e2 e3 e4
    have hd : d = .agg [y0.1, y1.1, y2.1, y3.1, y4.1, y5.1, y6.1] := by
      simp only [Prod.mk.injEq] at hx
      simpa using hx.1
    obtain ⟨l, hl1, hl2⟩ := open_seg k5 (fun el sp e => hw _ (by
      rw [hd]
      exact weights_agg (j := 5) Tryd.underlying31 rfl rfl _ (by rw [e]; exact weights_slice Tryd.underlying28)))
    obtain ⟨st, hs1, hs2⟩ := open_prs k6 (fun el sp e => hw _ (by
      rw [hd]
      exact weights_agg (j := 6) Tryd.underlying31 rfl rfl _ (by rw [e]; exact weights_slice Tryd.underlying29)))
    exact ⟨⟨n0, n1, n2, n3, n4, l, st⟩, v5, v6, rfl, hl1, hs1, hl2, hs2⟩
set_option maxRecDepth 100000 in
theorem open_cat {H : Type} {enc : TypeId × Value → H} {W : World} {base : Nat} {v : Value} {d : DataW H} {p : List MemPlace} (hv : Value.okWide Tryd.prog W .any base 34 v) (h : DataW.Trod enc Tryd.prog W 0 (fun _ => true) true 34 v d p) (hw : ∀ n ∈ d.weights Tryd.prog 34, n ≤ reachBytes) :
    ∃ (c : Ct) (u : Value), v = c.agg u ∧ TesIn W u c.tops ∧ c.tops.length ≤ 4398046510000 := by
  obtain ⟨c0, c1, y0, y1, m, rfl, hd, _, hy0, hy1⟩ := open_agg2 Tryd.underlying34 (by kernel_rfl) cells_CT hv h
  obtain ⟨a, e0, _, _⟩ := DataW.trod_int Tryd.underlying3 hy0
  simp at e0
  subst e0
  obtain ⟨st, hs1, hs2⟩ := open_tes hy1 (fun el sp e => hw _ (by
    rw [hd]
    exact weights_agg (j := 1) Tryd.underlying34 rfl rfl _ (by rw [e]; exact weights_slice Tryd.underlying32)))
  exact ⟨⟨a, st⟩, c1, rfl, hs1, hs2⟩
end Go.Proofs.YteekmmgopnnioaaDoor
