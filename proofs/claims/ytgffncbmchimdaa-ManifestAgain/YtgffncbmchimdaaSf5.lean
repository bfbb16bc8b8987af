import Derived.Test.YtgffncbmchimdaaSf4
/-! A file is changed. -/
namespace Go.Proofs.Ytgffncbmchimdaa
open Go.RowKit Go.Maps Plain
set_option linter.unusedVariables false
set_option linter.unusedSimpArgs false

theorem getElem?_snoc {α : Type} (l : List α) (x : α) (j : Nat) : (l ++ [x])[j]? = if j = l.length then some x else l[j]? := by
  by_cases h : j = l.length
  · subst h; simp
  · rw [if_neg h]
    by_cases h2 : j < l.length
    · rw [List.getElem?_append_left h2]
    · rw [List.getElem?_eq_none (by simp; omega), List.getElem?_eq_none (by omega)]

theorem doneF {w w1 w4 : World} {G : Nat} {f : Fl} {S : Nat → Prop} {vs vd vc v1 v4 : Value} {rs rd rc r1 : Option Nat} {vals : List Value} {blk : Nat → Option Nat} (hm : FileM w G f vs vd vc rs rd rc vals blk) (hS : ∀ k, footF G rs rd rc blk k → S k) (hlt : ∀ k, S k → k < w.heap.size)
    {s' : List Nat} (ho1 : Own w1 v1 s' r1) (hg1 : w.grownBy w1 rs) (hr1 : r1 = rs ∨ ∃ g, r1 = some g ∧ w.heap.size ≤ g) (c : FC) (x : Value) (q : Option Nat) (hq : ChOne w c x q) (hqS : ∀ g, q = some g → ¬ S g ∧ g < w.heap.size) (o : Obj) {g4 : Nat}
    (ho4 : OwnV w4 v4 (vals ++ [x]) (some g4)) (hg4 : ((w1.setCell ⟨G, 0, none⟩ v1).alloc o).grownBy w4 rc) (hr4 : some g4 = rc ∨ g4 = w1.heap.size + 1) :
    FileAt (w4.setCell ⟨G, 2, none⟩ v4) G ⟨s', f.dur, f.chg ++ [c]⟩ (fun k => Ext S w (w4.setCell ⟨G, 2, none⟩ v4) k ∨ q = some k) ∧ Chg S w (w4.setCell ⟨G, 2, none⟩ v4) := by
  have hGlt : G < w.heap.size := hlt G (hS G (.inl rfl))
  have hSs : ∀ g, rs = some g → S g := fun g e => hS g (.inr (.inl e))
  have hSd : ∀ g, rd = some g → S g := fun g e => hS g (.inr (.inr (.inl e)))
  have hSc : ∀ g, rc = some g → S g := fun g e => hS g (.inr (.inr (.inr (.inl e))))
  have hSb : ∀ j g, blk j = some g → S g := fun j g e => hS g (.inr (.inr (.inr (.inr ⟨j, e⟩))))
  have hsz1 : w.heap.size ≤ w1.heap.size := hg1.size
  have hsz4 : w1.heap.size + 1 ≤ w4.heap.size := by have := hg4.size; simpa using this
  have hszW : (w4.setCell ⟨G, 2, none⟩ v4).heap.size = w4.heap.size := by simp
  have hrsG : some G ≠ rs := fun e => (hm.sepS G e.symm).1 rfl
  have hrcG : some G ≠ rc := fun e => (hm.sepC G e.symm).1 rfl
  have hb1 : w1.heap[G]? = some (.cells #[vs, vd, vc] 78) := (hg1.block G hGlt hrsG).trans hm.blkG
  have hb2 := (fset hb1 v1).1
  have hb4 : w4.heap[G]? = some (.cells #[v1, vd, vc] 78) := (hg4.block G (by simp; omega) hrcG).trans ((heap_alloc_old _ _ (by simp; omega)).trans hb2)
  have hbW := (fset hb4 v4).2.2
  have g3 : w1.grownBy ((w1.setCell ⟨G, 0, none⟩ v1).alloc o) (some G) := grow_trans (grow_set w1 G 0 v1) (World.grownBy_alloc _ _ none) (.inr (.inl rfl))
  have g5 := grow_set w4 G 2 v4
  have keep1 : ∀ k, k < w1.heap.size → k ≠ G → rc ≠ some k → (w4.setCell ⟨G, 2, none⟩ v4).heap[k]? = w1.heap[k]? := fun k hk h1 h2 => by
    rw [g5.block k (by omega) (by simpa using h1), hg4.block k (by have := g3.size; omega) (Ne.symm h2), g3.block k hk (by simpa using h1)]
  have keep : ∀ k, k < w.heap.size → k ≠ G → rs ≠ some k → rc ≠ some k → (w4.setCell ⟨G, 2, none⟩ v4).heap[k]? = w.heap[k]? := fun k hk h1 h2 h3 => by
    rw [keep1 k (by omega) h1 h3, hg1.block k hk (Ne.symm h2)]
  have hchg : Chg S w (w4.setCell ⟨G, 2, none⟩ v4) := by
    refine (((Chg.refl S w).grown hg1 (fun g e => .inl (hSs g e))).grown g3 ?_ |>.grown hg4 (fun g e => .inl (hSc g e))).grown g5 ?_
    · intro g e; simp at e; subst e; exact .inl (hS _ (.inl rfl))
    · intro g e; simp at e; subst e; exact .inl (hS _ (.inl rfl))
  have hrcl : ∀ g, rc = some g → g < w.heap.size := fun g e => hlt g (hSc g e)
  have hrdl : ∀ g, rd = some g → g < w.heap.size := fun g e => hlt g (hSd g e)
  have hbkl : ∀ j g, blk j = some g → g < w.heap.size := fun j g e => hlt g (hSb j g e)
  have hr1l : ∀ g, r1 = some g → g < w1.heap.size := ho1.rlt
  have hr1G : ∀ g, r1 = some g → g ≠ G ∧ rc ≠ some g := fun g e => by
    rcases hr1 with h | ⟨g', h, h2⟩
    · rw [h] at e; exact ⟨(hm.sepS g e).1, (hm.sepS g e).2.2.1⟩
    · rw [h] at e; simp at e; subst e
      exact ⟨by omega, fun e2 => by have := hrcl _ e2; omega⟩
  have hg4G : g4 ≠ G := by
    rcases hr4 with h | h
    · exact (hm.sepC g4 h.symm).1
    · omega
  refine ⟨⟨v1, vd, v4, r1, rd, some g4, vals ++ [x], fun j => if j = f.chg.length then q else blk j, ⟨hbW, ?_, ?_, ?_, ?_, ?_, ?_, ?_⟩, ?_, ?_⟩, hchg⟩
  · exact ho1.of_block (by omega) (fun g e => keep1 g (hr1l g e) (hr1G g e).1 (hr1G g e).2)
  · exact hm.dur.of_block (by omega) (fun g e => keep g (hrdl g e) (hm.sepD g e).1 (fun e2 => (hm.sepS g e2).2.1 e) (hm.sepD g e).2.1)
  · refine ⟨ho4.of_block (by omega) (fun g e => ?_), by simp [hm.chg.len], fun j c' hc' => ?_, fun j g e => ?_⟩
    · simp at e; subst e
      exact g5.block _ ho4.lt (by simp; exact hg4G)
    · rw [getElem?_snoc] at hc'
      rw [getElem?_snoc, hm.chg.len]
      by_cases hj : j = f.chg.length
      · rw [if_pos hj] at hc' ⊢
        simp at hc'; subst hc'
        rw [if_pos hj]
        refine ⟨x, rfl, hq.of_block (by omega) (fun g e => keep g (hqS g e).2 ?_ ?_ ?_)⟩
        · rintro rfl; exact (hqS _ e).1 (hS _ (.inl rfl))
        · exact fun e2 => (hqS g e).1 (hSs g e2)
        · exact fun e2 => (hqS g e).1 (hSc g e2)
      · rw [if_neg hj] at hc' ⊢
        rw [if_neg hj]
        obtain ⟨y, h1, h2⟩ := hm.chg.one j c' hc'
        exact ⟨y, h1, h2.of_block (by omega) (fun g e => keep g (hbkl j g e) (hm.sepB j g e) (fun e2 => (hm.sepS g e2).2.2.2 j e) (fun e2 => (hm.sepC g e2).2 j e))⟩
    · split at e
      · have := (hqS g e).2; omega
      · have := hbkl j g e; omega
  · intro g e
    refine ⟨(hr1G g e).1, fun e2 => ?_, fun e2 => ?_, fun j e2 => ?_⟩
    · rcases hr1 with h | ⟨g', h, h2⟩
      · rw [h] at e; exact (hm.sepS g e).2.1 e2
      · rw [h] at e; simp at e; subst e; have := hrdl _ e2; omega
    · simp at e2; subst e2
      rcases hr4 with h | h
      · exact (hr1G _ e).2 h.symm
      · have := hr1l _ e; omega
    · split at e2
      · rcases hr1 with h | ⟨g', h, h2⟩
        · rw [h] at e; exact (hqS g e2).1 (hSs g e)
        · rw [h] at e; simp at e; subst e; have := (hqS _ e2).2; omega
      · rcases hr1 with h | ⟨g', h, h2⟩
        · rw [h] at e; exact (hm.sepS g e).2.2.2 j e2
        · rw [h] at e; simp at e; subst e; have := hbkl j _ e2; omega
  · intro g e
    refine ⟨(hm.sepD g e).1, fun e2 => ?_, fun j e2 => ?_⟩
    · simp at e2; subst e2
      rcases hr4 with h | h
      · exact (hm.sepD _ e).2.1 h.symm
      · have := hrdl _ e; omega
    · split at e2
      · exact (hqS g e2).1 (hSd g e)
      · exact (hm.sepD g e).2.2 j e2
  · intro g e
    simp at e; subst e
    refine ⟨hg4G, fun j e2 => ?_⟩
    split at e2
    · rcases hr4 with h | h
      · exact (hqS _ e2).1 (hSc _ h.symm)
      · have := (hqS _ e2).2; omega
    · rcases hr4 with h | h
      · exact (hm.sepC _ h.symm).2 j e2
      · have := hbkl j _ e2; omega
  · intro j g e
    split at e
    · rintro rfl; exact (hqS _ e).1 (hS _ (.inl rfl))
    · exact hm.sepB j g e
  · intro k hk
    rcases hk with rfl | hk | hk | hk | ⟨j, hk⟩
    · exact .inl (.inl (hS _ (.inl rfl)))
    · rcases hr1 with h | ⟨g', h, h2⟩
      · exact .inl (.inl (hSs _ (h.symm.trans hk)))
      · rw [h] at hk; simp at hk; subst hk
        exact .inl (.inr ⟨h2, by have := hr1l _ h; omega⟩)
    · exact .inl (.inl (hSd _ hk))
    · simp at hk; subst hk
      rcases hr4 with h | h
      · exact .inl (.inl (hSc _ h.symm))
      · exact .inl (.inr ⟨by omega, by have := ho4.lt; omega⟩)
    · simp only at hk
      split at hk
      · exact .inr hk
      · exact .inl (.inl (hSb _ _ hk))
  · intro k hk
    rcases hk with (hk | hk) | hk
    · have := hlt k hk; omega
    · exact hk.2
    · have := (hqS k hk).2; omega

theorem info_fc : ∃ i, Try.prog.info? 80 = some i ∧ i.zero = some .nilIface ∧ i.size = 1 ∧ i.bytes = 16 := by
  obtain ⟨i, h1, h2, h3, h4⟩ := info_parts (show (Try.prog.info? 80).map (fun i => (i.zero, i.size, i.bytes)) = some (some .nilIface, 1, 16) by kernel_rfl)
  exact ⟨i, h1, h2, h3, h4⟩

set_option maxHeartbeats 2000000 in
set_option maxRecDepth 1000000 in
theorem doAdd (w : World) (G : Nat) (f : Fl) (S : Nat → Prop) (ab : Option Addr) (nb cb : Nat) (b : List Nat) (q : Option Nat) (h : FileAt w G f S) (hf : f.Ok) (ho : Own w (.slice ab nb cb) b q) (hq : ∀ g, q = some g → ¬ S g) (hlen : f.seen.length + b.length ≤ 70368744177664) :
    Calls Try.prog 50 #[.pointer (some ⟨G, 0, none⟩), .iface 105 (.agg #[.slice ab nb cb])] w fun e w' => e = .returned (.tuple #[]) ∧ FileAt w' G ⟨f.seen ++ b, f.dur, f.chg ++ [FC.add b]⟩ (fun k => Ext S w w' k ∨ q = some k) ∧ Chg S w w' := by
  obtain ⟨vs, vd, vc, rs, rd, rc, vals, blk, hm, hS, hlt⟩ := h
  have HM : Hid (FileM w G f vs vd vc rs rd rc vals blk) := hm
  have HS : Hid (∀ k, footF G rs rd rc blk k → S k) := hS
  have HLT : Hid (∀ k, S k → k < w.heap.size) := hlt
  obtain ⟨c0, c1, c2, z0, z1, z2⟩ := fcells hm.blkG
  obtain ⟨sa, ns, cs, rfl⟩ := isSliceO hm.seen
  obtain ⟨ac, nc, cc, rfl⟩ := isSliceV hm.chg.row
  have HO : Hid (Own w (.slice ab nb cb) b q) := ho
  have HQ : Hid (∀ g, q = some g → ¬ S g ∧ g < w.heap.size) := fun g e => ⟨hq g e, ho.rlt g e⟩
  have hGlt : G < w.heap.size := hlt G (hS G (.inl rfl))
  have hGs : some G ≠ rs := fun e => (hm.sepS G e.symm).1 rfl
  have hGc : some G ≠ rc := fun e => (hm.sepC G e.symm).1 rfl
  have HCN : Hid (vals.length ≤ 4398046511104) := by have := hf.cnt; have := hm.chg.len; unfold Hid; omega
  obtain ⟨i, hi0, hi1, hi2, hi3⟩ := info_fc
  have HI : Hid (Try.prog.info? 80 = some i ∧ i.zero = some .nilIface ∧ i.size = 1 ∧ i.bytes = 16) := ⟨hi0, hi1, hi2, hi3⟩
  have hme := methAdd (.agg #[.slice ab nb cb]) w
  clear hm hS hlt hf ho hq hi0 hi1 hi2 hi3
  go_enter Try.func50, Try.ntmps50
  go_wp2_with fail
  refine (addOntoOf ab nb cb b _ f.seen rs w HO.out.bytes HM.out.seen (by omega)).mono ?_
  rintro e w1 ⟨a1, n1, c1', r1, rfl, ho1, hg1, hr1⟩
  have hb1 : w1.heap[G]? = some (.cells #[.slice sa ns cs, vd, .slice ac nc cc] 78) := (hg1.block G hGlt hGs).trans HM.out.blkG
  obtain ⟨d0, d1, d2, y0, y1, y2⟩ := fcells hb1
  have HO1 : Hid (Own w1 (.slice a1 n1 c1') (f.seen ++ b) r1) := ho1
  have HG1 : Hid (w.grownBy w1 rs) := hg1
  have HR1 : Hid (r1 = rs ∨ ∃ g, r1 = some g ∧ w.heap.size ≤ g) := hr1
  have HV1 : Hid (OwnV (w1.setCell ⟨G, 0, none⟩ (.slice a1 n1 c1')) (.slice ac nc cc) vals rc) := (HM.out.chg.row.kept hg1 (by
    cases rc with
    | none => exact .inl rfl
    | some g => exact .inr (fun e => (HM.out.sepS g e.symm).2.2.1 rfl))).kept (grow_set w1 G 0 _) (by
    cases rc with
    | none => exact .inl rfl
    | some g => exact .inr (fun e => hGc (by rw [e])))
  have hG1 : G < w1.heap.size := by have := hg1.size; omega
  clear ho1 hg1 hr1 hb1 c0 c1 c2 z0 z1 z2 hme
  go_wp2_with (at_builtin; refine wpList_append_val _ rfl _ _ 74 80 i .nilIface rfl Try.underlying74 HI.out.1 HI.out.2.1 rfl HI.out.2.2.1 (by rw [HI.out.2.2.2]; omega) _ _ (.iface 105 (.agg #[.slice ab nb cb])) vals rc rfl rfl ?hOwn ?hSrc ?hLen ?_)
  case hOwn => exact HV1.out.kept (World.grownBy_alloc _ _ none) (by cases rc <;> simp)
  case hSrc => exact src_val' _ _ (by simp) _ rfl 74 80 80 Try.underlying74
  case hLen => exact HCN.out
  intro v4 w4 g4 ho4 hg4 hr4
  have hb4 : w4.heap[G]? = some (.cells #[.slice a1 n1 c1', vd, .slice ac nc cc] 78) := (hg4.block G (by simp; omega) hGc).trans ((heap_alloc_old _ _ (by simp; omega)).trans (fset ((HG1.out.block G hGlt hGs).trans HM.out.blkG) _).1)
  obtain ⟨e0, e1, e2, x0, x1, x2⟩ := fcells hb4
  have HF : Hid (FileAt (w4.setCell ⟨G, 2, none⟩ v4) G ⟨f.seen ++ b, f.dur, f.chg ++ [FC.add b]⟩ (fun k => Ext S w (w4.setCell ⟨G, 2, none⟩ v4) k ∨ q = some k) ∧ Chg S w (w4.setCell ⟨G, 2, none⟩ v4)) :=
    doneF HM.out HS.out HLT.out HO1.out HG1.out HR1.out (FC.add b) _ q (ChOne.add.mpr ⟨_, rfl, HO.out⟩) HQ.out _ ho4 hg4 (by simpa using hr4)
  obtain ⟨a4, n4, c4, rfl⟩ := isSliceV ho4
  clear ho4 hg4 hr4 hb4 d0 d1 d2 y0 y1 y2
  go_wp2
  go_end0
  exact ⟨rfl, HF.out⟩
end Go.Proofs.Ytgffncbmchimdaa
