import Derived.Test.YthcnhjmkcekdaaaGreatQs04
namespace Go.Proofs.YthcnhjmkcekdaaaGreat
open Go.RowKit Go.Maps Plain
set_option linter.unusedVariables false
set_option linter.unusedSimpArgs false
theorem info_dc : ∃ i, Tryz.prog.info? 73 = some i ∧ i.zero = some .nilIface ∧ i.size = 1 ∧ i.bytes = 16 := by
  obtain ⟨i, h1, h2, h3, h4⟩ := info_parts (show (Tryz.prog.info? 73).map (fun i => (i.zero, i.size, i.bytes)) = some (some .nilIface, 1, 16) by kernel_rfl)
  exact ⟨i, h1, h2, h3, h4⟩
theorem MapO.rlt {w : World} {m : Option Nat} {L : Dir} (h : MapO w m L) : ∀ b, m = some b → b < w.heap.size := fun b e => by subst e; exact h.lt
theorem DiskM.dlt {w : World} {d : Nat} {k : Dk} {ms md : Option Nat} {vc : Value} {rc : Option Nat} {Sf : Nat → Nat → Prop} (h : DiskM w d k ms md vc rc Sf) : d < w.heap.size := (Array.getElem?_eq_some_iff.mp h.cells).1
def Dk.did (k : Dk) (c : DC) : Dk := { k with L := DC.on k.L c, chg := k.chg ++ [c] }
def Dk.settled (k : Dk) : Dk := { k with Ld := k.L, chg := [] }
theorem doneD {w w1 w4 : World} {d : Nat} {k : Dk} {S : Nat → Prop} {ms md : Option Nat} {vc v4 : Value} {rc : Option Nat} {Sf : Nat → Nat → Prop} (hm : DiskM w d k ms md vc rc Sf) (hS1 : ∀ x, footD d ms md rc x → S x) (hS2 : ∀ G x, k.live G → Sf G x → S x) (hS3 : ∀ x, S x → x < w.heap.size)
    (c : DC) {b1 : Nat} (ho1 : MapAt w1 b1 (DC.on k.L c)) (hg1 : w.grownBy w1 ms) (hr1 : ms = some b1 ∨ w.heap.size ≤ b1) (o : Obj) {g4 : Nat}
    (ho4 : OwnV w4 v4 (k.chg.map DC.val ++ [c.val]) (some g4)) (hg4 : ((w1.setCell ⟨d, 0, none⟩ (.map (some b1))).alloc o).grownBy w4 rc) (hr4 : some g4 = rc ∨ g4 = w1.heap.size + 1) :
    DiskAt (w4.setCell ⟨d, 2, none⟩ v4) d (k.did c) (Ext S w (w4.setCell ⟨d, 2, none⟩ v4)) ∧ Chg S w (w4.setCell ⟨d, 2, none⟩ v4) := by
  have hd := hm.dlt
  have hsz1 : w.heap.size ≤ w1.heap.size := hg1.size
  have hsz4 : w1.heap.size + 1 + 1 ≤ w4.heap.size + 1 := by have := hg4.size; simp at this; omega
  have hszW : (w4.setCell ⟨d, 2, none⟩ v4).heap.size = w4.heap.size := by simp
  have hmsd : some d ≠ ms := fun e => (hm.sepS d e.symm).1 rfl
  have hrcd : some d ≠ rc := fun e => hm.sepC d e.symm rfl
  have hb1 := (hg1.block d hd hmsd).trans hm.cells
  have hb2 := dset hb1 0 (.map (some b1))
  have hb4 := (hg4.block d (by simp; omega) hrcd).trans ((heap_alloc_old _ _ (by simp; omega)).trans hb2)
  have hbW := dset hb4 2 v4
  have g3 : w1.grownBy ((w1.setCell ⟨d, 0, none⟩ (.map (some b1))).alloc o) (some d) := grow_trans (grow_set w1 d 0 _) (World.grownBy_alloc _ _ none) (.inr (.inl rfl))
  have g5 := grow_set w4 d 2 v4
  have keep1 : ∀ x, x < w1.heap.size → x ≠ d → rc ≠ some x → (w4.setCell ⟨d, 2, none⟩ v4).heap[x]? = w1.heap[x]? := fun x hx h1 h2 => by
    rw [g5.block x (by omega) (by simpa using h1), hg4.block x (by have := g3.size; omega) (Ne.symm h2), g3.block x hx (by simpa using h1)]
  have keep : ∀ x, x < w.heap.size → x ≠ d → ms ≠ some x → rc ≠ some x → (w4.setCell ⟨d, 2, none⟩ v4).heap[x]? = w.heap[x]? := fun x hx h1 h2 h3 => by
    rw [keep1 x (by omega) h1 h3, hg1.block x hx (Ne.symm h2)]
  have hchg : Chg S w (w4.setCell ⟨d, 2, none⟩ v4) := by
    refine (((Chg.refl S w).grown hg1 (fun g e => .inl (hS1 g (.inr (.inl e))))).grown g3 ?_ |>.grown hg4 (fun g e => .inl (hS1 g (.inr (.inr (.inr e)))))).grown g5 ?_
    · intro g e; simp at e; subst e; exact .inl (hS1 _ (.inl rfl))
    · intro g e; simp at e; subst e; exact .inl (hS1 _ (.inl rfl))
  have hrcl := hm.chg.rlt
  have hmdl := hm.dur.rlt
  have hb1l : b1 < w1.heap.size := ho1.lt
  have hg4l := ho4.lt
  have hb1x : b1 ≠ d ∧ rc ≠ some b1 ∧ md ≠ some b1 := by
    rcases hr1 with h | h
    · exact ⟨(hm.sepS b1 h).1, (hm.sepS b1 h).2.2, (hm.sepS b1 h).2.1⟩
    · exact ⟨by omega, fun e => by have := hrcl _ e; omega, fun e => by have := hmdl _ e; omega⟩
  have hg4x : g4 ≠ d ∧ md ≠ some g4 ∧ b1 ≠ g4 := by
    rcases hr4 with h | h
    · exact ⟨fun e => hrcd (by rw [← e]; exact h), fun e => (hm.sepD g4 e).2 h.symm, fun e => hb1x.2.1 (by rw [e]; exact h.symm)⟩
    · exact ⟨by omega, fun e => by have := hmdl _ e; omega, by omega⟩
  have hSf : ∀ G, k.live G → ∀ x, Sf G x → x < w.heap.size ∧ x ≠ d ∧ ms ≠ some x ∧ md ≠ some x ∧ rc ≠ some x := fun G hG x hx => ⟨(hm.files G hG).live x hx, hm.sepF G hG x hx⟩
  generalize hWW : w4.setCell ⟨d, 2, none⟩ v4 = W at *
  refine ⟨⟨some b1, md, v4, some g4, Sf, ⟨hbW, .inr ⟨b1, rfl, ho1.of_block (keep1 b1 hb1l hb1x.1 hb1x.2.1)⟩, hm.dur.of_block (fun b e => keep b (hmdl b e) (hm.sepD b e).1 (fun e2 => (hm.sepS b e2).2.1 e) (hm.sepD b e).2), ?_, fun G hG => (hm.files G hG).frame (by omega) (fun x hx => keep x (hSf G hG x hx).1 (hSf G hG x hx).2.1 (hSf G hG x hx).2.2.1 (hSf G hG x hx).2.2.2.2), ?_, ?_, ?_, ?_, hm.sepFF⟩, ?_, fun G x hG hx => .inl (hS2 G x hG hx), ?_⟩, hchg⟩
  · show OwnV W v4 ((k.chg ++ [c]).map DC.val) (some g4)
    rw [List.map_append]
    exact ho4.of_block (by omega) (fun g e => by simp at e; subst e; exact g5.block _ hg4l (by simp; exact hg4x.1))
  · intro b e; simp at e; subst e
    exact ⟨hb1x.1, hb1x.2.2, by simp; exact fun e => hg4x.2.2 e.symm⟩
  · intro b e
    exact ⟨(hm.sepD b e).1, fun e2 => hg4x.2.1 (by simp at e2; rw [e2]; exact e)⟩
  · intro b e; simp at e; subst e; exact hg4x.1
  · intro G hG x hx
    obtain ⟨q0, q1, q2, q3, q4⟩ := hSf G hG x hx
    refine ⟨q1, fun e => ?_, q3, fun e => ?_⟩
    · simp at e; subst e
      rcases hr1 with h | h
      · exact q2 h
      · omega
    · simp at e; subst e
      rcases hr4 with h | h
      · exact q4 h.symm
      · omega
  · intro x hx
    rcases hx with rfl | hx | hx | hx
    · exact .inl (hS1 _ (.inl rfl))
    · simp at hx; subst hx
      rcases hr1 with h | h
      · exact .inl (hS1 _ (.inr (.inl h)))
      · exact .inr ⟨h, by omega⟩
    · exact .inl (hS1 _ (.inr (.inr (.inl hx))))
    · simp at hx; subst hx
      rcases hr4 with h | h
      · exact .inl (hS1 _ (.inr (.inr (.inr h.symm))))
      · exact .inr ⟨by omega, by omega⟩
  · intro x hx
    rcases hx with hx | hx
    · have := hS3 x hx; omega
    · exact hx.2
set_option maxHeartbeats 2000000 in
set_option maxRecDepth 1000000 in
theorem doDOf (w : World) (d : Nat) (k : Dk) (S : Nat → Prop) (c : DC) (h : DiskAt w d k S) (hc : c.can k.L) (hL : k.L.length < 4398046511104) (hn : k.chg.length ≤ 4398046511104) :
    Calls Tryz.prog 34 #[.pointer (some ⟨d, 0, none⟩), c.val] w fun e w' => e = .returned (.tuple #[]) ∧ DiskAt w' d (k.did c) (Ext S w w') ∧ Chg S w w' := by
  obtain ⟨ms, md, vc, rc, Sf, hm, hS1, hS2, hS3⟩ := h
  have HM : Hid (DiskM w d k ms md vc rc Sf) := hm
  have HS1 : Hid (∀ x, footD d ms md rc x → S x) := hS1
  have HS2 : Hid (∀ G x, k.live G → Sf G x → S x) := hS2
  have HS3 : Hid (∀ x, S x → x < w.heap.size) := hS3
  obtain ⟨⟨c0, c1, c2, _, _, _, _, _, _⟩, ⟨z0, z1, z2, _, _, _, _, _, _⟩⟩ := dcells hm.cells
  obtain ⟨ac, nc, cc, rfl⟩ := isSliceV hm.chg
  have hd := hm.dlt
  have hms : some d ≠ ms := fun e => (hm.sepS d e.symm).1 rfl
  have hrc : some d ≠ rc := fun e => hm.sepC d e.symm rfl
  have HCN : Hid ((k.chg.map DC.val).length ≤ 4398046511104) := by unfold Hid; rw [List.length_map]; exact hn
  obtain ⟨i, hi0, hi1, hi2, hi3⟩ := info_dc
  have HI : Hid (Tryz.prog.info? 73 = some i ∧ i.zero = some .nilIface ∧ i.size = 1 ∧ i.bytes = 16) := ⟨hi0, hi1, hi2, hi3⟩
  have HCA : Hid (Calls Tryz.prog c.fn #[c.rcv, .map ms] w (OntoPost ms (DC.on k.L c) w)) := ontoOf c ms _ w hm.seen hc hL
  have hme := DC.meth c w
  have hcf := DC.enter c
  have HVE : Hid (c.val = .iface c.ty c.rcv) := DC.val_eq c
  rw [HVE.out]
  clear hm hS1 hS2 hS3 hc hL hn hi0 hi1 hi2 hi3
  generalize hty : c.ty = ty at hme HVE ⊢
  generalize hrcv : c.rcv = rcv at hme HCA HVE ⊢
  generalize hfn : c.fn = fn at hme HCA hcf
  clear hty hrcv hfn
  go_enter Tryz.func34, Tryz.ntmps34
  go_wp2_with fail
  refine HCA.out.mono ?_
  rintro e w1 ⟨b1, rfl, ho1, hg1, hr1⟩
  have HO1 : Hid (MapAt w1 b1 (DC.on k.L c) ∧ w.grownBy w1 ms ∧ (ms = some b1 ∨ w.heap.size ≤ b1)) := ⟨ho1, hg1, hr1⟩
  have hb1 := (hg1.block d hd hms).trans HM.out.cells
  obtain ⟨⟨d0, d1, d2, _, _, _, _, _, _⟩, ⟨y0, y1, y2, _, _, _, _, _, _⟩⟩ := dcells hb1
  have HV1 : Hid (OwnV (w1.setCell ⟨d, 0, none⟩ (.map (some b1))) (.slice ac nc cc) (k.chg.map DC.val) rc) := (HM.out.chg.kept hg1 (by
    cases rc with
    | none => exact .inl rfl
    | some g => exact .inr (fun e => (HM.out.sepS g e.symm).2.2 rfl))).kept (grow_set w1 d 0 _) (by
    cases rc with
    | none => exact .inl rfl
    | some g => exact .inr (fun e => hrc (by rw [e])))
  have HB2 : Hid ((w1.setCell ⟨d, 0, none⟩ (.map (some b1))).heap[d]? = _) := dset hb1 0 (.map (some b1))
  have hd1 : d < w1.heap.size := by have := hg1.size; omega
  clear ho1 hg1 hr1 hb1 c0 c1 c2 z0 z1 z2 hme hcf
  go_wp2_with (at_builtin; refine wpList_append_val _ rfl _ _ 66 73 i .nilIface rfl Tryz.underlying66 HI.out.1 HI.out.2.1 rfl HI.out.2.2.1 (by rw [HI.out.2.2.2]; omega) _ _ (.iface ty rcv) (k.chg.map DC.val) rc rfl rfl ?hOwn ?hSrc ?hLen ?_)
  case hOwn => exact HV1.out.kept (World.grownBy_alloc _ _ none) (by cases rc <;> simp)
  case hSrc => exact src_val' _ _ (by simp) _ rfl 66 73 73 Tryz.underlying66
  case hLen => exact HCN.out
  intro v4 w4 g4 ho4 hg4 hr4
  have hb4 := (hg4.block d (by simp; omega) hrc).trans ((heap_alloc_old _ _ (by simp; omega)).trans HB2.out)
  obtain ⟨⟨e0, e1, e2, _, _, _, _, _, _⟩, ⟨x0, x1, x2, _, _, _, _, _, _⟩⟩ := dcells hb4
  have HF : Hid (DiskAt (w4.setCell ⟨d, 2, none⟩ v4) d (k.did c) (Ext S w (w4.setCell ⟨d, 2, none⟩ v4)) ∧ Chg S w (w4.setCell ⟨d, 2, none⟩ v4)) :=
    doneD HM.out HS1.out HS2.out HS3.out c HO1.out.1 HO1.out.2.1 HO1.out.2.2 _ (by rw [HVE.out]; exact ho4) hg4 (by simpa using hr4)
  obtain ⟨a4, n4, c4, rfl⟩ := isSliceV ho4
  clear ho4 hg4 hr4 hb4 d0 d1 d2 y0 y1 y2
  go_wp2
  go_end0
  exact ⟨rfl, HF.out⟩
theorem settledD {w w1 : World} {d : Nat} {k : Dk} {S : Nat → Prop} {ms md m1 : Option Nat} {vc : Value} {rc : Option Nat} {Sf : Nat → Nat → Prop} (hm : DiskM w d k ms md vc rc Sf) (hS1 : ∀ x, footD d ms md rc x → S x) (hS2 : ∀ G x, k.live G → Sf G x → S x) (hS3 : ∀ x, S x → x < w.heap.size)
    (ho : MapO w1 m1 k.L) (hg : w.drew.grownBy w1 md) (hr : m1 = md ∨ ∃ g, m1 = some g ∧ w.heap.size ≤ g) :
    DiskAt ((w1.setCell ⟨d, 1, none⟩ (.map m1)).setCell ⟨d, 2, none⟩ (.slice none 0 0)) d k.settled (Ext S w ((w1.setCell ⟨d, 1, none⟩ (.map m1)).setCell ⟨d, 2, none⟩ (.slice none 0 0))) ∧ Chg S w ((w1.setCell ⟨d, 1, none⟩ (.map m1)).setCell ⟨d, 2, none⟩ (.slice none 0 0)) := by
  have hd := hm.dlt
  have hsz1 : w.heap.size ≤ w1.heap.size := hg.size
  have hmdd : some d ≠ md := fun e => (hm.sepD d e.symm).1 rfl
  have hb1 := (hg.block d hd hmdd).trans hm.cells
  have hb2 := dset (dset hb1 1 (.map m1)) 2 (.slice none 0 0)
  have g2 := grow_trans (grow_set w1 d 1 (.map m1)) (grow_set (w1.setCell ⟨d, 1, none⟩ (.map m1)) d 2 (.slice none 0 0)) (.inl rfl)
  have hW : ((w1.setCell ⟨d, 1, none⟩ (.map m1)).setCell ⟨d, 2, none⟩ (.slice none 0 0)).heap.size = w1.heap.size := by simp
  generalize (w1.setCell ⟨d, 1, none⟩ (.map m1)).setCell ⟨d, 2, none⟩ (.slice none 0 0) = W at *
  have keep : ∀ x, x < w.heap.size → x ≠ d → md ≠ some x → W.heap[x]? = w.heap[x]? := fun x hx h1 h2 => by
    rw [g2.block x (by omega) (by simpa using h1)]
    exact hg.block x hx (Ne.symm h2)
  have hm1 : ∀ b, m1 = some b → b < w1.heap.size ∧ b ≠ d ∧ ms ≠ some b := fun b e => by
    refine ⟨ho.rlt b e, ?_⟩
    rcases hr with h | ⟨g, h, h2⟩
    · rw [h] at e; exact ⟨(hm.sepD b e).1, fun e2 => (hm.sepS b e2).2.1 e⟩
    · rw [h] at e; simp at e; subst e
      exact ⟨by omega, fun e2 => by have := hm.seen.rlt _ e2; omega⟩
  have hSf : ∀ G, k.live G → ∀ x, Sf G x → x < w.heap.size ∧ x ≠ d ∧ ms ≠ some x ∧ md ≠ some x ∧ rc ≠ some x := fun G hG x hx => ⟨(hm.files G hG).live x hx, hm.sepF G hG x hx⟩
  have hchg : Chg S w W := by
    refine (((Chg.ofBelow (Below.refl _ _).drew).grown hg ?_).grown g2 ?_)
    · intro g e; exact .inl (hS1 _ (.inr (.inr (.inl e))))
    · intro g e; simp at e; subst e; exact .inl (hS1 _ (.inl rfl))
  refine ⟨⟨ms, m1, .slice none 0 0, none, Sf, ⟨hb2, hm.seen.of_block (fun b e => keep b (hm.seen.rlt b e) (hm.sepS b e).1 (hm.sepS b e).2.1), ho.of_block (fun b e => g2.block b (hm1 b e).1 (by simp; exact (hm1 b e).2.1)), OwnV.nil _, fun G hG => (hm.files G hG).frame (by omega) (fun x hx => keep x (hSf G hG x hx).1 (hSf G hG x hx).2.1 (hSf G hG x hx).2.2.2.1), ?_, ?_, by simp, ?_, hm.sepFF⟩, ?_, fun G x hG hx => .inl (hS2 G x hG hx), ?_⟩, hchg⟩
  · intro b e
    exact ⟨(hm.sepS b e).1, fun e2 => (hm1 b e2).2.2 e, by simp⟩
  · intro b e
    exact ⟨(hm1 b e).2.1, by simp⟩
  · intro G hG x hx
    obtain ⟨q0, q1, q2, q3, q4⟩ := hSf G hG x hx
    refine ⟨q1, q2, fun e => ?_, by simp⟩
    rcases hr with h | ⟨g, h, h2⟩
    · exact q3 (h.symm.trans e)
    · rw [h] at e; simp at e; omega
  · intro x hx
    rcases hx with rfl | hx | hx | hx
    · exact .inl (hS1 _ (.inl rfl))
    · exact .inl (hS1 _ (.inr (.inl hx)))
    · rcases hr with h | ⟨g, h, h2⟩
      · exact .inl (hS1 _ (.inr (.inr (.inl (h.symm.trans hx)))))
      · have := (hm1 x hx).1
        rw [h] at hx; simp at hx
        exact .inr ⟨by omega, by omega⟩
    · simp at hx
  · intro x hx
    rcases hx with hx | hx
    · have := hS3 x hx; omega
    · exact hx.2
set_option maxHeartbeats 2000000 in
set_option maxRecDepth 1000000 in
theorem settleDOf (w : World) (d : Nat) (k : Dk) (S : Nat → Prop) (h : DiskAt w d k S) (hk : DOk k.Ld k.chg) (he : k.L = dst k.Ld k.chg) :
    Calls Tryz.prog 36 #[.pointer (some ⟨d, 0, none⟩)] w fun e w' => e = .returned (.tuple #[]) ∧ DiskAt w' d k.settled (Ext S w w') ∧ Chg S w w' := by
  obtain ⟨ms, md, vc, rc, Sf, hm, hS1, hS2, hS3⟩ := h
  have HM : Hid (DiskM w d k ms md vc rc Sf) := hm
  have HS1 : Hid (∀ x, footD d ms md rc x → S x) := hS1
  have HS2 : Hid (∀ G x, k.live G → Sf G x → S x) := hS2
  have HS3 : Hid (∀ x, S x → x < w.heap.size) := hS3
  obtain ⟨⟨c0, c1, c2, _, _, _, _, _, _⟩, ⟨z0, z1, z2, _, _, _, _, _, _⟩⟩ := dcells hm.cells
  obtain ⟨ac, nc, cc, rfl⟩ := isSliceV hm.chg
  have hd := hm.dlt
  have hmd : some d ≠ md := fun e => (hm.sepD d e.symm).1 rfl
  have HCON : Hid (Calls Tryz.prog 76 #[.map md, .slice ac nc cc] w.drew fun e w' => ∃ m', e = .returned (.map m') ∧ MapO w' m' k.L ∧ w.drew.grownBy w' md ∧ (m' = md ∨ ∃ g, m' = some g ∧ w.heap.size ≤ g)) := by
    have := afterDOf md _ k.Ld k.chg rc w.drew (hm.dur.of_block (fun _ _ => rfl)) (hm.chg.of_block (Nat.le_refl _) (fun _ _ => rfl)) (fun g e => (hm.sepD g e).2) hk
    rw [← he] at this
    exact this
  clear hm hS1 hS2 hS3 hk he
  go_enter Tryz.func36, Tryz.ntmps36
  go_wp2
  go_region_with (
    go_at_call 76
    refine HCON.out.mono ?_
    rintro e w1 ⟨m1, rfl, ho1, hg1, hr1⟩
    have hb1 := (hg1.block d hd hmd).trans HM.out.cells
    obtain ⟨⟨d0, d1, d2, _, _, _, _, _, _⟩, ⟨y0, y1, y2, _, _, _, _, _, _⟩⟩ := dcells hb1
    have HO1 : Hid (MapO w1 m1 k.L ∧ w.drew.grownBy w1 md ∧ (m1 = md ∨ ∃ g, m1 = some g ∧ w.heap.size ≤ g)) := ⟨ho1, hg1, hr1⟩
    clear ho1 hg1 hr1 hb1)
  all_goals
    go_wp2
    go_end0
    exact ⟨rfl, settledD HM.out HS1.out HS2.out HS3.out HO1.out.1 HO1.out.2.1 HO1.out.2.2⟩
end Go.Proofs.YthcnhjmkcekdaaaGreat

namespace Go.Proofs.YthcnhjmkcekdaaaGreat
open Go.RowKit Go.Maps Plain
set_option linter.unusedVariables false
set_option linter.unusedSimpArgs false
/-- From w to w' the disk has become k, and nothing of before was touched but what is of S. -/
def St (S : Nat → Prop) (w : World) (d : Nat) (k : Dk) (w' : World) : Prop := DiskAt w' d k (Ext S w w') ∧ Chg S w w'
theorem DiskAt.rng {w : World} {d : Nat} {k : Dk} {S : Nat → Prop} (h : DiskAt w d k S) : ∀ x, S x → x < w.heap.size := by
  obtain ⟨_, _, _, _, _, _, _, _, h4⟩ := h
  exact h4
theorem DiskAt.wide {w : World} {d : Nat} {k : Dk} {S T : Nat → Prop} (h : DiskAt w d k S) (h1 : ∀ x, S x → T x) (h2 : ∀ x, T x → x < w.heap.size) : DiskAt w d k T := by
  obtain ⟨ms, md, vc, rc, Sf, a1, a2, a3, a4⟩ := h
  exact ⟨ms, md, vc, rc, Sf, a1, fun x hx => h1 x (a2 x hx), fun G x hG hx => h1 x (a3 G x hG hx), h2⟩
theorem Ext.lt {S : Nat → Prop} {w w' : World} (h : ∀ x, S x → x < w.heap.size) (hs : w.heap.size ≤ w'.heap.size) : ∀ x, Ext S w w' x → x < w'.heap.size := fun x hx => by
  rcases hx with hx | hx
  · have := h x hx; omega
  · exact hx.2
theorem St.start {w : World} {d : Nat} {k : Dk} {S : Nat → Prop} (h : DiskAt w d k S) : St S w d k w := ⟨h.wide (fun _ hx => .inl hx) (Ext.lt h.rng (Nat.le_refl _)), Chg.refl _ _⟩
theorem St.next {w w1 w2 : World} {d : Nat} {k1 k2 : Dk} {S : Nat → Prop} (h : St S w d k1 w1) (h2 : St (Ext S w w1) w1 d k2 w2) : St S w d k2 w2 := by
  have hc : Chg S w w2 := ⟨h2.2.os.trans h.2.os, h2.2.tape.trans h.2.tape, h2.2.output.trans h.2.output, Nat.le_trans h.2.size h2.2.size, fun i hi hs => by
    rw [h2.2.block i (Nat.lt_of_lt_of_le hi h.2.size) (fun e => by
      rcases e with e | e
      · exact hs e
      · omega)]
    exact h.2.block i hi hs⟩
  refine ⟨h2.1.wide (fun x hx => ?_) (fun x hx => ?_), hc⟩
  · have := h.2.size
    have := h2.2.size
    rcases hx with (hx | hx) | hx
    · exact .inl hx
    · exact .inr ⟨hx.1, by omega⟩
    · exact .inr ⟨by omega, hx.2⟩
  · have q1 := h.2.size
    have q2 := h2.2.size
    rcases hx with hx | hx
    · have := h.1.rng x (.inl hx); omega
    · exact hx.2
theorem St.below {w w1 w2 : World} {d : Nat} {k : Dk} {S : Nat → Prop} (h : St S w d k w1) (hb : Below w1.heap.size w1 w2) : St S w d k w2 :=
  h.next ⟨(h.1.later hb).wide (fun _ hx => .inl hx) (Ext.lt h.1.rng hb.size), Chg.ofBelow hb⟩
theorem St.at {w w1 : World} {d : Nat} {k : Dk} {S : Nat → Prop} (h : St S w d k w1) : ∃ ms md vc rc Sf, DiskM w1 d k ms md vc rc Sf := by
  obtain ⟨ms, md, vc, rc, Sf, a1, _⟩ := h.1
  exact ⟨ms, md, vc, rc, Sf, a1⟩
theorem spendSt (d : Nat) (k : Dk) (T : Nat → Prop) (w : World) (h : DiskAt w d k T) (h1 : 0 ≤ k.ops) (h2 : k.ops ≤ 4611686018427387904) (h3 : k.fused = true → 0 ≤ k.left ∧ k.left ≤ 9223372036854775807) :
    Calls Tryz.prog 78 #[.pointer (some ⟨d, 0, none⟩)] w fun e w' => e = .returned (.bool k.can) ∧ St T w d k.spent w' := by
  obtain ⟨ms, md, vc, rc, Sf, hm, hS1, hS2, hS3⟩ := h
  refine (spendOf d _ _ _ _ _ k.ops k.left k.fused k.dead w hm.cells h1 h2 h3).mono ?_
  rintro e w2 ⟨rfl, hb2, hg2⟩
  refine ⟨rfl, ⟨ms, md, vc, rc, Sf, hm.spent hb2 hg2, fun x hx => .inl (hS1 x hx), fun G x hG hx => .inl (hS2 G x hG hx), Ext.lt hS3 hg2.size⟩, (Chg.refl _ _).grown hg2 (fun g e => by simp at e; subst e; exact .inl (hS1 _ (.inl rfl)))⟩
/-- What is true of a disk's directory behind n operations. -/
structure Dk.Dok (k : Dk) (n : Nat) : Prop where
  ok : k.Ok n
  dir : DOk k.Ld k.chg
  eq : k.L = dst k.Ld k.chg
  cnt : k.chg.length ≤ n
  few : k.L.length ≤ 65536
def syncDirK (k : Dk) : Int × Dk := if k.dead then (34, k) else if k.can then (0, k.spent.settled) else (34, k.spent)
set_option maxHeartbeats 2000000 in
set_option maxRecDepth 100000 in
theorem syncDirOf (d : Nat) (k : Dk) (n : Nat) (S : Nat → Prop) (w : World) (h : DiskAt w d k S) (hk : k.Dok n) (hn : n ≤ 4398046511103) : Calls Tryz.prog 46 #[.pointer (some ⟨d, 0, none⟩)] w (OpPost d (syncDirK k) S w) := by
  have HS : Hid (St S w d k w) := St.start h
  obtain ⟨ms, md, vc, rc, Sf, hm⟩ := HS.out.at
  have HR : Hid (Calls Tryz.prog 77 #[.pointer (some ⟨d, 0, none⟩), .slice none 0 0] w fun e w' => e = .returned (.int .i64 (rdy k.dead [])) ∧ w' = w) := readyOf d k.dead [] _ w hm.at0.2 (StrsAt.none w)
  have HSP : Hid (Calls Tryz.prog 78 #[.pointer (some ⟨d, 0, none⟩)] w fun e w' => e = .returned (.bool k.can) ∧ St S w d k.spent w') := spendSt d k S w h hk.ok.ops.1 (by have := hk.ok.ops.2; omega) hk.ok.fuse
  have HK : Hid (k.Dok n) := hk
  clear hm h hk
  cases hdd : k.dead with
  | true =>
    have HE : Hid (syncDirK k = (34, k)) := by unfold Hid syncDirK; rw [hdd]; rfl
    rw [HE.out]
    rw [hdd, show rdy true [] = 34 from rfl] at HR
    clear hdd
    go_enter Tryz.func46, Tryz.ntmps46
    go_wp2_with fail
    refine HR.out.mono ?_
    rintro e w1 ⟨rfl, rfl⟩
    go_wp2
    go_ret
    exact ⟨rfl, HS.out⟩
  | false =>
    rw [hdd, show rdy false [] = 0 from rfl] at HR
    cases hc : k.can with
    | false =>
      have HE : Hid (syncDirK k = (34, k.spent)) := by unfold Hid syncDirK; rw [hdd, hc]; rfl
      rw [HE.out]
      rw [hc] at HSP
      clear hdd hc
      go_enter Tryz.func46, Tryz.ntmps46
      go_wp2_with fail
      refine HR.out.mono ?_
      rintro e w1 ⟨rfl, rfl⟩
      go_wp2_with fail
      refine HSP.out.mono ?_
      rintro e w2 ⟨rfl, hs2⟩
      have HS2 : Hid (St S w1 d k.spent w2) := hs2
      clear hs2
      go_wp2
      go_ret
      exact ⟨rfl, HS2.out⟩
    | true =>
      have HE : Hid (syncDirK k = (0, k.spent.settled)) := by unfold Hid syncDirK; rw [hdd, hc]; rfl
      rw [HE.out]
      rw [hc] at HSP
      clear hdd hc
      go_enter Tryz.func46, Tryz.ntmps46
      go_wp2_with fail
      refine HR.out.mono ?_
      rintro e w1 ⟨rfl, rfl⟩
      go_wp2_with fail
      refine HSP.out.mono ?_
      rintro e w2 ⟨rfl, hs2⟩
      have HS2 : Hid (St S w1 d k.spent w2) := hs2
      clear hs2
      go_wp2_with fail
      refine (settleDOf w2 d k.spent _ HS2.out.1 HK.out.dir HK.out.eq).mono ?_
      rintro e w3 ⟨rfl, hs3⟩
      have HS3 : Hid (St S w1 d k.spent.settled w3) := HS2.out.next hs3
      clear hs3
      go_wp2
      go_ret
      exact ⟨rfl, HS3.out⟩
def Dk.addFile (k : Dk) (G : Nat) : Dk := { k with file := upd k.file G ⟨[], [], []⟩, live := fun x => k.live x ∨ x = G }
def emptyF : Obj := .cells #[.slice none 0 0, .slice none 0 0, .slice none 0 0] 124
theorem addFileM {w : World} {d : Nat} {k : Dk} {ms md : Option Nat} {vc : Value} {rc : Option Nat} {Sf : Nat → Nat → Prop} (h : DiskM w d k ms md vc rc Sf) (hl : ∀ G, k.live G → G < w.heap.size) : DiskM (w.alloc emptyF) d (k.addFile w.heap.size) ms md vc rc (upd Sf w.heap.size (fun x => x = w.heap.size)) := by
  have hb : Below w.heap.size w (w.alloc emptyF) := (Below.refl _ _).alloc (Nat.le_refl _) _
  have h' := h.later hb
  have hne : ∀ G, k.live G → G ≠ w.heap.size := fun G hG => Nat.ne_of_lt (hl G hG)
  have hd := h.dlt
  have hnew : FileAt (w.alloc emptyF) w.heap.size ⟨[], [], []⟩ (fun x => x = w.heap.size) := by
    refine ⟨.slice none 0 0, .slice none 0 0, .slice none 0 0, none, none, none, [], fun _ => none, ⟨?_, Own.nil _, Own.nil _, ⟨OwnV.nil _, rfl, by simp, by simp⟩, by simp, by simp, by simp, by simp⟩, fun k hk => ?_, fun k hk => ?_⟩
    · show (w.heap.push emptyF)[w.heap.size]? = _
      simp [emptyF]
    · rcases hk with rfl | hk | hk | hk | ⟨j, hk⟩
      · rfl
      all_goals simp at hk
    · subst hk; simp
  refine ⟨h'.cells, h'.seen, h'.dur, h'.chg, fun G hG => ?_, h'.sepS, h'.sepD, h'.sepC, fun G hG x hx => ?_, fun G1 G2 h1 h2 hne12 x hx hx2 => ?_⟩
  · by_cases e : G = w.heap.size
    · subst e
      show FileAt _ _ (upd k.file _ _ _) (upd Sf _ _ _)
      rw [upd_same, upd_same]
      exact hnew
    · show FileAt _ _ (upd k.file _ _ _) (upd Sf _ _ _)
      rw [upd_other _ _ _ _ e, upd_other _ _ _ _ e]
      exact h'.files G (hG.resolve_right e)
  · by_cases e : G = w.heap.size
    · subst e
      rw [upd_same] at hx
      subst hx
      exact ⟨by omega, fun e => by have := h.seen.rlt _ e; omega, fun e => by have := h.dur.rlt _ e; omega, fun e => by have := h.chg.rlt _ e; omega⟩
    · rw [upd_other _ _ _ _ e] at hx
      exact h'.sepF G (hG.resolve_right e) x hx
  · by_cases e1 : G1 = w.heap.size
    · subst e1
      rw [upd_same] at hx
      subst hx
      rw [upd_other _ _ _ _ (Ne.symm hne12)] at hx2
      have := (h.files G2 (h2.resolve_right (Ne.symm hne12))).live _ hx2
      omega
    · rw [upd_other _ _ _ _ e1] at hx
      by_cases e2 : G2 = w.heap.size
      · subst e2
        rw [upd_same] at hx2
        subst hx2
        have := (h.files G1 (h1.resolve_right e1)).live _ hx
        omega
      · rw [upd_other _ _ _ _ e2] at hx2
        exact h.sepFF G1 G2 (h1.resolve_right e1) (h2.resolve_right e2) hne12 x hx hx2
theorem FileAt.self {w : World} {G : Nat} {f : Fl} {S : Nat → Prop} (h : FileAt w G f S) : G < w.heap.size := by
  obtain ⟨_, _, _, _, _, _, _, _, h1, h2, h3⟩ := h
  exact h3 G (h2 G (.inl rfl))
theorem addFileSt {w w1 : World} {d : Nat} {k : Dk} {S : Nat → Prop} (h : St S w d k w1) : St S w d (k.addFile w1.heap.size) (w1.alloc emptyF) := by
  obtain ⟨⟨ms, md, vc, rc, Sf, hm, hS1, hS2, hS3⟩, hc⟩ := h
  have hb : Below w1.heap.size w1 (w1.alloc emptyF) := (Below.refl _ _).alloc (Nat.le_refl _) _
  have hsz : (w1.alloc emptyF).heap.size = w1.heap.size + 1 := by simp
  have hcs := hc.size
  refine ⟨⟨ms, md, vc, rc, _, addFileM hm (fun G hG => (hm.files G hG).self), fun x hx => ?_, fun G x hG hx => ?_, fun x hx => ?_⟩, hc.more hb⟩
  · rcases hS1 x hx with h | h
    · exact .inl h
    · exact .inr ⟨h.1, by omega⟩
  · by_cases e : G = w1.heap.size
    · subst e
      rw [upd_same] at hx
      subst hx
      exact .inr ⟨by omega, by omega⟩
    · rw [upd_other _ _ _ _ e] at hx
      rcases hS2 G x (hG.resolve_right e) hx with h | h
      · exact .inl h
      · exact .inr ⟨h.1, by omega⟩
  · rcases hx with hx | hx
    · have := hS3 x (.inl hx); omega
    · exact hx.2
end Go.Proofs.YthcnhjmkcekdaaaGreat
