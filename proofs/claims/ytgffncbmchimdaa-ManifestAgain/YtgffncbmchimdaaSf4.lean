import Derived.Test.YtgffncbmchimdaaSf3
import Derived.Deep.RegionWith
import Derived.BigRegion
/-! A file is synced. -/
namespace Go.Proofs.Ytgffncbmchimdaa
open Go.RowKit Go.Maps Plain
set_option linter.unusedVariables false
set_option linter.unusedSimpArgs false

theorem isSliceV {w : World} {v : Value} {vs : List Value} {r : Option Nat} (h : OwnV w v vs r) : ∃ a n c, v = .slice a n c := by
  obtain ⟨a, c, e, _⟩ := h.shape
  exact ⟨a, _, c, e⟩
theorem isSliceO {w : World} {v : Value} {l : List Nat} {r : Option Nat} (h : Own w v l r) : ∃ a n c, v = .slice a n c := by
  rcases h.2 with ⟨e, _⟩ | ⟨_, _, _, e, _⟩
  · exact ⟨_, _, _, e⟩
  · exact ⟨_, _, _, e⟩
theorem Own.rlt {w : World} {v : Value} {l : List Nat} {r : Option Nat} (h : Own w v l r) : ∀ g, r = some g → g < w.heap.size := fun g e => by subst e; exact h.lt
theorem OwnV.rlt {w : World} {v : Value} {l : List Value} {r : Option Nat} (h : OwnV w v l r) : ∀ g, r = some g → g < w.heap.size := fun g e => by subst e; exact h.lt
/-- The three cells of a file. -/
theorem fcells {w : World} {G : Nat} {x y z : Value} (h : w.heap[G]? = some (.cells #[x, y, z] 78)) : w.cell? ⟨G, 0, none⟩ = some x ∧ w.cell? ⟨G, 1, none⟩ = some y ∧ w.cell? ⟨G, 2, none⟩ = some z ∧ w.frozen? ⟨G, 0, none⟩ = false ∧ w.frozen? ⟨G, 1, none⟩ = false ∧ w.frozen? ⟨G, 2, none⟩ = false := by
  simp [World.cell?, World.frozen?, h]
theorem fset {w : World} {G : Nat} {x y z : Value} (h : w.heap[G]? = some (.cells #[x, y, z] 78)) (u : Value) : (w.setCell ⟨G, 0, none⟩ u).heap[G]? = some (.cells #[u, y, z] 78) ∧ (w.setCell ⟨G, 1, none⟩ u).heap[G]? = some (.cells #[x, u, z] 78) ∧ (w.setCell ⟨G, 2, none⟩ u).heap[G]? = some (.cells #[x, y, u] 78) :=
  ⟨heap_setCell_same w G 0 _ _ u h, heap_setCell_same w G 1 _ _ u h, heap_setCell_same w G 2 _ _ u h⟩
theorem grow_set (w : World) (G i : Nat) (u : Value) : w.grownBy (w.setCell ⟨G, i, none⟩ u) (some G) := grow_setCells w G i [u]

theorem settled {w w1 : World} {G : Nat} {f : Fl} {S : Nat → Prop} {vs vd vc v1 : Value} {rs rd rc r1 : Option Nat} {vals : List Value} {blk : Nat → Option Nat} (hm : FileM w G f vs vd vc rs rd rc vals blk) (hS : ∀ k, footF G rs rd rc blk k → S k) (hlt : ∀ k, S k → k < w.heap.size)
    (ho : Own w1 v1 f.seen r1) (hg : w.drew.grownBy w1 rd) (hr : r1 = rd ∨ ∃ g, r1 = some g ∧ w.heap.size ≤ g) :
    FileAt ((w1.setCell ⟨G, 1, none⟩ v1).setCell ⟨G, 2, none⟩ (.slice none 0 0)) G ⟨f.seen, f.seen, []⟩ (Ext S w ((w1.setCell ⟨G, 1, none⟩ v1).setCell ⟨G, 2, none⟩ (.slice none 0 0))) ∧ Chg S w ((w1.setCell ⟨G, 1, none⟩ v1).setCell ⟨G, 2, none⟩ (.slice none 0 0)) := by
  have hGlt : G < w.heap.size := hlt G (hS G (.inl rfl))
  have hGd : rd ≠ some G := fun e => (hm.sepD G e).1 rfl
  have hb1 : w1.heap[G]? = some (.cells #[vs, vd, vc] 78) := (hg.block G hGlt (Ne.symm hGd)).trans hm.blkG
  have hb2 := (fset (fset hb1 v1).2.1 (.slice none 0 0)).2.2
  have hsz1 : w.heap.size ≤ w1.heap.size := hg.size
  have g2 := grow_trans (grow_set w1 G 1 v1) (grow_set (w1.setCell ⟨G, 1, none⟩ v1) G 2 (.slice none 0 0)) (.inl rfl)
  have hW : ((w1.setCell ⟨G, 1, none⟩ v1).setCell ⟨G, 2, none⟩ (.slice none 0 0)).heap.size = w1.heap.size := by simp
  generalize (w1.setCell ⟨G, 1, none⟩ v1).setCell ⟨G, 2, none⟩ (.slice none 0 0) = W at *
  have hr1G : r1 ≠ some G := fun e => by
    rcases hr with h | ⟨g, h, h2⟩
    · exact hGd (h.symm.trans e)
    · rw [h] at e; simp at e; omega
  have hrsG : rs ≠ some G := fun e => (hm.sepS G e).1 rfl
  have hs1 : Own w1 vs f.seen rs := (hm.seen.later (Below.refl _ _).drew).kept hg (by
    cases rs with
    | none => exact .inl rfl
    | some g => exact .inr (fun e => (hm.sepS g rfl).2.1 e.symm))
  refine ⟨⟨vs, v1, .slice none 0 0, rs, r1, none, [], fun _ => none, ⟨hb2, hs1.kept g2 (by
      cases rs with
      | none => exact .inl rfl
      | some g => exact .inr hrsG), ho.kept g2 (by
      cases r1 with
      | none => exact .inl rfl
      | some g => exact .inr hr1G), ⟨OwnV.nil _, rfl, by simp, by simp⟩, fun g e => ⟨(hm.sepS g e).1, fun e2 => ?_, by simp, by simp⟩, fun g e => ⟨fun e2 => hr1G (e2 ▸ e), by simp, by simp⟩, by simp, by simp⟩, fun k hk => ?_, fun k hk => ?_⟩, ?_⟩
  · rcases hr with h | ⟨g', h, h2⟩
    · exact (hm.sepS g e).2.1 (h.symm.trans e2)
    · rw [h] at e2; simp at e2; subst e2; have := hm.seen.rlt _ e; omega
  · rcases hk with rfl | hk | hk | hk | ⟨j, hk⟩
    · exact .inl (hS _ (.inl rfl))
    · exact .inl (hS _ (.inr (.inl hk)))
    · rcases hr with h | ⟨g', h, h2⟩
      · exact .inl (hS _ (.inr (.inr (.inl (h.symm.trans hk)))))
      · rw [h] at hk; simp at hk; subst hk
        exact .inr ⟨h2, by rw [hW]; exact ho.rlt _ h⟩
    · simp at hk
    · simp at hk
  · rcases hk with hk | hk
    · have := hlt k hk; omega
    · exact hk.2
  · refine (((Chg.ofBelow (Below.refl _ _).drew).grown hg ?_).grown g2 ?_)
    · intro g e; exact .inl (hS _ (.inr (.inr (.inl e))))
    · intro g e; simp at e; subst e; exact .inl (hS _ (.inl rfl))

set_option maxHeartbeats 2000000 in
set_option maxRecDepth 1000000 in
theorem settleFile (w : World) (G : Nat) (f : Fl) (S : Nat → Prop) (h : FileAt w G f S) (hf : f.Ok) :
    Calls Try.prog 33 #[.pointer (some ⟨G, 0, none⟩)] w fun e w' => e = .returned (.tuple #[]) ∧ FileAt w' G ⟨f.seen, f.seen, []⟩ (Ext S w w') ∧ Chg S w w' := by
  obtain ⟨vs, vd, vc, rs, rd, rc, vals, blk, hm, hS, hlt⟩ := h
  have HM : Hid (FileM w G f vs vd vc rs rd rc vals blk) := hm
  have HS : Hid (∀ k, footF G rs rd rc blk k → S k) := hS
  have HLT : Hid (∀ k, S k → k < w.heap.size) := hlt
  have HF : Hid f.Ok := hf
  obtain ⟨c0, c1, c2, z0, z1, z2⟩ := fcells hm.blkG
  obtain ⟨ad, nd, cd, rfl⟩ := isSliceO hm.dur
  obtain ⟨ac, nc, cc, rfl⟩ := isSliceV hm.chg.row
  have HCON : Hid (Calls Try.prog 55 #[.slice ad nd cd, .slice ac nc cc] w.drew fun e w' => ∃ v' r', e = .returned v' ∧ Own w' v' f.seen r' ∧ w.drew.grownBy w' rd ∧ (r' = rd ∨ ∃ g, r' = some g ∧ w.heap.size ≤ g)) := by
    have := afterFile _ _ f.dur rd rc f.chg vals blk w.drew (hm.dur.later (Below.refl _ _).drew) (hm.chg.of_block (Nat.le_refl _) (fun _ _ => rfl) (fun _ _ _ => rfl)) (fun g e => (hm.sepD g e).2) hf.cut hf.len (by have := hf.cnt; omega)
    rw [← hf.eq] at this
    exact this
  have hGlt : G < w.heap.size := hlt G (hS G (.inl rfl))
  have hGd : rd ≠ some G := fun e => (hm.sepD G e).1 rfl
  clear hm hS hlt hf
  go_enter Try.func33, Try.ntmps33
  go_wp2
  go_region_with (
    go_at_call 55
    refine HCON.out.mono ?_
    rintro e w1 ⟨v1, r1, rfl, ho1, hg1, hr1⟩
    have hb1 : w1.heap[G]? = some (.cells #[vs, .slice ad nd cd, .slice ac nc cc] 78) := (hg1.block G hGlt (Ne.symm hGd)).trans HM.out.blkG
    obtain ⟨d0, d1, d2, y0, y1, y2⟩ := fcells hb1
    obtain ⟨a1, n1, c1', rfl⟩ := isSliceO ho1
    have HO1 : Hid (Own w1 (.slice a1 n1 c1') f.seen r1) := ho1
    have HG1 : Hid (w.drew.grownBy w1 rd) := hg1
    have HR1 : Hid (r1 = rd ∨ ∃ g, r1 = some g ∧ w.heap.size ≤ g) := hr1
    have HB1 : Hid (w1.heap[G]? = some (.cells #[vs, .slice ad nd cd, .slice ac nc cc] 78)) := hb1
    clear ho1 hg1 hr1 hb1)
  all_goals
    go_wp2
    go_end0
    exact ⟨rfl, settled HM.out HS.out HLT.out HO1.out HG1.out HR1.out⟩
end Go.Proofs.Ytgffncbmchimdaa
