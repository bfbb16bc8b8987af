import Derived.Test.YtgffncbmchimdaaSf9
import Derived.Lib.SliceRun
/-! Clones of bytes; a file is cut. -/
namespace Go.Proofs.Ytgffncbmchimdaa
open Go.RowKit Go.Maps Plain
set_option linter.unusedVariables false
set_option linter.unusedSimpArgs false

theorem bytes_none {w : World} {n cap : Nat} {l : List Nat} (h : BytesAt w (.slice none n cap) l) : l = [] := by
  obtain ⟨a', cap', e, _, _, _, h5⟩ := h
  simp only [Value.slice.injEq] at e
  apply Classical.byContradiction
  intro hne
  obtain ⟨b, off, e2, _⟩ := h5 hne
  rw [e2] at e; simp at e

theorem cloneOf (v : Value) (l : List Nat) (w : World) (h : BytesAt w v l) (hl : l.length ≤ 140737488355328) :
    Calls Try.prog 37 #[v] w fun e w' => ∃ v' r', e = .returned v' ∧ Own w' v' l r' ∧ Below w.heap.size w w' ∧ (∀ g, r' = some g → w.heap.size ≤ g) := by
  have HB : Hid (BytesAt w v l) := h
  obtain ⟨a, cap, rfl, _⟩ := h
  cases a with
  | none =>
    have hl0 : l = [] := bytes_none HB.out
    subst hl0
    have hq := fun wx => Lib.run_eql_slice_nil (P := Try.prog) wx 27 5 none 0 cap 0 0 Try.underlying27
    clear HB
    go_enter Try.func37, Try.ntmps37
    go_wp2
    go_ret
    exact ⟨_, none, rfl, Own.nil w, Below.refl _ _, by simp⟩
  | some x =>
    have hq := fun wx => Lib.run_eql_slice_nil (P := Try.prog) wx 27 5 (some x) l.length cap 0 0 Try.underlying27
    go_enter Try.func37, Try.ntmps37
    go_wp2_with (at_builtin; refine wpList_append_row _ rfl _ _ 27 27 rfl Try.underlying27 _ _ [] l (some w.heap.size) rfl rfl ?hOwn ?hByte ?hSrc ?hLen ?_)
    case hOwn => exact Own.empty w 5
    case hByte => exact HB.out.byte
    case hSrc => exact src_of Try.underlying27 (HB.out.later ((Below.refl _ _).alloc (Nat.le_refl _) _))
    case hLen => simpa using hl
    intro v3 w3 r3 ho3 hg3 hr3 hn3
    have HB3 : Hid (Below w.heap.size w w3) := grow_below (grow_trans (World.grownBy_alloc w _ none) hg3 (.inr (.inr ⟨_, rfl, Nat.le_refl _⟩))) (Nat.le_refl _) (by simp)
    have HO3 : Hid (Own w3 v3 l r3) := ho3
    have HR3 : Hid (∀ g, r3 = some g → w.heap.size ≤ g) := by
      intro g hg
      rcases hr3 with rfl | rfl
      · simp at hg; omega
      · simp at hg; omega
    clear ho3 hg3 hr3 hn3 hq
    go_wp2
    go_ret
    exact ⟨v3, r3, rfl, HO3.out, HB3.out, HR3.out⟩

theorem FileAt.wide {w : World} {G : Nat} {f : Fl} {S T : Nat → Prop} (h : FileAt w G f S) (h1 : ∀ k, S k → T k) (h2 : ∀ k, T k → k < w.heap.size) : FileAt w G f T := by
  obtain ⟨vs, vd, vc, rs, rd, rc, vals, blk, a1, a2, a3⟩ := h
  exact ⟨vs, vd, vc, rs, rd, rc, vals, blk, a1, fun k hk => h1 k (a2 k hk), h2⟩

set_option maxRecDepth 1000000 in
theorem truOntoOf (n : Nat) (sa : Option Addr) (ns cs : Nat) (w : World) (hn : n ≤ ns) (h1 : ns ≤ cs) (h2 : cs ≤ 2 ^ 63 - 1) : Calls Try.prog 104 #[.agg #[.int .i64 ((n : Nat) : Int)], .slice sa ns cs] w fun e w' => e = .returned (.slice sa n cs) ∧ Below w.heap.size w w' := by
  go_enter Try.func104, Try.ntmps104
  go_wp2
  go_ret
  exact ⟨rfl, (Below.refl _ _).alloc (Nat.le_refl _) _⟩

set_option maxHeartbeats 2000000 in
set_option maxRecDepth 1000000 in
theorem doCut (w : World) (G : Nat) (f : Fl) (S : Nat → Prop) (n : Nat) (h : FileAt w G f S) (hf : f.Ok) (hn : n ≤ f.seen.length) :
    Calls Try.prog 50 #[.pointer (some ⟨G, 0, none⟩), .iface 107 (.agg #[.int .i64 ((n : Nat) : Int)])] w fun e w' => e = .returned (.tuple #[]) ∧ FileAt w' G ⟨f.seen.take n, f.dur, f.chg ++ [FC.cut n]⟩ (Ext S w w') ∧ Chg S w w' := by
  obtain ⟨vs, vd, vc, rs, rd, rc, vals, blk, hm, hS, hlt⟩ := h
  have HM : Hid (FileM w G f vs vd vc rs rd rc vals blk) := hm
  have HS : Hid (∀ k, footF G rs rd rc blk k → S k) := hS
  have HLT : Hid (∀ k, S k → k < w.heap.size) := hlt
  obtain ⟨c0, c1, c2, z0, z1, z2⟩ := fcells hm.blkG
  obtain ⟨sa, ns, cs, rfl⟩ := isSliceO hm.seen
  obtain ⟨ac, nc, cc, rfl⟩ := isSliceV hm.chg.row
  obtain ⟨q1, q2⟩ := own_cap hm.seen
  have q3 := own_len hm.seen
  have hGlt : G < w.heap.size := hlt G (hS G (.inl rfl))
  have hGs : some G ≠ rs := fun e => (hm.sepS G e.symm).1 rfl
  have hGc : some G ≠ rc := fun e => (hm.sepC G e.symm).1 rfl
  have HCN : Hid (vals.length ≤ 4398046511104) := by have := hf.cnt; have := hm.chg.len; unfold Hid; omega
  obtain ⟨i, hi0, hi1, hi2, hi3⟩ := info_fc
  have HI : Hid (Try.prog.info? 80 = some i ∧ i.zero = some .nilIface ∧ i.size = 1 ∧ i.bytes = 16) := ⟨hi0, hi1, hi2, hi3⟩
  have hme := methTru (.agg #[.int .i64 ((n : Nat) : Int)]) w
  have hnn : n ≤ ns := by omega
  have HN : Hid (n ≤ f.seen.length) := hn
  clear hm hS hlt hf hi0 hi1 hi2 hi3 hn q3
  go_enter Try.func50, Try.ntmps50
  go_wp2_with fail
  refine (truOntoOf n sa ns cs w hnn q1 q2).mono ?_
  rintro e w1 ⟨rfl, hb⟩
  have hg1 : w.grownBy w1 rs := below_grow hb rs
  have hb1 : w1.heap[G]? = some (.cells #[.slice sa ns cs, vd, .slice ac nc cc] 78) := (hb.block G hGlt).trans HM.out.blkG
  obtain ⟨d0, d1, d2, y0, y1, y2⟩ := fcells hb1
  have HO1 : Hid (Own w1 (.slice sa n cs) (f.seen.take n) rs) := (HM.out.seen.take n HN.out).later hb
  have HG1 : Hid (w.grownBy w1 rs) := hg1
  have HV1 : Hid (OwnV (w1.setCell ⟨G, 0, none⟩ (.slice sa n cs)) (.slice ac nc cc) vals rc) := (HM.out.chg.row.kept (below_grow hb none) (by
    cases rc <;> simp)).kept (grow_set w1 G 0 _) (by
    cases rc with
    | none => exact .inl rfl
    | some g => exact .inr (fun e => hGc (by rw [e])))
  have hG1 : G < w1.heap.size := by have := hb.size; omega
  clear hb hg1 hb1 c0 c1 c2 z0 z1 z2 hme
  go_wp2_with (at_builtin; refine wpList_append_val _ rfl _ _ 74 80 i .nilIface rfl Try.underlying74 HI.out.1 HI.out.2.1 rfl HI.out.2.2.1 (by rw [HI.out.2.2.2]; omega) _ _ (.iface 107 (.agg #[.int .i64 ((n : Nat) : Int)])) vals rc rfl rfl ?hOwn ?hSrc ?hLen ?_)
  case hOwn => exact HV1.out.kept (World.grownBy_alloc _ _ none) (by cases rc <;> simp)
  case hSrc => exact src_val' _ _ (by simp) _ rfl 74 80 80 Try.underlying74
  case hLen => exact HCN.out
  intro v4 w4 g4 ho4 hg4 hr4
  have hb4 : w4.heap[G]? = some (.cells #[.slice sa n cs, vd, .slice ac nc cc] 78) := (hg4.block G (by simp; omega) hGc).trans ((heap_alloc_old _ _ (by simp; omega)).trans (fset ((HG1.out.block G hGlt hGs).trans HM.out.blkG) _).1)
  obtain ⟨e0, e1, e2, x0, x1, x2⟩ := fcells hb4
  have HF : Hid (FileAt (w4.setCell ⟨G, 2, none⟩ v4) G ⟨f.seen.take n, f.dur, f.chg ++ [FC.cut n]⟩ (fun k => Ext S w (w4.setCell ⟨G, 2, none⟩ v4) k ∨ (none : Option Nat) = some k) ∧ Chg S w (w4.setCell ⟨G, 2, none⟩ v4)) :=
    doneF HM.out HS.out HLT.out HO1.out HG1.out (.inl rfl) (FC.cut n) _ none (ChOne.cut.mpr rfl) (by simp) _ ho4 hg4 (by simpa using hr4)
  obtain ⟨a4, n4, c4, rfl⟩ := isSliceV ho4
  clear ho4 hg4 hr4 hb4 d0 d1 d2 y0 y1 y2
  go_wp2
  go_end0
  refine ⟨rfl, HF.out.1.wide (fun k hk => ?_) (fun k hk => HF.out.1.live k (.inl hk)), HF.out.2⟩
  rcases hk with hk | hk
  · exact hk
  · simp at hk
end Go.Proofs.Ytgffncbmchimdaa
