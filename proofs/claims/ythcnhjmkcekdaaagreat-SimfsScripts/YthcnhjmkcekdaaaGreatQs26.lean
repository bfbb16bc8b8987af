import Derived.Test.YthcnhjmkcekdaaaGreatQs25
import Derived.Deep.RegionHeld3
namespace Go.Proofs.YthcnhjmkcekdaaaGreat
open Go.RowKit Go.Maps Plain
set_option linter.unusedVariables false
set_option linter.unusedSimpArgs false
/-- New bytes. -/
structure ByNew (W w : World) (v : Value) (l : List Nat) (r : Option Nat) : Prop where
  row : Own w v l r
  new : ∀ g, r = some g → W.heap.size ≤ g
  below : Below W.heap.size W w
theorem ByNew.later {W w w' : World} {v : Value} {l : List Nat} {r : Option Nat} (h : ByNew W w v l r) (hb : Below w.heap.size w w') : ByNew W w' v l r := ⟨h.row.later hb, h.new, h.below.trans (hb.mono h.below.size)⟩
theorem ByNew.back {W0 W w : World} {v : Value} {l : List Nat} {r : Option Nat} (h : ByNew W w v l r) (hb : Below W0.heap.size W0 W) : ByNew W0 w v l r := ⟨h.row, fun g e => Nat.le_trans hb.size (h.new g e), hb.trans (h.below.mono hb.size)⟩
theorem Own.none0 (w : World) (t : TypeId) : Own (w.alloc (.cells #[] t)) (.slice (some ⟨w.heap.size, 0, none⟩) 0 0) [] (some w.heap.size) :=
  ⟨by simp, .inr ⟨w.heap.size, 0, rfl, rfl, by simp, by simp, by simp, fun j hj => by omega, fun j hj => by omega, fun j hj => by simp at hj⟩⟩
set_option maxHeartbeats 4000000 in
set_option maxRecDepth 100000 in
theorem copiedR {w : World} {a : Option Addr} {n c : Nat} {l : List Nat} (h : BytesAt w (.slice a n c) l) (hl : l.length ≤ 140737488355328) :
    Calls Tryz.prog 38 #[.slice a n c] w fun e w' => ∃ a N c r, e = .returned (.slice a N c) ∧ ByNew w w' (.slice a N c) l r := by
  have HB := Hid.mkR h
  clear h
  go_enter Tryz.func38, Tryz.ntmps38
  go_wp2_with (at_builtin; refine wpList_append_row _ rfl _ _ 34 34 rfl Tryz.underlying34 _ _ [] l (some w.heap.size) rfl rfl ?hOwn ?hByte ?hSrc ?hLen ?_)
  case hOwn => exact Own.none0 w 5
  case hByte => exact HB.out.byte
  case hSrc => exact src_of Tryz.underlying34 (HB.out.later ((Below.refl _ _).alloc (Nat.le_refl _) _))
  case hLen => simpa using hl
  intro v3 w3 r3 ho3 hg3 hr3 hn3
  have HB3 : Hid (Below w.heap.size w w3) := grow_below (grow_trans (World.grownBy_alloc w _ none) hg3 (.inr (.inr ⟨_, rfl, Nat.le_refl _⟩))) (Nat.le_refl _) (by simp)
  have ho4 : Own w3 v3 l r3 := by simpa using ho3
  have hv3 : ∃ a4 N4 c4, v3 = .slice a4 N4 c4 := ho4.bytes.elim fun a4 h => h.elim fun c4 h2 => ⟨a4, _, c4, h2.1⟩
  obtain ⟨a4, N4, c4, rfl⟩ := hv3
  have HO3 := Hid.mkR ho4
  have HR3 : Hid (∀ g, r3 = some g → w.heap.size ≤ g) := by
    intro g hg
    rcases hr3 with rfl | rfl
    · simp at hg; omega
    · simp at hg; omega
  clear ho3 ho4 hg3 hr3 hn3
  go_wp2
  go_ret
  exact ⟨_, _, _, r3, rfl, HO3.out, HR3.out, HB3.out⟩
/-- The directory alone is left of the directories. -/
theorem RdM.syncD {w : World} {gp : Nat} {k : Rk} {B : Nat → Prop} {blk : Nat → Option Nat} {vF vD : Value} {xs : List Ino} {dv : List Value} {sv tv : Nat → List Value} {T : Nat → Prop} (h : RdM w gp k B blk vF vD xs dv sv tv) (hT : ∀ g, rdT gp B blk g → T g) (h1 : 1 ≤ k.ps.dirs.length) (t : TypeId) :
    RtP gp ⟨⟨k.ps.files, k.ps.grown, [k.ps.last]⟩, k.most, k.left, k.off, k.done⟩ T w ((w.alloc (.cells #[dv.getD (k.ps.dirs.length - 1) undef] t)).setCell ⟨gp, 1, none⟩ (.slice (some ⟨w.heap.size, 0, none⟩) 1 1)) := by
  have hgpl := h.gpl
  have hb : Below w.heap.size w (w.alloc (.cells #[dv.getD (k.ps.dirs.length - 1) undef] t)) := (Below.refl _ _).alloc (Nat.le_refl _) _
  have ho : OwnV (w.alloc (.cells #[dv.getD (k.ps.dirs.length - 1) undef] t)) (.slice (some ⟨w.heap.size, 0, none⟩) 1 1) [dv.getD (k.ps.dirs.length - 1) undef] (some w.heap.size) := OwnV.one w _ t
  have hsu : (w.alloc (.cells #[dv.getD (k.ps.dirs.length - 1) undef] t)).heap.size = w.heap.size + 1 := by simp
  have hcl := (hb.block gp hgpl).trans h.cells
  generalize w.alloc (.cells #[dv.getD (k.ps.dirs.length - 1) undef] t) = u at *
  have hgs := grow_set u gp 1 (.slice (some ⟨w.heap.size, 0, none⟩) 1 1)
  have hsz : (u.setCell ⟨gp, 1, none⟩ (.slice (some ⟨w.heap.size, 0, none⟩) 1 1)).heap.size = u.heap.size := setCells_size gp [_] 1 u
  have hc : Chg (fun g => g = gp ∨ blk 1 = some g) w (u.setCell ⟨gp, 1, none⟩ (.slice (some ⟨w.heap.size, 0, none⟩) 1 1)) := (Chg.ofBelow hb).grown hgs (fun g e => .inl (.inl (by cases e; rfl)))
  have hj : k.ps.dirs.length - 1 < dv.length := by rw [h.dl]; omega
  refine (h.putD (ds := [k.ps.last]) (r' := some w.heap.size) hc (rset hcl 1 _) (ho.of_block hgs.size (fun g e => hgs.block g (by cases e; omega) (fun e2 => by cases e; have := Option.some.inj e2; omega))) (.inr fun g e => by cases e; exact Nat.le_refl _) rfl (NewB.refl h.b hc.size) (fun j hjj => ?_) (fun g hge e hB => by have := h.b g hB; omega)).to (hc.mono (fun g e => ?_)) (hT gp (.inl rfl)) (fun i g e => ?_) (fun g e => .inl (hT g (.inr (.inr e))))
  · have : j = 0 := by simpa using hjj
    subst this
    exact (h.df _ hj).kept hc.size (fun g e => hc.block g (h.b g e) (fun e2 => e2.elim (fun e3 => h.nb (by rw [← e3]; exact e)) (fun e3 => (h.me 1 g e3).2 e))) (fun g e => e)
  · rcases e with e | e
    · rw [e]; exact hT gp (.inl rfl)
    · exact hT g (.inr (.inl ⟨1, e⟩))
  · by_cases e1 : i = 1
    · rw [if_pos e1] at e; cases e; exact .inr (Nat.le_refl _)
    · rw [if_neg e1] at e; exact .inl (hT g (.inr (.inl ⟨i, e⟩)))
/-- Both of a file's slices are written. -/
theorem OwnIno.setB {w : World} {v x y : Value} {ts : List Ino} {g n : Nat} (h : OwnIno w v ts (some g)) (hn : n < ts.length) : OwnIno (w.setCells g (n * 2) [x, y]) v (ts.set n ⟨x, y⟩) (some g) := by
  obtain ⟨g', cap, e1, e2, c0, c1, f0, f1⟩ := h.full hn
  cases e1
  refine h.set hn (Nat.le_of_eq (setCells_size g [x, y] (n * 2) w).symm) (fun j => World.frozen?_setCells _ _ _ _ _) (fun j => ?_)
  by_cases e : j = n * 2
  · rw [if_pos e, e]
    have := World.cell?_setCells_in g [x, y] (n * 2) w (fun m hm => by
      simp at hm
      rcases (by omega : m = 0 ∨ m = 1) with rfl | rfl
      · rw [Nat.add_zero, c0]; rfl
      · rw [c1]; rfl) 0 (by simp)
    simpa using this
  · rw [if_neg e]
    by_cases e3 : j = n * 2 + 1
    · rw [if_pos e3, e3]
      have := World.cell?_setCells_in g [x, y] (n * 2) w (fun m hm => by
        simp at hm
        rcases (by omega : m = 0 ∨ m = 1) with rfl | rfl
        · rw [Nat.add_zero, c0]; rfl
        · rw [c1]; rfl) 1 (by simp)
      simpa using this
    · rw [if_neg e3, World.cell?_setCells_out g _ _ w _ (fun _ _ => by
        show j < n * 2 ∨ n * 2 + [x, y].length ≤ j
        simp only [List.length_cons, List.length_nil]
        omega)]
/-- A file's last bytes alone are left of its states. -/
theorem RdM.syncF {w : World} {gp : Nat} {k : Rk} {B : Nat → Prop} {blk : Nat → Option Nat} {vF vD : Value} {xs : List Ino} {dv : List Value} {sv tv : Nat → List Value} {T : Nat → Prop} {f gF : Nat} (h : RdM w gp k B blk vF vD xs dv sv tv) (hT : ∀ g, rdT gp B blk g → T g) (hf : f < xs.length) (h1 : 1 ≤ (k.ps.files.getD f []).length) (hrF : blk 0 = some gF) (t t2 : TypeId) (vb : Value) (hvb : vb = (sv f).getD ((k.ps.files.getD f []).length - 1) undef) :
    RtP gp ⟨⟨k.ps.files.set f [k.ps.now f], k.ps.grown.set f [-1], k.ps.dirs⟩, k.most, k.left, k.off, k.done⟩ T w (((w.alloc (.cells #[vb] t)).alloc (.cells #[.int .i64 (-1)] t2)).setCells gF (f * 2) [.slice (some ⟨w.heap.size, 0, none⟩) 1 1, .slice (some ⟨w.heap.size + 1, 0, none⟩) 1 1]) := by
  have hgFl := h.blt 0 gF hrF
  have hb1 : Below w.heap.size w (w.alloc (.cells #[vb] t)) := (Below.refl _ _).alloc (Nat.le_refl _) _
  have ho1 : OwnV (w.alloc (.cells #[vb] t)) (.slice (some ⟨w.heap.size, 0, none⟩) 1 1) [vb] (some w.heap.size) := OwnV.one w _ t
  have hs1 : (w.alloc (.cells #[vb] t)).heap.size = w.heap.size + 1 := by simp
  generalize w.alloc (.cells #[vb] t) = u1 at *
  have hb2 : Below u1.heap.size u1 (u1.alloc (.cells #[.int .i64 (-1)] t2)) := (Below.refl _ _).alloc (Nat.le_refl _) _
  have ho2 : OwnV (u1.alloc (.cells #[.int .i64 (-1)] t2)) (.slice (some ⟨u1.heap.size, 0, none⟩) 1 1) [.int .i64 (-1)] (some u1.heap.size) := OwnV.one u1 _ t2
  have hs2 : (u1.alloc (.cells #[.int .i64 (-1)] t2)).heap.size = u1.heap.size + 1 := by simp
  rw [hs1] at ho2
  generalize u1.alloc (.cells #[.int .i64 (-1)] t2) = u2 at *
  have hb : Below w.heap.size w u2 := hb1.trans (hb2.mono hb1.size)
  have hgs : u2.grownBy (u2.setCells gF (f * 2) [.slice (some ⟨w.heap.size, 0, none⟩) 1 1, .slice (some ⟨w.heap.size + 1, 0, none⟩) 1 1]) (some gF) := grow_setCells u2 gF _ _
  have hsz : (u2.setCells gF (f * 2) [.slice (some ⟨w.heap.size, 0, none⟩) 1 1, .slice (some ⟨w.heap.size + 1, 0, none⟩) 1 1]).heap.size = u2.heap.size := setCells_size gF _ _ u2
  have hF2 : OwnIno u2 vF xs (some gF) := hrF ▸ h.F.of_block hb.size (fun g e => hb.block g (h.blt 0 g e))
  have hc : Chg (fun g => blk 0 = some g ∨ blk (2 * f + 2) = some g ∨ blk (2 * f + 3) = some g) w (u2.setCells gF (f * 2) [.slice (some ⟨w.heap.size, 0, none⟩) 1 1, .slice (some ⟨w.heap.size + 1, 0, none⟩) 1 1]) := (Chg.ofBelow hb).grown hgs (fun g e => .inl (.inl (by cases e; exact hrF)))
  have hBk : ∀ g, B g → (u2.setCells gF (f * 2) [.slice (some ⟨w.heap.size, 0, none⟩) 1 1, .slice (some ⟨w.heap.size + 1, 0, none⟩) 1 1]).heap[g]? = w.heap[g]? := fun g e => hc.block g (h.b g e) (fun e2 => by rcases e2 with e2 | e2 | e2 <;> exact (h.me _ g e2).2 e)
  refine (h.file hf (y := ⟨.slice (some ⟨w.heap.size, 0, none⟩) 1 1, .slice (some ⟨w.heap.size + 1, 0, none⟩) 1 1⟩) (us := [vb]) (zs := [.int .i64 (-1)]) (q := some w.heap.size) (p := some (w.heap.size + 1)) (ys := [k.ps.now f]) (is := [-1]) (B' := B) hc (by rw [hrF]; exact hF2.setB hf) ((ho1.of_block (by omega) (fun g e => (hgs.block g (by cases e; omega) (fun e2 => by cases e; have := Option.some.inj e2; omega)).trans (hb2.block g (by cases e; omega))))) (.inr fun g e => by cases e; exact Nat.le_refl _) (ho2.of_block hgs.size (fun g e => hgs.block g (by cases e; omega) (fun e2 => by cases e; have := Option.some.inj e2; omega))) (.inr fun g e => by cases e; omega) (fun g e e2 => by cases e; have := Option.some.inj e2; omega) rfl rfl (NewB.refl h.b hc.size) (fun j hj => ?_) (fun j hj => ?_) (fun g hge e hB => by have := h.b g hB; omega)).to (hc.mono (fun g e => ?_)) (hT gp (.inl rfl)) (fun i g e => ?_) (fun g e => .inl (hT g (.inr (.inr e))))
  · have : j = 0 := by simpa using hj
    subst this
    show leafB _ B vb (k.ps.now f)
    rw [hvb]
    exact (h.sf f hf _ (by rw [h.sl f hf]; omega)).kept hc.size hBk (fun g e => e)
  · have : j = 0 := by simpa using hj
    subst this
    exact ⟨rfl, (by unfold I64; decide : I64 (-1))⟩
  · rcases e with e | e | e <;> exact hT g (.inr (.inl ⟨_, e⟩))
  · by_cases e1 : i = 2 * f + 2
    · rw [if_pos e1] at e; cases e; exact .inr (Nat.le_refl _)
    · rw [if_neg e1] at e
      by_cases e2 : i = 2 * f + 3
      · rw [if_pos e2] at e; cases e; exact .inr (by omega)
      · rw [if_neg e2] at e; exact .inl (hT g (.inr (.inl ⟨_, e⟩)))
theorem NwNew.back0 {W0 W w : World} {v : Value} {ts : List Nw} {r : Option Nat} (h : NwNew W w v ts r) (hb : Below W0.heap.size W0 W) : NwNew W0 w v ts r := ⟨h.row, fun g e => Nat.le_trans hb.size (h.new g e), hb.trans (h.below.mono hb.size)⟩
end Go.Proofs.YthcnhjmkcekdaaaGreat

namespace Go.Proofs.YthcnhjmkcekdaaaGreat
open Go.RowKit Go.Maps Plain
set_option linter.unusedVariables false
set_option linter.unusedSimpArgs false
/-- In the midst of Do: the disk k1 at u, what has turned since w, the operation in its box. -/
structure DoAt (T : Nat → Prop) (w : World) (gp : Nat) (cs : List Value) (k1 : Rk) (u : World) (B : Nat → Prop) (blk : Nat → Option Nat) (vF vD : Value) (xs : List Ino) (dv : List Value) (sv tv : Nat → List Value) : Prop where
  r : RdM u gp k1 B blk vF vD xs dv sv tv
  t : ∀ g, rdT gp B blk g → Ext T w u g
  c : Chg T w u
  s : SbAt u w.heap.size cs
  n : ∀ g, rdT gp B blk g → g ≠ w.heap.size
theorem DoAt.later {T : Nat → Prop} {w u u' : World} {gp : Nat} {cs : List Value} {k1 : Rk} {B : Nat → Prop} {blk : Nat → Option Nat} {vF vD : Value} {xs : List Ino} {dv : List Value} {sv tv : Nat → List Value} (h : DoAt T w gp cs k1 u B blk vF vD xs dv sv tv) (hb : Below u.heap.size u u') : DoAt T w gp cs k1 u' B blk vF vD xs dv sv tv :=
  ⟨h.r.later hb, fun g e => (h.t g e).imp id (fun e2 => ⟨e2.1, Nat.lt_of_lt_of_le e2.2 hb.size⟩), ⟨hb.os.trans h.c.os, hb.tape.trans h.c.tape, hb.output.trans h.c.output, Nat.le_trans h.c.size hb.size, fun g hg hn => (hb.block g (Nat.lt_of_lt_of_le hg h.c.size)).trans (h.c.block g hg hn)⟩, h.s.later hb, h.n⟩
theorem DoAt.drew {T : Nat → Prop} {w u : World} {gp : Nat} {cs : List Value} {k1 : Rk} {B : Nat → Prop} {blk : Nat → Option Nat} {vF vD : Value} {xs : List Ino} {dv : List Value} {sv tv : Nat → List Value} (h : DoAt T w gp cs k1 u B blk vF vD xs dv sv tv) (n : Nat) : DoAt T w gp cs k1 (u.drewN n) B blk vF vD xs dv sv tv := h.later (below_drewN (Below.refl _ _) n)
theorem DoAt.fin {T : Nat → Prop} {w u u' : World} {gp : Nat} {cs : List Value} {k1 k' : Rk} {B : Nat → Prop} {blk : Nat → Option Nat} {vF vD : Value} {xs : List Ino} {dv : List Value} {sv tv : Nat → List Value} (h : DoAt T w gp cs k1 u B blk vF vD xs dv sv tv) (h2 : RtP gp k' (Ext T w u) u u') : RtP gp k' T w u' := RtP.trans (k := k1) ⟨⟨B, blk, vF, vD, xs, dv, sv, tv, h.r, h.t⟩, h.c⟩ h2
def rdo1 (k : Rk) (nm : ByteArray) : Rk := ⟨⟨k.ps.files ++ [[[]]], k.ps.grown ++ [[-1]], k.ps.dirs ++ [withL k.ps.last (nm.data.toList, k.ps.files.length)]⟩, k.most, k.left, k.off, k.done⟩
def rdo2 (k : Rk) (f : Nat) (b : List Nat) : Rk := ⟨⟨k.ps.files.set f (k.ps.files.getD f [] ++ [k.ps.now f ++ b]), k.ps.grown.set f (k.ps.grown.getD f [] ++ [(b.length : Int)]), k.ps.dirs⟩, k.most, k.left, k.off, k.done⟩
def rdo3 (k : Rk) (f n : Nat) : Rk := ⟨⟨k.ps.files.set f (k.ps.files.getD f [] ++ [(k.ps.now f).take n]), k.ps.grown.set f (k.ps.grown.getD f [] ++ [-1]), k.ps.dirs⟩, k.most, k.left, k.off, k.done⟩
def rdo4 (k : Rk) (f : Nat) : Rk := ⟨⟨k.ps.files.set f [k.ps.now f], k.ps.grown.set f [-1], k.ps.dirs⟩, k.most, k.left, k.off, k.done⟩
def rdo5 (k : Rk) : Rk := ⟨⟨k.ps.files, k.ps.grown, [k.ps.last]⟩, k.most, k.left, k.off, k.done⟩
def rdo6 (k : Rk) (nm to : ByteArray) (f : Nat) : Rk := ⟨⟨k.ps.files, k.ps.grown, k.ps.dirs ++ [withL (leftL (leftL k.ps.last nm.data.toList) to.data.toList) (to.data.toList, f)]⟩, k.most, k.left, k.off, k.done⟩
def rdo7 (k : Rk) (nm : ByteArray) : Rk := ⟨⟨k.ps.files, k.ps.grown, k.ps.dirs ++ [leftL k.ps.last nm.data.toList]⟩, k.most, k.left, k.off, k.done⟩
theorem Rk.spent_ps (k : Rk) : k.spent.ps = k.ps := by unfold Rk.spent; split <;> rfl
set_option maxHeartbeats 8000000 in
set_option maxRecDepth 1000000 in
theorem doOff {w : World} {gp : Nat} {k : Rk} {B : Nat → Prop} {blk : Nat → Option Nat} {vF vD : Value} {xs : List Ino} {dv : List Value} {sv tv : Nat → List Value} (h : RdM w gp k B blk vF vD xs dv sv tv) (hk : k.Ok) (nm to : ByteArray) (at' m : Int) (kd : Int) (vb : Value) (hoff : k.off = true) :
    Calls Tryz.prog 14 #[.pointer (some ⟨gp, 0, none⟩), actV kd nm to at' m (vb)] w fun e w' => e = .returned (.int .i64 34) ∧ RtP gp k (rdT gp B blk) w w' := by
  obtain ⟨w0, hw0⟩ : ∃ w0, w.alloc (.cells #[.int .i64 kd, .string nm, .string to, .int .i64 at', .int .i64 m, vb] 56) = w0 := ⟨_, rfl⟩
  have hb0 : Below w.heap.size w w0 := by rw [← hw0]; exact (Below.refl _ _).alloc (Nat.le_refl _) _
  have hs0 : w.heap.size < w0.heap.size := by rw [← hw0]; simp
  have HB0 := Hid.mkR hb0
  have HS0 : Hid (SbAt w0 w.heap.size (actC kd nm to at' m (vb))) := by rw [← hw0]; exact SbAt.new w _ _
  have c4 := (rcells (h.later hb0).cells).1.2.2.2.2.1
  rw [hoff] at c4
  have HE : Hid (RtP gp k (rdT gp B blk) w w0) := (RtP.start ⟨B, blk, vF, vD, xs, dv, sv, tv, h, fun g e => e⟩).later hb0
  clear h hb0 HS0
  go_enter Tryz.func14, Tryz.ntmps14
  go_wp2
  go_ret
  exact ⟨rfl, HE.out⟩
set_option maxHeartbeats 8000000 in
set_option maxRecDepth 1000000 in
theorem doRef {w : World} {gp : Nat} {k : Rk} {B : Nat → Prop} {blk : Nat → Option Nat} {vF vD : Value} {xs : List Ino} {dv : List Value} {sv tv : Nat → List Value} (h : RdM w gp k B blk vF vD xs dv sv tv) (hk : k.Ok) (nm to : ByteArray) (at' m : Int) (kd : Int) (vb : Value) (hoff : k.off = false) (hl : I64 k.left) (hd0 : 0 ≤ k.done) (hd : k.done ≤ 4611686018427387904) (x : Int) (hx : x ≠ 0) (hrf : ∀ u, RdM u gp k B blk vF vD xs dv sv tv → Calls Tryz.prog 49 #[.pointer (some ⟨gp, 0, none⟩), actV kd nm to at' m (vb)] u fun e w' => e = .returned (.int .i64 x) ∧ Below u.heap.size u w') :
    Calls Tryz.prog 14 #[.pointer (some ⟨gp, 0, none⟩), actV kd nm to at' m (vb)] w fun e w' => e = .returned (.int .i64 x) ∧ RtP gp k (rdT gp B blk) w w' := by
  obtain ⟨w0, hw0⟩ : ∃ w0, w.alloc (.cells #[.int .i64 kd, .string nm, .string to, .int .i64 at', .int .i64 m, vb] 56) = w0 := ⟨_, rfl⟩
  have hb0 : Below w.heap.size w w0 := by rw [← hw0]; exact (Below.refl _ _).alloc (Nat.le_refl _) _
  have hs0 : w.heap.size < w0.heap.size := by rw [← hw0]; simp
  have HB0 := Hid.mkR hb0
  have HS0 : Hid (SbAt w0 w.heap.size (actC kd nm to at' m (vb))) := by rw [← hw0]; exact SbAt.new w _ _
  have c4 := (rcells (h.later hb0).cells).1.2.2.2.2.1
  rw [hoff] at c4
  have HRF := Hid.mkR (hrf w0 (h.later hb0))
  have HBU : Hid (∀ w1, Below w0.heap.size w0 w1 → Calls Tryz.prog 50 #[.pointer (some ⟨gp, 0, none⟩)] w1 fun e w2 => e = .returned (.bool (!k.can)) ∧ RtP gp k.spent (rdT gp B blk) w w2 ∧ SbAt w2 w.heap.size (actC kd nm to at' m (vb)) ∧ RdAt w2 gp k.spent (fun g => Ext (rdT gp B blk) w w2 g ∧ g ≠ w.heap.size)) := fun w1 hb1 => by
    have hb01 : Below w.heap.size w w1 := HB0.out.trans (hb1.mono HB0.out.size)
    refine (rburnsOf (T := (rdT gp B blk)) ⟨B, blk, vF, vD, xs, dv, sv, tv, h.later hb01, fun g e => e⟩ hl hd0 hd).mono ?_
    rintro e w2 ⟨rfl, h2⟩
    refine ⟨rfl, RtP.below hb01 h2 h.lt, (HS0.out.later hb1).of_block (h2.2.block _ (by have := hb1.size; omega) (fun e => by have := h.lt _ e; omega)), ?_⟩
    obtain ⟨⟨B3, blk3, vF3, vD3, xs3, dv3, sv3, tv3, a1, a2⟩, -⟩ := h2
    refine ⟨B3, blk3, vF3, vD3, xs3, dv3, sv3, tv3, a1, fun g e => ?_⟩
    have hz1 := hb1.size
    rcases a2 g e with e2 | e2
    · exact ⟨.inl e2, by have := h.lt _ e2; omega⟩
    · exact ⟨.inr ⟨by omega, e2.2⟩, by omega⟩
  have HAL : Hid (∀ w1, Below w0.heap.size w0 w1 → RtP gp k (rdT gp B blk) w w1) := fun w1 hb1 => (RtP.start ⟨B, blk, vF, vD, xs, dv, sv, tv, h, fun g e => e⟩).later (HB0.out.trans (hb1.mono HB0.out.size))
  have z0 := HS0.out 0 _ rfl
  have z1 := HS0.out 1 _ rfl
  have z2 := HS0.out 2 _ rfl
  have z3 := HS0.out 3 _ rfl
  have z4 := HS0.out 4 _ rfl
  have z5 := HS0.out 5 _ rfl
  clear h hb0 hrf
  go_enter Tryz.func14, Tryz.ntmps14
  go_wp2_with fail
  refine HRF.out.mono ?_
  rintro e w1 ⟨rfl, hb1⟩
  clear z0 z1 z2 z3 z4 z5 c4
  have HE := Hid.mkR (HAL.out w1 hb1)
  have hxb : (x != 0) = true := by simpa using hx
  clear HRF HBU HAL hb1 hx
  go_wp2
  go_ret
  exact ⟨rfl, HE.out⟩
set_option maxHeartbeats 8000000 in
set_option maxRecDepth 1000000 in
theorem doBurn {w : World} {gp : Nat} {k : Rk} {B : Nat → Prop} {blk : Nat → Option Nat} {vF vD : Value} {xs : List Ino} {dv : List Value} {sv tv : Nat → List Value} (h : RdM w gp k B blk vF vD xs dv sv tv) (hk : k.Ok) (nm to : ByteArray) (at' m : Int) (kd : Int) (vb : Value) (hoff : k.off = false) (hl : I64 k.left) (hd0 : 0 ≤ k.done) (hd : k.done ≤ 4611686018427387904) (hcan : k.can = false) (hrf : ∀ u, RdM u gp k B blk vF vD xs dv sv tv → Calls Tryz.prog 49 #[.pointer (some ⟨gp, 0, none⟩), actV kd nm to at' m (vb)] u fun e w' => e = .returned (.int .i64 0) ∧ Below u.heap.size u w') :
    Calls Tryz.prog 14 #[.pointer (some ⟨gp, 0, none⟩), actV kd nm to at' m (vb)] w fun e w' => e = .returned (.int .i64 34) ∧ RtP gp k.spent (rdT gp B blk) w w' := by
  obtain ⟨w0, hw0⟩ : ∃ w0, w.alloc (.cells #[.int .i64 kd, .string nm, .string to, .int .i64 at', .int .i64 m, vb] 56) = w0 := ⟨_, rfl⟩
  have hb0 : Below w.heap.size w w0 := by rw [← hw0]; exact (Below.refl _ _).alloc (Nat.le_refl _) _
  have hs0 : w.heap.size < w0.heap.size := by rw [← hw0]; simp
  have HB0 := Hid.mkR hb0
  have HS0 : Hid (SbAt w0 w.heap.size (actC kd nm to at' m (vb))) := by rw [← hw0]; exact SbAt.new w _ _
  have c4 := (rcells (h.later hb0).cells).1.2.2.2.2.1
  rw [hoff] at c4
  have HRF := Hid.mkR (hrf w0 (h.later hb0))
  have HBU : Hid (∀ w1, Below w0.heap.size w0 w1 → Calls Tryz.prog 50 #[.pointer (some ⟨gp, 0, none⟩)] w1 fun e w2 => e = .returned (.bool (!k.can)) ∧ RtP gp k.spent (rdT gp B blk) w w2 ∧ SbAt w2 w.heap.size (actC kd nm to at' m (vb)) ∧ RdAt w2 gp k.spent (fun g => Ext (rdT gp B blk) w w2 g ∧ g ≠ w.heap.size)) := fun w1 hb1 => by
    have hb01 : Below w.heap.size w w1 := HB0.out.trans (hb1.mono HB0.out.size)
    refine (rburnsOf (T := (rdT gp B blk)) ⟨B, blk, vF, vD, xs, dv, sv, tv, h.later hb01, fun g e => e⟩ hl hd0 hd).mono ?_
    rintro e w2 ⟨rfl, h2⟩
    refine ⟨rfl, RtP.below hb01 h2 h.lt, (HS0.out.later hb1).of_block (h2.2.block _ (by have := hb1.size; omega) (fun e => by have := h.lt _ e; omega)), ?_⟩
    obtain ⟨⟨B3, blk3, vF3, vD3, xs3, dv3, sv3, tv3, a1, a2⟩, -⟩ := h2
    refine ⟨B3, blk3, vF3, vD3, xs3, dv3, sv3, tv3, a1, fun g e => ?_⟩
    have hz1 := hb1.size
    rcases a2 g e with e2 | e2
    · exact ⟨.inl e2, by have := h.lt _ e2; omega⟩
    · exact ⟨.inr ⟨by omega, e2.2⟩, by omega⟩
  have HAL : Hid (∀ w1, Below w0.heap.size w0 w1 → RtP gp k (rdT gp B blk) w w1) := fun w1 hb1 => (RtP.start ⟨B, blk, vF, vD, xs, dv, sv, tv, h, fun g e => e⟩).later (HB0.out.trans (hb1.mono HB0.out.size))
  have z0 := HS0.out 0 _ rfl
  have z1 := HS0.out 1 _ rfl
  have z2 := HS0.out 2 _ rfl
  have z3 := HS0.out 3 _ rfl
  have z4 := HS0.out 4 _ rfl
  have z5 := HS0.out 5 _ rfl
  clear h hb0 hrf
  go_enter Tryz.func14, Tryz.ntmps14
  go_wp2_with fail
  refine HRF.out.mono ?_
  rintro e w1 ⟨rfl, hb1⟩
  clear z0 z1 z2 z3 z4 z5 c4
  have HBU1 := Hid.mkR (HBU.out w1 hb1)
  rw [hcan] at HBU1
  clear HRF HBU HAL hb1
  go_wp2_with fail
  refine HBU1.out.mono ?_
  rintro e w2 ⟨rfl, hR2, hS2, hN2⟩
  have HE := Hid.mkR hR2
  clear hR2 hS2 hN2 HBU1
  go_wp2
  go_ret
  exact ⟨rfl, HE.out⟩
set_option maxHeartbeats 8000000 in
set_option maxRecDepth 1000000 in
theorem do5 {w : World} {gp : Nat} {k : Rk} {B : Nat → Prop} {blk : Nat → Option Nat} {vF vD : Value} {xs : List Ino} {dv : List Value} {sv tv : Nat → List Value} (h : RdM w gp k B blk vF vD xs dv sv tv) (hk : k.Ok) (nm to : ByteArray) (at' m : Int) (vb : Value) (hoff : k.off = false) (hl : I64 k.left) (hd0 : 0 ≤ k.done) (hd : k.done ≤ 4611686018427387904) (hcan : k.can = true) (hrf : ∀ u, RdM u gp k B blk vF vD xs dv sv tv → Calls Tryz.prog 49 #[.pointer (some ⟨gp, 0, none⟩), actV 5 nm to at' m (vb)] u fun e w' => e = .returned (.int .i64 0) ∧ Below u.heap.size u w') :
    Calls Tryz.prog 14 #[.pointer (some ⟨gp, 0, none⟩), actV 5 nm to at' m (vb)] w fun e w' => e = .returned (.int .i64 0) ∧ RtP gp (rdo5 k.spent) (rdT gp B blk) w w' := by
  obtain ⟨w0, hw0⟩ : ∃ w0, w.alloc (.cells #[.int .i64 5, .string nm, .string to, .int .i64 at', .int .i64 m, vb] 56) = w0 := ⟨_, rfl⟩
  have hb0 : Below w.heap.size w w0 := by rw [← hw0]; exact (Below.refl _ _).alloc (Nat.le_refl _) _
  have hs0 : w.heap.size < w0.heap.size := by rw [← hw0]; simp
  have HB0 := Hid.mkR hb0
  have HS0 : Hid (SbAt w0 w.heap.size (actC 5 nm to at' m (vb))) := by rw [← hw0]; exact SbAt.new w _ _
  have c4 := (rcells (h.later hb0).cells).1.2.2.2.2.1
  rw [hoff] at c4
  have HRF := Hid.mkR (hrf w0 (h.later hb0))
  have HBU : Hid (∀ w1, Below w0.heap.size w0 w1 → Calls Tryz.prog 50 #[.pointer (some ⟨gp, 0, none⟩)] w1 fun e w2 => e = .returned (.bool (!k.can)) ∧ RtP gp k.spent (rdT gp B blk) w w2 ∧ SbAt w2 w.heap.size (actC 5 nm to at' m (vb)) ∧ RdAt w2 gp k.spent (fun g => Ext (rdT gp B blk) w w2 g ∧ g ≠ w.heap.size)) := fun w1 hb1 => by
    have hb01 : Below w.heap.size w w1 := HB0.out.trans (hb1.mono HB0.out.size)
    refine (rburnsOf (T := (rdT gp B blk)) ⟨B, blk, vF, vD, xs, dv, sv, tv, h.later hb01, fun g e => e⟩ hl hd0 hd).mono ?_
    rintro e w2 ⟨rfl, h2⟩
    refine ⟨rfl, RtP.below hb01 h2 h.lt, (HS0.out.later hb1).of_block (h2.2.block _ (by have := hb1.size; omega) (fun e => by have := h.lt _ e; omega)), ?_⟩
    obtain ⟨⟨B3, blk3, vF3, vD3, xs3, dv3, sv3, tv3, a1, a2⟩, -⟩ := h2
    refine ⟨B3, blk3, vF3, vD3, xs3, dv3, sv3, tv3, a1, fun g e => ?_⟩
    have hz1 := hb1.size
    rcases a2 g e with e2 | e2
    · exact ⟨.inl e2, by have := h.lt _ e2; omega⟩
    · exact ⟨.inr ⟨by omega, e2.2⟩, by omega⟩
  have HAL : Hid (∀ w1, Below w0.heap.size w0 w1 → RtP gp k (rdT gp B blk) w w1) := fun w1 hb1 => (RtP.start ⟨B, blk, vF, vD, xs, dv, sv, tv, h, fun g e => e⟩).later (HB0.out.trans (hb1.mono HB0.out.size))
  have z0 := HS0.out 0 _ rfl
  have z1 := HS0.out 1 _ rfl
  have z2 := HS0.out 2 _ rfl
  have z3 := HS0.out 3 _ rfl
  have z4 := HS0.out 4 _ rfl
  have z5 := HS0.out 5 _ rfl
  have hps := Rk.spent_ps k
  have hk1 : k.spent.Ok := ⟨by rw [hps]; exact hk.ps, by rw [hps]; exact hk.d1⟩
  clear hps
  generalize k.spent = k1 at *
  clear h hb0 hrf
  go_enter Tryz.func14, Tryz.ntmps14
  go_wp2_with fail
  refine HRF.out.mono ?_
  rintro e w1 ⟨rfl, hb1⟩
  clear z0 z1 z2 z3 z4 z5 c4
  have HBU1 := Hid.mkR (HBU.out w1 hb1)
  rw [hcan] at HBU1
  clear HRF HBU HAL hb1
  go_wp2_with fail
  refine HBU1.out.mono ?_
  rintro e w2 ⟨rfl, hR2, hS2, hN2⟩
  have hC2 := hR2.2
  obtain ⟨B2, blk2, vF2, vD2, xs2, dv2, sv2, tv2, h2, hT2⟩ := hN2
  have HFD := Hid.mkR (findR h2 hk1.d1 nm hk1.see (by have := hk1.ps.dl; omega))
  have HD2 : Hid (DoAt (rdT gp B blk) w gp (actC 5 nm to at' m (vb)) k1 w2 B2 blk2 vF2 vD2 xs2 dv2 sv2 tv2) := ⟨h2, fun g e => (hT2 g e).1, hC2, hS2, fun g e => (hT2 g e).2⟩
  have z0 := HD2.out.s 0 _ rfl
  have z1 := HD2.out.s 1 _ rfl
  clear h2 hT2 hC2 hS2 hR2 HBU1
  go_wp2_with fail
  refine HFD.out.mono ?_
  rintro e w3 ⟨rfl, nf, rfl⟩
  have HD3 := Hid.mkR (HD2.out.drew nf)
  clear HFD HD2 z0 z1
  generalize w2.drewN nf = w3 at *
  have z0 := HD3.out.s 0 _ rfl
  have z1 := HD3.out.s 1 _ rfl
  obtain ⟨aL, cL, rL, eL, hrowL, hrB⟩ := HD3.out.r.see hk1.d1
  have HSE := Hid.mkR (seenOf HD3.out.r hk1.d1 (by have := hk1.ps.dl; omega))
  rw [eL] at HSE
  clear hrowL hrB
  have HEL := Hid.mkR eL
  clear eL
  generalize leadL k1.ps.last nm.data.toList = LD at *
  generalize hNL : k1.ps.last.length = NL at *
  clear hNL
  go_wp2_with fail
  refine HSE.out.mono ?_
  rintro e w4 ⟨rfl, n4, rfl⟩
  have HD4 := Hid.mkR (HD3.out.drew n4)
  clear HSE HD3 z0 z1
  generalize w3.drewN n4 = w4 at *
  have z0 := HD4.out.s 0 _ rfl
  have hbo : Below w4.heap.size w4 (w4.alloc (.cells #[.slice aL NL cL] 78)) := (Below.refl _ _).alloc (Nat.le_refl _) _
  have c1 := (rcells (HD4.out.r.later hbo).cells).1.2.1
  have f1 := (rcells (HD4.out.r.later hbo).cells).2.2.1
  have HE : Hid (RtP gp (rdo5 k1) (rdT gp B blk) w ((w4.alloc (.cells #[.slice aL NL cL] 78)).setCell ⟨gp, 1, none⟩ (.slice (some ⟨w4.heap.size, 0, none⟩) 1 1))) := HD4.out.fin (by
    have := HD4.out.r.syncD HD4.out.t hk1.d1 78
    rw [HEL.out] at this
    exact this)
  clear hbo HD4
  go_wp2
  go_ret
  exact ⟨rfl, HE.out⟩
set_option maxHeartbeats 8000000 in
set_option maxRecDepth 1000000 in
theorem do4 {w : World} {gp : Nat} {k : Rk} {B : Nat → Prop} {blk : Nat → Option Nat} {vF vD : Value} {xs : List Ino} {dv : List Value} {sv tv : Nat → List Value} (h : RdM w gp k B blk vF vD xs dv sv tv) (hk : k.Ok) (nm to : ByteArray) (at' m : Int) (vb : Value) (f : Nat) (hf : leadL k.ps.last nm.data.toList = (f : Int)) (hfl : f < k.ps.files.length) (hoff : k.off = false) (hl : I64 k.left) (hd0 : 0 ≤ k.done) (hd : k.done ≤ 4611686018427387904) (hcan : k.can = true) (hrf : ∀ u, RdM u gp k B blk vF vD xs dv sv tv → Calls Tryz.prog 49 #[.pointer (some ⟨gp, 0, none⟩), actV 4 nm to at' m (vb)] u fun e w' => e = .returned (.int .i64 0) ∧ Below u.heap.size u w') :
    Calls Tryz.prog 14 #[.pointer (some ⟨gp, 0, none⟩), actV 4 nm to at' m (vb)] w fun e w' => e = .returned (.int .i64 0) ∧ RtP gp (rdo4 k.spent f) (rdT gp B blk) w w' := by
  obtain ⟨w0, hw0⟩ : ∃ w0, w.alloc (.cells #[.int .i64 4, .string nm, .string to, .int .i64 at', .int .i64 m, vb] 56) = w0 := ⟨_, rfl⟩
  have hb0 : Below w.heap.size w w0 := by rw [← hw0]; exact (Below.refl _ _).alloc (Nat.le_refl _) _
  have hs0 : w.heap.size < w0.heap.size := by rw [← hw0]; simp
  have HB0 := Hid.mkR hb0
  have HS0 : Hid (SbAt w0 w.heap.size (actC 4 nm to at' m (vb))) := by rw [← hw0]; exact SbAt.new w _ _
  have c4 := (rcells (h.later hb0).cells).1.2.2.2.2.1
  rw [hoff] at c4
  have HRF := Hid.mkR (hrf w0 (h.later hb0))
  have HBU : Hid (∀ w1, Below w0.heap.size w0 w1 → Calls Tryz.prog 50 #[.pointer (some ⟨gp, 0, none⟩)] w1 fun e w2 => e = .returned (.bool (!k.can)) ∧ RtP gp k.spent (rdT gp B blk) w w2 ∧ SbAt w2 w.heap.size (actC 4 nm to at' m (vb)) ∧ RdAt w2 gp k.spent (fun g => Ext (rdT gp B blk) w w2 g ∧ g ≠ w.heap.size)) := fun w1 hb1 => by
    have hb01 : Below w.heap.size w w1 := HB0.out.trans (hb1.mono HB0.out.size)
    refine (rburnsOf (T := (rdT gp B blk)) ⟨B, blk, vF, vD, xs, dv, sv, tv, h.later hb01, fun g e => e⟩ hl hd0 hd).mono ?_
    rintro e w2 ⟨rfl, h2⟩
    refine ⟨rfl, RtP.below hb01 h2 h.lt, (HS0.out.later hb1).of_block (h2.2.block _ (by have := hb1.size; omega) (fun e => by have := h.lt _ e; omega)), ?_⟩
    obtain ⟨⟨B3, blk3, vF3, vD3, xs3, dv3, sv3, tv3, a1, a2⟩, -⟩ := h2
    refine ⟨B3, blk3, vF3, vD3, xs3, dv3, sv3, tv3, a1, fun g e => ?_⟩
    have hz1 := hb1.size
    rcases a2 g e with e2 | e2
    · exact ⟨.inl e2, by have := h.lt _ e2; omega⟩
    · exact ⟨.inr ⟨by omega, e2.2⟩, by omega⟩
  have HAL : Hid (∀ w1, Below w0.heap.size w0 w1 → RtP gp k (rdT gp B blk) w w1) := fun w1 hb1 => (RtP.start ⟨B, blk, vF, vD, xs, dv, sv, tv, h, fun g e => e⟩).later (HB0.out.trans (hb1.mono HB0.out.size))
  have z0 := HS0.out 0 _ rfl
  have z1 := HS0.out 1 _ rfl
  have z2 := HS0.out 2 _ rfl
  have z3 := HS0.out 3 _ rfl
  have z4 := HS0.out 4 _ rfl
  have z5 := HS0.out 5 _ rfl
  have hps := Rk.spent_ps k
  have hk1 : k.spent.Ok := ⟨by rw [hps]; exact hk.ps, by rw [hps]; exact hk.d1⟩
  have hLf : leadL k.spent.ps.last nm.data.toList = (f : Int) := by rw [hps]; exact hf
  have hf1 : f < k.spent.ps.files.length := by rw [hps]; exact hfl
  have hLf' := Hid.mkR hLf
  clear hps
  generalize k.spent = k1 at *
  clear h hb0 hrf
  go_enter Tryz.func14, Tryz.ntmps14
  go_wp2_with fail
  refine HRF.out.mono ?_
  rintro e w1 ⟨rfl, hb1⟩
  clear z0 z1 z2 z3 z4 z5 c4
  have HBU1 := Hid.mkR (HBU.out w1 hb1)
  rw [hcan] at HBU1
  clear HRF HBU HAL hb1
  go_wp2_with fail
  refine HBU1.out.mono ?_
  rintro e w2 ⟨rfl, hR2, hS2, hN2⟩
  have hC2 := hR2.2
  obtain ⟨B2, blk2, vF2, vD2, xs2, dv2, sv2, tv2, h2, hT2⟩ := hN2
  have HFD := Hid.mkR (findR h2 hk1.d1 nm hk1.see (by have := hk1.ps.dl; omega))
  rw [hLf] at HFD
  clear hLf
  have HD2 : Hid (DoAt (rdT gp B blk) w gp (actC 4 nm to at' m (vb)) k1 w2 B2 blk2 vF2 vD2 xs2 dv2 sv2 tv2) := ⟨h2, fun g e => (hT2 g e).1, hC2, hS2, fun g e => (hT2 g e).2⟩
  have z0 := HD2.out.s 0 _ rfl
  have z1 := HD2.out.s 1 _ rfl
  clear h2 hT2 hC2 hS2 hR2 HBU1
  go_wp2_with fail
  refine HFD.out.mono ?_
  rintro e w3 ⟨rfl, nf, rfl⟩
  have HD3 := Hid.mkR (HD2.out.drew nf)
  clear HFD HD2 z0 z1
  generalize w2.drewN nf = w3 at *
  have z0 := HD3.out.s 0 _ rfl
  have z1 := HD3.out.s 1 _ rfl
  have h1f := hk1.ps.one f hf1
  have h2f := (hk1.ps.gl f hf1).2
  obtain ⟨aB, cB, rB, hoB, hrB, hBy, eB⟩ := bytesG HD3.out.r hf1 h1f (by have := hk1.ps.fl; omega) (by omega)
  have HBY : Hid (Calls Tryz.prog 55 #[.pointer (some ⟨gp, 0, none⟩), .int .i64 f] w3 fun e w' => e = .returned (.slice aB (k1.ps.now f).length cB) ∧ ∃ m, w' = w3.drewN m) := hBy 0
  have HEB := Hid.mkR eB
  have HOB := Hid.mkR hoB
  clear hBy eB hoB hrB
  generalize hLN : (k1.ps.now f).length = LN at *
  clear hLN
  go_wp2_with fail
  refine HBY.out.mono ?_
  rintro e w4 ⟨rfl, n4, rfl⟩
  have HD4 := Hid.mkR (HD3.out.drew n4)
  clear HBY HD3 HOB z0 z1
  generalize w3.drewN n4 = w4 at *
  have z0 := HD4.out.s 0 _ rfl
  have hfx : f < xs2.length := by rw [HD4.out.r.fl]; exact hf1
  obtain ⟨gF, capF, hrF, eF, d0, d1, y0, y1⟩ := HD4.out.r.F.full hfx
  have k0 := (rcells HD4.out.r.cells).1.1
  rw [eF] at k0
  have hfi : (f : Int) < (xs2.length : Int) := by omega
  have hf0 : (0 : Int) ≤ (f : Int) := by omega
  have hgFl := HD4.out.r.blt 0 gF hrF
  have HE : Hid (RtP gp (rdo4 k1 f) (rdT gp B blk) w (((w4.alloc (.cells #[.slice aB LN cB] 34)).alloc (.cells #[.int .i64 (-1)] 3)).setCells gF (f * 2) [.slice (some ⟨w4.heap.size, 0, none⟩) 1 1, .slice (some ⟨w4.heap.size + 1, 0, none⟩) 1 1])) := HD4.out.fin (HD4.out.r.syncF HD4.out.t hfx h1f hrF 34 3 _ HEB.out.symm)
  obtain ⟨u1, hu1⟩ : ∃ u1, w4.alloc (.cells #[.slice aB LN cB] 34) = u1 := ⟨_, rfl⟩
  have hbu1 : Below w4.heap.size w4 u1 := by rw [← hu1]; exact (Below.refl _ _).alloc (Nat.le_refl _) _
  have hsu1 : u1.heap.size = w4.heap.size + 1 := by rw [← hu1]; simp
  obtain ⟨u2, hu2⟩ : ∃ u2, u1.alloc (.cells #[.int .i64 (-1)] 3) = u2 := ⟨_, rfl⟩
  have hbu2 : Below u1.heap.size u1 u2 := by rw [← hu2]; exact (Below.refl _ _).alloc (Nat.le_refl _) _
  have hbu : Below w4.heap.size w4 u2 := hbu1.trans (hbu2.mono hbu1.size)
  rw [hu1, hu2] at HE
  have q0 : (u2.cell? ⟨gF, f * 2, none⟩) = some (xs2.getD f Ino.zero).st := (hbu.cell (p := ⟨gF, f * 2, none⟩) hgFl).trans d0
  have q1 : (u2.cell? ⟨gF, f * 2 + 1, none⟩) = some (xs2.getD f Ino.zero).mo := (hbu.cell (p := ⟨gF, f * 2 + 1, none⟩) hgFl).trans d1
  have r0 : u2.frozen? ⟨gF, f * 2, none⟩ = false := (hbu.frozen (p := ⟨gF, f * 2, none⟩) hgFl).trans y0
  have r1 : u2.frozen? ⟨gF, f * 2 + 1, none⟩ = false := (hbu.frozen (p := ⟨gF, f * 2 + 1, none⟩) hgFl).trans y1
  have HE2 : Hid (RtP gp (rdo4 k1 f) (rdT gp B blk) w ((u2.setCell ⟨gF, f * 2, none⟩ (.slice (some ⟨w4.heap.size, 0, none⟩) 1 1)).setCell ⟨gF, f * 2 + 1, none⟩ (.slice (some ⟨w4.heap.size + 1, 0, none⟩) 1 1))) := HE.out
  clear HEB HD4 hbu1 hbu2 hbu d0 d1 y0 y1 eF HE
  go_wp2
  go_ret
  exact ⟨rfl, HE2.out⟩
end Go.Proofs.YthcnhjmkcekdaaaGreat
