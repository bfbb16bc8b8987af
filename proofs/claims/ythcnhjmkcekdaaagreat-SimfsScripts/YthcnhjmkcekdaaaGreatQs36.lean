import Derived.Test.YthcnhjmkcekdaaaGreatQs28
import Derived.Test.YthcnhjmkcekdaaaGreatQs35
import Derived.Test.YthcnhjmkcekdaaaGreatQs31
namespace Go.Proofs.YthcnhjmkcekdaaaGreat
open Go.RowKit Go.Maps Plain
set_option linter.unusedVariables false
set_option linter.unusedSimpArgs false
/-- A new disk. -/
def rk0 (q : Int) : Rk := ⟨⟨[], [], [[]]⟩, q, -1, false, 0⟩
theorem RdM.zero {w u1 u2 : World} {t : TypeId} (q : Int) (e1 : w.alloc (.cells #[.slice none 0 0] t) = u1) (e2 : u1.alloc (.cells #[.slice none 0 0, .slice (some ⟨w.heap.size, 0, none⟩) 1 1, .int .i64 q, .int .i64 (-1), .bool false, .int .i64 0] 51) = u2) :
    RdM u2 (w.heap.size + 1) (rk0 q) (fun _ => False) (fun i => if i = 1 then some w.heap.size else none) (.slice none 0 0) (.slice (some ⟨w.heap.size, 0, none⟩) 1 1) [] [.slice none 0 0] (fun _ => []) (fun _ => []) := by
  have hs1 : u1.heap.size = w.heap.size + 1 := by rw [← e1]; simp
  have hs2 : u2.heap.size = u1.heap.size + 1 := by rw [← e2]; simp
  have hb2 : Below u1.heap.size u1 u2 := by rw [← e2]; exact (Below.refl _ _).alloc (Nat.le_refl _) _
  have ho1 : OwnV u1 (.slice (some ⟨w.heap.size, 0, none⟩) 1 1) [.slice none 0 0] (some w.heap.size) := by rw [← e1]; exact OwnV.one w _ t
  have hv : ∀ i g, (if i = 1 then some w.heap.size else none) = some g → i = 1 ∧ g = w.heap.size := fun i g e => by
    by_cases h : i = 1
    · rw [if_pos h] at e; exact ⟨h, (Option.some.inj e).symm⟩
    · rw [if_neg h] at e; cases e
  refine ⟨?_, .inl ⟨rfl, rfl, rfl⟩, ho1.of_block (by omega) (fun g e => hb2.block g (by have := (hv 1 g e).2; omega)), rfl, rfl, rfl, fun n hn => absurd hn (by simp), fun n hn => absurd hn (by simp), fun n hn => absurd hn (by simp), fun n hn => absurd hn (by simp), fun n hn => absurd hn (by simp), fun n hn => absurd hn (by simp), fun j hj => ?_, fun i j g e1 e2 => ?_, fun i g e => ⟨?_, fun e => e⟩, fun n hn => ⟨?_, ?_⟩, fun e => e, fun g e => e.elim⟩
  · rw [← e2, ← hs1]; show (u1.heap.push _)[u1.heap.size]? = _; simp [rk0]
  · have : j = 0 := by simpa using hj
    subst this
    exact ⟨none, .inl ⟨rfl, rfl, rfl⟩, by simp⟩
  · rw [(hv i g e1).1, (hv j g e2).1]
  · have := (hv i g e).2; omega
  · exact if_neg (by omega)
  · exact if_neg (by omega)
theorem rk0_blocks {w : World} {g : Nat} (h : rdT (w.heap.size + 1) (fun _ => False) (fun i => if i = 1 then some w.heap.size else none) g) : w.heap.size ≤ g := by
  rcases h with e | ⟨i, e⟩ | e
  · omega
  · dsimp only at e
    by_cases h : i = 1
    · rw [if_pos h] at e; have := Option.some.inj e; omega
    · rw [if_neg h] at e; cases e
  · exact e.elim
/-- A disk of its own, behind w. -/
def RdNew (w : World) (gp : Nat) (k : Rk) (w' : World) : Prop := RdAt w' gp k (fun g => w.heap.size ≤ g) ∧ Below w.heap.size w w'
set_option maxHeartbeats 4000000 in
set_option maxRecDepth 1000000 in
theorem rnewOf (q : Int) (hq : qB q = true) (w : World) : Calls Tryz.prog 6 #[.int .i64 q] w fun e w' => ∃ gp B blk vF vD xs dv sv tv, e = .returned (.tuple #[.pointer (some ⟨gp, 0, none⟩), .int .i64 0]) ∧ RdM w' gp (rk0 q) B blk vF vD xs dv sv tv ∧ (∀ g, rdT gp B blk g → w.heap.size ≤ g) ∧ Below w.heap.size w w' := by
  have hq' : 0 ≤ q ∧ q ≤ 1073741824 := by simpa [qB] using hq
  obtain ⟨h1, h2⟩ := hq'
  have hn1 : ¬ q < 0 := by omega
  have hn2 : ¬ 1073741824 < q := by omega
  have HF : Hid (∀ t, ∃ gp B blk vF vD xs dv sv tv, Ending.returned (.tuple #[.pointer (some ⟨w.heap.size + 1, 0, none⟩), .int .i64 0]) = .returned (.tuple #[.pointer (some ⟨gp, 0, none⟩), .int .i64 0]) ∧ RdM ((w.alloc (.cells #[.slice none 0 0] t)).alloc (.cells #[.slice none 0 0, .slice (some ⟨w.heap.size, 0, none⟩) 1 1, .int .i64 q, .int .i64 (-1), .bool false, .int .i64 0] 51)) gp (rk0 q) B blk vF vD xs dv sv tv ∧ (∀ g, rdT gp B blk g → w.heap.size ≤ g) ∧ Below w.heap.size w ((w.alloc (.cells #[.slice none 0 0] t)).alloc (.cells #[.slice none 0 0, .slice (some ⟨w.heap.size, 0, none⟩) 1 1, .int .i64 q, .int .i64 (-1), .bool false, .int .i64 0] 51))) := fun t =>
    ⟨_, _, _, _, _, _, _, _, _, rfl, RdM.zero q rfl rfl, fun g e => rk0_blocks e, (((Below.refl _ _).alloc (Nat.le_refl _) _).alloc (by simp) _)⟩
  clear hq h1 h2
  go_enter Tryz.func6, Tryz.ntmps6
  go_wp2
  go_ret2
  simpa using HF.out _
set_option maxHeartbeats 4000000 in
set_option maxRecDepth 1000000 in
theorem rnewBad (q : Int) (hq : qB q = false) (w : World) : Calls Tryz.prog 6 #[.int .i64 q] w fun e w' => e = .returned (.tuple #[.pointer none, .int .i64 3]) ∧ Below w.heap.size w w' := by
  have hb := Hid.mkR (Below.refl w.heap.size w)
  by_cases hn1 : q < 0
  · clear hq
    go_enter Tryz.func6, Tryz.ntmps6
    go_wp2
    go_ret2
    exact ⟨rfl, hb.out⟩
  · have hn2 : 1073741824 < q := by
      rcases Int.lt_or_le 1073741824 q with h | h
      · exact h
      · have : qB q = true := by simp [qB]; omega
        rw [this] at hq; cases hq
    clear hq
    go_enter Tryz.func6, Tryz.ntmps6
    go_wp2
    go_ret2
    exact ⟨rfl, hb.out⟩
/-- A file more that has bytes, in memory. -/
theorem RdM.newFb {w u0 u1 u2 u3 w7 : World} {gp : Nat} {k : Rk} {B : Nat → Prop} {blk : Nat → Option Nat} {vF vD v7 : Value} {xs : List Ino} {dv : List Value} {sv tv : Nat → List Value} {T : Nat → Prop} {g7 : Nat} {o : Obj} {vb : Value} {y : List Nat} {rb : Option Nat} {t1 t2 : TypeId} (h : RdM w gp k B blk vF vD xs dv sv tv) (hT : ∀ g, rdT gp B blk g → T g)
    (hb0 : Below w.heap.size w u0) (ho0 : Own u0 vb y rb) (hrb : ∀ g, rb = some g → w.heap.size ≤ g) (e1 : u0.alloc (.cells #[vb] t1) = u1) (e2 : u1.alloc (.cells #[.int .i64 (-1)] t2) = u2) (e3 : u2.alloc o = u3) (ho7 : OwnIno w7 v7 (xs ++ [⟨.slice (some ⟨u0.heap.size, 0, none⟩) 1 1, .slice (some ⟨u0.heap.size + 1, 0, none⟩) 1 1⟩]) (some g7)) (hg7 : u3.grownBy w7 (blk 0)) (hr7 : some g7 = blk 0 ∨ g7 = u3.heap.size) :
    RtP gp ⟨⟨k.ps.files ++ [[y]], k.ps.grown ++ [[-1]], k.ps.dirs⟩, k.most, k.left, k.off, k.done⟩ T w (w7.setCell ⟨gp, 0, none⟩ v7) ∧ w7.cell? ⟨gp, 0, none⟩ = some vF ∧ w7.frozen? ⟨gp, 0, none⟩ = false ∧ ∃ B' blk' xs' sv' tv', RdM (w7.setCell ⟨gp, 0, none⟩ v7) gp ⟨⟨k.ps.files ++ [[y]], k.ps.grown ++ [[-1]], k.ps.dirs⟩, k.most, k.left, k.off, k.done⟩ B' blk' v7 vD xs' dv sv' tv' ∧ (∀ g, rdT gp B' blk' g → rdT gp B blk g ∨ w.heap.size ≤ g) ∧ Chg (fun g => g = gp ∨ blk 0 = some g) w (w7.setCell ⟨gp, 0, none⟩ v7) ∧ xs'.length = xs.length + 1 := by
  have hgpl := h.gpl
  have hb01 : Below u0.heap.size u0 u1 := by rw [← e1]; exact (Below.refl _ _).alloc (Nat.le_refl _) _
  have hb1 : Below w.heap.size w u1 := hb0.trans (hb01.mono hb0.size)
  have hs0 := hb0.size
  have ho1 : OwnV u1 (.slice (some ⟨u0.heap.size, 0, none⟩) 1 1) [vb] (some u0.heap.size) := by rw [← e1]; exact OwnV.one u0 _ t1
  have hs1 : u1.heap.size = u0.heap.size + 1 := by rw [← e1]; simp
  have hb2 : Below u1.heap.size u1 u2 := by rw [← e2]; exact (Below.refl _ _).alloc (Nat.le_refl _) _
  have ho2 : OwnV u2 (.slice (some ⟨u0.heap.size + 1, 0, none⟩) 1 1) [.int .i64 (-1)] (some (u0.heap.size + 1)) := by rw [← e2, ← hs1]; exact OwnV.one u1 _ t2
  have hs2 : u2.heap.size = u1.heap.size + 1 := by rw [← e2]; simp
  have hb3 : Below u2.heap.size u2 u3 := by rw [← e3]; exact (Below.refl _ _).alloc (Nat.le_refl _) _
  have hs3 : u3.heap.size = u2.heap.size + 1 := by rw [← e3]; simp
  have hb : Below w.heap.size w u3 := hb1.trans ((hb2.trans (hb3.mono hb2.size)).mono hb1.size)
  have hs7 := hg7.size
  have hlt := h.blt
  have hu : Chg (fun g => blk 0 = some g) w w7 := (Chg.ofBelow hb).grown hg7 (fun g e => .inl e)
  have hgp7 : w7.heap[gp]? = w.heap[gp]? := hu.block gp hgpl (fun e => (h.me 0 gp e).1 rfl)
  obtain ⟨⟨c0, -⟩, f0, -⟩ := rcells (hgp7.trans h.cells)
  have hgs := grow_set w7 gp 0 v7
  have hsz : (w7.setCell ⟨gp, 0, none⟩ v7).heap.size = w7.heap.size := setCells_size gp [v7] 0 w7
  have hc8 : Chg (fun g => g = gp ∨ blk 0 = some g) w (w7.setCell ⟨gp, 0, none⟩ v7) := (hu.mono (fun g e => .inr e)).grown hgs (fun g e => .inl (.inl (by cases e; rfl)))
  have hg7c : g7 < w.heap.size ∨ g7 = u0.heap.size + 3 := by
    rcases hr7 with e | e
    · exact .inl (hlt 0 g7 e.symm)
    · exact .inr (by omega)
  have hkeep : ∀ g, g < u3.heap.size → w.heap.size ≤ g → (w7.setCell ⟨gp, 0, none⟩ v7).heap[g]? = u3.heap[g]? := fun g hg hge => (hgs.block g (by omega) (fun e => by have := Option.some.inj e; omega)).trans (hg7.block g hg (fun e => by have := hlt 0 g e.symm; omega))
  have hg7gp : g7 ≠ gp := fun e => by
    rcases hr7 with e3 | e3
    · exact (h.me 0 g7 e3.symm).1 e
    · omega
  have hQ := (h.push (y := ⟨.slice (some ⟨u0.heap.size, 0, none⟩) 1 1, .slice (some ⟨u0.heap.size + 1, 0, none⟩) 1 1⟩) (us := [vb]) (zs := [.int .i64 (-1)]) (r' := some g7) (q := some u0.heap.size) (p := some (u0.heap.size + 1)) (ys := [y]) (is := [-1]) (B' := fun g => B g ∨ rb = some g) hc8 (rset (hgp7.trans h.cells) 0 v7) (ho7.of_block hgs.size (fun g e => hgs.block g (by cases e; exact ho7.lt) (fun e2 => by cases e; exact hg7gp (Option.some.inj e2)))) (hr7.elim (fun e => .inl e) (fun e => .inr fun g e2 => by cases e2; omega)) (ho1.of_block (by omega) (fun g e => (hkeep g (by cases e; omega) (by cases e; omega)).trans ((hb3.block g (by cases e; omega)).trans (hb2.block g (by cases e; omega))))) (fun g e => by cases e; exact ⟨hs0, fun e2 => by have := Option.some.inj e2; omega⟩) (ho2.of_block (by omega) (fun g e => (hkeep g (by cases e; omega) (by cases e; omega)).trans (hb3.block g (by cases e; omega)))) (fun g e => by cases e; exact ⟨by omega, fun e2 => by have := Option.some.inj e2; omega⟩) (fun g e e2 => by cases e; have := Option.some.inj e2; omega) rfl rfl ⟨fun g e => .inl e, fun g e => e.imp id (fun e2 => hrb g e2), fun g e => e.elim (fun e2 => Nat.lt_of_lt_of_le (h.b g e2) hc8.size) (fun e2 => by have := ho0.rlt g e2; omega)⟩ (fun j hj => by
    have : j = 0 := by simpa using hj
    subst this
    exact ⟨rb, ho0.of_block (by omega) (fun g e => (hkeep g (by have := ho0.rlt g e; omega) (hrb g e)).trans ((hb3.block g (by have := ho0.rlt g e; omega)).trans ((hb2.block g (by have := ho0.rlt g e; omega)).trans (hb01.block g (by have := ho0.rlt g e; omega))))), fun g e => .inr e⟩) (fun j hj => by
    have : j = 0 := by simpa using hj
    subst this
    exact ⟨rfl, (by unfold I64; decide : I64 (-1))⟩) (fun g hge e hB => by
    rcases hB with hB | hB
    · have := h.b g hB; omega
    · have h1 := ho0.rlt g hB
      rcases e with e | e | e
      · have := Option.some.inj e; omega
      · have := Option.some.inj e; omega
      · have := Option.some.inj e; omega))
  have hcl : ∀ i g, (if i = 0 then some g7 else if i = 2 * xs.length + 2 then some u0.heap.size else if i = 2 * xs.length + 3 then some (u0.heap.size + 1) else blk i) = some g → (∃ j, blk j = some g) ∨ w.heap.size ≤ g := fun i g e => by
    by_cases e0 : i = 0
    · rw [if_pos e0] at e
      cases e
      rcases hr7 with e3 | e3
      · exact .inl ⟨0, e3.symm⟩
      · exact .inr (by omega)
    · rw [if_neg e0] at e
      by_cases e1 : i = 2 * xs.length + 2
      · rw [if_pos e1] at e; cases e; exact .inr hs0
      · rw [if_neg e1] at e
        by_cases e2 : i = 2 * xs.length + 3
        · rw [if_pos e2] at e; cases e; exact .inr (by omega)
        · rw [if_neg e2] at e; exact .inl ⟨i, e⟩
  refine ⟨hQ.to (hc8.mono (fun g e => ?_)) (hT gp (.inl rfl)) (fun i g e => (hcl i g e).imp (fun e2 => hT g (.inr (.inl e2))) id) (fun g e => e.elim (fun e2 => .inl (hT g (.inr (.inr e2)))) (fun e2 => .inr (hrb g e2))), c0, f0, _, _, _, _, _, hQ, fun g e => ?_, hc8, by simp⟩
  · rcases e with e | e
    · rw [e]; exact hT gp (.inl rfl)
    · exact hT g (.inr (.inl ⟨0, e⟩))
  · rcases e with e | ⟨i, e⟩ | e
    · exact .inl (.inl e)
    · exact (hcl i g e).imp (fun e2 => .inr (.inl e2)) id
    · exact e.elim (fun e2 => .inl (.inr (.inr e2))) (fun e2 => .inr (hrb g e2))
end Go.Proofs.YthcnhjmkcekdaaaGreat

namespace Go.Proofs.YthcnhjmkcekdaaaGreat
open Go.RowKit Go.Maps Plain
set_option linter.unusedVariables false
set_option linter.unusedSimpArgs false
/-- More blocks of leaves. -/
theorem RdM.widen {w : World} {gp : Nat} {k : Rk} {B : Nat → Prop} {blk : Nat → Option Nat} {vF vD : Value} {xs : List Ino} {dv : List Value} {sv tv : Nat → List Value} (h : RdM w gp k B blk vF vD xs dv sv tv) {C : Nat → Prop} (hC : ∀ g, C g → g < w.heap.size ∧ ¬ rdT gp B blk g) : RdM w gp k (fun g => B g ∨ C g) blk vF vD xs dv sv tv :=
  ⟨h.cells, h.F, h.D, h.fl, h.gl, h.dl, h.S, h.G, h.sl, h.tl, fun n hn j hj => (h.sf n hn j hj).kept (Nat.le_refl _) (fun _ _ => rfl) (fun g e => .inl e), h.tf, fun j hj => (h.df j hj).kept (Nat.le_refl _) (fun _ _ => rfl) (fun g e => .inl e), h.sep, fun i g e => ⟨(h.me i g e).1, fun e2 => e2.elim (h.me i g e).2 (fun e3 => (hC g e3).2 (.inr (.inl ⟨i, e⟩)))⟩, h.out, fun e => e.elim h.nb (fun e2 => (hC gp e2).2 (.inl rfl)), fun g e => e.elim (h.b g) (fun e2 => (hC g e2).1)⟩
def dirI : List (Nm × List Nat) → Nat → List (Nm × Nat)
  | [], _ => []
  | x :: l, n => (x.1, n) :: dirI l (n + 1)
theorem dirI_snoc (x : Nm × List Nat) : ∀ (l : List (Nm × List Nat)) (n : Nat), dirI (l ++ [x]) n = dirI l n ++ [(x.1, n + l.length)]
  | [], n => rfl
  | y :: l, n => by rw [List.cons_append, dirI, dirI_snoc x l (n + 1), List.length_cons, dirI, List.cons_append, show n + 1 + l.length = n + (l.length + 1) by omega]
theorem dirI_len : ∀ (l : List (Nm × List Nat)) (n : Nat), (dirI l n).length = l.length
  | [], _ => rfl
  | x :: l, n => by rw [dirI, List.length_cons, dirI_len l, List.length_cons]
def rkL (q : Int) (im : List (Nm × List Nat)) : Rk := ⟨⟨im.map fun p => [p.2], im.map fun _ => [-1], [[]]⟩, q, -1, false, 0⟩
def rkB (q : Int) (im : List (Nm × List Nat)) : Rk := ⟨⟨im.map fun p => [p.2], im.map fun _ => [-1], [dirI im 0]⟩, q, -1, false, 0⟩
/-- Behind i files. -/
def LdR (w : World) (q : Int) (im : List (Nm × List Nat)) (gp : Nat) (v : Value) (u : World) : Prop := ∃ B blk vF vD xs dv sv tv r, RdM u gp (rkL q im) B blk vF vD xs dv sv tv ∧ (∀ g, rdT gp B blk g → w.heap.size ≤ g) ∧ OwnNw u v ((dirI im 0).map nwOf) r ∧ (∀ g, r = some g → w.heap.size ≤ g ∧ ¬ rdT gp B blk g) ∧ Below w.heap.size w u
theorem LdR.fin {w u u1 : World} {q : Int} {im : List (Nm × List Nat)} {gp : Nat} {v : Value} {t : TypeId} (h : LdR w q im gp v u) (e1 : u.alloc (.cells #[v] t) = u1) : u1.frozen? ⟨gp, 1, none⟩ = false ∧ (u1.cell? ⟨gp, 1, none⟩).isSome = true ∧ RdNew w gp (rkB q im) (u1.setCell ⟨gp, 1, none⟩ (.slice (some ⟨u.heap.size, 0, none⟩) 1 1)) := by
  obtain ⟨B, blk, vF, vD, xs, dv, sv, tv, r, hR, hT, hD, hr, hB⟩ := h
  have hb1 : Below u.heap.size u u1 := by rw [← e1]; exact (Below.refl _ _).alloc (Nat.le_refl _) _
  have hs1 : u1.heap.size = u.heap.size + 1 := by rw [← e1]; simp
  have ho1 : OwnV u1 (.slice (some ⟨u.heap.size, 0, none⟩) 1 1) [v] (some u.heap.size) := by rw [← e1]; exact OwnV.one u _ t
  have hgpl := hR.gpl
  have hW := hR.widen (C := fun g => r = some g) (fun g e => ⟨hD.rlt g e, (hr g e).2⟩)
  have hcl := (hb1.block gp hgpl).trans hR.cells
  have hgs := grow_set u1 gp 1 (.slice (some ⟨u.heap.size, 0, none⟩) 1 1)
  have hsz : (u1.setCell ⟨gp, 1, none⟩ (.slice (some ⟨u.heap.size, 0, none⟩) 1 1)).heap.size = u1.heap.size := setCells_size gp [_] 1 u1
  have hc : Chg (fun g => g = gp ∨ blk 1 = some g) u (u1.setCell ⟨gp, 1, none⟩ (.slice (some ⟨u.heap.size, 0, none⟩) 1 1)) := (Chg.ofBelow hb1).grown hgs (fun g e => .inl (.inl (by cases e; rfl)))
  have hgw : w.heap.size ≤ gp := hT gp (.inl rfl)
  refine ⟨(rcells hcl).2.2.1, by rw [(rcells hcl).1.2.1]; rfl, ?_, ?_⟩
  · refine ⟨_, _, _, _, _, _, _, _, hW.putD (ds := [dirI im 0]) (r' := some u.heap.size) hc (rset hcl 1 _) (ho1.of_block hgs.size (fun g e => hgs.block g (by cases e; omega) (fun e2 => by cases e; have := Option.some.inj e2; omega))) (.inr fun g e => by cases e; exact Nat.le_refl _) rfl (NewB.refl hW.b hc.size) (fun j hj => ?_) (fun g hge e hB2 => by have := hW.b g hB2; omega), fun g e => ?_⟩
    · have : j = 0 := by simpa using hj
      subst this
      exact ⟨r, hD.of_block hc.size (fun g e => hc.block g (hD.rlt g e) (fun e2 => (hr g e).2 (e2.elim (fun e3 => .inl e3) (fun e3 => .inr (.inl ⟨1, e3⟩))))), fun g e => .inr e⟩
    · rcases e with e | ⟨i, e⟩ | e | e
      · omega
      · dsimp only at e
        by_cases h1 : i = 1
        · rw [if_pos h1] at e; have := Option.some.inj e; have := hB.size; omega
        · rw [if_neg h1] at e; exact hT g (.inr (.inl ⟨i, e⟩))
      · exact hT g (.inr (.inr e))
      · exact (hr g e).1
  · have h2 : Below w.heap.size w u1 := hB.trans (hb1.mono hB.size)
    exact h2.grown hgs h2.size (fun g e => by cases e; exact hgw)
/-- A file more. -/
theorem LdR.more {w wr u0 u1 u2 u3 w7 w10 : World} {q : Int} {im : List (Nm × List Nat)} {gp : Nat} {v v7 vb v9 : Value} {B : Nat → Prop} {blk : Nat → Option Nat} {vF vD : Value} {xs : List Ino} {dv : List Value} {sv tv : Nat → List Value} {r rb : Option Nat} {nm : Nm} {y : List Nat} {g7 g9 : Nat} {o o2 : Obj} {t1 t2 : TypeId}
    (hR : RdM wr gp (rkL q im) B blk vF vD xs dv sv tv) (hT : ∀ g, rdT gp B blk g → w.heap.size ≤ g) (hD : OwnNw wr v ((dirI im 0).map nwOf) r) (hr : ∀ g, r = some g → w.heap.size ≤ g ∧ ¬ rdT gp B blk g) (hB : Below w.heap.size w wr)
    (hb0 : Below wr.heap.size wr u0) (ho0 : Own u0 vb y rb) (hrb : ∀ g, rb = some g → wr.heap.size ≤ g) (e1 : u0.alloc (.cells #[vb] t1) = u1) (e2 : u1.alloc (.cells #[.int .i64 (-1)] t2) = u2) (e3 : u2.alloc o = u3)
    (ho7 : OwnIno w7 v7 (xs ++ [⟨.slice (some ⟨u0.heap.size, 0, none⟩) 1 1, .slice (some ⟨u0.heap.size + 1, 0, none⟩) 1 1⟩]) (some g7)) (hg7 : u3.grownBy w7 (blk 0)) (hr7 : some g7 = blk 0 ∨ g7 = u3.heap.size) :
    (w7.cell? ⟨gp, 0, none⟩ = some vF ∧ w7.frozen? ⟨gp, 0, none⟩ = false) ∧ (∀ p x, wr.heap.size ≤ p → u0.cell? ⟨p, 0, none⟩ = some x → (w7.setCell ⟨gp, 0, none⟩ v7).cell? ⟨p, 0, none⟩ = some x) ∧ OwnNw (w7.setCell ⟨gp, 0, none⟩ v7) v ((dirI im 0).map nwOf) r ∧
      ∀ o2 v9 w9 g9, OwnNw w9 v9 ((dirI im 0).map nwOf ++ [nwOf (nm, im.length)]) (some g9) → ((w7.setCell ⟨gp, 0, none⟩ v7).alloc o2).grownBy w9 r → (some g9 = r ∨ g9 = ((w7.setCell ⟨gp, 0, none⟩ v7).alloc o2).heap.size) → LdR w q (im ++ [(nm, y)]) gp v9 w9 := by
  obtain ⟨-, c0, f0, B', blk', xs', sv', tv', hR8, hT8, hC8, -⟩ := hR.newFb (T := fun _ => True) (fun _ _ => trivial) hb0 ho0 hrb e1 e2 e3 ho7 hg7 hr7
  have hs0 := hb0.size
  have hb03 : Below u0.heap.size u0 u3 := by rw [← e3, ← e2, ← e1]; exact (((Below.refl _ _).alloc (Nat.le_refl _) _).alloc (by simp) _).alloc (by simp; omega) _
  have hgpl := hR.gpl
  have hD8 : OwnNw (w7.setCell ⟨gp, 0, none⟩ v7) v ((dirI im 0).map nwOf) r := hD.of_block hC8.size (fun g e => hC8.block g (hD.rlt g e) (fun e2 => (hr g e).2 (e2.elim (fun e3 => .inl e3) (fun e3 => .inr (.inl ⟨0, e3⟩)))))
  have hgs := grow_set w7 gp 0 v7
  refine ⟨⟨c0, f0⟩, fun p x hp hx => ?_, hD8, fun o2 v9 w9 g9 q1 q2 q3 => ?_⟩
  · have h1 := (hb03.cell (p := ⟨p, 0, none⟩) (cell_lt hx)).trans hx
    have h2 := hg7.cell (a := ⟨p, 0, none⟩) h1 (by show some p ≠ blk 0; intro e; have := hR.blt 0 p e.symm; omega)
    exact hgs.cell (a := ⟨p, 0, none⟩) h2 (by show some p ≠ some gp; intro e; have := Option.some.inj e; omega)
  · have hr8 : ∀ g, r = some g → ¬ rdT gp B' blk' g := fun g e e2 => (hT8 g e2).elim (hr g e).2 (fun e3 => by have := hD.rlt g e; omega)
    have hC := hC8.size
    generalize w7.setCell ⟨gp, 0, none⟩ v7 = w8 at *
    have hs8 : (w8.alloc o2).heap.size = w8.heap.size + 1 := by simp
    have hb8 : Below w8.heap.size w8 (w8.alloc o2) := (Below.refl _ _).alloc (Nat.le_refl _) _
    have hs9 := q2.size
    have hT8' : ∀ g, rdT gp B' blk' g → w.heap.size ≤ g := fun g e => (hT8 g e).elim (hT g) (fun e2 => Nat.le_trans hB.size e2)
    refine ⟨B', blk', v7, vD, xs', dv, sv', tv', some g9, ?_, hT8', ?_, fun g e => ?_, ?_⟩
    · have := hR8.kept (w' := w9) (by omega) (fun g e => (q2.block g (by have := hR8.lt g e; omega) (fun e2 => hr8 g e2.symm e)).trans (hb8.block g (hR8.lt g e)))
      have he : rkL q (im ++ [(nm, y)]) = ⟨⟨(rkL q im).ps.files ++ [[y]], (rkL q im).ps.grown ++ [[-1]], (rkL q im).ps.dirs⟩, (rkL q im).most, (rkL q im).left, (rkL q im).off, (rkL q im).done⟩ := by simp [rkL]
      rw [he]
      exact this
    · rw [dirI_snoc, List.map_append, Nat.zero_add]; exact q1
    · cases e
      rcases q3 with e3 | e3
      · exact ⟨(hr g9 e3.symm).1, hr8 g9 e3.symm⟩
      · exact ⟨by have := hB.size; omega, fun e4 => by have := hR8.lt g9 e4; omega⟩
    · have h8 : Below w.heap.size w w8 := by
        refine ⟨hC8.os.trans hB.os, hC8.tape.trans hB.tape, hC8.output.trans hB.output, by have := hB.size; omega, fun g hg => (hC8.block g (by have := hB.size; omega) (fun e => ?_)).trans (hB.block g hg)⟩
        have := hT g (e.elim (fun e3 => .inl e3) (fun e3 => .inr (.inl ⟨0, e3⟩)))
        omega
      have h9 : Below w.heap.size w (w8.alloc o2) := h8.trans (hb8.mono h8.size)
      exact h9.grown q2 h9.size (fun g e => (hr g e).1)
end Go.Proofs.YthcnhjmkcekdaaaGreat
