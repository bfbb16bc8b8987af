import Derived.Test.YtgpmhflndcppeaaQp19
import Derived.Deep.RegionLaw
/-! The law on the past: a file more, its numbers. -/
namespace Go.Proofs.Ytgpmhflndcppeaa
open Go.RowKit Go.Maps Plain
set_option linter.unusedVariables false
set_option linter.unusedSimpArgs false

theorem PaM.moreF {w u w7 : World} {gp : Nat} {p : Ps} {B : Nat → Prop} {vF vG vD x v7 : Value} {rF rG rD q : Option Nat} {fv gv dv : List Value} {rf rg : Nat → Option Nat} {sv tv : Nat → List Value} {g7 : Nat} {T : Nat → Prop} (h : PaM w gp p B vF vG vD rF rG rD fv gv dv rf rg sv tv) (hT : ∀ g, paT gp p B rF rG rD rf rg g → T g)
    (hb : Below w.heap.size w u) (hx : OwnV u x [.slice none 0 0] q) (hq : ∀ g, q = some g → w.heap.size ≤ g) (ho7 : OwnV w7 v7 (fv ++ [x]) (some g7)) (hg7 : u.grownBy w7 rF) (hr7 : some g7 = rF ∨ g7 = u.heap.size) :
    (PaAt (w7.setCell ⟨gp, 0, none⟩ v7) gp ⟨p.files ++ [[[]]], p.grown, p.dirs⟩ (Ext T w (w7.setCell ⟨gp, 0, none⟩ v7)) ∧ Chg T w (w7.setCell ⟨gp, 0, none⟩ v7)) ∧ w7.cell? ⟨gp, 0, none⟩ = some vF ∧ w7.frozen? ⟨gp, 0, none⟩ = false := by
  obtain ⟨w', e⟩ : ∃ w', w7.setCell ⟨gp, 0, none⟩ v7 = w' := ⟨_, rfl⟩
  rw [e]
  have hg' : w7.grownBy w' (some gp) := by rw [← e]; exact grow_setCells w7 gp 0 [v7]
  have hgpl : gp < w.heap.size := cell_lt h.c0
  have hsu := hb.size
  have hs7 := hg7.size
  have hrl : ∀ g, rF = some g → g < w.heap.size := h.F.out.rlt
  have hu : Chg (fun g => rF = some g) w w7 := (Chg.ofBelow hb).grown hg7 (fun g e => .inl e)
  have hgpu : w7.heap[gp]? = w.heap[gp]? := hu.block gp hgpl (fun e2 => (h.s1 gp (.inl e2)).1 rfl)
  have hcu : ∀ j, w7.cell? ⟨gp, j, none⟩ = w.cell? ⟨gp, j, none⟩ := fun j => World.cell?_of_block (w := w) (a := ⟨gp, j, none⟩) hgpu
  have hnr : g7 ≠ gp := fun e2 => by
    rcases hr7 with e3 | e3
    · exact (h.s1 g7 (.inl e3.symm)).1 e2
    · omega
  have hqg : ∀ g, q = some g → g < u.heap.size := hx.rlt
  have hx7 : OwnV w7 x [.slice none 0 0] q := hx.of_block hs7 (fun g e2 => hg7.block g (hqg g e2) (fun e3 => by have := hrl g e3.symm; have := hq g e2; omega))
  have hc : Chg (fun g => g = gp ∨ rF = some g) w w' := (hu.mono (fun g e2 => .inr e2)).grown hg' (fun g e2 => .inl (.inl (by cases e2; rfl)))
  have hc2 : Chg T w w' := hc.mono (fun g e2 => hT g (e2.elim (fun e3 => .inl e3) (fun e3 => .inr (.inl (.inl e3)))))
  have hr' : some g7 = rF ∨ ∀ g, some g7 = some g → w.heap.size ≤ g := hr7.imp id fun e2 g e3 => by cases e3; omega
  have hP := h.pushF (v' := v7) (r' := some g7) (x := x) (q := q) (us := [.slice none 0 0]) (ys := [[]]) (B' := B) hc
    (by rw [← e]; exact World.cell?_setCell_same' _ _ _ (by rw [hcu, h.c0]; rfl))
    (by rw [← e, World.cell?_setCell_other _ _ _ _ (by intro e2; injection e2; omega), hcu]; exact h.c1)
    (by rw [← e, World.cell?_setCell_other _ _ _ _ (by intro e2; injection e2; omega), hcu]; exact h.c2)
    (fun j => by rw [← e, World.frozen?_setCell, World.frozen?_of_block (w := w) (a := ⟨gp, j, none⟩) hgpu]; exact h.fz j)
    (ho7.kept hg' (.inr (by simpa using hnr))) hr' (hx7.kept hg' (.inr (fun e2 => by have := hq gp e2; omega)))
    (fun g e2 => ⟨hq g e2, fun e3 => by
      have h9 := hqg g e2
      cases e3
      rcases hr7 with e4 | e4
      · have := hrl g7 e4.symm; have := hq g7 e2; omega
      · omega⟩) rfl (NewB.refl h.b hc.size) (fun j hj => by
      have : j = 0 := by simp at hj; omega
      subst this
      exact ⟨none, ⟨by simp, .inl ⟨rfl, rfl, rfl⟩⟩, by simp⟩) (fun g e2 e3 e4 => by have := h.b g e4; omega)
  refine ⟨⟨⟨B, _, _, _, _, _, _, _, _, _, _, _, _, _, hP, fun g hg2 => ?_⟩, hc2⟩, (hcu 0).trans h.c0, (World.frozen?_of_block (w := w) (a := ⟨gp, 0, none⟩) hgpu).trans (h.fz 0)⟩
  have hlt := hP.lt g hg2
  rcases hg2 with e2 | (e2 | ⟨n, hn2, e2⟩) | e2 | e2 | e2
  · exact .inl (hT g (.inl e2))
  · rcases hr' with e3 | e3
    · exact .inl (hT g (.inr (.inl (.inl (by rw [← e3]; exact e2)))))
    · exact .inr ⟨e3 g e2, hlt⟩
  · by_cases e3 : n = p.files.length
    · simp only [if_pos e3] at e2; exact .inr ⟨hq g e2, hlt⟩
    · simp only [if_neg e3] at e2; exact .inl (hT g (.inr (.inl (.inr ⟨n, by simp at hn2; omega, e2⟩))))
  · exact .inl (hT g (.inr (.inr (.inl e2))))
  · exact .inl (hT g (.inr (.inr (.inr (.inl e2)))))
  · exact .inl (hT g (.inr (.inr (.inr (.inr e2)))))
theorem PaM.moreG {w u w7 : World} {gp : Nat} {p : Ps} {B : Nat → Prop} {vF vG vD x v7 : Value} {rF rG rD q : Option Nat} {fv gv dv : List Value} {rf rg : Nat → Option Nat} {sv tv : Nat → List Value} {g7 : Nat} {T : Nat → Prop} (h : PaM w gp p B vF vG vD rF rG rD fv gv dv rf rg sv tv) (hT : ∀ g, paT gp p B rF rG rD rf rg g → T g)
    (hb : Below w.heap.size w u) (hx : OwnV u x [.int .i64 (-1)] q) (hq : ∀ g, q = some g → w.heap.size ≤ g) (ho7 : OwnV w7 v7 (gv ++ [x]) (some g7)) (hg7 : u.grownBy w7 rG) (hr7 : some g7 = rG ∨ g7 = u.heap.size) :
    (PaAt (w7.setCell ⟨gp, 1, none⟩ v7) gp ⟨p.files, p.grown ++ [[-1]], p.dirs⟩ (Ext T w (w7.setCell ⟨gp, 1, none⟩ v7)) ∧ Chg T w (w7.setCell ⟨gp, 1, none⟩ v7)) ∧ w7.cell? ⟨gp, 1, none⟩ = some vG ∧ w7.frozen? ⟨gp, 1, none⟩ = false := by
  obtain ⟨w', e⟩ : ∃ w', w7.setCell ⟨gp, 1, none⟩ v7 = w' := ⟨_, rfl⟩
  rw [e]
  have hg' : w7.grownBy w' (some gp) := by rw [← e]; exact grow_setCells w7 gp 1 [v7]
  have hgpl : gp < w.heap.size := cell_lt h.c0
  have hsu := hb.size
  have hs7 := hg7.size
  have hrl : ∀ g, rG = some g → g < w.heap.size := h.G.out.rlt
  have hu : Chg (fun g => rG = some g) w w7 := (Chg.ofBelow hb).grown hg7 (fun g e => .inl e)
  have hgpu : w7.heap[gp]? = w.heap[gp]? := hu.block gp hgpl (fun e2 => (h.s2 gp (.inl e2)).1 rfl)
  have hcu : ∀ j, w7.cell? ⟨gp, j, none⟩ = w.cell? ⟨gp, j, none⟩ := fun j => World.cell?_of_block (w := w) (a := ⟨gp, j, none⟩) hgpu
  have hnr : g7 ≠ gp := fun e2 => by
    rcases hr7 with e3 | e3
    · exact (h.s2 g7 (.inl e3.symm)).1 e2
    · omega
  have hqg : ∀ g, q = some g → g < u.heap.size := hx.rlt
  have hx7 : OwnV w7 x [.int .i64 (-1)] q := hx.of_block hs7 (fun g e2 => hg7.block g (hqg g e2) (fun e3 => by have := hrl g e3.symm; have := hq g e2; omega))
  have hc : Chg (fun g => g = gp ∨ rG = some g) w w' := (hu.mono (fun g e2 => .inr e2)).grown hg' (fun g e2 => .inl (.inl (by cases e2; rfl)))
  have hc2 : Chg T w w' := hc.mono (fun g e2 => hT g (e2.elim (fun e3 => .inl e3) (fun e3 => .inr (.inr (.inl (.inl e3))))))
  have hr' : some g7 = rG ∨ ∀ g, some g7 = some g → w.heap.size ≤ g := hr7.imp id fun e2 g e3 => by cases e3; omega
  have hP := h.pushG (v' := v7) (r' := some g7) (x := x) (q := q) (us := [.int .i64 (-1)]) (ys := [-1]) hc
    (by rw [← e, World.cell?_setCell_other _ _ _ _ (by intro e2; injection e2; omega), hcu]; exact h.c0)
    (by rw [← e]; exact World.cell?_setCell_same' _ _ _ (by rw [hcu, h.c1]; rfl))
    (by rw [← e, World.cell?_setCell_other _ _ _ _ (by intro e2; injection e2; omega), hcu]; exact h.c2)
    (fun j => by rw [← e, World.frozen?_setCell, World.frozen?_of_block (w := w) (a := ⟨gp, j, none⟩) hgpu]; exact h.fz j)
    (ho7.kept hg' (.inr (by simpa using hnr))) hr' (hx7.kept hg' (.inr (fun e2 => by have := hq gp e2; omega)))
    (fun g e2 => ⟨hq g e2, fun e3 => by
      have h9 := hqg g e2
      cases e3
      rcases hr7 with e4 | e4
      · have := hrl g7 e4.symm; have := hq g7 e2; omega
      · omega⟩) rfl (fun j hj => by
      have : j = 0 := by simp at hj; omega
      subst this
      exact ⟨rfl, by constructor <;> decide⟩)
  refine ⟨⟨⟨B, _, _, _, _, _, _, _, _, _, _, _, _, _, hP, fun g hg2 => ?_⟩, hc2⟩, (hcu 1).trans h.c1, (World.frozen?_of_block (w := w) (a := ⟨gp, 1, none⟩) hgpu).trans (h.fz 1)⟩
  have hlt := hP.lt g hg2
  rcases hg2 with e2 | e2 | (e2 | ⟨n, hn2, e2⟩) | e2 | e2
  · exact .inl (hT g (.inl e2))
  · exact .inl (hT g (.inr (.inl e2)))
  · rcases hr' with e3 | e3
    · exact .inl (hT g (.inr (.inr (.inl (.inl (by rw [← e3]; exact e2))))))
    · exact .inr ⟨e3 g e2, hlt⟩
  · by_cases e3 : n = p.grown.length
    · simp only [if_pos e3] at e2; exact .inr ⟨hq g e2, hlt⟩
    · simp only [if_neg e3] at e2; exact .inl (hT g (.inr (.inr (.inl (.inr ⟨n, by simp at hn2; omega, e2⟩)))))
  · exact .inl (hT g (.inr (.inr (.inr (.inl e2)))))
  · exact .inl (hT g (.inr (.inr (.inr (.inr e2)))))
theorem src_nwAt (u : World) (b : Nat) (x : Nw) (h0 : u.cell? ⟨b, 0, none⟩ = some (.string x.text)) (h1 : u.cell? ⟨b, 1, none⟩ = some (.int .i64 x.file)) : Src Try.prog 2 54 (.slice (some ⟨b, 0, none⟩) 1 1) [x].length (nwcells [x]) u :=
  Src.ofSlice _ Try.underlying54 _ 1 1 _ (by rfl) (fun j v hj => by
    rw [WideShapes.add_plain, Nat.zero_add]
    rcases j with _ | _ | j
    · rw [h0, ← hj]; simp [nwcells, Nw.cells]
    · rw [h1, ← hj]; simp [nwcells, Nw.cells]
    · simp [nwcells, Nw.cells] at hj) (fun v hv => by
    simp [nwcells, Nw.cells] at hv
    rcases hv with rfl | rfl <;> rfl)
theorem step_append_nw {ops : Array Oper} {o : Oper} {a : Act} {w : World} {K : Act → World → Prop} {Q : Exit → Act → World → Prop} {E : Prop}
    (hg : o.guard = none) (s x : Operand) (hop : o.op = Op.call { callee := Callee.builtin Builtin.append, args := #[s, x], argTypes := #[54, 54] }) (v xv : Value) (ts ks : List Nw) (r : Option Nat)
    (hs : a.eval s = v) (hx : a.eval x = xv) (hown : OwnNw w v ts r) (hsrc : Src Try.prog 2 54 xv ks.length (nwcells ks) w) (hlen : ts.length + ks.length ≤ 2199023255552) (hr0 : r ≠ none ∨ 0 < ks.length)
    (hK : ∀ v' w' g, OwnNw w' v' (ts ++ ks) (some g) → w.grownBy w' r → (some g = r ∨ g = w.heap.size) → K (a.put o.dst v') w') :
    if Region.wanted o (yielded ops a.tmps) = true then Oper.wp Try.prog o a w K Q else E := by
  have hw : Region.wanted o (yielded ops a.tmps) = true := by simp [Region.wanted, hg]
  rw [if_pos hw]
  obtain ⟨v', w', g, hrun, h1, h2, h3⟩ := run_append_nw w o.type v xv ts ks r hown hsrc hlen hr0
  unfold Oper.wp
  simp [execOp, hop, resolve, invoke, builtin, hs, hx, hrun, Result.andThen]
  exact hK v' w' g h1 h2 h3
theorem nwOf_str (nm : ByteArray) (n : Nat) : nwOf (nm.data.toList, n) = ⟨nm, n⟩ := by
  unfold nwOf str
  simp
theorem OwnV.lat {w w' : World} {v : Value} {vs : List Value} {r : Option Nat} (h : OwnV w v vs r) (hb : Below w.heap.size w w') : OwnV w' v vs r := h.of_block hb.size (fun g e => hb.block g (h.rlt g e))
end Go.Proofs.Ytgpmhflndcppeaa
