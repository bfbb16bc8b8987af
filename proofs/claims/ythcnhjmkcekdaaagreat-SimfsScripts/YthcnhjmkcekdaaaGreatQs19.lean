import Derived.Test.YthcnhjmkcekdaaaGreatQs18
namespace Go.Proofs.YthcnhjmkcekdaaaGreat
open Go.RowKit Go.Maps Plain
set_option linter.unusedVariables false
set_option linter.unusedSimpArgs false
/-- Bytes, numbers, names that nobody writes to any more. -/
def leafB (w : World) (B : Nat → Prop) (u : Value) (l : List Nat) : Prop := ∃ r, Own w u l r ∧ ∀ g, r = some g → B g
def leafI (u : Value) (z : Int) : Prop := u = .int .i64 z ∧ I64 z
def nwOf (x : Nm × Nat) : Nw := ⟨str x.1, x.2⟩
def leafN (w : World) (B : Nat → Prop) (u : Value) (l : List (Nm × Nat)) : Prop := ∃ r, OwnNw w u (l.map nwOf) r ∧ ∀ g, r = some g → B g
theorem leafB.kept {w w' : World} {B B' : Nat → Prop} {u : Value} {l : List Nat} (h : leafB w B u l) (hs : w.heap.size ≤ w'.heap.size) (hb : ∀ g, B g → w'.heap[g]? = w.heap[g]?) (hB : ∀ g, B g → B' g) : leafB w' B' u l := by
  obtain ⟨r, h1, h2⟩ := h
  exact ⟨r, h1.of_block hs (fun g e => hb g (h2 g e)), fun g e => hB g (h2 g e)⟩
theorem leafN.kept {w w' : World} {B B' : Nat → Prop} {u : Value} {l : List (Nm × Nat)} (h : leafN w B u l) (hs : w.heap.size ≤ w'.heap.size) (hb : ∀ g, B g → w'.heap[g]? = w.heap[g]?) (hB : ∀ g, B g → B' g) : leafN w' B' u l := by
  obtain ⟨r, h1, h2⟩ := h
  exact ⟨r, h1.of_block hs (fun g e => hb g (h2 g e)), fun g e => hB g (h2 g e)⟩
structure PaM (w : World) (gp : Nat) (p : Ps) (B : Nat → Prop) (vF vG vD : Value) (rF rG rD : Option Nat) (fv gv dv : List Value) (rf rg : Nat → Option Nat) (sv tv : Nat → List Value) : Prop where
  c0 : w.cell? ⟨gp, 0, none⟩ = some vF
  c1 : w.cell? ⟨gp, 1, none⟩ = some vG
  c2 : w.cell? ⟨gp, 2, none⟩ = some vD
  fz : ∀ j, w.frozen? ⟨gp, j, none⟩ = false
  F : RR [] w (leafB w B) vF p.files rF fv rf sv
  G : RR 0 w leafI vG p.grown rG gv rg tv
  D : OwnV w vD dv rD
  dl : dv.length = p.dirs.length
  dn : ∀ j, j < dv.length → leafN w B (dv.getD j undef) (p.dirs.getD j [])
  s1 : ∀ g, RRB p.files.length rF rf g → g ≠ gp ∧ ¬ RRB p.grown.length rG rg g ∧ rD ≠ some g ∧ ¬ B g
  s2 : ∀ g, RRB p.grown.length rG rg g → g ≠ gp ∧ rD ≠ some g ∧ ¬ B g
  s3 : ∀ g, rD = some g → g ≠ gp ∧ ¬ B g
  s4 : ¬ B gp
  b : ∀ g, B g → g < w.heap.size
/-- All its blocks. -/
def paT (gp : Nat) (p : Ps) (B : Nat → Prop) (rF rG rD : Option Nat) (rf rg : Nat → Option Nat) (g : Nat) : Prop := g = gp ∨ RRB p.files.length rF rf g ∨ RRB p.grown.length rG rg g ∨ rD = some g ∨ B g
theorem PaM.lt {w : World} {gp : Nat} {p : Ps} {B : Nat → Prop} {vF vG vD : Value} {rF rG rD : Option Nat} {fv gv dv : List Value} {rf rg : Nat → Option Nat} {sv tv : Nat → List Value} (h : PaM w gp p B vF vG vD rF rG rD fv gv dv rf rg sv tv) : ∀ g, paT gp p B rF rG rD rf rg g → g < w.heap.size := fun g hg => by
  rcases hg with e | e | e | e | e
  · rw [e]; exact cell_lt h.c0
  · exact h.F.lt g e
  · exact h.G.lt g e
  · exact h.D.rlt g e
  · exact h.b g e
theorem PaM.kept {w w' : World} {gp : Nat} {p : Ps} {B : Nat → Prop} {vF vG vD : Value} {rF rG rD : Option Nat} {fv gv dv : List Value} {rf rg : Nat → Option Nat} {sv tv : Nat → List Value} (h : PaM w gp p B vF vG vD rF rG rD fv gv dv rf rg sv tv) (hs : w.heap.size ≤ w'.heap.size) (hb : ∀ g, paT gp p B rF rG rD rf rg g → w'.heap[g]? = w.heap[g]?) : PaM w' gp p B vF vG vD rF rG rD fv gv dv rf rg sv tv := by
  have hg := hb gp (.inl rfl)
  have hce : ∀ j, w'.cell? ⟨gp, j, none⟩ = w.cell? ⟨gp, j, none⟩ := fun j => World.cell?_of_block (w := w) (a := ⟨gp, j, none⟩) hg
  have hB : ∀ g, B g → w'.heap[g]? = w.heap[g]? := fun g e => hb g (.inr (.inr (.inr (.inr e))))
  exact ⟨(hce 0).trans h.c0, (hce 1).trans h.c1, (hce 2).trans h.c2, fun j => (World.frozen?_of_block (w := w) (a := ⟨gp, j, none⟩) hg).trans (h.fz j), h.F.frame hs (fun g e => hb g (.inr (.inl e))) (fun u x hl => hl.kept hs hB (fun g e => e)), h.G.frame hs (fun g e => hb g (.inr (.inr (.inl e)))) (fun u x hl => hl), h.D.of_block hs (fun g e => hb g (.inr (.inr (.inr (.inl e))))), h.dl, fun j hj => (h.dn j hj).kept hs hB (fun g e => e), h.s1, h.s2, h.s3, h.s4, fun g e => Nat.lt_of_lt_of_le (h.b g e) hs⟩
/-- Blocks that were made: B' is B and some of them. -/
structure NewB (w w' : World) (B B' : Nat → Prop) : Prop where
  sub : ∀ g, B g → B' g
  new : ∀ g, B' g → B g ∨ w.heap.size ≤ g
  lt : ∀ g, B' g → g < w'.heap.size
theorem NewB.refl {w w' : World} {B : Nat → Prop} (hb : ∀ g, B g → g < w.heap.size) (hs : w.heap.size ≤ w'.heap.size) : NewB w w' B B := ⟨fun g h => h, fun g h => .inl h, fun g h => Nat.lt_of_lt_of_le (hb g h) hs⟩
/-- Another row of a file's bytes. -/
theorem PaM.setF {w w' : World} {gp : Nat} {p : Ps} {B B' : Nat → Prop} {vF vG vD x : Value} {rF rG rD q : Option Nat} {fv gv dv us : List Value} {rf rg : Nat → Option Nat} {sv tv : Nat → List Value} {ys : List (List Nat)} {i : Nat} (h : PaM w gp p B vF vG vD rF rG rD fv gv dv rf rg sv tv) (hi : i < p.files.length)
    (hc : Chg (fun g => rF = some g ∨ rf i = some g) w w') (hout : OwnV w' vF (fv.set i x) rF) (hx : OwnV w' x us q) (hq : q = rf i ∨ ∀ g, q = some g → w.heap.size ≤ g) (hus : us.length = ys.length) (hB : NewB w w' B B') (hlf : ∀ j, j < us.length → leafB w' B' (us.getD j undef) (ys.getD j [])) (hn : ∀ g, q = some g → w.heap.size ≤ g → ¬ B' g) :
    PaM w' gp ⟨p.files.set i ys, p.grown, p.dirs⟩ B' vF vG vD rF rG rD (fv.set i x) gv dv (fun n => if n = i then q else rf n) rg (fun n => if n = i then us else sv n) tv := by
  have hlt := h.lt
  have hSF : ∀ g, (rF = some g ∨ rf i = some g) → RRB p.files.length rF rf g := fun g e => e.imp id (fun e => ⟨i, hi, e⟩)
  have hBk : ∀ g, B g → w'.heap[g]? = w.heap[g]? := fun g e => hc.block g (h.b g e) (fun hs => (h.s1 g (hSF g hs)).2.2.2 e)
  have hgp : w'.heap[gp]? = w.heap[gp]? := hc.block gp (cell_lt h.c0) (fun hs => (h.s1 gp (hSF gp hs)).1 rfl)
  have hce : ∀ j, w'.cell? ⟨gp, j, none⟩ = w.cell? ⟨gp, j, none⟩ := fun j => World.cell?_of_block (w := w) (a := ⟨gp, j, none⟩) hgp
  have hgpl : gp < w.heap.size := cell_lt h.c0
  have hM : ∀ g, RRB (p.files.set i ys).length rF (fun n => if n = i then q else rf n) g → RRB p.files.length rF rf g ∨ (q = some g ∧ w.heap.size ≤ g) := fun g hg => by
    rcases hg with e | ⟨n, hn2, e⟩
    · exact .inl (.inl e)
    · rw [List.length_set] at hn2
      by_cases e2 : n = i
      · simp only [if_pos e2] at e
        exact hq.elim (fun e3 => .inl (.inr ⟨i, hi, by rw [← e3]; exact e⟩)) (fun hh => .inr ⟨e, hh g e⟩)
      · simp only [if_neg e2] at e; exact .inl (.inr ⟨n, hn2, e⟩)
  refine ⟨(hce 0).trans h.c0, (hce 1).trans h.c1, (hce 2).trans h.c2, fun j => (World.frozen?_of_block (w := w) (a := ⟨gp, j, none⟩) hgp).trans (h.fz j), h.F.set hi hc.size (fun u y hl => hl.kept hc.size hBk hB.sub) (fun n hn2 hne g e => ?_) hout hx hus hlf (fun g e e2 => ?_) (fun n hn2 hne g e e2 => ?_), h.G.frame hc.size (fun g e => ?_) (fun u y hl => hl), h.D.of_block hc.size (fun g e => ?_), h.dl, fun j hj => (h.dn j hj).kept hc.size hBk hB.sub, fun g hg => ?_, fun g hg => ?_, fun g e => ⟨(h.s3 g e).1, fun e2 => ?_⟩, fun e => ?_, hB.lt⟩
  · exact hc.block g (hlt g (.inr (.inl (.inr ⟨n, hn2, e⟩)))) (fun hs => hs.elim (fun e2 => h.F.sep n hn2 g e e2) (fun e2 => h.F.ap n i hn2 hi hne g e e2))
  · rcases hq with e3 | e3
    · exact h.F.sep i hi g (by rw [← e3]; exact e) e2
    · have := e3 g e; have := h.F.out.rlt g e2; omega
  · rcases hq with e3 | e3
    · exact h.F.ap n i hn2 hi hne g e (by rw [← e3]; exact e2)
    · have := e3 g e2; have := hlt g (.inr (.inl (.inr ⟨n, hn2, e⟩))); omega
  · exact hc.block g (hlt g (.inr (.inr (.inl e)))) (fun hs => (h.s1 g (hSF g hs)).2.1 e)
  · exact hc.block g (hlt g (.inr (.inr (.inr (.inl e))))) (fun hs => (h.s1 g (hSF g hs)).2.2.1 e)
  · rcases hM g hg with e | ⟨e, e2⟩
    · obtain ⟨a1, a2, a3, a4⟩ := h.s1 g e
      exact ⟨a1, a2, a3, fun e3 => (hB.new g e3).elim a4 (fun e4 => by have := hlt g (.inr (.inl e)); omega)⟩
    · exact ⟨by omega, fun e3 => by have := hlt g (.inr (.inr (.inl e3))); omega, fun e3 => by have := hlt g (.inr (.inr (.inr (.inl e3)))); omega, hn g e e2⟩
  · obtain ⟨a1, a2, a3⟩ := h.s2 g hg
    exact ⟨a1, a2, fun e3 => (hB.new g e3).elim a3 (fun e4 => by have := hlt g (.inr (.inr (.inl hg))); omega)⟩
  · exact (hB.new g e2).elim (h.s3 g e).2 (fun e4 => by have := hlt g (.inr (.inr (.inr (.inl e)))); omega)
  · exact (hB.new gp e).elim h.s4 (fun e4 => by omega)
/-- Another row of a file's numbers. -/
theorem PaM.setG {w w' : World} {gp : Nat} {p : Ps} {B : Nat → Prop} {vF vG vD x : Value} {rF rG rD q : Option Nat} {fv gv dv us : List Value} {rf rg : Nat → Option Nat} {sv tv : Nat → List Value} {ys : List Int} {i : Nat} (h : PaM w gp p B vF vG vD rF rG rD fv gv dv rf rg sv tv) (hi : i < p.grown.length)
    (hc : Chg (fun g => rG = some g ∨ rg i = some g) w w') (hout : OwnV w' vG (gv.set i x) rG) (hx : OwnV w' x us q) (hq : q = rg i ∨ ∀ g, q = some g → w.heap.size ≤ g) (hus : us.length = ys.length) (hlf : ∀ j, j < us.length → leafI (us.getD j undef) (ys.getD j 0)) :
    PaM w' gp ⟨p.files, p.grown.set i ys, p.dirs⟩ B vF vG vD rF rG rD fv (gv.set i x) dv rf (fun n => if n = i then q else rg n) sv (fun n => if n = i then us else tv n) := by
  have hlt := h.lt
  have hSG : ∀ g, (rG = some g ∨ rg i = some g) → RRB p.grown.length rG rg g := fun g e => e.imp id (fun e => ⟨i, hi, e⟩)
  have hBk : ∀ g, B g → w'.heap[g]? = w.heap[g]? := fun g e => hc.block g (h.b g e) (fun hs => (h.s2 g (hSG g hs)).2.2 e)
  have hgp : w'.heap[gp]? = w.heap[gp]? := hc.block gp (cell_lt h.c0) (fun hs => (h.s2 gp (hSG gp hs)).1 rfl)
  have hce : ∀ j, w'.cell? ⟨gp, j, none⟩ = w.cell? ⟨gp, j, none⟩ := fun j => World.cell?_of_block (w := w) (a := ⟨gp, j, none⟩) hgp
  have hgpl : gp < w.heap.size := cell_lt h.c0
  have hM : ∀ g, RRB (p.grown.set i ys).length rG (fun n => if n = i then q else rg n) g → RRB p.grown.length rG rg g ∨ w.heap.size ≤ g := fun g hg => by
    rcases hg with e | ⟨n, hn2, e⟩
    · exact .inl (.inl e)
    · rw [List.length_set] at hn2
      by_cases e2 : n = i
      · simp only [if_pos e2] at e
        exact hq.elim (fun e3 => .inl (.inr ⟨i, hi, by rw [← e3]; exact e⟩)) (fun hh => .inr (hh g e))
      · simp only [if_neg e2] at e; exact .inl (.inr ⟨n, hn2, e⟩)
  refine ⟨(hce 0).trans h.c0, (hce 1).trans h.c1, (hce 2).trans h.c2, fun j => (World.frozen?_of_block (w := w) (a := ⟨gp, j, none⟩) hgp).trans (h.fz j), h.F.frame hc.size (fun g e => ?_) (fun u y hl => hl.kept hc.size hBk (fun g e => e)), h.G.set hi hc.size (fun u y hl => hl) (fun n hn2 hne g e => ?_) hout hx hus hlf (fun g e e2 => ?_) (fun n hn2 hne g e e2 => ?_), h.D.of_block hc.size (fun g e => ?_), h.dl, fun j hj => (h.dn j hj).kept hc.size hBk (fun g e => e), fun g hg => ?_, fun g hg => ?_, h.s3, h.s4, fun g e => Nat.lt_of_lt_of_le (h.b g e) hc.size⟩
  · exact hc.block g (hlt g (.inr (.inl e))) (fun hs => (h.s1 g e).2.1 (hSG g hs))
  · exact hc.block g (hlt g (.inr (.inr (.inl (.inr ⟨n, hn2, e⟩))))) (fun hs => hs.elim (fun e2 => h.G.sep n hn2 g e e2) (fun e2 => h.G.ap n i hn2 hi hne g e e2))
  · rcases hq with e3 | e3
    · exact h.G.sep i hi g (by rw [← e3]; exact e) e2
    · have := e3 g e; have := h.G.out.rlt g e2; omega
  · rcases hq with e3 | e3
    · exact h.G.ap n i hn2 hi hne g e (by rw [← e3]; exact e2)
    · have := e3 g e2; have := hlt g (.inr (.inr (.inl (.inr ⟨n, hn2, e⟩)))); omega
  · exact hc.block g (hlt g (.inr (.inr (.inr (.inl e))))) (fun hs => (h.s2 g (hSG g hs)).2.1 e)
  · obtain ⟨a1, a2, a3, a4⟩ := h.s1 g hg
    exact ⟨a1, fun e3 => (hM g e3).elim a2 (fun e4 => by have := hlt g (.inr (.inl hg)); omega), a3, a4⟩
  · rcases hM g hg with e | e
    · exact h.s2 g e
    · exact ⟨by omega, fun e3 => by have := hlt g (.inr (.inr (.inr (.inl e3)))); omega, fun e3 => by have := h.b g e3; omega⟩
/-- Other directories. -/
theorem PaM.putD {w w' : World} {gp : Nat} {p : Ps} {B B' : Nat → Prop} {vF vG vD v' : Value} {rF rG rD r' : Option Nat} {fv gv dv dv' : List Value} {rf rg : Nat → Option Nat} {sv tv : Nat → List Value} {ds : List (List (Nm × Nat))} (h : PaM w gp p B vF vG vD rF rG rD fv gv dv rf rg sv tv)
    (hc : Chg (fun g => g = gp ∨ rD = some g) w w') (c0 : w'.cell? ⟨gp, 0, none⟩ = some vF) (c1 : w'.cell? ⟨gp, 1, none⟩ = some vG) (c2 : w'.cell? ⟨gp, 2, none⟩ = some v') (fz : ∀ j, w'.frozen? ⟨gp, j, none⟩ = false)
    (hout : OwnV w' v' dv' r') (hr : r' = rD ∨ ∀ g, r' = some g → w.heap.size ≤ g) (hl : dv'.length = ds.length) (hB : NewB w w' B B') (hlf : ∀ j, j < dv'.length → leafN w' B' (dv'.getD j undef) (ds.getD j [])) (hn : ∀ g, r' = some g → w.heap.size ≤ g → ¬ B' g) :
    PaM w' gp ⟨p.files, p.grown, ds⟩ B' vF vG v' rF rG r' fv gv dv' rf rg sv tv := by
  have hlt := h.lt
  have hBk : ∀ g, B g → w'.heap[g]? = w.heap[g]? := fun g e => hc.block g (h.b g e) (fun hs => hs.elim (fun e2 => h.s4 (by rw [← e2]; exact e)) (fun e2 => (h.s3 g e2).2 e))
  have hgpl : gp < w.heap.size := cell_lt h.c0
  have hr2 : ∀ g, r' = some g → rD = some g ∨ w.heap.size ≤ g := fun g e => hr.elim (fun e2 => .inl (by rw [← e2]; exact e)) (fun hh => .inr (hh g e))
  refine ⟨c0, c1, c2, fz, h.F.frame hc.size (fun g e => ?_) (fun u y hl => hl.kept hc.size hBk hB.sub), h.G.frame hc.size (fun g e => ?_) (fun u y hl => hl), hout, hl, hlf, fun g hg => ?_, fun g hg => ?_, fun g e => ?_, fun e => ?_, hB.lt⟩
  · exact hc.block g (hlt g (.inr (.inl e))) (fun hs => hs.elim (fun e2 => (h.s1 g e).1 e2) (fun e2 => (h.s1 g e).2.2.1 e2))
  · exact hc.block g (hlt g (.inr (.inr (.inl e)))) (fun hs => hs.elim (fun e2 => (h.s2 g e).1 e2) (fun e2 => (h.s2 g e).2.1 e2))
  · obtain ⟨a1, a2, a3, a4⟩ := h.s1 g hg
    have := hlt g (.inr (.inl hg))
    exact ⟨a1, a2, fun e => (hr2 g e).elim a3 (fun e2 => by omega), fun e3 => (hB.new g e3).elim a4 (fun e4 => by omega)⟩
  · obtain ⟨a1, a2, a3⟩ := h.s2 g hg
    have := hlt g (.inr (.inr (.inl hg)))
    exact ⟨a1, fun e => (hr2 g e).elim a2 (fun e2 => by omega), fun e3 => (hB.new g e3).elim a3 (fun e4 => by omega)⟩
  · rcases hr2 g e with e2 | e2
    · obtain ⟨a1, a2⟩ := h.s3 g e2
      have := h.D.rlt g e2
      exact ⟨a1, fun e3 => (hB.new g e3).elim a2 (fun e4 => by omega)⟩
    · exact ⟨by omega, hn g e e2⟩
  · exact (hB.new gp e).elim h.s4 (fun e4 => by omega)
end Go.Proofs.YthcnhjmkcekdaaaGreat
