import Derived.Test.YtgpmhflndcppeaaQp13
/-! What the law keeps, in memory: rows of rows; what a step leaves. -/
namespace Go.Proofs.Ytgpmhflndcppeaa
open Go.RowKit Go.Maps Plain
set_option linter.unusedVariables false
set_option linter.unusedSimpArgs false

theorem OwnNw.of_block {w w' : World} {v : Value} {ts : List Nw} {r : Option Nat} (h : OwnNw w v ts r) (hs : w.heap.size ≤ w'.heap.size) (hb : ∀ g, r = some g → w'.heap[g]? = w.heap[g]?) : OwnNw w' v ts r := by
  rcases h with h0 | ⟨g, cap, rfl, rfl, hg, h1, h2, h3, h4, h5⟩
  · exact .inl h0
  · have hb := hb g rfl
    refine .inr ⟨g, cap, rfl, rfl, Nat.lt_of_lt_of_le hg hs, h1, h2, fun j hj => ?_, fun j hj => ?_, fun j hj => ?_⟩
    · rw [World.frozen?_of_block (w := w) (a := ⟨g, j, none⟩) hb]; exact h3 j hj
    · rw [World.cell?_of_block (w := w) (a := ⟨g, j, none⟩) hb]; exact h4 j hj
    · rw [World.cell?_of_block (w := w) (a := ⟨g, j, none⟩) hb]; exact h5 j hj
theorem OwnNw.rlt {w : World} {v : Value} {l : List Nw} {r : Option Nat} (h : OwnNw w v l r) : ∀ g, r = some g → g < w.heap.size := fun g e => by subst e; exact h.lt
theorem Own.rlt' {w : World} {v : Value} {l : List Nat} {r : Option Nat} (h : Own w v l r) : ∀ g, r = some g → g < w.heap.size := fun g e => by
  rcases h.2 with ⟨_, _, e2⟩ | ⟨g', _, e2, _, hg, _⟩
  · rw [e] at e2; cases e2
  · rw [e] at e2; cases e2; exact hg
/-- A row of rows. -/
structure RR {α : Type} (d0 : α) (w : World) (leaf : Value → α → Prop) (v : Value) (fs : List (List α)) (r : Option Nat) (fv : List Value) (rf : Nat → Option Nat) (sv : Nat → List Value) : Prop where
  out : OwnV w v fv r
  len : fv.length = fs.length
  inn : ∀ n, n < fs.length → OwnV w (fv.getD n undef) (sv n) (rf n)
  sl : ∀ n, n < fs.length → (sv n).length = (fs.getD n []).length
  lf : ∀ n, n < fs.length → ∀ j, j < (sv n).length → leaf ((sv n).getD j undef) ((fs.getD n []).getD j d0)
  sep : ∀ n, n < fs.length → ∀ g, rf n = some g → r ≠ some g
  ap : ∀ n m, n < fs.length → m < fs.length → n ≠ m → ∀ g, rf n = some g → rf m ≠ some g
/-- Its blocks that are written to. -/
def RRB (N : Nat) (r : Option Nat) (rf : Nat → Option Nat) (g : Nat) : Prop := r = some g ∨ ∃ n, n < N ∧ rf n = some g
theorem RR.frame {α : Type} {d0 : α} {w w' : World} {leaf leaf' : Value → α → Prop} {v : Value} {fs : List (List α)} {r : Option Nat} {fv : List Value} {rf : Nat → Option Nat} {sv : Nat → List Value} (h : RR d0 w leaf v fs r fv rf sv) (hs : w.heap.size ≤ w'.heap.size) (hb : ∀ g, RRB fs.length r rf g → w'.heap[g]? = w.heap[g]?) (hl : ∀ u x, leaf u x → leaf' u x) : RR d0 w' leaf' v fs r fv rf sv :=
  ⟨h.out.of_block hs (fun g e => hb g (.inl e)), h.len, fun n hn => (h.inn n hn).of_block hs (fun g e => hb g (.inr ⟨n, hn, e⟩)), h.sl, fun n hn j hj => hl _ _ (h.lf n hn j hj), h.sep, h.ap⟩
theorem RR.lt {α : Type} {d0 : α} {w : World} {leaf : Value → α → Prop} {v : Value} {fs : List (List α)} {r : Option Nat} {fv : List Value} {rf : Nat → Option Nat} {sv : Nat → List Value} (h : RR d0 w leaf v fs r fv rf sv) : ∀ g, RRB fs.length r rf g → g < w.heap.size := fun g hg => by
  rcases hg with e | ⟨n, hn, e⟩
  · exact h.out.rlt g e
  · exact (h.inn n hn).rlt g e
theorem getD_app_lt' {α : Type} {l : List α} {j : Nat} (x d : α) (h : j < l.length) : (l ++ [x]).getD j d = l.getD j d := by
  rw [List.getD_eq_getElem?_getD, List.getD_eq_getElem?_getD, List.getElem?_append_left h]
theorem getD_app_eq' {α : Type} {l : List α} (x d : α) : (l ++ [x]).getD l.length d = x := by
  rw [List.getD_eq_getElem?_getD, List.getElem?_append_right (Nat.le_refl _)]
  simp
theorem getD_set_eq' {α : Type} {l : List α} {n : Nat} (x d : α) (h : n < l.length) : (l.set n x).getD n d = x := by
  rw [List.getD_eq_getElem?_getD, List.getElem?_set_self h]; rfl
theorem getD_set_ne' {α : Type} {l : List α} {n m : Nat} (x d : α) (h : n ≠ m) : (l.set n x).getD m d = l.getD m d := by
  rw [List.getD_eq_getElem?_getD, List.getD_eq_getElem?_getD, List.getElem?_set_ne h]
/-- One row more. -/
theorem RR.push {α : Type} {d0 : α} {w w' : World} {leaf leaf' : Value → α → Prop} {v v' x : Value} {fs : List (List α)} {ys : List α} {r r' q : Option Nat} {fv us : List Value} {rf : Nat → Option Nat} {sv : Nat → List Value} (h : RR d0 w leaf v fs r fv rf sv)
    (hs : w.heap.size ≤ w'.heap.size) (hl : ∀ u y, leaf u y → leaf' u y) (hin : ∀ n, n < fs.length → ∀ g, rf n = some g → w'.heap[g]? = w.heap[g]?)
    (hout : OwnV w' v' (fv ++ [x]) r') (hx : OwnV w' x us q) (hus : us.length = ys.length) (hlf : ∀ j, j < us.length → leaf' (us.getD j undef) (ys.getD j d0))
    (h1 : ∀ g, q = some g → r' ≠ some g) (h2 : ∀ n, n < fs.length → ∀ g, rf n = some g → r' ≠ some g ∧ q ≠ some g) :
    RR d0 w' leaf' v' (fs ++ [ys]) r' (fv ++ [x]) (fun n => if n = fs.length then q else rf n) (fun n => if n = fs.length then us else sv n) := by
  have hsp : ∀ n, n < (fs ++ [ys]).length → n < fs.length ∨ n = fs.length := fun n hn => by simp at hn; omega
  refine ⟨hout, by simp [h.len], fun n hn => ?_, fun n hn => ?_, fun n hn j hj => ?_, fun n hn g e => ?_, fun n m hn hm hnm g e => ?_⟩
  · rcases hsp n hn with e | e
    · rw [if_neg (by omega), if_neg (by omega), getD_app_lt' _ _ (by rw [h.len]; exact e)]
      exact (h.inn n e).of_block hs (hin n e)
    · subst e
      rw [if_pos rfl, if_pos rfl, ← h.len, getD_app_eq']; exact hx
  · rcases hsp n hn with e | e
    · rw [if_neg (by omega), getD_app_lt' _ _ e]; exact h.sl n e
    · subst e; rw [if_pos rfl, getD_app_eq']; exact hus
  · rcases hsp n hn with e | e
    · rw [if_neg (by omega)] at hj ⊢
      rw [getD_app_lt' _ _ e]; exact hl _ _ (h.lf n e j hj)
    · subst e
      rw [if_pos rfl] at hj ⊢
      rw [getD_app_eq']; exact hlf j hj
  · rcases hsp n hn with e2 | e2
    · rw [if_neg (by omega)] at e; exact (h2 n e2 g e).1
    · subst e2; rw [if_pos rfl] at e; exact h1 g e
  · rcases hsp n hn with e1 | e1 <;> rcases hsp m hm with e2 | e2
    · rw [if_neg (by omega)] at e ⊢; exact h.ap n m e1 e2 hnm g e
    · subst e2; rw [if_neg (by omega)] at e; rw [if_pos rfl]; exact (h2 n e1 g e).2
    · subst e1; rw [if_pos rfl] at e; rw [if_neg (by omega)]; exact fun e3 => (h2 m e2 g e3).2 e
    · omega
/-- Another row in the place of one. -/
theorem RR.set {α : Type} {d0 : α} {w w' : World} {leaf leaf' : Value → α → Prop} {v x : Value} {fs : List (List α)} {ys : List α} {r q : Option Nat} {fv us : List Value} {rf : Nat → Option Nat} {sv : Nat → List Value} {i : Nat} (h : RR d0 w leaf v fs r fv rf sv) (hi : i < fs.length)
    (hs : w.heap.size ≤ w'.heap.size) (hl : ∀ u y, leaf u y → leaf' u y) (hin : ∀ n, n < fs.length → n ≠ i → ∀ g, rf n = some g → w'.heap[g]? = w.heap[g]?)
    (hout : OwnV w' v (fv.set i x) r) (hx : OwnV w' x us q) (hus : us.length = ys.length) (hlf : ∀ j, j < us.length → leaf' (us.getD j undef) (ys.getD j d0))
    (h1 : ∀ g, q = some g → r ≠ some g) (h2 : ∀ n, n < fs.length → n ≠ i → ∀ g, rf n = some g → q ≠ some g) :
    RR d0 w' leaf' v (fs.set i ys) r (fv.set i x) (fun n => if n = i then q else rf n) (fun n => if n = i then us else sv n) := by
  refine ⟨hout, by simp [h.len], fun n hn => ?_, fun n hn => ?_, fun n hn j hj => ?_, fun n hn g e => ?_, fun n m hn hm hnm g e => ?_⟩
  all_goals rw [List.length_set] at hn
  · by_cases e : n = i
    · subst e; rw [if_pos rfl, if_pos rfl, getD_set_eq' _ _ (by rw [h.len]; exact hi)]; exact hx
    · rw [if_neg e, if_neg e, getD_set_ne' _ _ (fun e2 => e e2.symm)]; exact (h.inn n hn).of_block hs (hin n hn e)
  · by_cases e : n = i
    · subst e; rw [if_pos rfl, getD_set_eq' _ _ hi]; exact hus
    · rw [if_neg e, getD_set_ne' _ _ (fun e2 => e e2.symm)]; exact h.sl n hn
  · by_cases e : n = i
    · subst e
      rw [if_pos rfl] at hj ⊢
      rw [getD_set_eq' _ _ hi]; exact hlf j hj
    · rw [if_neg e] at hj ⊢
      rw [getD_set_ne' _ _ (fun e2 => e e2.symm)]; exact hl _ _ (h.lf n hn j hj)
  · by_cases e2 : n = i
    · subst e2; rw [if_pos rfl] at e; exact h1 g e
    · rw [if_neg e2] at e; exact h.sep n hn g e
  · rw [List.length_set] at hm
    by_cases e1 : n = i
    · subst e1
      rw [if_pos rfl] at e
      rw [if_neg (fun e3 => hnm e3.symm)]
      exact fun e3 => h2 m hm (fun e4 => hnm e4.symm) g e3 e
    · rw [if_neg e1] at e
      by_cases e2 : m = i
      · subst e2; rw [if_pos rfl]; exact h2 n hn e1 g e
      · rw [if_neg e2]; exact h.ap n m hn hm hnm g e
end Go.Proofs.Ytgpmhflndcppeaa

/-! What the law keeps, in memory. -/
namespace Go.Proofs.Ytgpmhflndcppeaa
open Go.RowKit Go.Maps Plain
set_option linter.unusedVariables false
set_option linter.unusedSimpArgs false

/-- Bytes, numbers, names that nobody writes to any more. -/
def leafB (w : World) (B : Nat → Prop) (u : Value) (l : List Nat) : Prop := ∃ r, Own w u l r ∧ ∀ g, r = some g → B g
def leafI (u : Value) (z : Int) : Prop := u = .int .i64 z ∧ I64 z
def nwOf (x : Nm × Nat) : Nw := ⟨str x.1, x.2⟩
def leafN (w : World) (B : Nat → Prop) (u : Value) (l : List (Nm × Nat)) : Prop := ∃ r, OwnNw w u (l.map nwOf) r ∧ ∀ g, r = some g → B g
theorem leafB.kept {w w' : World} {B B' : Nat → Prop} {u : Value} {l : List Nat} (h : leafB w B u l) (hs : w.heap.size ≤ w'.heap.size) (hb : ∀ g, B g → w'.heap[g]? = w.heap[g]?) (hB : ∀ g, B g → B' g) : leafB w' B' u l := by
  obtain ⟨r, h1, h2⟩ := h
  exact ⟨r, h1.of_block hs (fun g e => hb g (h2 g e)), fun g e => hB g (h2 g e)⟩
theorem leafN.kept {w w' : World} {B B' : Nat → Prop} {u : Value} {l : List (Nm × Nat)} (h : leafN w B u l) (hs : w.heap.size ≤ w'.heap.size) (hb : ∀ g, B g → w'.heap[g]? = w.heap[g]?) (hB : ∀ g, B g → B' g) : leafN w' B' u l := by
  obtain ⟨r, h1, h2⟩ := h
  exact ⟨r, h1.of_block hs (fun g e => hb g (h2 g e)), fun g e => hB g (h2 g e)⟩
structure PaM (w : World) (gp : Nat) (p : Ps) (B : Nat → Prop) (vF vG vD : Value) (rF rG rD : Option Nat) (fv gv dv : List Value) (rf rg : Nat → Option Nat) (sv tv : Nat → List Value) : Prop where
  c0 : w.cell? ⟨gp, 0, none⟩ = some vF
  c1 : w.cell? ⟨gp, 1, none⟩ = some vG
  c2 : w.cell? ⟨gp, 2, none⟩ = some vD
  fz : ∀ j, w.frozen? ⟨gp, j, none⟩ = false
  F : RR [] w (leafB w B) vF p.files rF fv rf sv
  G : RR 0 w leafI vG p.grown rG gv rg tv
  D : OwnV w vD dv rD
  dl : dv.length = p.dirs.length
  dn : ∀ j, j < dv.length → leafN w B (dv.getD j undef) (p.dirs.getD j [])
  s1 : ∀ g, RRB p.files.length rF rf g → g ≠ gp ∧ ¬ RRB p.grown.length rG rg g ∧ rD ≠ some g ∧ ¬ B g
  s2 : ∀ g, RRB p.grown.length rG rg g → g ≠ gp ∧ rD ≠ some g ∧ ¬ B g
  s3 : ∀ g, rD = some g → g ≠ gp ∧ ¬ B g
  s4 : ¬ B gp
  b : ∀ g, B g → g < w.heap.size
/-- All its blocks. -/
def paT (gp : Nat) (p : Ps) (B : Nat → Prop) (rF rG rD : Option Nat) (rf rg : Nat → Option Nat) (g : Nat) : Prop := g = gp ∨ RRB p.files.length rF rf g ∨ RRB p.grown.length rG rg g ∨ rD = some g ∨ B g
theorem PaM.lt {w : World} {gp : Nat} {p : Ps} {B : Nat → Prop} {vF vG vD : Value} {rF rG rD : Option Nat} {fv gv dv : List Value} {rf rg : Nat → Option Nat} {sv tv : Nat → List Value} (h : PaM w gp p B vF vG vD rF rG rD fv gv dv rf rg sv tv) : ∀ g, paT gp p B rF rG rD rf rg g → g < w.heap.size := fun g hg => by
  rcases hg with e | e | e | e | e
  · rw [e]; exact cell_lt h.c0
  · exact h.F.lt g e
  · exact h.G.lt g e
  · exact h.D.rlt g e
  · exact h.b g e
theorem PaM.kept {w w' : World} {gp : Nat} {p : Ps} {B : Nat → Prop} {vF vG vD : Value} {rF rG rD : Option Nat} {fv gv dv : List Value} {rf rg : Nat → Option Nat} {sv tv : Nat → List Value} (h : PaM w gp p B vF vG vD rF rG rD fv gv dv rf rg sv tv) (hs : w.heap.size ≤ w'.heap.size) (hb : ∀ g, paT gp p B rF rG rD rf rg g → w'.heap[g]? = w.heap[g]?) : PaM w' gp p B vF vG vD rF rG rD fv gv dv rf rg sv tv := by
  have hg := hb gp (.inl rfl)
  have hce : ∀ j, w'.cell? ⟨gp, j, none⟩ = w.cell? ⟨gp, j, none⟩ := fun j => World.cell?_of_block (w := w) (a := ⟨gp, j, none⟩) hg
  have hB : ∀ g, B g → w'.heap[g]? = w.heap[g]? := fun g e => hb g (.inr (.inr (.inr (.inr e))))
  exact ⟨(hce 0).trans h.c0, (hce 1).trans h.c1, (hce 2).trans h.c2, fun j => (World.frozen?_of_block (w := w) (a := ⟨gp, j, none⟩) hg).trans (h.fz j), h.F.frame hs (fun g e => hb g (.inr (.inl e))) (fun u x hl => hl.kept hs hB (fun g e => e)), h.G.frame hs (fun g e => hb g (.inr (.inr (.inl e)))) (fun u x hl => hl), h.D.of_block hs (fun g e => hb g (.inr (.inr (.inr (.inl e))))), h.dl, fun j hj => (h.dn j hj).kept hs hB (fun g e => e), h.s1, h.s2, h.s3, h.s4, fun g e => Nat.lt_of_lt_of_le (h.b g e) hs⟩
/-- Blocks that were made: B' is B and some of them. -/
structure NewB (w w' : World) (B B' : Nat → Prop) : Prop where
  sub : ∀ g, B g → B' g
  new : ∀ g, B' g → B g ∨ w.heap.size ≤ g
  lt : ∀ g, B' g → g < w'.heap.size
theorem NewB.refl {w w' : World} {B : Nat → Prop} (hb : ∀ g, B g → g < w.heap.size) (hs : w.heap.size ≤ w'.heap.size) : NewB w w' B B := ⟨fun g h => h, fun g h => .inl h, fun g h => Nat.lt_of_lt_of_le (hb g h) hs⟩
/-- A file more. -/
theorem PaM.pushF {w w' : World} {gp : Nat} {p : Ps} {B B' : Nat → Prop} {vF vG vD v' x : Value} {rF rG rD r' q : Option Nat} {fv gv dv us : List Value} {rf rg : Nat → Option Nat} {sv tv : Nat → List Value} {ys : List (List Nat)} (h : PaM w gp p B vF vG vD rF rG rD fv gv dv rf rg sv tv)
    (hc : Chg (fun g => g = gp ∨ rF = some g) w w') (c0 : w'.cell? ⟨gp, 0, none⟩ = some v') (c1 : w'.cell? ⟨gp, 1, none⟩ = some vG) (c2 : w'.cell? ⟨gp, 2, none⟩ = some vD) (fz : ∀ j, w'.frozen? ⟨gp, j, none⟩ = false)
    (hout : OwnV w' v' (fv ++ [x]) r') (hr : r' = rF ∨ ∀ g, r' = some g → w.heap.size ≤ g) (hx : OwnV w' x us q) (hq : ∀ g, q = some g → w.heap.size ≤ g ∧ r' ≠ some g) (hus : us.length = ys.length) (hB : NewB w w' B B') (hlf : ∀ j, j < us.length → leafB w' B' (us.getD j undef) (ys.getD j [])) (hn : ∀ g, (r' = some g ∨ q = some g) → w.heap.size ≤ g → ¬ B' g) :
    PaM w' gp ⟨p.files ++ [ys], p.grown, p.dirs⟩ B' v' vG vD r' rG rD (fv ++ [x]) gv dv (fun n => if n = p.files.length then q else rf n) rg (fun n => if n = p.files.length then us else sv n) tv := by
  have hlt := h.lt
  have hBk : ∀ g, B g → w'.heap[g]? = w.heap[g]? := fun g e => hc.block g (h.b g e) (fun hs => hs.elim (fun e2 => h.s4 (by rw [← e2]; exact e)) (fun e2 => (h.s1 g (.inl e2)).2.2.2 e))
  have hr2 : ∀ g, r' = some g → RRB p.files.length rF rf g ∨ w.heap.size ≤ g := fun g e => hr.elim (fun e2 => .inl (.inl (by rw [← e2]; exact e))) (fun hh => .inr (hh g e))
  have hgpl : gp < w.heap.size := cell_lt h.c0
  have hM : ∀ g, RRB (p.files ++ [ys]).length r' (fun n => if n = p.files.length then q else rf n) g → RRB p.files.length rF rf g ∨ ((r' = some g ∨ q = some g) ∧ w.heap.size ≤ g) := fun g hg => by
    rcases hg with e | ⟨n, hn2, e⟩
    · exact (hr2 g e).imp id (fun e2 => ⟨.inl e, e2⟩)
    · by_cases e2 : n = p.files.length
      · simp only [if_pos e2] at e; exact .inr ⟨.inr e, (hq g e).1⟩
      · simp only [if_neg e2] at e; exact .inl (.inr ⟨n, by simp at hn2; omega, e⟩)
  refine ⟨c0, c1, c2, fz, h.F.push hc.size (fun u y hl => hl.kept hc.size hBk hB.sub) (fun n hn2 g e => ?_) hout hx hus hlf (fun g e => (hq g e).2) (fun n hn2 g e => ⟨fun e2 => ?_, fun e2 => ?_⟩), h.G.frame hc.size (fun g e => ?_) (fun u y hl => hl), h.D.of_block hc.size (fun g e => ?_), h.dl, fun j hj => (h.dn j hj).kept hc.size hBk hB.sub, fun g hg => ?_, fun g hg => ?_, fun g e => ⟨(h.s3 g e).1, fun e2 => ?_⟩, fun e => ?_, hB.lt⟩
  · exact hc.block g (hlt g (.inr (.inl (.inr ⟨n, hn2, e⟩)))) (fun hs => hs.elim (fun e2 => (h.s1 g (.inr ⟨n, hn2, e⟩)).1 e2) (fun e2 => h.F.sep n hn2 g e e2))
  · rcases hr with e3 | e3
    · exact h.F.sep n hn2 g e (by rw [← e3]; exact e2)
    · have := e3 g e2; have := hlt g (.inr (.inl (.inr ⟨n, hn2, e⟩))); omega
  · have := (hq g e2).1; have := hlt g (.inr (.inl (.inr ⟨n, hn2, e⟩))); omega
  · exact hc.block g (hlt g (.inr (.inr (.inl e)))) (fun hs => hs.elim (fun e2 => (h.s2 g e).1 e2) (fun e2 => (h.s1 g (.inl e2)).2.1 e))
  · exact hc.block g (hlt g (.inr (.inr (.inr (.inl e))))) (fun hs => hs.elim (fun e2 => (h.s3 g e).1 e2) (fun e2 => (h.s1 g (.inl e2)).2.2.1 e))
  · rcases hM g hg with e | ⟨e, e2⟩
    · obtain ⟨a1, a2, a3, a4⟩ := h.s1 g e
      exact ⟨a1, a2, a3, fun e3 => (hB.new g e3).elim a4 (fun e4 => by have := hlt g (.inr (.inl e)); omega)⟩
    · exact ⟨by omega, fun e3 => by have := hlt g (.inr (.inr (.inl e3))); omega, fun e3 => by have := hlt g (.inr (.inr (.inr (.inl e3)))); omega, hn g e e2⟩
  · obtain ⟨a1, a2, a3⟩ := h.s2 g hg
    exact ⟨a1, a2, fun e3 => (hB.new g e3).elim a3 (fun e4 => by have := hlt g (.inr (.inr (.inl hg))); omega)⟩
  · exact (hB.new g e2).elim (h.s3 g e).2 (fun e4 => by have := hlt g (.inr (.inr (.inr (.inl e)))); omega)
  · exact (hB.new gp e).elim h.s4 (fun e4 => by omega)
/-- A file's numbers more. -/
theorem PaM.pushG {w w' : World} {gp : Nat} {p : Ps} {B : Nat → Prop} {vF vG vD v' x : Value} {rF rG rD r' q : Option Nat} {fv gv dv us : List Value} {rf rg : Nat → Option Nat} {sv tv : Nat → List Value} {ys : List Int} (h : PaM w gp p B vF vG vD rF rG rD fv gv dv rf rg sv tv)
    (hc : Chg (fun g => g = gp ∨ rG = some g) w w') (c0 : w'.cell? ⟨gp, 0, none⟩ = some vF) (c1 : w'.cell? ⟨gp, 1, none⟩ = some v') (c2 : w'.cell? ⟨gp, 2, none⟩ = some vD) (fz : ∀ j, w'.frozen? ⟨gp, j, none⟩ = false)
    (hout : OwnV w' v' (gv ++ [x]) r') (hr : r' = rG ∨ ∀ g, r' = some g → w.heap.size ≤ g) (hx : OwnV w' x us q) (hq : ∀ g, q = some g → w.heap.size ≤ g ∧ r' ≠ some g) (hus : us.length = ys.length) (hlf : ∀ j, j < us.length → leafI (us.getD j undef) (ys.getD j 0)) :
    PaM w' gp ⟨p.files, p.grown ++ [ys], p.dirs⟩ B vF v' vD rF r' rD fv (gv ++ [x]) dv rf (fun n => if n = p.grown.length then q else rg n) sv (fun n => if n = p.grown.length then us else tv n) := by
  have hlt := h.lt
  have hBk : ∀ g, B g → w'.heap[g]? = w.heap[g]? := fun g e => hc.block g (h.b g e) (fun hs => hs.elim (fun e2 => h.s4 (by rw [← e2]; exact e)) (fun e2 => (h.s2 g (.inl e2)).2.2 e))
  have hr2 : ∀ g, r' = some g → RRB p.grown.length rG rg g ∨ w.heap.size ≤ g := fun g e => hr.elim (fun e2 => .inl (.inl (by rw [← e2]; exact e))) (fun hh => .inr (hh g e))
  have hgpl : gp < w.heap.size := cell_lt h.c0
  have hM : ∀ g, RRB (p.grown ++ [ys]).length r' (fun n => if n = p.grown.length then q else rg n) g → RRB p.grown.length rG rg g ∨ w.heap.size ≤ g := fun g hg => by
    rcases hg with e | ⟨n, hn2, e⟩
    · exact hr2 g e
    · by_cases e2 : n = p.grown.length
      · simp only [if_pos e2] at e; exact .inr (hq g e).1
      · simp only [if_neg e2] at e; exact .inl (.inr ⟨n, by simp at hn2; omega, e⟩)
  refine ⟨c0, c1, c2, fz, h.F.frame hc.size (fun g e => ?_) (fun u y hl => hl.kept hc.size hBk (fun g e => e)), h.G.push hc.size (fun u y hl => hl) (fun n hn2 g e => ?_) hout hx hus hlf (fun g e => (hq g e).2) (fun n hn2 g e => ⟨fun e2 => ?_, fun e2 => ?_⟩), h.D.of_block hc.size (fun g e => ?_), h.dl, fun j hj => (h.dn j hj).kept hc.size hBk (fun g e => e), fun g hg => ?_, fun g hg => ?_, h.s3, h.s4, fun g e => Nat.lt_of_lt_of_le (h.b g e) hc.size⟩
  · exact hc.block g (hlt g (.inr (.inl e))) (fun hs => hs.elim (fun e2 => (h.s1 g e).1 e2) (fun e2 => (h.s1 g e).2.1 (.inl e2)))
  · exact hc.block g (hlt g (.inr (.inr (.inl (.inr ⟨n, hn2, e⟩))))) (fun hs => hs.elim (fun e2 => (h.s2 g (.inr ⟨n, hn2, e⟩)).1 e2) (fun e2 => h.G.sep n hn2 g e e2))
  · rcases hr with e3 | e3
    · exact h.G.sep n hn2 g e (by rw [← e3]; exact e2)
    · have := e3 g e2; have := hlt g (.inr (.inr (.inl (.inr ⟨n, hn2, e⟩)))); omega
  · have := (hq g e2).1; have := hlt g (.inr (.inr (.inl (.inr ⟨n, hn2, e⟩)))); omega
  · exact hc.block g (hlt g (.inr (.inr (.inr (.inl e))))) (fun hs => hs.elim (fun e2 => (h.s3 g e).1 e2) (fun e2 => (h.s2 g (.inl e2)).2.1 e))
  · obtain ⟨a1, a2, a3, a4⟩ := h.s1 g hg
    exact ⟨a1, fun e3 => (hM g e3).elim a2 (fun e4 => by have := hlt g (.inr (.inl hg)); omega), a3, a4⟩
  · rcases hM g hg with e | e
    · exact h.s2 g e
    · exact ⟨by omega, fun e3 => by have := hlt g (.inr (.inr (.inr (.inl e3)))); omega, fun e3 => by have := h.b g e3; omega⟩
/-- Another row of a file's bytes. -/
theorem PaM.setF {w w' : World} {gp : Nat} {p : Ps} {B B' : Nat → Prop} {vF vG vD x : Value} {rF rG rD q : Option Nat} {fv gv dv us : List Value} {rf rg : Nat → Option Nat} {sv tv : Nat → List Value} {ys : List (List Nat)} {i : Nat} (h : PaM w gp p B vF vG vD rF rG rD fv gv dv rf rg sv tv) (hi : i < p.files.length)
    (hc : Chg (fun g => rF = some g ∨ rf i = some g) w w') (hout : OwnV w' vF (fv.set i x) rF) (hx : OwnV w' x us q) (hq : q = rf i ∨ ∀ g, q = some g → w.heap.size ≤ g) (hus : us.length = ys.length) (hB : NewB w w' B B') (hlf : ∀ j, j < us.length → leafB w' B' (us.getD j undef) (ys.getD j [])) (hn : ∀ g, q = some g → w.heap.size ≤ g → ¬ B' g) :
    PaM w' gp ⟨p.files.set i ys, p.grown, p.dirs⟩ B' vF vG vD rF rG rD (fv.set i x) gv dv (fun n => if n = i then q else rf n) rg (fun n => if n = i then us else sv n) tv := by
  have hlt := h.lt
  have hSF : ∀ g, (rF = some g ∨ rf i = some g) → RRB p.files.length rF rf g := fun g e => e.imp id (fun e => ⟨i, hi, e⟩)
  have hBk : ∀ g, B g → w'.heap[g]? = w.heap[g]? := fun g e => hc.block g (h.b g e) (fun hs => (h.s1 g (hSF g hs)).2.2.2 e)
  have hgp : w'.heap[gp]? = w.heap[gp]? := hc.block gp (cell_lt h.c0) (fun hs => (h.s1 gp (hSF gp hs)).1 rfl)
  have hce : ∀ j, w'.cell? ⟨gp, j, none⟩ = w.cell? ⟨gp, j, none⟩ := fun j => World.cell?_of_block (w := w) (a := ⟨gp, j, none⟩) hgp
  have hgpl : gp < w.heap.size := cell_lt h.c0
  have hM : ∀ g, RRB (p.files.set i ys).length rF (fun n => if n = i then q else rf n) g → RRB p.files.length rF rf g ∨ (q = some g ∧ w.heap.size ≤ g) := fun g hg => by
    rcases hg with e | ⟨n, hn2, e⟩
    · exact .inl (.inl e)
    · rw [List.length_set] at hn2
      by_cases e2 : n = i
      · simp only [if_pos e2] at e
        exact hq.elim (fun e3 => .inl (.inr ⟨i, hi, by rw [← e3]; exact e⟩)) (fun hh => .inr ⟨e, hh g e⟩)
      · simp only [if_neg e2] at e; exact .inl (.inr ⟨n, hn2, e⟩)
  refine ⟨(hce 0).trans h.c0, (hce 1).trans h.c1, (hce 2).trans h.c2, fun j => (World.frozen?_of_block (w := w) (a := ⟨gp, j, none⟩) hgp).trans (h.fz j), h.F.set hi hc.size (fun u y hl => hl.kept hc.size hBk hB.sub) (fun n hn2 hne g e => ?_) hout hx hus hlf (fun g e e2 => ?_) (fun n hn2 hne g e e2 => ?_), h.G.frame hc.size (fun g e => ?_) (fun u y hl => hl), h.D.of_block hc.size (fun g e => ?_), h.dl, fun j hj => (h.dn j hj).kept hc.size hBk hB.sub, fun g hg => ?_, fun g hg => ?_, fun g e => ⟨(h.s3 g e).1, fun e2 => ?_⟩, fun e => ?_, hB.lt⟩
  · exact hc.block g (hlt g (.inr (.inl (.inr ⟨n, hn2, e⟩)))) (fun hs => hs.elim (fun e2 => h.F.sep n hn2 g e e2) (fun e2 => h.F.ap n i hn2 hi hne g e e2))
  · rcases hq with e3 | e3
    · exact h.F.sep i hi g (by rw [← e3]; exact e) e2
    · have := e3 g e; have := h.F.out.rlt g e2; omega
  · rcases hq with e3 | e3
    · exact h.F.ap n i hn2 hi hne g e (by rw [← e3]; exact e2)
    · have := e3 g e2; have := hlt g (.inr (.inl (.inr ⟨n, hn2, e⟩))); omega
  · exact hc.block g (hlt g (.inr (.inr (.inl e)))) (fun hs => (h.s1 g (hSF g hs)).2.1 e)
  · exact hc.block g (hlt g (.inr (.inr (.inr (.inl e))))) (fun hs => (h.s1 g (hSF g hs)).2.2.1 e)
  · rcases hM g hg with e | ⟨e, e2⟩
    · obtain ⟨a1, a2, a3, a4⟩ := h.s1 g e
      exact ⟨a1, a2, a3, fun e3 => (hB.new g e3).elim a4 (fun e4 => by have := hlt g (.inr (.inl e)); omega)⟩
    · exact ⟨by omega, fun e3 => by have := hlt g (.inr (.inr (.inl e3))); omega, fun e3 => by have := hlt g (.inr (.inr (.inr (.inl e3)))); omega, hn g e e2⟩
  · obtain ⟨a1, a2, a3⟩ := h.s2 g hg
    exact ⟨a1, a2, fun e3 => (hB.new g e3).elim a3 (fun e4 => by have := hlt g (.inr (.inr (.inl hg))); omega)⟩
  · exact (hB.new g e2).elim (h.s3 g e).2 (fun e4 => by have := hlt g (.inr (.inr (.inr (.inl e)))); omega)
  · exact (hB.new gp e).elim h.s4 (fun e4 => by omega)
/-- Another row of a file's numbers. -/
theorem PaM.setG {w w' : World} {gp : Nat} {p : Ps} {B : Nat → Prop} {vF vG vD x : Value} {rF rG rD q : Option Nat} {fv gv dv us : List Value} {rf rg : Nat → Option Nat} {sv tv : Nat → List Value} {ys : List Int} {i : Nat} (h : PaM w gp p B vF vG vD rF rG rD fv gv dv rf rg sv tv) (hi : i < p.grown.length)
    (hc : Chg (fun g => rG = some g ∨ rg i = some g) w w') (hout : OwnV w' vG (gv.set i x) rG) (hx : OwnV w' x us q) (hq : q = rg i ∨ ∀ g, q = some g → w.heap.size ≤ g) (hus : us.length = ys.length) (hlf : ∀ j, j < us.length → leafI (us.getD j undef) (ys.getD j 0)) :
    PaM w' gp ⟨p.files, p.grown.set i ys, p.dirs⟩ B vF vG vD rF rG rD fv (gv.set i x) dv rf (fun n => if n = i then q else rg n) sv (fun n => if n = i then us else tv n) := by
  have hlt := h.lt
  have hSG : ∀ g, (rG = some g ∨ rg i = some g) → RRB p.grown.length rG rg g := fun g e => e.imp id (fun e => ⟨i, hi, e⟩)
  have hBk : ∀ g, B g → w'.heap[g]? = w.heap[g]? := fun g e => hc.block g (h.b g e) (fun hs => (h.s2 g (hSG g hs)).2.2 e)
  have hgp : w'.heap[gp]? = w.heap[gp]? := hc.block gp (cell_lt h.c0) (fun hs => (h.s2 gp (hSG gp hs)).1 rfl)
  have hce : ∀ j, w'.cell? ⟨gp, j, none⟩ = w.cell? ⟨gp, j, none⟩ := fun j => World.cell?_of_block (w := w) (a := ⟨gp, j, none⟩) hgp
  have hgpl : gp < w.heap.size := cell_lt h.c0
  have hM : ∀ g, RRB (p.grown.set i ys).length rG (fun n => if n = i then q else rg n) g → RRB p.grown.length rG rg g ∨ w.heap.size ≤ g := fun g hg => by
    rcases hg with e | ⟨n, hn2, e⟩
    · exact .inl (.inl e)
    · rw [List.length_set] at hn2
      by_cases e2 : n = i
      · simp only [if_pos e2] at e
        exact hq.elim (fun e3 => .inl (.inr ⟨i, hi, by rw [← e3]; exact e⟩)) (fun hh => .inr (hh g e))
      · simp only [if_neg e2] at e; exact .inl (.inr ⟨n, hn2, e⟩)
  refine ⟨(hce 0).trans h.c0, (hce 1).trans h.c1, (hce 2).trans h.c2, fun j => (World.frozen?_of_block (w := w) (a := ⟨gp, j, none⟩) hgp).trans (h.fz j), h.F.frame hc.size (fun g e => ?_) (fun u y hl => hl.kept hc.size hBk (fun g e => e)), h.G.set hi hc.size (fun u y hl => hl) (fun n hn2 hne g e => ?_) hout hx hus hlf (fun g e e2 => ?_) (fun n hn2 hne g e e2 => ?_), h.D.of_block hc.size (fun g e => ?_), h.dl, fun j hj => (h.dn j hj).kept hc.size hBk (fun g e => e), fun g hg => ?_, fun g hg => ?_, h.s3, h.s4, fun g e => Nat.lt_of_lt_of_le (h.b g e) hc.size⟩
  · exact hc.block g (hlt g (.inr (.inl e))) (fun hs => (h.s1 g e).2.1 (hSG g hs))
  · exact hc.block g (hlt g (.inr (.inr (.inl (.inr ⟨n, hn2, e⟩))))) (fun hs => hs.elim (fun e2 => h.G.sep n hn2 g e e2) (fun e2 => h.G.ap n i hn2 hi hne g e e2))
  · rcases hq with e3 | e3
    · exact h.G.sep i hi g (by rw [← e3]; exact e) e2
    · have := e3 g e; have := h.G.out.rlt g e2; omega
  · rcases hq with e3 | e3
    · exact h.G.ap n i hn2 hi hne g e (by rw [← e3]; exact e2)
    · have := e3 g e2; have := hlt g (.inr (.inr (.inl (.inr ⟨n, hn2, e⟩)))); omega
  · exact hc.block g (hlt g (.inr (.inr (.inr (.inl e))))) (fun hs => (h.s2 g (hSG g hs)).2.1 e)
  · obtain ⟨a1, a2, a3, a4⟩ := h.s1 g hg
    exact ⟨a1, fun e3 => (hM g e3).elim a2 (fun e4 => by have := hlt g (.inr (.inl hg)); omega), a3, a4⟩
  · rcases hM g hg with e | e
    · exact h.s2 g e
    · exact ⟨by omega, fun e3 => by have := hlt g (.inr (.inr (.inr (.inl e3)))); omega, fun e3 => by have := h.b g e3; omega⟩
/-- Other directories. -/
theorem PaM.putD {w w' : World} {gp : Nat} {p : Ps} {B B' : Nat → Prop} {vF vG vD v' : Value} {rF rG rD r' : Option Nat} {fv gv dv dv' : List Value} {rf rg : Nat → Option Nat} {sv tv : Nat → List Value} {ds : List (List (Nm × Nat))} (h : PaM w gp p B vF vG vD rF rG rD fv gv dv rf rg sv tv)
    (hc : Chg (fun g => g = gp ∨ rD = some g) w w') (c0 : w'.cell? ⟨gp, 0, none⟩ = some vF) (c1 : w'.cell? ⟨gp, 1, none⟩ = some vG) (c2 : w'.cell? ⟨gp, 2, none⟩ = some v') (fz : ∀ j, w'.frozen? ⟨gp, j, none⟩ = false)
    (hout : OwnV w' v' dv' r') (hr : r' = rD ∨ ∀ g, r' = some g → w.heap.size ≤ g) (hl : dv'.length = ds.length) (hB : NewB w w' B B') (hlf : ∀ j, j < dv'.length → leafN w' B' (dv'.getD j undef) (ds.getD j [])) (hn : ∀ g, r' = some g → w.heap.size ≤ g → ¬ B' g) :
    PaM w' gp ⟨p.files, p.grown, ds⟩ B' vF vG v' rF rG r' fv gv dv' rf rg sv tv := by
  have hlt := h.lt
  have hBk : ∀ g, B g → w'.heap[g]? = w.heap[g]? := fun g e => hc.block g (h.b g e) (fun hs => hs.elim (fun e2 => h.s4 (by rw [← e2]; exact e)) (fun e2 => (h.s3 g e2).2 e))
  have hgpl : gp < w.heap.size := cell_lt h.c0
  have hr2 : ∀ g, r' = some g → rD = some g ∨ w.heap.size ≤ g := fun g e => hr.elim (fun e2 => .inl (by rw [← e2]; exact e)) (fun hh => .inr (hh g e))
  refine ⟨c0, c1, c2, fz, h.F.frame hc.size (fun g e => ?_) (fun u y hl => hl.kept hc.size hBk hB.sub), h.G.frame hc.size (fun g e => ?_) (fun u y hl => hl), hout, hl, hlf, fun g hg => ?_, fun g hg => ?_, fun g e => ?_, fun e => ?_, hB.lt⟩
  · exact hc.block g (hlt g (.inr (.inl e))) (fun hs => hs.elim (fun e2 => (h.s1 g e).1 e2) (fun e2 => (h.s1 g e).2.2.1 e2))
  · exact hc.block g (hlt g (.inr (.inr (.inl e)))) (fun hs => hs.elim (fun e2 => (h.s2 g e).1 e2) (fun e2 => (h.s2 g e).2.1 e2))
  · obtain ⟨a1, a2, a3, a4⟩ := h.s1 g hg
    have := hlt g (.inr (.inl hg))
    exact ⟨a1, a2, fun e => (hr2 g e).elim a3 (fun e2 => by omega), fun e3 => (hB.new g e3).elim a4 (fun e4 => by omega)⟩
  · obtain ⟨a1, a2, a3⟩ := h.s2 g hg
    have := hlt g (.inr (.inr (.inl hg)))
    exact ⟨a1, fun e => (hr2 g e).elim a2 (fun e2 => by omega), fun e3 => (hB.new g e3).elim a3 (fun e4 => by omega)⟩
  · rcases hr2 g e with e2 | e2
    · obtain ⟨a1, a2⟩ := h.s3 g e2
      have := h.D.rlt g e2
      exact ⟨a1, fun e3 => (hB.new g e3).elim a2 (fun e4 => by omega)⟩
    · exact ⟨by omega, hn g e e2⟩
  · exact (hB.new gp e).elim h.s4 (fun e4 => by omega)
end Go.Proofs.Ytgpmhflndcppeaa

/-! The law on the past, plainly: a step that went well is written down. -/
namespace Go.Proofs.Ytgpmhflndcppeaa
open Go.RowKit Go.Maps Plain
set_option linter.unusedVariables false
set_option linter.unusedSimpArgs false

theorem del_keys {L : Dir} {k : Nm} (h : (L.map (·.1)).Nodup) : ((del L k).map (·.1)).Nodup := h.sublist (List.filter_sublist.map _)
theorem del_not {L : Dir} {k : Nm} {q : Nm × Nat} (h : q ∈ del L k) : q.1 ≠ k := by
  have := (List.mem_filter.mp h).2
  simpa using this
theorem put_permP (L : Dir) (k : Nm) (g : Nat) : (put L k g).Perm ((k, g) :: del L k) := ins_perm _ _
theorem put_keys {L : Dir} {k : Nm} {g : Nat} (h : (L.map (·.1)).Nodup) : ((put L k g).map (·.1)).Nodup := by
  rw [((put_permP L k g).map (·.1)).nodup_iff, List.map_cons, List.nodup_cons]
  refine ⟨fun hm => ?_, del_keys h⟩
  obtain ⟨q, hq, e⟩ := List.mem_map.mp hm
  exact del_not hq e
theorem on_keys {L : Dir} {c : DC} (h : (L.map (·.1)).Nodup) : ((DC.on L c).map (·.1)).Nodup := by
  cases c using DC.elim with
  | mk k g => rw [DC.on_mk]; exact put_keys h
  | mv a b =>
    rw [DC.on_mv]
    cases e : look L a with
    | none => exact h
    | some g => exact del_keys (put_keys h)
  | rm k => rw [DC.on_rm]; exact del_keys h
def leftL (l : List (Nm × Nat)) (s : Nm) : List (Nm × Nat) := l.filter fun x => !(x.1 == s)
def leadL (l : List (Nm × Nat)) (s : Nm) : Int := (l.find? fun x => x.1 == s).elim (-1) fun x => (x.2 : Int)
def Ps.last (p : Ps) : List (Nm × Nat) := p.dirs.getD (p.dirs.length - 1) []
def nuOf (ν : Nat → Nat) (q : Nm × Nat) : Nm × Nat := (q.1, ν q.2)
theorem left_map (ν : Nat → Nat) (L : Dir) (s : Nm) : leftL (L.map (nuOf ν)) s = (del L s).map (nuOf ν) := by
  unfold leftL del
  rw [List.filter_map]
  rfl
theorem left_perm {l m : List (Nm × Nat)} (h : l.Perm m) (s : Nm) : (leftL l s).Perm (leftL m s) := h.filter _
/-- What is seen. -/
theorem PsR.seen {k : Dk} {ν : Nat → Nat} {p : Ps} {n : Nat} (h : PsR k ν p) (hd : k.Dok n) : p.last.Perm (k.L.map (nuOf ν)) ∧ (k.L.map (·.1)).Nodup ∧ 1 ≤ p.dirs.length := by
  have h1 := h.dir _ (Nat.le_refl _)
  have h2 := h.nod _ (Nat.le_refl _)
  rw [List.take_length, ← hd.eq] at h1 h2
  have e : p.dirs.length - 1 = k.chg.length := by rw [h.dlen]; omega
  refine ⟨?_, h2, by rw [h.dlen]; omega⟩
  unfold Ps.last
  rw [e]
  exact h1
theorem lead_of {l : List (Nm × Nat)} {L : Dir} {ν : Nat → Nat} (hp : l.Perm (L.map (nuOf ν))) (hn : (L.map (·.1)).Nodup) (s : Nm) : leadL l s = (look L s).elim (-1) fun G => (ν G : Int) := by
  have hln : (l.map (·.1)).Nodup := by
    have e : ((L.map (nuOf ν)).map (·.1)) = L.map (·.1) := by rw [List.map_map]; rfl
    exact (hp.map (·.1)).nodup_iff.mpr (by rw [e]; exact hn)
  unfold leadL
  cases hf : l.find? (fun x => x.1 == s) with
  | none =>
    have hno : look L s = none := by
      cases hl : look L s with
      | none => rfl
      | some G =>
        have hm : (s, ν G) ∈ l := hp.mem_iff.mpr (List.mem_map.mpr ⟨(s, G), look_mem hl, rfl⟩)
        rw [List.find?_eq_none] at hf
        exact absurd (by simp) (hf _ hm)
    rw [hno]; rfl
  | some x =>
    have hm := List.mem_of_find?_eq_some hf
    have hx : x.1 = s := by simpa using List.find?_some hf
    obtain ⟨q, hq, e⟩ := List.mem_map.mp (hp.mem_iff.mp hm)
    have hq1 : q.1 = s := by rw [← hx, ← e]; rfl
    have hl : look L s = some q.2 := look_of_mem hn (by rw [← hq1]; exact hq)
    rw [hl, ← e]
    rfl
theorem PsR.same {k k' : Dk} {ν : Nat → Nat} {p : Ps} (h : PsR k ν p) (e1 : k'.Ld = k.Ld) (e2 : k'.chg = k.chg) (e3 : k'.file = k.file) (e4 : k'.live = k.live) : PsR k' ν p :=
  ⟨by rw [e4]; exact h.inj, h.len, by rw [e3, e4]; exact h.file, by rw [e2]; exact h.dlen, by rw [e1, e2]; exact h.dir, by rw [e1, e2]; exact h.nod⟩
/-- A file's states have turned. -/
theorem PsR.setF {k k' : Dk} {ν : Nat → Nat} {p : Ps} {G : Nat} {f : Fl} (h : PsR k ν p) (hG : k.live G) (e1 : k'.Ld = k.Ld) (e2 : k'.chg = k.chg) (e3 : k'.file = upd k.file G f) (e4 : k'.live = k.live) : PsR k' ν ⟨p.files.set (ν G) (sts f), p.grown.set (ν G) (grs f), p.dirs⟩ := by
  obtain ⟨g1, g2, g3⟩ := h.file G hG
  refine ⟨by rw [e4]; exact h.inj, by simp [h.len], fun H hH => ?_, by rw [e2]; exact h.dlen, by rw [e1, e2]; exact h.dir, by rw [e1, e2]; exact h.nod⟩
  rw [e4] at hH
  rw [e3]
  by_cases e : H = G
  · subst e
    rw [upd_same]
    refine ⟨by simpa using g1, ?_, ?_⟩
    · show (p.files.set (ν H) (sts f)).getD (ν H) [] = _
      rw [List.getD_eq_getElem?_getD, List.getElem?_set_self g1]; rfl
    · show (p.grown.set (ν H) (grs f)).getD (ν H) [] = _
      rw [List.getD_eq_getElem?_getD, List.getElem?_set_self (by rw [h.len]; exact g1)]; rfl
  · have hne : ν G ≠ ν H := fun e5 => e (h.inj H G hH hG e5.symm)
    obtain ⟨a1, a2, a3⟩ := h.file H hH
    rw [upd_other _ _ _ _ e]
    refine ⟨by simpa using a1, ?_, ?_⟩
    · show (p.files.set (ν G) (sts f)).getD (ν H) [] = _
      rw [List.getD_eq_getElem?_getD, List.getElem?_set_ne hne, ← List.getD_eq_getElem?_getD]; exact a2
    · show (p.grown.set (ν G) (grs f)).getD (ν H) [] = _
      rw [List.getD_eq_getElem?_getD, List.getElem?_set_ne hne, ← List.getD_eq_getElem?_getD]; exact a3
/-- The directory has turned. -/
theorem PsR.did {k k' : Dk} {ν : Nat → Nat} {p : Ps} {n : Nat} {c : DC} {l : List (Nm × Nat)} (h : PsR k ν p) (hd : k.Dok n) (e1 : k'.Ld = k.Ld) (e2 : k'.chg = k.chg ++ [c]) (e3 : k'.file = k.file) (e4 : k'.live = k.live) (hl : l.Perm ((DC.on k.L c).map (nuOf ν))) : PsR k' ν ⟨p.files, p.grown, p.dirs ++ [l]⟩ := by
  have hdl := h.dlen
  have hst : ∀ j, j ≤ k.chg.length → (k.chg ++ [c]).take j = k.chg.take j := fun j hj => by rw [List.take_append_of_le_length hj]
  have hend : dst k.Ld ((k.chg ++ [c]).take (k.chg.length + 1)) = DC.on k.L c := by
    rw [List.take_of_length_le (by simp), dst_snoc, ← hd.eq]
  refine ⟨by rw [e4]; exact h.inj, h.len, by rw [e3, e4]; exact h.file, by rw [e2]; simp [hdl], fun j hj => ?_, fun j hj => ?_⟩
  all_goals
    rw [e2, List.length_append, List.length_singleton] at hj
    rw [e1, e2]
  · by_cases e : j = k.chg.length + 1
    · subst e
      rw [hend]
      show ((p.dirs ++ [l]).getD (k.chg.length + 1) []).Perm _
      rw [← hdl, List.getD_eq_getElem?_getD, List.getElem?_append_right (Nat.le_refl _)]
      have e9 : ([l][p.dirs.length - p.dirs.length]?).getD [] = l := by simp
      rw [e9]
      exact hl
    · have hj' : j ≤ k.chg.length := by omega
      rw [hst j hj']
      show ((p.dirs ++ [l]).getD j []).Perm _
      rw [List.getD_eq_getElem?_getD, List.getElem?_append_left (by omega), ← List.getD_eq_getElem?_getD]
      exact h.dir j hj'
  · by_cases e : j = k.chg.length + 1
    · subst e
      rw [hend]
      exact on_keys (h.seen hd).2.1
    · have hj' : j ≤ k.chg.length := by omega
      rw [hst j hj']
      exact h.nod j hj'
/-- A new file. -/
theorem PsR.fresh {k k' : Dk} {ν : Nat → Nat} {p : Ps} {G : Nat} (h : PsR k ν p) (hp : k.Past) (hG : ¬ k.live G) (e1 : k'.Ld = k.Ld) (e2 : k'.chg = k.chg) (e3 : k'.file = upd k.file G ⟨[], [], []⟩) (e4 : k'.live = fun x => k.live x ∨ x = G) : PsR k' (upd ν G p.files.length) ⟨p.files ++ [[[]]], p.grown ++ [[-1]], p.dirs⟩ := by
  have hlv : ∀ j, ∀ q ∈ dst k.Ld (k.chg.take j), q.2 ≠ G := fun j q hq e => hG (by
    rw [← e]
    exact dst_live (lv := k.live) (k.chg.take j) k.Ld hp.ld (fun nm g hg => hp.made nm g (List.mem_of_mem_take hg)) q hq)
  have hmap : ∀ j, (dst k.Ld (k.chg.take j)).map (fun q => (q.1, upd ν G p.files.length q.2)) = (dst k.Ld (k.chg.take j)).map (fun q => (q.1, ν q.2)) := fun j => by
    refine List.map_congr_left fun q hq => ?_
    rw [upd_other _ _ _ _ (hlv j q hq)]
  refine ⟨fun A C hA hC e => ?_, by simp [h.len], fun H hH => ?_, by rw [e2]; exact h.dlen, fun j hj => ?_, fun j hj => ?_⟩
  · rw [e4] at hA hC
    rcases hA with hA | hA <;> rcases hC with hC | hC
    · rw [upd_other _ _ _ _ (fun e5 => hG (by rw [← e5]; exact hA)), upd_other _ _ _ _ (fun e5 => hG (by rw [← e5]; exact hC))] at e
      exact h.inj A C hA hC e
    · subst hC
      rw [upd_same, upd_other _ _ _ _ (fun e5 => hG (by rw [← e5]; exact hA))] at e
      have := (h.file A hA).1; omega
    · subst hA
      rw [upd_same, upd_other _ _ _ _ (fun e5 => hG (by rw [← e5]; exact hC))] at e
      have := (h.file C hC).1; omega
    · rw [hA, hC]
  · rw [e4] at hH
    rw [e3]
    rcases hH with hH | hH
    · have hne : H ≠ G := fun e5 => hG (by rw [← e5]; exact hH)
      obtain ⟨a1, a2, a3⟩ := h.file H hH
      rw [upd_other _ _ _ _ hne, upd_other _ _ _ _ hne]
      refine ⟨by simp; omega, ?_, ?_⟩
      · show (p.files ++ [[[]]]).getD (ν H) [] = _
        rw [List.getD_eq_getElem?_getD, List.getElem?_append_left a1, ← List.getD_eq_getElem?_getD]; exact a2
      · show (p.grown ++ [[-1]]).getD (ν H) [] = _
        rw [List.getD_eq_getElem?_getD, List.getElem?_append_left (by rw [h.len]; exact a1), ← List.getD_eq_getElem?_getD]; exact a3
    · subst hH
      rw [upd_same, upd_same]
      refine ⟨by simp, ?_, ?_⟩
      · show (p.files ++ [[[]]]).getD p.files.length [] = _
        rw [List.getD_eq_getElem?_getD, List.getElem?_append_right (Nat.le_refl _)]
        simp [sts, fst]
      · show (p.grown ++ [[-1]]).getD p.files.length [] = _
        rw [← h.len, List.getD_eq_getElem?_getD, List.getElem?_append_right (Nat.le_refl _)]
        simp [grs]
  · rw [e2] at hj
    rw [e1, e2, hmap]
    exact h.dir j hj
  · rw [e2] at hj
    rw [e1, e2]
    exact h.nod j hj
/-- The directory is synced. -/
theorem PsR.settled {k k' : Dk} {ν : Nat → Nat} {p : Ps} {n : Nat} (h : PsR k ν p) (hd : k.Dok n) (e1 : k'.Ld = k.L) (e2 : k'.chg = []) (e3 : k'.file = k.file) (e4 : k'.live = k.live) : PsR k' ν ⟨p.files, p.grown, [p.last]⟩ := by
  obtain ⟨s1, s2, -⟩ := h.seen hd
  refine ⟨by rw [e4]; exact h.inj, h.len, by rw [e3, e4]; exact h.file, by rw [e2]; rfl, fun j hj => ?_, fun j hj => ?_⟩
  all_goals
    rw [e2] at hj
    have hj0 : j = 0 := by simpa using hj
    subst hj0
    rw [e1, e2]
  · exact s1
  · exact s2
theorem sts_add {f : Fl} (h : f.Ok) (b : List Nat) : sts (f.add b) = sts f ++ [f.seen ++ b] := by
  unfold sts Fl.add
  rw [show (f.chg ++ [FC.add b]).length = f.chg.length + 1 by simp, List.range_succ, List.map_append]
  congr 1
  · refine List.map_congr_left fun j hj => ?_
    rw [List.take_append_of_le_length (by have := List.mem_range.mp hj; omega)]
  · simp only [List.map_cons, List.map_nil]
    rw [List.take_of_length_le (by simp), fst_snoc, ← h.eq]
    rfl
theorem sts_trim {f : Fl} (h : f.Ok) (n : Nat) : sts (f.trim n) = sts f ++ [f.seen.take n] := by
  unfold sts Fl.trim
  rw [show (f.chg ++ [FC.cut n]).length = f.chg.length + 1 by simp, List.range_succ, List.map_append]
  congr 1
  · refine List.map_congr_left fun j hj => ?_
    rw [List.take_append_of_le_length (by have := List.mem_range.mp hj; omega)]
  · simp only [List.map_cons, List.map_nil]
    rw [List.take_of_length_le (by simp), fst_snoc, ← h.eq]
    rfl
theorem grs_add (f : Fl) (b : List Nat) : grs (f.add b) = grs f ++ [(b.length : Int)] := by simp [grs, Fl.add, grw_add]
theorem grs_trim (f : Fl) (n : Nat) : grs (f.trim n) = grs f ++ [-1] := by simp [grs, Fl.trim, grw_cut]
theorem sts_synced (l : List Nat) : sts ⟨l, l, []⟩ = [l] := by simp [sts, fst]
theorem grs_synced (l : List Nat) : grs ⟨l, l, []⟩ = [-1] := by simp [grs]
/-- The last of a file's states is what is seen. -/
theorem sts_last {f : Fl} (h : f.Ok) : (sts f).getD ((sts f).length - 1) [] = f.seen := by
  rw [sts_len, Nat.add_sub_cancel, sts_at f (Nat.le_refl _), List.take_length, ← h.eq]
end Go.Proofs.Ytgpmhflndcppeaa
