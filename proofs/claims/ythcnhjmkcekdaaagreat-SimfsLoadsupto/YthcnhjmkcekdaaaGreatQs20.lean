import Derived.Test.YthcnhjmkcekdaaaGreatQs18
import Derived.Test.YthcnhjmkcekdaaaGreatQs19
import Derived.Test.YthcnhjmkcekdaaaGreatQs17
namespace Go.Proofs.YthcnhjmkcekdaaaGreat
open Go.RowKit Go.Maps Plain
set_option linter.unusedVariables false
set_option linter.unusedSimpArgs false
/-- The document's disk, plainly. -/
structure Rk where
  ps : Ps
  most : Int
  left : Int
  off : Bool
  done : Int
structure RdM (w : World) (gp : Nat) (k : Rk) (B : Nat → Prop) (blk : Nat → Option Nat) (vF vD : Value) (xs : List Ino) (dv : List Value) (sv tv : Nat → List Value) : Prop where
  cells : w.heap[gp]? = some (.cells #[vF, vD, .int .i64 k.most, .int .i64 k.left, .bool k.off, .int .i64 k.done] 51)
  F : OwnIno w vF xs (blk 0)
  D : OwnV w vD dv (blk 1)
  fl : xs.length = k.ps.files.length
  gl : k.ps.grown.length = k.ps.files.length
  dl : dv.length = k.ps.dirs.length
  S : ∀ n, n < xs.length → OwnV w (xs.getD n Ino.zero).st (sv n) (blk (2 * n + 2))
  G : ∀ n, n < xs.length → OwnV w (xs.getD n Ino.zero).mo (tv n) (blk (2 * n + 3))
  sl : ∀ n, n < xs.length → (sv n).length = (k.ps.files.getD n []).length
  tl : ∀ n, n < xs.length → (tv n).length = (k.ps.grown.getD n []).length
  sf : ∀ n, n < xs.length → ∀ j, j < (sv n).length → leafB w B ((sv n).getD j undef) ((k.ps.files.getD n []).getD j [])
  tf : ∀ n, n < xs.length → ∀ j, j < (tv n).length → leafI ((tv n).getD j undef) ((k.ps.grown.getD n []).getD j 0)
  df : ∀ j, j < dv.length → leafN w B (dv.getD j undef) (k.ps.dirs.getD j [])
  sep : ∀ i j g, blk i = some g → blk j = some g → i = j
  me : ∀ i g, blk i = some g → g ≠ gp ∧ ¬ B g
  out : ∀ n, xs.length ≤ n → blk (2 * n + 2) = none ∧ blk (2 * n + 3) = none
  nb : ¬ B gp
  b : ∀ g, B g → g < w.heap.size
theorem RdM.gpl {w : World} {gp : Nat} {k : Rk} {B : Nat → Prop} {blk : Nat → Option Nat} {vF vD : Value} {xs : List Ino} {dv : List Value} {sv tv : Nat → List Value} (h : RdM w gp k B blk vF vD xs dv sv tv) : gp < w.heap.size := (Array.getElem?_eq_some_iff.mp h.cells).1
theorem RdM.blt {w : World} {gp : Nat} {k : Rk} {B : Nat → Prop} {blk : Nat → Option Nat} {vF vD : Value} {xs : List Ino} {dv : List Value} {sv tv : Nat → List Value} (h : RdM w gp k B blk vF vD xs dv sv tv) : ∀ i g, blk i = some g → g < w.heap.size := fun i g e => by
  by_cases h0 : i = 0
  · subst h0; exact h.F.rlt g e
  by_cases h1 : i = 1
  · subst h1; exact h.D.rlt g e
  by_cases hn : (i - 2) / 2 < xs.length
  · by_cases hp : i % 2 = 0
    · have ei : 2 * ((i - 2) / 2) + 2 = i := by omega
      have := h.S _ hn
      rw [ei] at this
      exact this.rlt g e
    · have ei : 2 * ((i - 2) / 2) + 3 = i := by omega
      have := h.G _ hn
      rw [ei] at this
      exact this.rlt g e
  · have ho := h.out ((i - 2) / 2) (by omega)
    by_cases hp : i % 2 = 0
    · rw [show 2 * ((i - 2) / 2) + 2 = i by omega, e] at ho; cases ho.1
    · rw [show 2 * ((i - 2) / 2) + 3 = i by omega, e] at ho; cases ho.2
/-- All its blocks. -/
def rdT (gp : Nat) (B : Nat → Prop) (blk : Nat → Option Nat) (g : Nat) : Prop := g = gp ∨ (∃ i, blk i = some g) ∨ B g
theorem RdM.lt {w : World} {gp : Nat} {k : Rk} {B : Nat → Prop} {blk : Nat → Option Nat} {vF vD : Value} {xs : List Ino} {dv : List Value} {sv tv : Nat → List Value} (h : RdM w gp k B blk vF vD xs dv sv tv) : ∀ g, rdT gp B blk g → g < w.heap.size := fun g hg => by
  rcases hg with e | ⟨i, e⟩ | e
  · rw [e]; exact h.gpl
  · exact h.blt i g e
  · exact h.b g e
theorem RdM.kept {w w' : World} {gp : Nat} {k : Rk} {B : Nat → Prop} {blk : Nat → Option Nat} {vF vD : Value} {xs : List Ino} {dv : List Value} {sv tv : Nat → List Value} (h : RdM w gp k B blk vF vD xs dv sv tv) (hs : w.heap.size ≤ w'.heap.size) (hb : ∀ g, rdT gp B blk g → w'.heap[g]? = w.heap[g]?) : RdM w' gp k B blk vF vD xs dv sv tv := by
  have hi : ∀ i g, blk i = some g → w'.heap[g]? = w.heap[g]? := fun i g e => hb g (.inr (.inl ⟨i, e⟩))
  have hB : ∀ g, B g → w'.heap[g]? = w.heap[g]? := fun g e => hb g (.inr (.inr e))
  exact ⟨(hb gp (.inl rfl)).trans h.cells, h.F.of_block hs (hi 0), h.D.of_block hs (hi 1), h.fl, h.gl, h.dl, fun n hn => (h.S n hn).of_block hs (hi _), fun n hn => (h.G n hn).of_block hs (hi _), h.sl, h.tl, fun n hn j hj => (h.sf n hn j hj).kept hs hB (fun g e => e), h.tf, fun j hj => (h.df j hj).kept hs hB (fun g e => e), h.sep, h.me, h.out, h.nb, fun g e => Nat.lt_of_lt_of_le (h.b g e) hs⟩
theorem RdM.later {w w' : World} {gp : Nat} {k : Rk} {B : Nat → Prop} {blk : Nat → Option Nat} {vF vD : Value} {xs : List Ino} {dv : List Value} {sv tv : Nat → List Value} (h : RdM w gp k B blk vF vD xs dv sv tv) (hb : Below w.heap.size w w') : RdM w' gp k B blk vF vD xs dv sv tv := h.kept hb.size (fun g hg => hb.block g (h.lt g hg))
theorem rcells {w : World} {d : Nat} {a0 a1 a2 a3 a4 a5 : Value} (h : w.heap[d]? = some (.cells #[a0, a1, a2, a3, a4, a5] 51)) :
    (w.cell? ⟨d, 0, none⟩ = some a0 ∧ w.cell? ⟨d, 1, none⟩ = some a1 ∧ w.cell? ⟨d, 2, none⟩ = some a2 ∧ w.cell? ⟨d, 3, none⟩ = some a3 ∧ w.cell? ⟨d, 4, none⟩ = some a4 ∧ w.cell? ⟨d, 5, none⟩ = some a5) ∧
    (w.frozen? ⟨d, 0, none⟩ = false ∧ w.frozen? ⟨d, 1, none⟩ = false ∧ w.frozen? ⟨d, 2, none⟩ = false ∧ w.frozen? ⟨d, 3, none⟩ = false ∧ w.frozen? ⟨d, 4, none⟩ = false ∧ w.frozen? ⟨d, 5, none⟩ = false) := by
  simp [World.cell?, World.frozen?, h]
theorem rset {w : World} {d : Nat} {cs : Array Value} (h : w.heap[d]? = some (.cells cs 51)) (i : Nat) (u : Value) : (w.setCell ⟨d, i, none⟩ u).heap[d]? = some (.cells (cs.setIfInBounds i u) 51) := heap_setCell_same w d i _ _ u h
/-- Its flags have turned. -/
theorem RdM.flags {w w' : World} {gp : Nat} {k : Rk} {B : Nat → Prop} {blk : Nat → Option Nat} {vF vD : Value} {xs : List Ino} {dv : List Value} {sv tv : Nat → List Value} (h : RdM w gp k B blk vF vD xs dv sv tv) {m l d : Int} {o : Bool} (hc : Chg (fun g => g = gp) w w') (hcl : w'.heap[gp]? = some (.cells #[vF, vD, .int .i64 m, .int .i64 l, .bool o, .int .i64 d] 51)) : RdM w' gp ⟨k.ps, m, l, o, d⟩ B blk vF vD xs dv sv tv := by
  have hi : ∀ i g, blk i = some g → w'.heap[g]? = w.heap[g]? := fun i g e => hc.block g (h.blt i g e) (fun e2 => (h.me i g e).1 e2)
  have hB : ∀ g, B g → w'.heap[g]? = w.heap[g]? := fun g e => hc.block g (h.b g e) (fun e2 => h.nb (by rw [← e2]; exact e))
  have hs := hc.size
  exact ⟨hcl, h.F.of_block hs (hi 0), h.D.of_block hs (hi 1), h.fl, h.gl, h.dl, fun n hn => (h.S n hn).of_block hs (hi _), fun n hn => (h.G n hn).of_block hs (hi _), h.sl, h.tl, fun n hn j hj => (h.sf n hn j hj).kept hs hB (fun g e => e), h.tf, fun j hj => (h.df j hj).kept hs hB (fun g e => e), h.sep, h.me, h.out, h.nb, fun g e => Nat.lt_of_lt_of_le (h.b g e) hs⟩
/-- A file's rows have turned. -/
theorem RdM.file {w w' : World} {gp : Nat} {k : Rk} {B B' : Nat → Prop} {blk : Nat → Option Nat} {vF vD : Value} {xs : List Ino} {dv : List Value} {sv tv : Nat → List Value} (h : RdM w gp k B blk vF vD xs dv sv tv) {n : Nat} (hn : n < xs.length) {y : Ino} {us zs : List Value} {q p : Option Nat} {ys : List (List Nat)} {is : List Int}
    (hc : Chg (fun g => blk 0 = some g ∨ blk (2 * n + 2) = some g ∨ blk (2 * n + 3) = some g) w w') (hF : OwnIno w' vF (xs.set n y) (blk 0))
    (hS : OwnV w' y.st us q) (hq : q = blk (2 * n + 2) ∨ ∀ g, q = some g → w.heap.size ≤ g) (hG : OwnV w' y.mo zs p) (hp : p = blk (2 * n + 3) ∨ ∀ g, p = some g → w.heap.size ≤ g) (hqp : ∀ g, q = some g → p ≠ some g)
    (hus : us.length = ys.length) (hzs : zs.length = is.length) (hB : NewB w w' B B') (hlf : ∀ j, j < us.length → leafB w' B' (us.getD j undef) (ys.getD j [])) (hli : ∀ j, j < zs.length → leafI (zs.getD j undef) (is.getD j 0)) (hnB : ∀ g, w.heap.size ≤ g → (q = some g ∨ p = some g) → ¬ B' g) :
    RdM w' gp ⟨⟨k.ps.files.set n ys, k.ps.grown.set n is, k.ps.dirs⟩, k.most, k.left, k.off, k.done⟩ B' (fun i => if i = 2 * n + 2 then q else if i = 2 * n + 3 then p else blk i) vF vD (xs.set n y) dv (fun m => if m = n then us else sv m) (fun m => if m = n then zs else tv m) := by
  have hs := hc.size
  have hlt := h.blt
  have hi : ∀ i g, i ≠ 0 → i ≠ 2 * n + 2 → i ≠ 2 * n + 3 → blk i = some g → w'.heap[g]? = w.heap[g]? := fun i g h0 h1 h2 e => hc.block g (hlt i g e) (fun e2 => by
    rcases e2 with e2 | e2 | e2
    · exact h0 (h.sep i 0 g e e2)
    · exact h1 (h.sep i _ g e e2)
    · exact h2 (h.sep i _ g e e2))
  have hBk : ∀ g, B g → w'.heap[g]? = w.heap[g]? := fun g e => hc.block g (h.b g e) (fun e2 => by
    rcases e2 with e2 | e2 | e2 <;> exact (h.me _ g e2).2 e)
  have hgp : w'.heap[gp]? = w.heap[gp]? := hc.block gp h.gpl (fun e2 => by
    rcases e2 with e2 | e2 | e2 <;> exact (h.me _ gp e2).1 rfl)
  have hcl : ∀ i g, (if i = 2 * n + 2 then q else if i = 2 * n + 3 then p else blk i) = some g → blk i = some g ∨ (w.heap.size ≤ g ∧ ((i = 2 * n + 2 ∧ q = some g) ∨ (i = 2 * n + 3 ∧ p = some g))) := fun i g e => by
    by_cases e1 : i = 2 * n + 2
    · rw [if_pos e1] at e
      rcases hq with e2 | e2
      · left; rw [e1, ← e2]; exact e
      · exact .inr ⟨e2 g e, .inl ⟨e1, e⟩⟩
    · rw [if_neg e1] at e
      by_cases e3 : i = 2 * n + 3
      · rw [if_pos e3] at e
        rcases hp with e2 | e2
        · left; rw [e3, ← e2]; exact e
        · exact .inr ⟨e2 g e, .inr ⟨e3, e⟩⟩
      · rw [if_neg e3] at e; exact .inl e
  refine ⟨hgp.trans h.cells, ?_, ?_, by show (xs.set n y).length = (k.ps.files.set n ys).length; rw [List.length_set, List.length_set]; exact h.fl, by show (k.ps.grown.set n is).length = (k.ps.files.set n ys).length; rw [List.length_set, List.length_set]; exact h.gl, h.dl, fun m hm => ?_, fun m hm => ?_, fun m hm => ?_, fun m hm => ?_, fun m hm j hj => ?_, fun m hm j hj => ?_, fun j hj => (h.df j hj).kept hs hBk hB.sub, fun i j g e1 e2 => ?_, fun i g e => ?_, fun m hm => ?_, fun e => ?_, hB.lt⟩
  all_goals try rw [List.length_set] at hm
  · rw [if_neg (by omega), if_neg (by omega)]; exact hF
  · rw [if_neg (by omega), if_neg (by omega)]; exact h.D.of_block hs (fun g e => hi 1 g (by omega) (by omega) (by omega) e)
  · by_cases e : m = n
    · subst e; rw [if_pos rfl, if_pos rfl, getD_set_eq' _ _ hn]; exact hS
    · rw [if_neg (by omega), if_neg (by omega), if_neg (by omega), getD_set_ne' _ _ (fun e2 => e e2.symm)]; exact (h.S m hm).of_block hs (fun g e2 => hi _ g (by omega) (by omega) (by omega) e2)
  · by_cases e : m = n
    · subst e; rw [show (if 2 * m + 3 = 2 * m + 2 then q else if 2 * m + 3 = 2 * m + 3 then p else blk (2 * m + 3)) = p by rw [if_neg (by omega), if_pos rfl], if_pos rfl, getD_set_eq' _ _ hn]; exact hG
    · rw [if_neg (by omega), if_neg (by omega), if_neg (by omega), getD_set_ne' _ _ (fun e2 => e e2.symm)]; exact (h.G m hm).of_block hs (fun g e2 => hi _ g (by omega) (by omega) (by omega) e2)
  · show _ = ((k.ps.files.set n ys).getD m []).length
    by_cases e : m = n
    · subst e; rw [if_pos rfl, getD_set_eq' _ _ (by rw [← h.fl]; exact hn)]; exact hus
    · rw [if_neg e, getD_set_ne' _ _ (fun e2 => e e2.symm)]; exact h.sl m hm
  · show _ = ((k.ps.grown.set n is).getD m []).length
    by_cases e : m = n
    · subst e; rw [if_pos rfl, getD_set_eq' _ _ (by rw [h.gl, ← h.fl]; exact hn)]; exact hzs
    · rw [if_neg e, getD_set_ne' _ _ (fun e2 => e e2.symm)]; exact h.tl m hm
  · show leafB w' B' _ (((k.ps.files.set n ys).getD m []).getD j [])
    by_cases e : m = n
    · subst e
      rw [if_pos rfl] at hj ⊢
      rw [getD_set_eq' _ _ (by rw [← h.fl]; exact hn)]; exact hlf j hj
    · rw [if_neg e] at hj ⊢
      rw [getD_set_ne' _ _ (fun e2 => e e2.symm)]; exact (h.sf m hm j hj).kept hs hBk hB.sub
  · show leafI _ (((k.ps.grown.set n is).getD m []).getD j 0)
    by_cases e : m = n
    · subst e
      rw [if_pos rfl] at hj ⊢
      rw [getD_set_eq' _ _ (by rw [h.gl, ← h.fl]; exact hn)]; exact hli j hj
    · rw [if_neg e] at hj ⊢
      rw [getD_set_ne' _ _ (fun e2 => e e2.symm)]; exact h.tf m hm j hj
  · rcases hcl i g e1 with a1 | ⟨a1, a2⟩ <;> rcases hcl j g e2 with b1 | ⟨b1, b2⟩
    · exact h.sep i j g a1 b1
    · have := hlt i g a1; omega
    · have := hlt j g b1; omega
    · rcases a2 with ⟨a2, a3⟩ | ⟨a2, a3⟩ <;> rcases b2 with ⟨b2, b3⟩ | ⟨b2, b3⟩
      · omega
      · exact absurd b3 (hqp g a3)
      · exact absurd a3 (hqp g b3)
      · omega
  · rcases hcl i g e with a1 | ⟨a1, a2⟩
    · obtain ⟨m1, m2⟩ := h.me i g a1
      exact ⟨m1, fun e3 => (hB.new g e3).elim m2 (fun e4 => by have := hlt i g a1; omega)⟩
    · have := h.gpl
      exact ⟨by omega, hnB g a1 (a2.imp And.right And.right)⟩
  · rw [if_neg (by omega), if_neg (by omega), if_neg (by omega), if_neg (by omega)]; exact h.out m hm
  · exact (hB.new gp e).elim h.nb (fun e4 => by have := h.gpl; omega)
/-- A file more. -/
theorem RdM.push {w w' : World} {gp : Nat} {k : Rk} {B B' : Nat → Prop} {blk : Nat → Option Nat} {vF vD v' : Value} {xs : List Ino} {dv : List Value} {sv tv : Nat → List Value} (h : RdM w gp k B blk vF vD xs dv sv tv) {y : Ino} {us zs : List Value} {r' q p : Option Nat} {ys : List (List Nat)} {is : List Int}
    (hc : Chg (fun g => g = gp ∨ blk 0 = some g) w w') (hcells : w'.heap[gp]? = some (.cells #[v', vD, .int .i64 k.most, .int .i64 k.left, .bool k.off, .int .i64 k.done] 51)) (hF : OwnIno w' v' (xs ++ [y]) r') (hr : r' = blk 0 ∨ ∀ g, r' = some g → w.heap.size ≤ g)
    (hS : OwnV w' y.st us q) (hq : ∀ g, q = some g → w.heap.size ≤ g ∧ r' ≠ some g) (hG : OwnV w' y.mo zs p) (hp : ∀ g, p = some g → w.heap.size ≤ g ∧ r' ≠ some g) (hqp : ∀ g, q = some g → p ≠ some g)
    (hus : us.length = ys.length) (hzs : zs.length = is.length) (hB : NewB w w' B B') (hlf : ∀ j, j < us.length → leafB w' B' (us.getD j undef) (ys.getD j [])) (hli : ∀ j, j < zs.length → leafI (zs.getD j undef) (is.getD j 0)) (hnB : ∀ g, w.heap.size ≤ g → (r' = some g ∨ q = some g ∨ p = some g) → ¬ B' g) :
    RdM w' gp ⟨⟨k.ps.files ++ [ys], k.ps.grown ++ [is], k.ps.dirs⟩, k.most, k.left, k.off, k.done⟩ B' (fun i => if i = 0 then r' else if i = 2 * xs.length + 2 then q else if i = 2 * xs.length + 3 then p else blk i) v' vD (xs ++ [y]) dv (fun m => if m = xs.length then us else sv m) (fun m => if m = xs.length then zs else tv m) := by
  have hs := hc.size
  have hlt := h.blt
  have hi : ∀ i g, i ≠ 0 → blk i = some g → w'.heap[g]? = w.heap[g]? := fun i g h0 e => hc.block g (hlt i g e) (fun e2 => by
    rcases e2 with e2 | e2
    · exact (h.me i g e).1 e2
    · exact h0 (h.sep i 0 g e e2))
  have hBk : ∀ g, B g → w'.heap[g]? = w.heap[g]? := fun g e => hc.block g (h.b g e) (fun e2 => by
    rcases e2 with e2 | e2
    · exact h.nb (by rw [← e2]; exact e)
    · exact (h.me _ g e2).2 e)
  have hcl : ∀ i g, (if i = 0 then r' else if i = 2 * xs.length + 2 then q else if i = 2 * xs.length + 3 then p else blk i) = some g → (blk i = some g) ∨ (w.heap.size ≤ g ∧ ((i = 0 ∧ r' = some g) ∨ (i = 2 * xs.length + 2 ∧ q = some g) ∨ (i = 2 * xs.length + 3 ∧ p = some g))) := fun i g e => by
    by_cases e0 : i = 0
    · rw [if_pos e0] at e
      rcases hr with e2 | e2
      · left; rw [e0, ← e2]; exact e
      · exact .inr ⟨e2 g e, .inl ⟨e0, e⟩⟩
    rw [if_neg e0] at e
    by_cases e1 : i = 2 * xs.length + 2
    · rw [if_pos e1] at e
      exact .inr ⟨(hq g e).1, .inr (.inl ⟨e1, e⟩)⟩
    · rw [if_neg e1] at e
      by_cases e3 : i = 2 * xs.length + 3
      · rw [if_pos e3] at e
        exact .inr ⟨(hp g e).1, .inr (.inr ⟨e3, e⟩)⟩
      · rw [if_neg e3] at e; exact .inl e
  have hsp : ∀ m, m < (xs ++ [y]).length → m < xs.length ∨ m = xs.length := fun m hm => by simp at hm; omega
  refine ⟨hcells, by rw [if_pos rfl]; exact hF, ?_, by show (xs ++ [y]).length = (k.ps.files ++ [ys]).length; simp [h.fl], by show (k.ps.grown ++ [is]).length = (k.ps.files ++ [ys]).length; simp [h.gl], h.dl, fun m hm => ?_, fun m hm => ?_, fun m hm => ?_, fun m hm => ?_, fun m hm j hj => ?_, fun m hm j hj => ?_, fun j hj => (h.df j hj).kept hs hBk hB.sub, fun i j g e1 e2 => ?_, fun i g e => ?_, fun m hm => ?_, fun e => ?_, hB.lt⟩
  · rw [if_neg (by omega), if_neg (by omega), if_neg (by omega)]; exact h.D.of_block hs (fun g e => hi 1 g (by omega) e)
  · rcases hsp m hm with e | e
    · rw [if_neg (by omega), if_neg (by omega), if_neg (by omega), if_neg (by omega), getD_app_lt' _ _ e]; exact (h.S m e).of_block hs (fun g e2 => hi _ g (by omega) e2)
    · subst e; rw [show (if 2 * xs.length + 2 = 0 then r' else if 2 * xs.length + 2 = 2 * xs.length + 2 then q else if 2 * xs.length + 2 = 2 * xs.length + 3 then p else blk (2 * xs.length + 2)) = q by rw [if_neg (by omega), if_pos rfl], if_pos rfl, getD_app_eq']; exact hS
  · rcases hsp m hm with e | e
    · rw [if_neg (by omega), if_neg (by omega), if_neg (by omega), if_neg (by omega), getD_app_lt' _ _ e]; exact (h.G m e).of_block hs (fun g e2 => hi _ g (by omega) e2)
    · subst e; rw [show (if 2 * xs.length + 3 = 0 then r' else if 2 * xs.length + 3 = 2 * xs.length + 2 then q else if 2 * xs.length + 3 = 2 * xs.length + 3 then p else blk (2 * xs.length + 3)) = p by rw [if_neg (by omega), if_neg (by omega), if_pos rfl], if_pos rfl, getD_app_eq']; exact hG
  · show _ = ((k.ps.files ++ [ys]).getD m []).length
    rcases hsp m hm with e | e
    · rw [if_neg (by omega), getD_app_lt' _ _ (by rw [← h.fl]; exact e)]; exact h.sl m e
    · subst e; rw [if_pos rfl, h.fl, getD_app_eq']; exact hus
  · show _ = ((k.ps.grown ++ [is]).getD m []).length
    rcases hsp m hm with e | e
    · rw [if_neg (by omega), getD_app_lt' _ _ (by rw [h.gl, ← h.fl]; exact e)]; exact h.tl m e
    · subst e; rw [if_pos rfl, h.fl, ← h.gl, getD_app_eq']; exact hzs
  · show leafB w' B' _ (((k.ps.files ++ [ys]).getD m []).getD j [])
    rcases hsp m hm with e | e
    · rw [if_neg (by omega)] at hj ⊢
      rw [getD_app_lt' _ _ (by rw [← h.fl]; exact e)]; exact (h.sf m e j hj).kept hs hBk hB.sub
    · subst e
      rw [if_pos rfl] at hj ⊢
      rw [h.fl, getD_app_eq']; exact hlf j hj
  · show leafI _ (((k.ps.grown ++ [is]).getD m []).getD j 0)
    rcases hsp m hm with e | e
    · rw [if_neg (by omega)] at hj ⊢
      rw [getD_app_lt' _ _ (by rw [h.gl, ← h.fl]; exact e)]; exact h.tf m e j hj
    · subst e
      rw [if_pos rfl] at hj ⊢
      rw [h.fl, ← h.gl, getD_app_eq']; exact hli j hj
  · rcases hcl i g e1 with a1 | ⟨a1, a2⟩ <;> rcases hcl j g e2 with b1 | ⟨b1, b2⟩
    · exact h.sep i j g a1 b1
    · have := hlt i g a1; omega
    · have := hlt j g b1; omega
    · rcases a2 with ⟨a2, a3⟩ | ⟨a2, a3⟩ | ⟨a2, a3⟩ <;> rcases b2 with ⟨b2, b3⟩ | ⟨b2, b3⟩ | ⟨b2, b3⟩
      · omega
      · exact absurd a3 (hq g b3).2
      · exact absurd a3 (hp g b3).2
      · exact absurd b3 (hq g a3).2
      · omega
      · exact absurd b3 (hqp g a3)
      · exact absurd b3 (hp g a3).2
      · exact absurd a3 (hqp g b3)
      · omega
  · rcases hcl i g e with a1 | ⟨a1, a2⟩
    · obtain ⟨m1, m2⟩ := h.me i g a1
      exact ⟨m1, fun e3 => (hB.new g e3).elim m2 (fun e4 => by have := hlt i g a1; omega)⟩
    · have := h.gpl
      exact ⟨by omega, hnB g a1 (a2.imp And.right (fun x => x.imp And.right And.right))⟩
  · rw [List.length_append, List.length_singleton] at hm
    rw [if_neg (by omega), if_neg (by omega), if_neg (by omega), if_neg (by omega), if_neg (by omega), if_neg (by omega)]; exact h.out m (by omega)
  · exact (hB.new gp e).elim h.nb (fun e4 => by have := h.gpl; omega)
/-- Other directories. -/
theorem RdM.putD {w w' : World} {gp : Nat} {k : Rk} {B B' : Nat → Prop} {blk : Nat → Option Nat} {vF vD v' : Value} {xs : List Ino} {dv dv' : List Value} {sv tv : Nat → List Value} (h : RdM w gp k B blk vF vD xs dv sv tv) {r' : Option Nat} {ds : List (List (Nm × Nat))}
    (hc : Chg (fun g => g = gp ∨ blk 1 = some g) w w') (hcells : w'.heap[gp]? = some (.cells #[vF, v', .int .i64 k.most, .int .i64 k.left, .bool k.off, .int .i64 k.done] 51)) (hD : OwnV w' v' dv' r') (hr : r' = blk 1 ∨ ∀ g, r' = some g → w.heap.size ≤ g)
    (hl : dv'.length = ds.length) (hB : NewB w w' B B') (hlf : ∀ j, j < dv'.length → leafN w' B' (dv'.getD j undef) (ds.getD j [])) (hnB : ∀ g, w.heap.size ≤ g → r' = some g → ¬ B' g) :
    RdM w' gp ⟨⟨k.ps.files, k.ps.grown, ds⟩, k.most, k.left, k.off, k.done⟩ B' (fun i => if i = 1 then r' else blk i) vF v' xs dv' sv tv := by
  have hs := hc.size
  have hlt := h.blt
  have hi : ∀ i g, i ≠ 1 → blk i = some g → w'.heap[g]? = w.heap[g]? := fun i g h0 e => hc.block g (hlt i g e) (fun e2 => by
    rcases e2 with e2 | e2
    · exact (h.me i g e).1 e2
    · exact h0 (h.sep i 1 g e e2))
  have hBk : ∀ g, B g → w'.heap[g]? = w.heap[g]? := fun g e => hc.block g (h.b g e) (fun e2 => by
    rcases e2 with e2 | e2
    · exact h.nb (by rw [← e2]; exact e)
    · exact (h.me _ g e2).2 e)
  have hcl : ∀ i g, (if i = 1 then r' else blk i) = some g → (blk i = some g) ∨ (w.heap.size ≤ g ∧ i = 1 ∧ r' = some g) := fun i g e => by
    by_cases e0 : i = 1
    · rw [if_pos e0] at e
      rcases hr with e2 | e2
      · left; rw [e0, ← e2]; exact e
      · exact .inr ⟨e2 g e, e0, e⟩
    · rw [if_neg e0] at e; exact .inl e
  refine ⟨hcells, by rw [if_neg (by omega)]; exact h.F.of_block hs (fun g e => hi 0 g (by omega) e), by rw [if_pos rfl]; exact hD, h.fl, h.gl, hl, fun m hm => ?_, fun m hm => ?_, h.sl, h.tl, fun m hm j hj => (h.sf m hm j hj).kept hs hBk hB.sub, h.tf, hlf, fun i j g e1 e2 => ?_, fun i g e => ?_, fun m hm => ?_, fun e => ?_, hB.lt⟩
  · rw [if_neg (by omega)]; exact (h.S m hm).of_block hs (fun g e2 => hi _ g (by omega) e2)
  · rw [if_neg (by omega)]; exact (h.G m hm).of_block hs (fun g e2 => hi _ g (by omega) e2)
  · rcases hcl i g e1 with a1 | ⟨a1, a2, a3⟩ <;> rcases hcl j g e2 with b1 | ⟨b1, b2, b3⟩
    · exact h.sep i j g a1 b1
    · have := hlt i g a1; omega
    · have := hlt j g b1; omega
    · omega
  · rcases hcl i g e with a1 | ⟨a1, a2, a3⟩
    · obtain ⟨m1, m2⟩ := h.me i g a1
      exact ⟨m1, fun e3 => (hB.new g e3).elim m2 (fun e4 => by have := hlt i g a1; omega)⟩
    · have := h.gpl
      exact ⟨by omega, hnB g a1 a3⟩
  · rw [if_neg (by omega), if_neg (by omega)]; exact h.out m hm
  · exact (hB.new gp e).elim h.nb (fun e4 => by have := h.gpl; omega)
/-- The document's disk, its blocks among T. -/
def RdAt (w : World) (gp : Nat) (k : Rk) (T : Nat → Prop) : Prop := ∃ B blk vF vD xs dv sv tv, RdM w gp k B blk vF vD xs dv sv tv ∧ ∀ g, rdT gp B blk g → T g
/-- From w to w' it has become k. -/
def RtP (gp : Nat) (k : Rk) (T : Nat → Prop) (w w' : World) : Prop := RdAt w' gp k (Ext T w w') ∧ Chg T w w'
theorem RdAt.frame {w w' : World} {gp : Nat} {k : Rk} {T : Nat → Prop} (h : RdAt w gp k T) (hs : w.heap.size ≤ w'.heap.size) (hb : ∀ x, T x → w'.heap[x]? = w.heap[x]?) : RdAt w' gp k T := by
  obtain ⟨B, blk, vF, vD, xs, dv, sv, tv, h1, h2⟩ := h
  exact ⟨B, blk, vF, vD, xs, dv, sv, tv, h1.kept hs (fun g e => hb g (h2 g e)), h2⟩
theorem RdM.to {w w' : World} {gp : Nat} {k : Rk} {B : Nat → Prop} {blk : Nat → Option Nat} {vF vD : Value} {xs : List Ino} {dv : List Value} {sv tv : Nat → List Value} {T : Nat → Prop} (h : RdM w' gp k B blk vF vD xs dv sv tv) (hc : Chg T w w') (hgp : T gp) (h1 : ∀ i g, blk i = some g → T g ∨ w.heap.size ≤ g) (h2 : ∀ g, B g → T g ∨ w.heap.size ≤ g) : RtP gp k T w w' := by
  refine ⟨⟨B, blk, vF, vD, xs, dv, sv, tv, h, fun g hg => ?_⟩, hc⟩
  have hl := h.lt g hg
  rcases hg with e | ⟨i, e⟩ | e
  · rw [e]; exact .inl hgp
  · exact (h1 i g e).imp id (fun e2 => ⟨e2, hl⟩)
  · exact (h2 g e).imp id (fun e2 => ⟨e2, hl⟩)
theorem RtP.start {gp : Nat} {k : Rk} {T : Nat → Prop} {w : World} (h : RdAt w gp k T) : RtP gp k T w w := by
  obtain ⟨B, blk, vF, vD, xs, dv, sv, tv, h1, h2⟩ := h
  exact ⟨⟨B, blk, vF, vD, xs, dv, sv, tv, h1, fun g e => .inl (h2 g e)⟩, Chg.refl _ _⟩
theorem RtP.trans {gp : Nat} {k k' : Rk} {T : Nat → Prop} {w w1 w2 : World} (h : RtP gp k T w w1) (h2 : RtP gp k' (Ext T w w1) w1 w2) : RtP gp k' T w w2 := by
  have hs := h.2.size
  have hs2 := h2.2.size
  obtain ⟨⟨B, blk, vF, vD, xs, dv, sv, tv, a1, a2⟩, a3⟩ := h2
  refine ⟨⟨B, blk, vF, vD, xs, dv, sv, tv, a1, fun g e => ?_⟩, ⟨a3.os.trans h.2.os, a3.tape.trans h.2.tape, a3.output.trans h.2.output, by omega, fun g hg hn => (a3.block g (by omega) (fun e => ?_)).trans (h.2.block g hg hn)⟩⟩
  · rcases a2 g e with (e2 | e2) | e2
    · exact .inl e2
    · exact .inr ⟨e2.1, by omega⟩
    · exact .inr ⟨by omega, e2.2⟩
  · rcases e with e | e
    · exact hn e
    · omega
theorem RtP.later {gp : Nat} {k : Rk} {T : Nat → Prop} {w w1 w2 : World} (h : RtP gp k T w w1) (hb : Below w1.heap.size w1 w2) : RtP gp k T w w2 := by
  obtain ⟨⟨B, blk, vF, vD, xs, dv, sv, tv, a1, a2⟩, a3⟩ := h
  refine ⟨⟨B, blk, vF, vD, xs, dv, sv, tv, a1.later hb, fun g e => (a2 g e).imp id (fun e2 => ⟨e2.1, Nat.lt_of_lt_of_le e2.2 hb.size⟩)⟩, ?_⟩
  exact ⟨hb.os.trans a3.os, hb.tape.trans a3.tape, hb.output.trans a3.output, Nat.le_trans a3.size hb.size, fun g hg hn => (hb.block g (Nat.lt_of_lt_of_le hg a3.size)).trans (a3.block g hg hn)⟩
theorem RtP.below {gp : Nat} {k : Rk} {T : Nat → Prop} {w w0 w1 : World} (hb : Below w.heap.size w w0) (h : RtP gp k T w0 w1) (hT : ∀ g, T g → g < w.heap.size) : RtP gp k T w w1 := by
  obtain ⟨⟨B, blk, vF, vD, xs, dv, sv, tv, a1, a2⟩, a3⟩ := h
  have := hb.size
  refine ⟨⟨B, blk, vF, vD, xs, dv, sv, tv, a1, fun g e => (a2 g e).imp id (fun e2 => ⟨by omega, e2.2⟩)⟩, ⟨a3.os.trans hb.os, a3.tape.trans hb.tape, a3.output.trans hb.output, by have := a3.size; omega, fun g hg hn => (a3.block g (by omega) hn).trans (hb.block g hg)⟩⟩
end Go.Proofs.YthcnhjmkcekdaaaGreat

namespace Go.Proofs.YthcnhjmkcekdaaaGreat
open Go.RowKit Go.Maps Plain
set_option linter.unusedVariables false
set_option linter.unusedSimpArgs false
theorem del_keys {L : Dir} {k : Nm} (h : (L.map (·.1)).Nodup) : ((del L k).map (·.1)).Nodup := h.sublist (List.filter_sublist.map _)
theorem del_not {L : Dir} {k : Nm} {q : Nm × Nat} (h : q ∈ del L k) : q.1 ≠ k := by
  have := (List.mem_filter.mp h).2
  simpa using this
theorem put_permP (L : Dir) (k : Nm) (g : Nat) : (put L k g).Perm ((k, g) :: del L k) := ins_perm _ _
theorem put_keys {L : Dir} {k : Nm} {g : Nat} (h : (L.map (·.1)).Nodup) : ((put L k g).map (·.1)).Nodup := by
  rw [((put_permP L k g).map (·.1)).nodup_iff, List.map_cons, List.nodup_cons]
  refine ⟨fun hm => ?_, del_keys h⟩
  obtain ⟨q, hq, e⟩ := List.mem_map.mp hm
  exact del_not hq e
theorem on_keys {L : Dir} {c : DC} (h : (L.map (·.1)).Nodup) : ((DC.on L c).map (·.1)).Nodup := by
  cases c using DC.elim with
  | mk k g => rw [DC.on_mk]; exact put_keys h
  | mv a b =>
    rw [DC.on_mv]
    cases e : look L a with
    | none => exact h
    | some g => exact del_keys (put_keys h)
  | rm k => rw [DC.on_rm]; exact del_keys h
def leftL (l : List (Nm × Nat)) (s : Nm) : List (Nm × Nat) := l.filter fun x => !(x.1 == s)
def leadL (l : List (Nm × Nat)) (s : Nm) : Int := (l.find? fun x => x.1 == s).elim (-1) fun x => (x.2 : Int)
def Ps.last (p : Ps) : List (Nm × Nat) := p.dirs.getD (p.dirs.length - 1) []
def nuOf (ν : Nat → Nat) (q : Nm × Nat) : Nm × Nat := (q.1, ν q.2)
theorem left_map (ν : Nat → Nat) (L : Dir) (s : Nm) : leftL (L.map (nuOf ν)) s = (del L s).map (nuOf ν) := by
  unfold leftL del
  rw [List.filter_map]
  rfl
theorem left_perm {l m : List (Nm × Nat)} (h : l.Perm m) (s : Nm) : (leftL l s).Perm (leftL m s) := h.filter _
/-- What is seen. -/
theorem PsR.seen {k : Dk} {ν : Nat → Nat} {p : Ps} {n : Nat} (h : PsR k ν p) (hd : k.Dok n) : p.last.Perm (k.L.map (nuOf ν)) ∧ (k.L.map (·.1)).Nodup ∧ 1 ≤ p.dirs.length := by
  have h1 := h.dir _ (Nat.le_refl _)
  have h2 := h.nod _ (Nat.le_refl _)
  rw [List.take_length, ← hd.eq] at h1 h2
  have e : p.dirs.length - 1 = k.chg.length := by rw [h.dlen]; omega
  refine ⟨?_, h2, by rw [h.dlen]; omega⟩
  unfold Ps.last
  rw [e]
  exact h1
theorem lead_of {l : List (Nm × Nat)} {L : Dir} {ν : Nat → Nat} (hp : l.Perm (L.map (nuOf ν))) (hn : (L.map (·.1)).Nodup) (s : Nm) : leadL l s = (look L s).elim (-1) fun G => (ν G : Int) := by
  have hln : (l.map (·.1)).Nodup := by
    have e : ((L.map (nuOf ν)).map (·.1)) = L.map (·.1) := by rw [List.map_map]; rfl
    exact (hp.map (·.1)).nodup_iff.mpr (by rw [e]; exact hn)
  unfold leadL
  cases hf : l.find? (fun x => x.1 == s) with
  | none =>
    have hno : look L s = none := by
      cases hl : look L s with
      | none => rfl
      | some G =>
        have hm : (s, ν G) ∈ l := hp.mem_iff.mpr (List.mem_map.mpr ⟨(s, G), look_mem hl, rfl⟩)
        rw [List.find?_eq_none] at hf
        exact absurd (by simp) (hf _ hm)
    rw [hno]; rfl
  | some x =>
    have hm := List.mem_of_find?_eq_some hf
    have hx : x.1 = s := by simpa using List.find?_some hf
    obtain ⟨q, hq, e⟩ := List.mem_map.mp (hp.mem_iff.mp hm)
    have hq1 : q.1 = s := by rw [← hx, ← e]; rfl
    have hl : look L s = some q.2 := look_of_mem hn (by rw [← hq1]; exact hq)
    rw [hl, ← e]
    rfl
theorem PsR.same {k k' : Dk} {ν : Nat → Nat} {p : Ps} (h : PsR k ν p) (e1 : k'.Ld = k.Ld) (e2 : k'.chg = k.chg) (e3 : k'.file = k.file) (e4 : k'.live = k.live) : PsR k' ν p :=
  ⟨by rw [e4]; exact h.inj, h.len, by rw [e3, e4]; exact h.file, by rw [e2]; exact h.dlen, by rw [e1, e2]; exact h.dir, by rw [e1, e2]; exact h.nod⟩
/-- A file's states have turned. -/
theorem PsR.setF {k k' : Dk} {ν : Nat → Nat} {p : Ps} {G : Nat} {f : Fl} (h : PsR k ν p) (hG : k.live G) (e1 : k'.Ld = k.Ld) (e2 : k'.chg = k.chg) (e3 : k'.file = upd k.file G f) (e4 : k'.live = k.live) : PsR k' ν ⟨p.files.set (ν G) (sts f), p.grown.set (ν G) (grs f), p.dirs⟩ := by
  obtain ⟨g1, g2, g3⟩ := h.file G hG
  refine ⟨by rw [e4]; exact h.inj, by simp [h.len], fun H hH => ?_, by rw [e2]; exact h.dlen, by rw [e1, e2]; exact h.dir, by rw [e1, e2]; exact h.nod⟩
  rw [e4] at hH
  rw [e3]
  by_cases e : H = G
  · subst e
    rw [upd_same]
    refine ⟨by simpa using g1, ?_, ?_⟩
    · show (p.files.set (ν H) (sts f)).getD (ν H) [] = _
      rw [List.getD_eq_getElem?_getD, List.getElem?_set_self g1]; rfl
    · show (p.grown.set (ν H) (grs f)).getD (ν H) [] = _
      rw [List.getD_eq_getElem?_getD, List.getElem?_set_self (by rw [h.len]; exact g1)]; rfl
  · have hne : ν G ≠ ν H := fun e5 => e (h.inj H G hH hG e5.symm)
    obtain ⟨a1, a2, a3⟩ := h.file H hH
    rw [upd_other _ _ _ _ e]
    refine ⟨by simpa using a1, ?_, ?_⟩
    · show (p.files.set (ν G) (sts f)).getD (ν H) [] = _
      rw [List.getD_eq_getElem?_getD, List.getElem?_set_ne hne, ← List.getD_eq_getElem?_getD]; exact a2
    · show (p.grown.set (ν G) (grs f)).getD (ν H) [] = _
      rw [List.getD_eq_getElem?_getD, List.getElem?_set_ne hne, ← List.getD_eq_getElem?_getD]; exact a3
/-- The directory has turned. -/
theorem PsR.did {k k' : Dk} {ν : Nat → Nat} {p : Ps} {n : Nat} {c : DC} {l : List (Nm × Nat)} (h : PsR k ν p) (hd : k.Dok n) (e1 : k'.Ld = k.Ld) (e2 : k'.chg = k.chg ++ [c]) (e3 : k'.file = k.file) (e4 : k'.live = k.live) (hl : l.Perm ((DC.on k.L c).map (nuOf ν))) : PsR k' ν ⟨p.files, p.grown, p.dirs ++ [l]⟩ := by
  have hdl := h.dlen
  have hst : ∀ j, j ≤ k.chg.length → (k.chg ++ [c]).take j = k.chg.take j := fun j hj => by rw [List.take_append_of_le_length hj]
  have hend : dst k.Ld ((k.chg ++ [c]).take (k.chg.length + 1)) = DC.on k.L c := by
    rw [List.take_of_length_le (by simp), dst_snoc, ← hd.eq]
  refine ⟨by rw [e4]; exact h.inj, h.len, by rw [e3, e4]; exact h.file, by rw [e2]; simp [hdl], fun j hj => ?_, fun j hj => ?_⟩
  all_goals
    rw [e2, List.length_append, List.length_singleton] at hj
    rw [e1, e2]
  · by_cases e : j = k.chg.length + 1
    · subst e
      rw [hend]
      show ((p.dirs ++ [l]).getD (k.chg.length + 1) []).Perm _
      rw [← hdl, List.getD_eq_getElem?_getD, List.getElem?_append_right (Nat.le_refl _)]
      have e9 : ([l][p.dirs.length - p.dirs.length]?).getD [] = l := by simp
      rw [e9]
      exact hl
    · have hj' : j ≤ k.chg.length := by omega
      rw [hst j hj']
      show ((p.dirs ++ [l]).getD j []).Perm _
      rw [List.getD_eq_getElem?_getD, List.getElem?_append_left (by omega), ← List.getD_eq_getElem?_getD]
      exact h.dir j hj'
  · by_cases e : j = k.chg.length + 1
    · subst e
      rw [hend]
      exact on_keys (h.seen hd).2.1
    · have hj' : j ≤ k.chg.length := by omega
      rw [hst j hj']
      exact h.nod j hj'
/-- A new file. -/
theorem PsR.fresh {k k' : Dk} {ν : Nat → Nat} {p : Ps} {G : Nat} (h : PsR k ν p) (hp : k.Past) (hG : ¬ k.live G) (e1 : k'.Ld = k.Ld) (e2 : k'.chg = k.chg) (e3 : k'.file = upd k.file G ⟨[], [], []⟩) (e4 : k'.live = fun x => k.live x ∨ x = G) : PsR k' (upd ν G p.files.length) ⟨p.files ++ [[[]]], p.grown ++ [[-1]], p.dirs⟩ := by
  have hlv : ∀ j, ∀ q ∈ dst k.Ld (k.chg.take j), q.2 ≠ G := fun j q hq e => hG (by
    rw [← e]
    exact dst_live (lv := k.live) (k.chg.take j) k.Ld hp.ld (fun nm g hg => hp.made nm g (List.mem_of_mem_take hg)) q hq)
  have hmap : ∀ j, (dst k.Ld (k.chg.take j)).map (fun q => (q.1, upd ν G p.files.length q.2)) = (dst k.Ld (k.chg.take j)).map (fun q => (q.1, ν q.2)) := fun j => by
    refine List.map_congr_left fun q hq => ?_
    rw [upd_other _ _ _ _ (hlv j q hq)]
  refine ⟨fun A C hA hC e => ?_, by simp [h.len], fun H hH => ?_, by rw [e2]; exact h.dlen, fun j hj => ?_, fun j hj => ?_⟩
  · rw [e4] at hA hC
    rcases hA with hA | hA <;> rcases hC with hC | hC
    · rw [upd_other _ _ _ _ (fun e5 => hG (by rw [← e5]; exact hA)), upd_other _ _ _ _ (fun e5 => hG (by rw [← e5]; exact hC))] at e
      exact h.inj A C hA hC e
    · subst hC
      rw [upd_same, upd_other _ _ _ _ (fun e5 => hG (by rw [← e5]; exact hA))] at e
      have := (h.file A hA).1; omega
    · subst hA
      rw [upd_same, upd_other _ _ _ _ (fun e5 => hG (by rw [← e5]; exact hC))] at e
      have := (h.file C hC).1; omega
    · rw [hA, hC]
  · rw [e4] at hH
    rw [e3]
    rcases hH with hH | hH
    · have hne : H ≠ G := fun e5 => hG (by rw [← e5]; exact hH)
      obtain ⟨a1, a2, a3⟩ := h.file H hH
      rw [upd_other _ _ _ _ hne, upd_other _ _ _ _ hne]
      refine ⟨by simp; omega, ?_, ?_⟩
      · show (p.files ++ [[[]]]).getD (ν H) [] = _
        rw [List.getD_eq_getElem?_getD, List.getElem?_append_left a1, ← List.getD_eq_getElem?_getD]; exact a2
      · show (p.grown ++ [[-1]]).getD (ν H) [] = _
        rw [List.getD_eq_getElem?_getD, List.getElem?_append_left (by rw [h.len]; exact a1), ← List.getD_eq_getElem?_getD]; exact a3
    · subst hH
      rw [upd_same, upd_same]
      refine ⟨by simp, ?_, ?_⟩
      · show (p.files ++ [[[]]]).getD p.files.length [] = _
        rw [List.getD_eq_getElem?_getD, List.getElem?_append_right (Nat.le_refl _)]
        simp [sts, fst]
      · show (p.grown ++ [[-1]]).getD p.files.length [] = _
        rw [← h.len, List.getD_eq_getElem?_getD, List.getElem?_append_right (Nat.le_refl _)]
        simp [grs]
  · rw [e2] at hj
    rw [e1, e2, hmap]
    exact h.dir j hj
  · rw [e2] at hj
    rw [e1, e2]
    exact h.nod j hj
/-- The directory is synced. -/
theorem PsR.settled {k k' : Dk} {ν : Nat → Nat} {p : Ps} {n : Nat} (h : PsR k ν p) (hd : k.Dok n) (e1 : k'.Ld = k.L) (e2 : k'.chg = []) (e3 : k'.file = k.file) (e4 : k'.live = k.live) : PsR k' ν ⟨p.files, p.grown, [p.last]⟩ := by
  obtain ⟨s1, s2, -⟩ := h.seen hd
  refine ⟨by rw [e4]; exact h.inj, h.len, by rw [e3, e4]; exact h.file, by rw [e2]; rfl, fun j hj => ?_, fun j hj => ?_⟩
  all_goals
    rw [e2] at hj
    have hj0 : j = 0 := by simpa using hj
    subst hj0
    rw [e1, e2]
  · exact s1
  · exact s2
theorem sts_add {f : Fl} (h : f.Ok) (b : List Nat) : sts (f.add b) = sts f ++ [f.seen ++ b] := by
  unfold sts Fl.add
  rw [show (f.chg ++ [FC.add b]).length = f.chg.length + 1 by simp, List.range_succ, List.map_append]
  congr 1
  · refine List.map_congr_left fun j hj => ?_
    rw [List.take_append_of_le_length (by have := List.mem_range.mp hj; omega)]
  · simp only [List.map_cons, List.map_nil]
    rw [List.take_of_length_le (by simp), fst_snoc, ← h.eq]
    rfl
theorem sts_trim {f : Fl} (h : f.Ok) (n : Nat) : sts (f.trim n) = sts f ++ [f.seen.take n] := by
  unfold sts Fl.trim
  rw [show (f.chg ++ [FC.cut n]).length = f.chg.length + 1 by simp, List.range_succ, List.map_append]
  congr 1
  · refine List.map_congr_left fun j hj => ?_
    rw [List.take_append_of_le_length (by have := List.mem_range.mp hj; omega)]
  · simp only [List.map_cons, List.map_nil]
    rw [List.take_of_length_le (by simp), fst_snoc, ← h.eq]
    rfl
theorem grs_add (f : Fl) (b : List Nat) : grs (f.add b) = grs f ++ [(b.length : Int)] := by simp [grs, Fl.add, grw_add]
theorem grs_trim (f : Fl) (n : Nat) : grs (f.trim n) = grs f ++ [-1] := by simp [grs, Fl.trim, grw_cut]
theorem sts_synced (l : List Nat) : sts ⟨l, l, []⟩ = [l] := by simp [sts, fst]
theorem grs_synced (l : List Nat) : grs ⟨l, l, []⟩ = [-1] := by simp [grs]
/-- The last of a file's states is what is seen. -/
theorem sts_last {f : Fl} (h : f.Ok) : (sts f).getD ((sts f).length - 1) [] = f.seen := by
  rw [sts_len, Nat.add_sub_cancel, sts_at f (Nat.le_refl _), List.take_length, ← h.eq]
end Go.Proofs.YthcnhjmkcekdaaaGreat
