import Derived.Test.YthcnhjmkcekdaaaGreatQs29
import Derived.Test.YthcnhjmkcekdaaaGreatQs33
namespace Go.Proofs.YthcnhjmkcekdaaaGreat
open Go.RowKit Go.Maps Plain
set_option linter.unusedVariables false
set_option linter.unusedSimpArgs false
/-- What a loss of power leaves of a file, and the picks that are left. -/
def lfR (st : List (List Nat)) (gr : List Int) (ps : List Int) : List Nat × List Int := if upV ps (st.length - 1) + 1 < st.length ∧ 0 ≤ gr.getD (upV ps (st.length - 1) + 1) 0 then (st.getD (upV ps (st.length - 1)) [] ++ ((st.getD (upV ps (st.length - 1) + 1) []).drop (st.getD (upV ps (st.length - 1)) []).length).take (upV ps.tail (gr.getD (upV ps (st.length - 1) + 1) 0).toNat), ps.tail.tail) else (st.getD (upV ps (st.length - 1)) [], ps.tail)
def lfP (p : Ps) (f : Nat) (ps : List Int) : List Nat × List Int := lfR (p.files.getD f []) (p.grown.getD f []) ps
def crL2 (p : Ps) : List (Nm × Nat) → List Int → List (Nm × List Nat)
  | [], _ => []
  | x :: l, ps => (x.1, (lfP p x.2 ps).1) :: crL2 p l (lfP p x.2 ps).2
def stL (p : Ps) : List (Nm × Nat) → List Int → List Int
  | [], ps => ps
  | x :: l, ps => stL p l (lfP p x.2 ps).2
theorem crL2_snoc (p : Ps) (x : Nm × Nat) : ∀ (l : List (Nm × Nat)) (ps : List Int), crL2 p (l ++ [x]) ps = crL2 p l ps ++ [(x.1, (lfP p x.2 (stL p l ps)).1)] ∧ stL p (l ++ [x]) ps = (lfP p x.2 (stL p l ps)).2
  | [], ps => ⟨rfl, rfl⟩
  | y :: l, ps => by
    obtain ⟨h1, h2⟩ := crL2_snoc p x l (lfP p y.2 ps).2
    exact ⟨by rw [List.cons_append, crL2, h1]; rfl, by rw [List.cons_append, stL, h2]; rfl⟩
theorem crL2_len (p : Ps) : ∀ (l : List (Nm × Nat)) (ps : List Int), (crL2 p l ps).length = l.length
  | [], _ => rfl
  | x :: l, ps => by rw [crL2, List.length_cons, crL2_len p l, List.length_cons]
def crR (p : Ps) (ps : List Int) : List (Nm × List Nat) := crL2 p (p.dirs.getD (upV ps (p.dirs.length - 1)) []) ps.tail
/-- The files so far, behind base. -/
def ImT (w : World) (base : Nat) (im : List (Nm × List Nat)) (v : Value) (u : World) : Prop := (∃ ts r blk, ImgM u v im base ts r blk) ∧ Below w.heap.size w u ∧ base ≤ u.heap.size
theorem ImT.later {w u u' : World} {base : Nat} {im : List (Nm × List Nat)} {v : Value} (h : ImT w base im v u) (hb : Below u.heap.size u u') : ImT w base im v u' := by
  obtain ⟨⟨ts, r, blk, h1⟩, h2, h3⟩ := h
  exact ⟨⟨ts, r, blk, h1.later hb⟩, h2.trans (hb.mono h2.size), Nat.le_trans h3 hb.size⟩
theorem ImT.grown {w u u' : World} {base gk : Nat} {im : List (Nm × List Nat)} {v : Value} (h : ImT w base im v u) (hg : u.grownBy u' (some gk)) (h1 : w.heap.size ≤ gk) (h2 : gk < base) : ImT w base im v u' := by
  obtain ⟨⟨ts, r, blk, a1⟩, a2, a3⟩ := h
  exact ⟨⟨ts, r, blk, a1.frame hg (fun g e => by cases e; exact h2)⟩, a2.grown hg a2.size (fun g e => by cases e; exact h1), Nat.le_trans a3 hg.size⟩
theorem ImT.shape {w u : World} {base : Nat} {im : List (Nm × List Nat)} {v : Value} (h : ImT w base im v u) : ∃ a N c, v = .slice a N c := by
  obtain ⟨⟨ts, r, blk, h1⟩, h2⟩ := h
  exact h1.row.shape.elim fun a h => h.elim fun c h2 => ⟨a, _, c, h2.1⟩
theorem ImT.push {w u u3 : World} {base : Nat} {im : List (Nm × List Nat)} {v : Value} {nm : Nm} {l : List Nat} {a3 : Option Addr} {n3 c3 : Nat} {q : Option Nat} (h : ImT w base im v u) (hu : ImT w base im v u3) (hs : u.heap.size ≤ u3.heap.size) (ho : Own u3 (.slice a3 n3 c3) l q) (hq : ∀ g, q = some g → u.heap.size ≤ g) (hk : ∀ ts r blk, ImgM u v im base ts r blk → ImgM u3 v im base ts r blk) (hbase : w.heap.size ≤ base) :
    ∃ ts r, OwnI (u3.alloc (.cells #[.string (str nm), .slice a3 n3 c3] 46)) v ts r ∧ ts.length = im.length ∧ (∀ g, r = some g → base ≤ g) ∧ ∀ v4 w4 g4, OwnI w4 v4 (ts ++ [⟨str nm, .slice a3 n3 c3⟩]) (some g4) → (u3.alloc (.cells #[.string (str nm), .slice a3 n3 c3] 46)).grownBy w4 r → (some g4 = r ∨ g4 = (u3.alloc (.cells #[.string (str nm), .slice a3 n3 c3] 46)).heap.size) → ImT w base (im ++ [(nm, l)]) v4 w4 := by
  obtain ⟨⟨ts, r, blk, h1⟩, h2, h3⟩ := h
  obtain ⟨-, g2, g3⟩ := hu
  have m0 := hk ts r blk h1
  have hb34 : Below u3.heap.size u3 (u3.alloc (.cells #[.string (str nm), .slice a3 n3 c3] 46)) := (Below.refl _ _).alloc (Nat.le_refl _) _
  have hsz4 : (u3.alloc (.cells #[.string (str nm), .slice a3 n3 c3] 46)).heap.size = u3.heap.size + 1 := by simp
  have m3 := m0.later hb34
  have hbW : Below w.heap.size w (u3.alloc (.cells #[.string (str nm), .slice a3 n3 c3] 46)) := g2.trans (hb34.mono g2.size)
  refine ⟨ts, r, m3.row, h1.len, h1.rbase, fun v4 w4 g4 q1 q2 q3 => ?_⟩
  have hp := m3.push (ho.later hb34) (k := nm) (fun g e => by
    have hg := hq g e
    refine ⟨by omega, fun e2 => ?_, fun j e2 => ?_⟩
    · rw [e2] at h1; have := h1.row.lt; omega
    · have := h1.live e2; omega) q1 q2 q3 (by omega)
  have hs4 := q2.size
  refine ⟨⟨_, _, _, hp⟩, ⟨q2.os.trans hbW.os, q2.tape.trans hbW.tape, q2.output.trans hbW.output, by have := hbW.size; omega, fun g hg => (q2.block g (by have := g2.size; omega) (fun e => ?_)).trans (hbW.block g hg)⟩, by omega⟩
  have := h1.rbase g e.symm
  have := hbase
  omega
end Go.Proofs.YthcnhjmkcekdaaaGreat
