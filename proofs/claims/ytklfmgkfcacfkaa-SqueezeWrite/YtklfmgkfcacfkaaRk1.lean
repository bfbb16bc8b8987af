import Derived.Test.YtklfmgkfcacfkaaRn2
/-! The document's Tokens. -/
namespace Go.Proofs.Ytklfmgkfcacfkaa
open Go.RowKit Plain
set_option linter.unusedVariables false
set_option linter.unusedSimpArgs false

/-- What a token says. -/
def Tg.c3 (t : Tg) : List Nat × Int × Int := (t.l, t.d, t.n)
def Sims (tg : List Tg) (ts : List Tk) : Prop := tg.map Tg.c3 = ts.map fun k => k.g.c3
theorem Sims.len {tg : List Tg} {ts : List Tk} (h : Sims tg ts) : tg.length = ts.length := by
  have := congrArg List.length h
  simpa using this
theorem Sims.lit {tg : List Tg} {ts : List Tk} (h : Sims tg ts) (v : Value) (b : List Nat) : Sims (tg ++ [⟨v, b, 0, 0⟩]) (ts ++ [.lit 0 b]) := by
  unfold Sims at *
  rw [List.map_append, List.map_append, h]
  rfl
theorem Sims.mat {tg : List Tg} {ts : List Tk} (h : Sims tg ts) (d n : Nat) : Sims (tg ++ [⟨.slice none 0 0, [], d, n⟩]) (ts ++ [.mat d n]) := by
  unfold Sims at *
  rw [List.map_append, List.map_append, h]
  rfl

/-- Where the document's Tokens stands at the place i. -/
structure Rst (l : List Nat) (w wr : World) (tv : Value) (tg : List Tg) (r : Option Nat) (lv : Value) (b : List Nat) (q : Option Nat) (i : Nat) : Prop where
  st : ∃ ts bg w0, PreP l ts bg ∧ (∀ g b, ts.getLast? ≠ some (.lit g b)) ∧ Sims tg ts ∧ bg + b.length = i ∧ b = (l.drop bg).take b.length ∧ (∀ j, bg ≤ j → j < i → Best l j 0 0) ∧
    GRow w.heap.size w0 tv tg r ∧ Below w0.heap.size w0 wr ∧ Below w.heap.size w w0 ∧ (∀ g, q = some g → w0.heap.size ≤ g)
  ow : Own wr lv b q
  il : i ≤ l.length
  em : b = [] → lv = .slice none 0 0 ∧ q = none

theorem Rst.below {l : List Nat} {w wr : World} {tv : Value} {tg : List Tg} {r : Option Nat} {lv : Value} {b : List Nat} {q : Option Nat} {i : Nat} (h : Rst l w wr tv tg r lv b q i) : Below w.heap.size w wr := by
  obtain ⟨ts, bg, w0, _, _, _, _, _, _, _, h1, h2, _⟩ := h.st
  exact below_on h2 h1
theorem Rst.count {l : List Nat} {w wr : World} {tv : Value} {tg : List Tg} {r : Option Nat} {lv : Value} {b : List Nat} {q : Option Nat} {i : Nat} (h : Rst l w wr tv tg r lv b q i) : tg.length ≤ l.length := by
  obtain ⟨ts, bg, w0, h1, _, h2, h3, _⟩ := h.st
  have := h1.count
  have := h1.le
  rw [h2.len]
  omega
theorem Rst.row {l : List Nat} {w wr : World} {tv : Value} {tg : List Tg} {r : Option Nat} {lv : Value} {b : List Nat} {q : Option Nat} {i : Nat} (h : Rst l w wr tv tg r lv b q i) : GRow w.heap.size wr tv tg r := by
  obtain ⟨ts, bg, w0, _, _, _, _, _, _, h0, h1, h2, _⟩ := h.st
  exact h0.kept (below_grow h1 none) (by simp)
theorem Rst.lits {l : List Nat} {w wr : World} {tv : Value} {tg : List Tg} {r : Option Nat} {lv : Value} {b : List Nat} {q : Option Nat} {i : Nat} (h : Rst l w wr tv tg r lv b q i) : ∀ g, q = some g → w.heap.size ≤ g ∧ r ≠ some g := fun g hg => by
  obtain ⟨ts, bg, w0, _, _, _, _, _, _, h0, h1, h2, h3⟩ := h.st
  have e1 := h3 g hg
  have e2 := h2.size
  refine ⟨by omega, fun e => ?_⟩
  subst e
  have := h0.own.lt
  omega
/-- Nothing but draws. -/
theorem Rst.drew {l : List Nat} {w wr : World} {tv : Value} {tg : List Tg} {r : Option Nat} {lv : Value} {b : List Nat} {q : Option Nat} {i : Nat} (h : Rst l w wr tv tg r lv b q i) (n : Nat) : Rst l w (wr.drewN n) tv tg r lv b q i := by
  obtain ⟨ts, bg, w0, a1, a2, a3, a4, a5, a6, h0, h1, h2, h3⟩ := h.st
  exact ⟨⟨ts, bg, w0, a1, a2, a3, a4, a5, a6, h0, below_drewN h1 n, h2, h3⟩, h.ow.later (below_drewN (Below.refl _ _) n), h.il, h.em⟩
/-- A byte that no match begins at. -/
theorem Rst.byte {l : List Nat} {w wr w' : World} {tv : Value} {tg : List Tg} {r : Option Nat} {lv lv' : Value} {b : List Nat} {q q' : Option Nat} {i : Nat} (h : Rst l w wr tv tg r lv b q i) (hi : i < l.length) (hb : Best l i 0 0)
    (ho : Own w' lv' (b ++ [l.getD i 0]) q') (hg : wr.grownBy w' q) (hq : q' = q ∨ ∃ g, q' = some g ∧ wr.heap.size ≤ g) : Rst l w w' tv tg r lv' (b ++ [l.getD i 0]) q' (i + 1) := by
  obtain ⟨ts, bg, w0, a1, a2, a3, a4, a5, a6, h0, h1, h2, h3⟩ := h.st
  refine ⟨⟨ts, bg, w0, a1, a2, a3, by simp; omega, ?_, fun j j1 j2 => ?_, h0, h1.trans (grow_below hg h1.size h3), h2, fun g hg' => ?_⟩, ho, by omega, fun e => by simp at e⟩
  · have e : (l.drop bg).take (b.length + 1) = (l.drop bg).take b.length ++ [l.getD i 0] := by
      rw [List.take_succ_eq_append_getElem (by simp; omega)]
      congr 1
      simp [a4, hi]
    rw [List.length_append, List.length_singleton, e, ← a5]
  · by_cases e : j = i
    · subst e; exact hb
    · exact a6 j j1 (by omega)
  · rcases hq with rfl | ⟨g', e, e2⟩
    · exact h3 g hg'
    · rw [e] at hg'; simp at hg'; have := h1.size; omega
/-- Tokens up to the place i, no literal pending. -/
structure St2 (l : List Nat) (w w' : World) (tv : Value) (tg : List Tg) (r : Option Nat) (i : Nat) : Prop where
  st : ∃ ts, PreP l ts i ∧ Sims tg ts
  row : GRow w.heap.size w' tv tg r
  be : Below w.heap.size w w'
theorem Rst.empty {l : List Nat} {w wr : World} {tv : Value} {tg : List Tg} {r : Option Nat} {lv : Value} {b : List Nat} {q : Option Nat} {i : Nat} (h : Rst l w wr tv tg r lv b q i) (hb : b = []) : St2 l w wr tv tg r i := by
  refine ⟨?_, h.row, h.below⟩
  obtain ⟨ts, bg, w0, a1, a2, a3, a4, _⟩ := h.st
  subst hb
  simp at a4
  subst a4
  exact ⟨ts, a1, a3⟩
/-- A match. -/
theorem St2.mat {l : List Nat} {w wr w' : World} {tv tv' : Value} {tg : List Tg} {r : Option Nat} {i d n g : Nat} (h : St2 l w wr tv tg r i) (hn : 5 ≤ n) (hn2 : n ≤ 4096) (hd2 : d ≤ 4096) (hb : Best l i d n) (hin : i + n ≤ l.length)
    (ho : OwnG w' tv' (tg ++ [⟨.slice none 0 0, [], d, n⟩]) (some g)) (hg : wr.grownBy w' r) (hgr : some g = r ∨ wr.heap.size ≤ g) : Rst l w w' tv' (tg ++ [⟨.slice none 0 0, [], d, n⟩]) (some g) (.slice none 0 0) [] none (i + n) := by
  obtain ⟨ts, h1, h2⟩ := h.st
  refine ⟨⟨ts ++ [.mat d n], i + n, w', h1.mat hn hb, by intro g b; simp, h2.mat d n, by simp, by simp, fun j j1 j2 => by omega, h.row.snoc h.be.size (Own.nil _) (by simp) ⟨by simp, by simp only; omega, by simp only; omega, by simp only; omega, by simp only; omega⟩ ho hg hgr, Below.refl _ _, h.be.trans (grow_below hg h.be.size (fun x hx => h.row.rb x hx)), by simp⟩, Own.nil _, hin, fun _ => ⟨rfl, rfl⟩⟩
/-- The literal becomes a token. -/
theorem Rst.flush {l : List Nat} {w wr w' : World} {tv tv' : Value} {tg : List Tg} {r : Option Nat} {lv : Value} {b : List Nat} {q : Option Nat} {i g : Nat} (h : Rst l w wr tv tg r lv b q i) (hb : b ≠ []) (hl : l.length ≤ 4096)
    (ho : OwnG w' tv' (tg ++ [⟨lv, b, 0, 0⟩]) (some g)) (hg : wr.grownBy w' r) (hgr : some g = r ∨ wr.heap.size ≤ g) : St2 l w w' tv' (tg ++ [⟨lv, b, 0, 0⟩]) (some g) i := by
  have hrow := h.row
  have hlits := h.lits
  have hbel := h.below
  obtain ⟨ts, bg, w0, a1, a2, a3, a4, a5, a6, h0, h1, h2, h3⟩ := h.st
  have hil := h.il
  have hp := a1.lit (g := 0) a2 hb (by omega) a5 (fun j j1 j2 => a6 j j1 (by omega))
  rw [a4] at hp
  refine ⟨⟨_, hp, a3.lit lv b⟩, hrow.snoc hbel.size h.ow hlits ⟨by simp only; omega, by simp only; omega, by simp only; omega, by simp only; omega, by simp only; omega⟩ ho hg hgr, hbel.trans (grow_below hg hbel.size (fun x hx => hrow.rb x hx))⟩
end Go.Proofs.Ytklfmgkfcacfkaa
