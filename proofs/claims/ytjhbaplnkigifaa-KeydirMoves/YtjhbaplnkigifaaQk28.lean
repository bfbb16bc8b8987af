import Derived.Test.YtjhbaplnkigifaaQk27
/-! keydir: the law's world at its beginning. -/
namespace Go.Proofs.Ytjhbaplnkigifaa
open Go.RowKit Plain
set_option linter.unusedVariables false
set_option linter.unusedSimpArgs false

/-- What is the law's own is in D. -/
theorem WS.sub {D O : Nat → Prop} {w : World} {gw B N : Nat} (h : WS D O w gw B N) : ∀ g, O g → D g := by
  obtain ⟨vd, vx, vl, rd, rx, rl, ps, hs, rfl, h1, h2, h3⟩ := h
  intro g hg
  rcases hg with e | ⟨i, hi, e⟩
  · exact h1.inD g e
  · exact (h1.dw.pr i hi).own g e
theorem WS.bnd {D O : Nat → Prop} {w : World} {gw B N : Nat} (h : WS D O w gw B N) : ∀ g, D g → g < w.heap.size := by
  obtain ⟨vd, vx, vl, rd, rx, rl, ps, hs, rfl, h1, h2, h3⟩ := h
  exact h1.dw.bnd
def vnil : Value := .slice none 0 0
/-- A row of two pointers. -/
theorem OwnV.two {w : World} {g : Nat} {p q : Value} (h0 : w.cell? ⟨g, 0, none⟩ = some p) (h1 : w.cell? ⟨g, 1, none⟩ = some q) (hf : ∀ j, w.frozen? ⟨g, j, none⟩ = false) : OwnV w (.slice (some ⟨g, 0, none⟩) 2 2) [p, q] (some g) := by
  refine .inr ⟨g, 2, rfl, rfl, cell_lt h0, by simp, by decide, fun j _ => hf j, fun j hj => ?_, fun j hj => ?_⟩
  · have : j = 0 ∨ j = 1 := by omega
    rcases this with rfl | rfl
    · rw [h0]; rfl
    · rw [h1]; rfl
  · have : j = 0 ∨ j = 1 := by simp at hj; omega
    rcases this with rfl | rfl
    · rw [h0]; rfl
    · rw [h1]; rfl
set_option maxHeartbeats 2000000 in
theorem WdAt.init {w : World} {n0 gw g1 g2 a b x y : Nat} (hn : ∀ g, (g = gw ∨ g = g1 ∨ g = g2 ∨ g = a ∨ g = b ∨ g = x ∨ g = y) → n0 ≤ g)
    (d1 : gw ≠ g1 ∧ gw ≠ g2 ∧ gw ≠ a ∧ gw ≠ b ∧ gw ≠ x ∧ gw ≠ y) (d2 : g1 ≠ g2 ∧ g1 ≠ a ∧ g1 ≠ b ∧ g1 ≠ x ∧ g1 ≠ y) (d3 : g2 ≠ a ∧ g2 ≠ b ∧ g2 ≠ x ∧ g2 ≠ y) (d4 : a ≠ b ∧ a ≠ x ∧ a ≠ y) (d5 : b ≠ x ∧ b ≠ y) (d6 : x ≠ y)
    (c0 : w.cell? ⟨gw, 0, none⟩ = some (.slice (some ⟨g1, 0, none⟩) 2 2)) (c1 : w.cell? ⟨gw, 1, none⟩ = some (.slice (some ⟨g2, 0, none⟩) 2 2)) (c2 : w.cell? ⟨gw, 2, none⟩ = some (.slice none 0 0)) (cf : ∀ j, w.frozen? ⟨gw, j, none⟩ = false)
    (e0 : w.cell? ⟨g1, 0, none⟩ = some (.pointer (some ⟨a, 0, none⟩))) (e1 : w.cell? ⟨g1, 1, none⟩ = some (.pointer (some ⟨b, 0, none⟩))) (ef : ∀ j, w.frozen? ⟨g1, j, none⟩ = false)
    (f0 : w.cell? ⟨g2, 0, none⟩ = some (.pointer (some ⟨x, 0, none⟩))) (f1 : w.cell? ⟨g2, 1, none⟩ = some (.pointer (some ⟨y, 0, none⟩))) (ff : ∀ j, w.frozen? ⟨g2, j, none⟩ = false)
    (ha : w.cell? ⟨a, 0, none⟩ = some (.pointer none)) (haf : w.frozen? ⟨a, 0, none⟩ = false) (hb : w.cell? ⟨b, 0, none⟩ = some (.pointer none)) (hbf : w.frozen? ⟨b, 0, none⟩ = false)
    (hx : XDirAt w x vnil [] none) (hy : XDirAt w y vnil [] none) : ∃ D O, (∀ g, D g → n0 ≤ g) ∧ WS D O w gw 0 0 := by
  obtain ⟨D, hD⟩ : ∃ D : Nat → Prop, D = fun g => g = gw ∨ g = g1 ∨ g = g2 ∨ g = a ∨ g = b ∨ g = x ∨ g = y := ⟨_, rfl⟩
  have hda : DirAt D w a [] := ⟨by rw [hD]; simp, Srt.nil, haf, 0, none, ha, TreeAt.nil _ _ _⟩
  have hdb : DirAt D w b [] := ⟨by rw [hD]; simp, Srt.nil, hbf, 0, none, hb, TreeAt.nil _ _ _⟩
  have hbnd : ∀ g, D g → g < w.heap.size := fun g hg => by
    rw [hD] at hg
    rcases hg with rfl | rfl | rfl | rfl | rfl | rfl | rfl
    · exact cell_lt c0
    · exact cell_lt e0
    · exact cell_lt f0
    · exact cell_lt ha
    · exact cell_lt hb
    · exact hx.lt
    · exact hy.lt
  have h2 : ∀ i, i < ([⟨a, x, vnil, none, []⟩, ⟨b, y, vnil, none, []⟩] : List Dp).length → i = 0 ∨ i = 1 := fun i hi => by simp at hi; omega
  have hp : ∀ i, i < ([⟨a, x, vnil, none, []⟩, ⟨b, y, vnil, none, []⟩] : List Dp).length → PairAt D w (([⟨a, x, vnil, none, []⟩, ⟨b, y, vnil, none, []⟩] : List Dp).getD i Dp.zero) := fun i hi => by
    rcases h2 i hi with rfl | rfl
    · refine ⟨hda, hx, fun g hg => ?_, ⟨d4.2.1, by simp⟩, by simp [AllK], by simp⟩
      rcases hg with e | e | e
      · rw [hD]; simp at e; simp [e]
      · rw [hD]; simp at e; simp [e]
      · cases e
    · refine ⟨hdb, hy, fun g hg => ?_, ⟨d5.2, by simp⟩, by simp [AllK], by simp⟩
      rcases hg with e | e | e
      · rw [hD]; simp at e; simp [e]
      · rw [hD]; simp at e; simp [e]
      · cases e
  have hown0 : ∀ g, (([⟨a, x, vnil, none, []⟩, ⟨b, y, vnil, none, []⟩] : List Dp).getD 0 Dp.zero).own g → g = a ∨ g = x := fun g hg => by
    rcases hg with e | e | e
    · exact .inl e
    · exact .inr e
    · cases e
  have hown1 : ∀ g, (([⟨a, x, vnil, none, []⟩, ⟨b, y, vnil, none, []⟩] : List Dp).getD 1 Dp.zero).own g → g = b ∨ g = y := fun g hg => by
    rcases hg with e | e | e
    · exact .inl e
    · exact .inr e
    · cases e
  have hdw : DW D w [⟨a, x, vnil, none, []⟩, ⟨b, y, vnil, none, []⟩] := by
    refine ⟨hbnd, hp, fun i j hi hj hij g hg1 hg2 => ?_⟩
    rcases h2 i hi with rfl | rfl <;> rcases h2 j hj with rfl | rfl
    · exact hij rfl
    · have := hown0 g hg1; have := hown1 g hg2; omega
    · have := hown0 g hg2; have := hown1 g hg1; omega
    · exact hij rfl
  have hlb : ∀ g, LawB gw (some g1) (some g2) none [] g → g = gw ∨ g = g1 ∨ g = g2 := fun g hg => by
    rcases hg with e | e | e | e | ⟨k, hk, _⟩
    · exact .inl e
    · injection e with e; exact .inr (.inl e.symm)
    · injection e with e; exact .inr (.inr e.symm)
    · cases e
    · simp at hk
  refine ⟨D, _, fun g hg => hn g (by rw [hD] at hg; exact hg), _, _, _, some g1, some g2, none, [⟨a, x, vnil, none, []⟩, ⟨b, y, vnil, none, []⟩], [], rfl, ⟨c0, c1, c2, cf, OwnV.two e0 e1 ef, OwnV.two f0 f1 ff, ⟨OwnV.nil w, fun k hk => by simp at hk, by simp, fun k hk => by simp at hk⟩, hdw, fun g hg => ?_, fun g hg i hi ho => ?_, by simp, ?_⟩, fun i hi => ?_, by simp⟩
  · rw [hD]
    rcases hlb g hg with e | e | e <;> simp [e]
  · have := hlb g hg
    rcases h2 i hi with rfl | rfl
    · have := hown0 g ho; omega
    · have := hown1 g ho; omega
  · refine ⟨by simp; omega, by simp; omega, by simp, fun k hk => by simp at hk, fun g e => ?_, fun g e => (by cases e), fun k hk => by simp at hk⟩
    injection e with e
    simp
    omega
  · rcases h2 i hi with rfl | rfl <;> simp
end Go.Proofs.Ytjhbaplnkigifaa
