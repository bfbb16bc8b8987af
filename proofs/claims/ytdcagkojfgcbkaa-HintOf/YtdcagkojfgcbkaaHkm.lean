import Derived.Test.YtdcagkojfgcbkaaHkk
/-! hint: rows written in place. -/
namespace Go.Proofs.Ytdcagkojfgcbkaa
open Go.RowKit Plain
set_option linter.unusedVariables false

theorem ecells_set (ts : List He) (j : Nat) (x : He) (h : j < ts.length) (i : Nat) : (ecells (ts.set j x))[i]? = if j * 6 ≤ i ∧ i < j * 6 + 6 then x.cells[i - j * 6]? else (ecells ts)[i]? := by
  by_cases hi : i < 6 * ts.length
  · obtain ⟨m, r, hm, hr, rfl⟩ : ∃ m r, m < ts.length ∧ r < 6 ∧ i = m * 6 + r := ⟨i / 6, i % 6, by omega, by omega, by omega⟩
    rw [ecells_get (ts.set j x) m r (by simpa using hm) hr, ecells_get ts m r hm hr]
    by_cases e : m = j
    · subst e
      rw [if_pos (by omega), show m * 6 + r - m * 6 = r by omega]
      simp [hm]
    · rw [if_neg (by omega)]
      congr 2
      simp [Ne.symm e]
  · rw [List.getElem?_eq_none (by rw [ecells_len]; simp; omega), if_neg (by omega), List.getElem?_eq_none (by rw [ecells_len]; omega)]

theorem OwnHe.set {w : World} {v : Value} {g j : Nat} {ts : List He} (x : He) (h : OwnHe w v ts (some g)) (hj : j < ts.length) : OwnHe (w.setCells g (j * 6) x.cells) v (ts.set j x) (some g) := by
  rcases h with ⟨_, _, h⟩ | ⟨g', cap, e, rfl, hg, h1, h2, h3, h4, h5⟩
  · simp at h
  · simp at e; subst e
    refine .inr ⟨g, cap, rfl, by simp, by rw [setCells_size]; exact hg, by simpa using h1, h2, fun i hi => ?_, fun i hi => ?_, fun i hi => ?_⟩
    · rw [World.frozen?_setCells]; exact h3 i hi
    · exact isSome_setCells g _ _ w _ (h4 i hi)
    · rw [List.length_set] at hi
      rw [ecells_set ts j x hj i]
      have hxl : x.cells.length = 6 := rfl
      by_cases hin : j * 6 ≤ i ∧ i < j * 6 + 6
      · rw [if_pos hin]
        have := World.cell?_setCells_in g x.cells (j * 6) w (fun m hm => h4 _ (by rw [hxl] at hm; omega)) (i - j * 6) (by rw [hxl]; omega)
        rw [show j * 6 + (i - j * 6) = i by omega] at this
        rw [this, List.getElem?_eq_getElem (by rw [hxl]; omega)]
      · rw [if_neg hin, ← h5 i hi]
        refine World.cell?_setCells_out g _ _ w _ (fun _ _ => ?_)
        rw [hxl]
        simp only
        omega
theorem OwnHe.fz {w : World} {v : Value} {g : Nat} {ts : List He} (h : OwnHe w v ts (some g)) {j : Nat} (hj : j < 6 * ts.length) : w.frozen? ⟨g, j, none⟩ = false := by
  rcases h with ⟨_, _, h⟩ | ⟨g', cap, e, rfl, hg, h1, h2, h3, h4, h5⟩
  · simp at h
  · simp at e; subst e
    exact h3 j (by omega)

structure OpenE (w : World) (g o : Nat) : Prop where
  c : ∃ y : He, He.CellsAt w g o y
  f0 : w.frozen? ⟨g, o, none⟩ = false
  f1 : w.frozen? ⟨g, o + 1, none⟩ = false
  f2 : w.frozen? ⟨g, o + 2, none⟩ = false
  f3 : w.frozen? ⟨g, o + 3, none⟩ = false
  f4 : w.frozen? ⟨g, o + 4, none⟩ = false
  f5 : w.frozen? ⟨g, o + 5, none⟩ = false
theorem OwnHe.open {w : World} {v : Value} {g : Nat} {ts : List He} (h : OwnHe w v ts (some g)) {j : Nat} (hj : j < ts.length) : OpenE w g (j * 6) :=
  ⟨⟨_, h.at hj⟩, h.fz (by omega), h.fz (by omega), h.fz (by omega), h.fz (by omega), h.fz (by omega), h.fz (by omega)⟩

theorem pcells_set (ts : List Pl) (j : Nat) (x : Pl) (h : j < ts.length) (i : Nat) : (pcells (ts.set j x))[i]? = if j * 9 ≤ i ∧ i < j * 9 + 9 then x.cells[i - j * 9]? else (pcells ts)[i]? := by
  by_cases hi : i < 9 * ts.length
  · obtain ⟨m, r, hm, hr, rfl⟩ : ∃ m r, m < ts.length ∧ r < 9 ∧ i = m * 9 + r := ⟨i / 9, i % 9, by omega, by omega, by omega⟩
    rw [pcells_get (ts.set j x) m r (by simpa using hm) hr, pcells_get ts m r hm hr]
    by_cases e : m = j
    · subst e
      rw [if_pos (by omega), show m * 9 + r - m * 9 = r by omega]
      simp [hm]
    · rw [if_neg (by omega)]
      congr 2
      simp [Ne.symm e]
  · rw [List.getElem?_eq_none (by rw [pcells_len]; simp; omega), if_neg (by omega), List.getElem?_eq_none (by rw [pcells_len]; omega)]

theorem OwnPl.set {w : World} {v : Value} {g j : Nat} {ts : List Pl} (x : Pl) (h : OwnPl w v ts (some g)) (hj : j < ts.length) : OwnPl (w.setCells g (j * 9) x.cells) v (ts.set j x) (some g) := by
  rcases h with ⟨_, _, h⟩ | ⟨g', cap, e, rfl, hg, h1, h2, h3, h4, h5⟩
  · simp at h
  · simp at e; subst e
    refine .inr ⟨g, cap, rfl, by simp, by rw [setCells_size]; exact hg, by simpa using h1, h2, fun i hi => ?_, fun i hi => ?_, fun i hi => ?_⟩
    · rw [World.frozen?_setCells]; exact h3 i hi
    · exact isSome_setCells g _ _ w _ (h4 i hi)
    · rw [List.length_set] at hi
      rw [pcells_set ts j x hj i]
      have hxl : x.cells.length = 9 := rfl
      by_cases hin : j * 9 ≤ i ∧ i < j * 9 + 9
      · rw [if_pos hin]
        have := World.cell?_setCells_in g x.cells (j * 9) w (fun m hm => h4 _ (by rw [hxl] at hm; omega)) (i - j * 9) (by rw [hxl]; omega)
        rw [show j * 9 + (i - j * 9) = i by omega] at this
        rw [this, List.getElem?_eq_getElem (by rw [hxl]; omega)]
      · rw [if_neg hin, ← h5 i hi]
        refine World.cell?_setCells_out g _ _ w _ (fun _ _ => ?_)
        rw [hxl]
        simp only
        omega
theorem OwnPl.fz {w : World} {v : Value} {g : Nat} {ts : List Pl} (h : OwnPl w v ts (some g)) {j : Nat} (hj : j < 9 * ts.length) : w.frozen? ⟨g, j, none⟩ = false := by
  rcases h with ⟨_, _, h⟩ | ⟨g', cap, e, rfl, hg, h1, h2, h3, h4, h5⟩
  · simp at h
  · simp at e; subst e
    exact h3 j (by omega)

structure OpenP (w : World) (g o : Nat) : Prop where
  c : ∃ y : Pl, Pl.CellsAt w g o y
  f0 : w.frozen? ⟨g, o, none⟩ = false
  f1 : w.frozen? ⟨g, o + 1, none⟩ = false
  f2 : w.frozen? ⟨g, o + 2, none⟩ = false
  f3 : w.frozen? ⟨g, o + 3, none⟩ = false
  f4 : w.frozen? ⟨g, o + 4, none⟩ = false
  f5 : w.frozen? ⟨g, o + 5, none⟩ = false
  f6 : w.frozen? ⟨g, o + 6, none⟩ = false
  f7 : w.frozen? ⟨g, o + 7, none⟩ = false
  f8 : w.frozen? ⟨g, o + 8, none⟩ = false
theorem OwnPl.open {w : World} {v : Value} {g : Nat} {ts : List Pl} (h : OwnPl w v ts (some g)) {j : Nat} (hj : j < ts.length) : OpenP w g (j * 9) :=
  ⟨⟨_, h.at hj⟩, h.fz (by omega), h.fz (by omega), h.fz (by omega), h.fz (by omega), h.fz (by omega), h.fz (by omega), h.fz (by omega), h.fz (by omega), h.fz (by omega)⟩
end Go.Proofs.Ytdcagkojfgcbkaa
