import Derived.Test.YteekmmgopnnioaaDoorMcE
import Derived.Test.YteekmmgopnnioaaDoorMcJ
/-! manifest: rows that are written in place. -/
namespace Go.Proofs.YteekmmgopnnioaaDoor
open Go.RowKit Plain
set_option linter.unusedVariables false
set_option linter.unusedSimpArgs false

theorem OwnV.put {w : World} {v : Value} {g j : Nat} {vs : List Value} (h : OwnV w v vs (some g)) (hj : j < vs.length) (u : Value) : OwnV (w.setCell ⟨g, j, none⟩ u) v (vs.set j u) (some g) := by
  rcases h with ⟨_, _, h⟩ | ⟨g', cap, e, rfl, hg, h1, h2, h3, h4, h5⟩
  · simp at h
  · cases e
    refine .inr ⟨g, cap, rfl, by simp, by rw [size_setC]; exact hg, by simpa using h1, h2, fun i hi => ?_, fun i hi => ?_, fun i hi => ?_⟩
    · exact (World.frozen?_setCells g [u] j w ⟨g, i, none⟩).trans (h3 i hi)
    · exact isSome_setCells g [u] j w _ (h4 i hi)
    · rw [List.length_set] at hi
      by_cases e : i = j
      · subst e
        have := World.cell?_setCells_in g [u] i w (fun q hq => h4 _ (by simp at hq; omega)) 0 (by simp)
        rw [List.getElem?_set_self hi]
        exact this
      · rw [List.getElem?_set_ne (Ne.symm e), ← h5 i hi]
        exact World.cell?_setCells_out g [u] j w ⟨g, i, none⟩ (fun _ _ => by show i < j ∨ j + 1 ≤ i; omega)
theorem ints_set (l : List Int) (j : Nat) (z : Int) : (ints l).set j (.int .i64 z) = ints (l.set j z) := by
  unfold ints
  rw [List.map_set]
theorem OwnV.cellI {w : World} {v : Value} {g : Nat} {l : List Int} (h : OwnV w v (ints l) (some g)) {j : Nat} (hj : j < l.length) : w.cell? ⟨g, j, none⟩ = some (.int .i64 (l.getD j 0)) ∧ w.frozen? ⟨g, j, none⟩ = false := by
  rcases h with ⟨_, _, h⟩ | ⟨g', cap, e, rfl, hg, h1, h2, h3, h4, h5⟩
  · simp at h
  · cases e
    rw [ints_len] at h1
    exact ⟨by rw [h5 j (by rw [ints_len]; exact hj), ints_get hj], h3 j (by omega)⟩
theorem OwnV.capI {w : World} {g n c : Nat} {l : List Int} (h : OwnV w (.slice (some ⟨g, 0, none⟩) n c) (ints l) (some g)) : n = l.length ∧ n ≤ c := by
  rcases h with ⟨h, _, _⟩ | ⟨g', cap, e, e2, hg, h1, _⟩
  · simp at h
  · simp at e2
    rw [ints_len] at e2 h1
    obtain ⟨_, rfl, rfl⟩ := e2
    exact ⟨rfl, h1⟩

theorem OwnPr.sets {w : World} {v : Value} {g o : Nat} {ts ts' : List Pr} (h : OwnPr w v ts (some g)) (cs : List Value) (hl : ts'.length = ts.length) (ho : o + cs.length ≤ 3 * ts.length) (hq : ∀ m, m < 3 * ts.length → (qcells ts')[m]? = if o ≤ m ∧ m < o + cs.length then cs[m - o]? else (qcells ts)[m]?) : OwnPr (w.setCells g o cs) v ts' (some g) := by
  rcases h with ⟨_, _, h⟩ | ⟨g', cap, e, rfl, hg, h1, h2, h3, h4, h5⟩
  · simp at h
  · cases e
    refine .inr ⟨g, cap, rfl, by rw [hl], by rw [setCells_size]; exact hg, by rw [hl]; exact h1, h2, fun i hi => ?_, fun i hi => ?_, fun i hi => ?_⟩
    · rw [World.frozen?_setCells]; exact h3 i hi
    · exact isSome_setCells g _ _ w _ (h4 i hi)
    · rw [hl] at hi
      rw [hq i hi]
      by_cases hin : o ≤ i ∧ i < o + cs.length
      · rw [if_pos hin]
        have := World.cell?_setCells_in g cs o w (fun m hm => h4 _ (by omega)) (i - o) (by omega)
        rw [show o + (i - o) = i by omega] at this
        rw [this, List.getElem?_eq_getElem (by omega)]
      · rw [if_neg hin, ← h5 i hi]
        refine World.cell?_setCells_out g _ _ w _ (fun _ _ => ?_)
        simp only
        omega
theorem qcells_put (ts : List Pr) (j : Nat) (x : Pr) (h : j < ts.length) (m : Nat) (hm : m < 3 * ts.length) : (qcells (ts.set j x))[m]? = if j * 3 ≤ m ∧ m < j * 3 + 3 then x.cells[m - j * 3]? else (qcells ts)[m]? := by
  obtain ⟨q, r, hq, hr, rfl⟩ : ∃ q r, q < ts.length ∧ r < 3 ∧ m = q * 3 + r := ⟨m / 3, m % 3, by omega, by omega, by omega⟩
  rw [qcells_get (ts.set j x) q r (by simpa using hq) hr, qcells_get ts q r hq hr]
  by_cases e : q = j
  · subst e
    rw [if_pos (by omega), show q * 3 + r - q * 3 = r by omega]
    simp [hq]
  · rw [if_neg (by omega)]
    congr 2
    simp [Ne.symm e]
theorem OwnPr.putAll {w : World} {v : Value} {g j : Nat} {ts : List Pr} (h : OwnPr w v ts (some g)) (hj : j < ts.length) (x : Pr) : OwnPr (w.setCells g (j * 3) x.cells) v (ts.set j x) (some g) :=
  h.sets x.cells (by simp) (by show j * 3 + 3 ≤ _; omega) fun m hm => qcells_put ts j x hj m hm
theorem OwnPr.fz {w : World} {v : Value} {g : Nat} {ts : List Pr} (h : OwnPr w v ts (some g)) {j : Nat} (hj : j < 3 * ts.length) : w.frozen? ⟨g, j, none⟩ = false := by
  rcases h with ⟨_, _, h⟩ | ⟨g', cap, e, rfl, hg, h1, h2, h3, h4, h5⟩
  · simp at h
  · cases e; exact h3 j (by omega)
theorem OwnPr.capP {w : World} {g n c : Nat} {ts : List Pr} (h : OwnPr w (.slice (some ⟨g, 0, none⟩) n c) ts (some g)) : n = ts.length ∧ n ≤ c := by
  rcases h with ⟨h, _, _⟩ | ⟨g', cap, e, e2, hg, h1, _⟩
  · simp at h
  · simp at e2
    obtain ⟨_, rfl, rfl⟩ := e2
    exact ⟨rfl, h1⟩
theorem OwnPr.of_block {w w' : World} {v : Value} {ts : List Pr} {r : Option Nat} (h : OwnPr w v ts r) (hs : w.heap.size ≤ w'.heap.size) (hb : ∀ g, r = some g → w'.heap[g]? = w.heap[g]?) : OwnPr w' v ts r := by
  rcases h with h0 | ⟨g, cap, rfl, rfl, hg, h1, h2, h3, h4, h5⟩
  · exact .inl h0
  · have hb := hb g rfl
    refine .inr ⟨g, cap, rfl, rfl, Nat.lt_of_lt_of_le hg hs, h1, h2, fun j hj => ?_, fun j hj => ?_, fun j hj => ?_⟩
    · rw [World.frozen?_of_block (w := w) (a := ⟨g, j, none⟩) hb]; exact h3 j hj
    · rw [World.cell?_of_block (w := w) (a := ⟨g, j, none⟩) hb]; exact h4 j hj
    · rw [World.cell?_of_block (w := w) (a := ⟨g, j, none⟩) hb]; exact h5 j hj
/-- A first part of a row reads. -/
theorem OwnPr.first {w : World} {g n c k : Nat} {ts : List Pr} (h : OwnPr w (.slice (some ⟨g, 0, none⟩) n c) ts (some g)) (hk : k ≤ ts.length) (hl : ts.length ≤ 8796093022000) (hok : ∀ x ∈ ts, x.Ok) : PrsAt w (.slice (some ⟨g, 0, none⟩) k c) (ts.take k) := by
  have hlen : (ts.take k).length = k := by simp; omega
  refine ⟨_, c, by rw [hlen], by rw [hlen]; omega, fun z hz => hok z (List.mem_of_mem_take hz), fun hne => ⟨g, 0, rfl, fun j hj => ?_⟩⟩
  rw [hlen] at hj
  have e : (ts.take k).getD j Pr.zero = ts.getD j Pr.zero := by simp [List.getD_eq_getElem?_getD, hj]
  rw [e, Nat.zero_add]
  exact h.at (by omega)

theorem OwnTe.sets {w : World} {v : Value} {g o : Nat} {ts ts' : List Te} (h : OwnTe w v ts (some g)) (cs : List Value) (hl : ts'.length = ts.length) (ho : o + cs.length ≤ 4 * ts.length) (hq : ∀ m, m < 4 * ts.length → (tcells ts')[m]? = if o ≤ m ∧ m < o + cs.length then cs[m - o]? else (tcells ts)[m]?) : OwnTe (w.setCells g o cs) v ts' (some g) := by
  rcases h with ⟨_, _, h⟩ | ⟨g', cap, e, rfl, hg, h1, h2, h3, h4, h5⟩
  · simp at h
  · cases e
    refine .inr ⟨g, cap, rfl, by rw [hl], by rw [setCells_size]; exact hg, by rw [hl]; exact h1, h2, fun i hi => ?_, fun i hi => ?_, fun i hi => ?_⟩
    · rw [World.frozen?_setCells]; exact h3 i hi
    · exact isSome_setCells g _ _ w _ (h4 i hi)
    · rw [hl] at hi
      rw [hq i hi]
      by_cases hin : o ≤ i ∧ i < o + cs.length
      · rw [if_pos hin]
        have := World.cell?_setCells_in g cs o w (fun m hm => h4 _ (by omega)) (i - o) (by omega)
        rw [show o + (i - o) = i by omega] at this
        rw [this, List.getElem?_eq_getElem (by omega)]
      · rw [if_neg hin, ← h5 i hi]
        refine World.cell?_setCells_out g _ _ w _ (fun _ _ => ?_)
        simp only
        omega
theorem tcells_put (ts : List Te) (j : Nat) (x : Te) (h : j < ts.length) (m : Nat) (hm : m < 4 * ts.length) : (tcells (ts.set j x))[m]? = if j * 4 ≤ m ∧ m < j * 4 + 4 then x.cells[m - j * 4]? else (tcells ts)[m]? := by
  obtain ⟨q, r, hq, hr, rfl⟩ : ∃ q r, q < ts.length ∧ r < 4 ∧ m = q * 4 + r := ⟨m / 4, m % 4, by omega, by omega, by omega⟩
  rw [tcells_get (ts.set j x) q r (by simpa using hq) hr, tcells_get ts q r hq hr]
  by_cases e : q = j
  · subst e
    rw [if_pos (by omega), show q * 4 + r - q * 4 = r by omega]
    simp [hq]
  · rw [if_neg (by omega)]
    congr 2
    simp [Ne.symm e]
theorem OwnTe.putAll {w : World} {v : Value} {g j : Nat} {ts : List Te} (h : OwnTe w v ts (some g)) (hj : j < ts.length) (x : Te) : OwnTe (w.setCells g (j * 4) x.cells) v (ts.set j x) (some g) :=
  h.sets x.cells (by simp) (by show j * 4 + 4 ≤ _; omega) fun m hm => tcells_put ts j x hj m hm
theorem OwnTe.fz {w : World} {v : Value} {g : Nat} {ts : List Te} (h : OwnTe w v ts (some g)) {j : Nat} (hj : j < 4 * ts.length) : w.frozen? ⟨g, j, none⟩ = false := by
  rcases h with ⟨_, _, h⟩ | ⟨g', cap, e, rfl, hg, h1, h2, h3, h4, h5⟩
  · simp at h
  · cases e; exact h3 j (by omega)
theorem OwnTe.capP {w : World} {g n c : Nat} {ts : List Te} (h : OwnTe w (.slice (some ⟨g, 0, none⟩) n c) ts (some g)) : n = ts.length ∧ n ≤ c := by
  rcases h with ⟨h, _, _⟩ | ⟨g', cap, e, e2, hg, h1, _⟩
  · simp at h
  · simp at e2
    obtain ⟨_, rfl, rfl⟩ := e2
    exact ⟨rfl, h1⟩
theorem OwnTe.of_block {w w' : World} {v : Value} {ts : List Te} {r : Option Nat} (h : OwnTe w v ts r) (hs : w.heap.size ≤ w'.heap.size) (hb : ∀ g, r = some g → w'.heap[g]? = w.heap[g]?) : OwnTe w' v ts r := by
  rcases h with h0 | ⟨g, cap, rfl, rfl, hg, h1, h2, h3, h4, h5⟩
  · exact .inl h0
  · have hb := hb g rfl
    refine .inr ⟨g, cap, rfl, rfl, Nat.lt_of_lt_of_le hg hs, h1, h2, fun j hj => ?_, fun j hj => ?_, fun j hj => ?_⟩
    · rw [World.frozen?_of_block (w := w) (a := ⟨g, j, none⟩) hb]; exact h3 j hj
    · rw [World.cell?_of_block (w := w) (a := ⟨g, j, none⟩) hb]; exact h4 j hj
    · rw [World.cell?_of_block (w := w) (a := ⟨g, j, none⟩) hb]; exact h5 j hj
/-- A first part of a row reads. -/
theorem OwnTe.first {w : World} {g n c k : Nat} {ts : List Te} (h : OwnTe w (.slice (some ⟨g, 0, none⟩) n c) ts (some g)) (hk : k ≤ ts.length) (hl : ts.length ≤ 4398046511000) (hok : ∀ x ∈ ts, x.Ok) : TesAt w (.slice (some ⟨g, 0, none⟩) k c) (ts.take k) := by
  have hlen : (ts.take k).length = k := by simp; omega
  refine ⟨_, c, by rw [hlen], by rw [hlen]; omega, fun z hz => hok z (List.mem_of_mem_take hz), fun hne => ⟨g, 0, rfl, fun j hj => ?_⟩⟩
  rw [hlen] at hj
  have e : (ts.take k).getD j Te.zero = ts.getD j Te.zero := by simp [List.getD_eq_getElem?_getD, hj]
  rw [e, Nat.zero_add]
  exact h.at (by omega)

theorem set3 (w : World) (g o : Nat) (x : Pr) : ((w.setCell ⟨g, o, none⟩ (.int .i64 x.pid)).setCell ⟨g, o + 1, none⟩ (.int .i64 x.seq)).setCell ⟨g, o + 2, none⟩ (.int .i64 x.off) = w.setCells g o x.cells := rfl
theorem set4 (w : World) (g o : Nat) (x : Te) : (((w.setCell ⟨g, o, none⟩ (.int .i64 x.id)).setCell ⟨g, o + 1, none⟩ (.string x.name)).setCell ⟨g, o + 2, none⟩ (.int .i64 x.lim)).setCell ⟨g, o + 3, none⟩ (.int .i64 x.hor) = w.setCells g o x.cells := rfl
theorem OwnPr.putSeq {w : World} {v : Value} {g j : Nat} {ts : List Pr} (h : OwnPr w v ts (some g)) (hj : j < ts.length) (z : Int) : OwnPr (w.setCell ⟨g, j * 3 + 1, none⟩ (.int .i64 z)) v (ts.set j ⟨(ts.getD j Pr.zero).pid, z, (ts.getD j Pr.zero).off⟩) (some g) := by
  refine h.sets (o := j * 3 + 1) [.int .i64 z] (by simp) (by simp; omega) fun m hm => ?_
  rw [qcells_put ts j _ hj m hm]
  by_cases h1 : j * 3 ≤ m ∧ m < j * 3 + 3
  · rw [if_pos h1]
    have e := qcells_get ts j (m - j * 3) hj (by omega)
    rw [show j * 3 + (m - j * 3) = m by omega] at e
    rcases (by omega : m - j * 3 = 0 ∨ m - j * 3 = 1 ∨ m - j * 3 = 2) with e1 | e1 | e1
    · rw [if_neg (by simp; omega), e, e1]; rfl
    · rw [if_pos (by simp; omega), e1, show m - (j * 3 + 1) = 0 by omega]; rfl
    · rw [if_neg (by simp; omega), e, e1]; rfl
  · rw [if_neg h1, if_neg (by simp; omega)]
theorem OwnTe.putId {w : World} {v : Value} {g j : Nat} {ts : List Te} (h : OwnTe w v ts (some g)) (hj : j < ts.length) (z : Int) : OwnTe (w.setCell ⟨g, j * 4, none⟩ (.int .i64 z)) v (ts.set j ⟨z, (ts.getD j Te.zero).name, (ts.getD j Te.zero).lim, (ts.getD j Te.zero).hor⟩) (some g) := by
  refine h.sets (o := j * 4) [.int .i64 z] (by simp) (by simp; omega) fun m hm => ?_
  rw [tcells_put ts j _ hj m hm]
  by_cases h1 : j * 4 ≤ m ∧ m < j * 4 + 4
  · rw [if_pos h1]
    have e := tcells_get ts j (m - j * 4) hj (by omega)
    rw [show j * 4 + (m - j * 4) = m by omega] at e
    rcases (by omega : m - j * 4 = 0 ∨ m - j * 4 = 1 ∨ m - j * 4 = 2 ∨ m - j * 4 = 3) with e1 | e1 | e1 | e1
    · rw [if_pos (by simp; omega), e1]; rfl
    · rw [if_neg (by simp; omega), e, e1]; rfl
    · rw [if_neg (by simp; omega), e, e1]; rfl
    · rw [if_neg (by simp; omega), e, e1]; rfl
  · rw [if_neg h1, if_neg (by simp; omega)]
end Go.Proofs.YteekmmgopnnioaaDoor
