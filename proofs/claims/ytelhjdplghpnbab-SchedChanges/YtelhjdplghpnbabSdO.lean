import Derived.Test.YtelhjdplghpnbabSdN
/-! Rows of queues that are written in place. -/
namespace Go.Proofs.Ytelhjdplghpnbab
open Go.RowKit Plain
set_option linter.unusedVariables false
set_option linter.unusedSimpArgs false

theorem OwnQv.sets {w : World} {v : Value} {g o : Nat} {ts ts' : List Qv} (h : OwnQv w v ts (some g)) (cs : List Value) (hl : ts'.length = ts.length) (ho : o + cs.length ≤ 4 * ts.length) (hq : ∀ m, m < 4 * ts.length → (vcells ts')[m]? = if o ≤ m ∧ m < o + cs.length then cs[m - o]? else (vcells ts)[m]?) : OwnQv (w.setCells g o cs) v ts' (some g) := by
  rcases h with ⟨_, _, h⟩ | ⟨g', cap, e, rfl, hg, h1, h2, h3, h4, h5⟩
  · simp at h
  · cases e
    refine .inr ⟨g, cap, rfl, by rw [hl], by rw [setCells_size]; exact hg, by rw [hl]; exact h1, h2, fun i hi => ?_, fun i hi => ?_, fun i hi => ?_⟩
    · rw [World.frozen?_setCells]; exact h3 i hi
    · exact isSome_setCells g _ _ w _ (h4 i hi)
    · rw [hl] at hi
      rw [hq i hi]
      by_cases hin : o ≤ i ∧ i < o + cs.length
      · rw [if_pos hin]
        have := World.cell?_setCells_in g cs o w (fun m hm => h4 _ (by omega)) (i - o) (by omega)
        rw [show o + (i - o) = i by omega] at this
        rw [this, List.getElem?_eq_getElem (by omega)]
      · rw [if_neg hin, ← h5 i hi]
        refine World.cell?_setCells_out g _ _ w _ (fun _ _ => ?_)
        simp only
        omega
theorem vcells_put (ts : List Qv) (j : Nat) (x : Qv) (h : j < ts.length) (m : Nat) (hm : m < 4 * ts.length) : (vcells (ts.set j x))[m]? = if j * 4 ≤ m ∧ m < j * 4 + 4 then x.cells[m - j * 4]? else (vcells ts)[m]? := by
  obtain ⟨q, r, hq, hr, rfl⟩ : ∃ q r, q < ts.length ∧ r < 4 ∧ m = q * 4 + r := ⟨m / 4, m % 4, by omega, by omega, by omega⟩
  rw [vcells_get (ts.set j x) q r (by simpa using hq) hr, vcells_get ts q r hq hr]
  by_cases e : q = j
  · subst e
    rw [if_pos (by omega), show q * 4 + r - q * 4 = r by omega]
    simp [hq]
  · rw [if_neg (by omega)]
    congr 2
    simp [Ne.symm e]
theorem OwnQv.putAll {w : World} {v : Value} {g j : Nat} {ts : List Qv} (h : OwnQv w v ts (some g)) (hj : j < ts.length) (x : Qv) : OwnQv (w.setCells g (j * 4) x.cells) v (ts.set j x) (some g) :=
  h.sets x.cells (by simp) (by show j * 4 + 4 ≤ _; omega) fun m hm => vcells_put ts j x hj m hm
theorem OwnQv.fz {w : World} {v : Value} {g : Nat} {ts : List Qv} (h : OwnQv w v ts (some g)) {j : Nat} (hj : j < 4 * ts.length) : w.frozen? ⟨g, j, none⟩ = false := by
  rcases h with ⟨_, _, h⟩ | ⟨g', cap, e, rfl, hg, h1, h2, h3, h4, h5⟩
  · simp at h
  · cases e; exact h3 j (by omega)
theorem OwnQv.capP {w : World} {g n c : Nat} {ts : List Qv} (h : OwnQv w (.slice (some ⟨g, 0, none⟩) n c) ts (some g)) : n = ts.length ∧ n ≤ c := by
  rcases h with ⟨h, _, _⟩ | ⟨g', cap, e, e2, hg, h1, _⟩
  · simp at h
  · simp at e2
    obtain ⟨_, rfl, rfl⟩ := e2
    exact ⟨rfl, h1⟩
theorem OwnQv.of_block {w w' : World} {v : Value} {ts : List Qv} {r : Option Nat} (h : OwnQv w v ts r) (hs : w.heap.size ≤ w'.heap.size) (hb : ∀ g, r = some g → w'.heap[g]? = w.heap[g]?) : OwnQv w' v ts r := by
  rcases h with h0 | ⟨g, cap, rfl, rfl, hg, h1, h2, h3, h4, h5⟩
  · exact .inl h0
  · have hb := hb g rfl
    refine .inr ⟨g, cap, rfl, rfl, Nat.lt_of_lt_of_le hg hs, h1, h2, fun j hj => ?_, fun j hj => ?_, fun j hj => ?_⟩
    · rw [World.frozen?_of_block (w := w) (a := ⟨g, j, none⟩) hb]; exact h3 j hj
    · rw [World.cell?_of_block (w := w) (a := ⟨g, j, none⟩) hb]; exact h4 j hj
    · rw [World.cell?_of_block (w := w) (a := ⟨g, j, none⟩) hb]; exact h5 j hj
/-- A first part of a row reads. -/
theorem OwnQv.first {w : World} {g n c k : Nat} {ts : List Qv} (h : OwnQv w (.slice (some ⟨g, 0, none⟩) n c) ts (some g)) (hk : k ≤ ts.length) (hl : ts.length ≤ 2932031007400) (hok : ∀ x ∈ ts, x.Ok) : QvsAt w (.slice (some ⟨g, 0, none⟩) k c) (ts.take k) := by
  have hlen : (ts.take k).length = k := by simp; omega
  refine ⟨_, c, by rw [hlen], by rw [hlen]; omega, fun z hz => hok z (List.mem_of_mem_take hz), fun hne => ⟨g, 0, rfl, fun j hj => ?_⟩⟩
  rw [hlen] at hj
  have e : (ts.take k).getD j Qv.zero = ts.getD j Qv.zero := by simp [List.getD_eq_getElem?_getD, hj]
  rw [e, Nat.zero_add]
  exact h.at (by omega)
theorem OwnQv.putId {w : World} {v : Value} {g j : Nat} {ts : List Qv} (h : OwnQv w v ts (some g)) (hj : j < ts.length) (z : Int) : OwnQv (w.setCell ⟨g, j * 4, none⟩ (.int .i64 z)) v (ts.set j ⟨z, (ts.getD j Qv.zero).quantum, (ts.getD j Qv.zero).deficit, (ts.getD j Qv.zero).sl⟩) (some g) := by
  refine h.sets (o := j * 4) [.int .i64 z] (by simp) (by simp; omega) fun m hm => ?_
  rw [vcells_put ts j _ hj m hm]
  by_cases h1 : j * 4 ≤ m ∧ m < j * 4 + 4
  · rw [if_pos h1]
    have e := vcells_get ts j (m - j * 4) hj (by omega)
    rw [show j * 4 + (m - j * 4) = m by omega] at e
    rcases (by omega : m - j * 4 = 0 ∨ m - j * 4 = 1 ∨ m - j * 4 = 2 ∨ m - j * 4 = 3) with e1 | e1 | e1 | e1
    · rw [if_pos (by simp; omega), e1]; rfl
    · rw [if_neg (by simp; omega), e, e1]; rfl
    · rw [if_neg (by simp; omega), e, e1]; rfl
    · rw [if_neg (by simp; omega), e, e1]; rfl
  · rw [if_neg h1, if_neg (by simp; omega)]
theorem OwnQv.putSl {w : World} {v : Value} {g j : Nat} {ts : List Qv} (h : OwnQv w v ts (some g)) (hj : j < ts.length) (s : Option Addr × Nat × Nat) : OwnQv (w.setCell ⟨g, j * 4 + 3, none⟩ (.slice s.1 s.2.1 s.2.2)) v (ts.set j ⟨(ts.getD j Qv.zero).id, (ts.getD j Qv.zero).quantum, (ts.getD j Qv.zero).deficit, s⟩) (some g) := by
  refine h.sets (o := j * 4 + 3) [.slice s.1 s.2.1 s.2.2] (by simp) (by simp; omega) fun m hm => ?_
  rw [vcells_put ts j _ hj m hm]
  by_cases h1 : j * 4 ≤ m ∧ m < j * 4 + 4
  · rw [if_pos h1]
    have e := vcells_get ts j (m - j * 4) hj (by omega)
    rw [show j * 4 + (m - j * 4) = m by omega] at e
    rcases (by omega : m - j * 4 = 0 ∨ m - j * 4 = 1 ∨ m - j * 4 = 2 ∨ m - j * 4 = 3) with e1 | e1 | e1 | e1
    · rw [if_neg (by simp; omega), e, e1]; rfl
    · rw [if_neg (by simp; omega), e, e1]; rfl
    · rw [if_neg (by simp; omega), e, e1]; rfl
    · rw [if_pos (by simp; omega), e1, show m - (j * 4 + 3) = 0 by omega]; rfl
  · rw [if_neg h1, if_neg (by simp; omega)]
theorem setQ4 (w : World) (g o : Nat) (x : Qv) : (((w.setCell ⟨g, o, none⟩ (.int .i64 x.id)).setCell ⟨g, o + 1, none⟩ (.int .i64 x.quantum)).setCell ⟨g, o + 2, none⟩ (.int .i64 x.deficit)).setCell ⟨g, o + 3, none⟩ (.slice x.sl.1 x.sl.2.1 x.sl.2.2) = w.setCells g o x.cells := rfl
theorem getD_set {α : Type} (l : List α) (x d : α) (i j : Nat) (hi : i < l.length) : (l.set i x).getD j d = if j = i then x else l.getD j d := by
  by_cases e : j = i
  · rw [if_pos e, e]; simp [List.getD_eq_getElem?_getD, hi]
  · rw [if_neg e]; simp [List.getD_eq_getElem?_getD, Ne.symm e]
/-- The row has turned at one place; that queue's costs are c now, in the same block. -/
theorem QMem.put {base : Nat} {w w' : World} {v : Value} {vs : List Qv} {g : Nat} {fl : List (List Int)} {rs : List (Option Nat)} (h : QMem base w v vs (some g) fl rs) {i : Nat} (hi : i < fl.length) {x : Qv} {c : List Int} (ho : OwnQv w' v (vs.set i x) (some g)) (k : w.grownBy w' (some g))
    (hc : RowO w (.slice x.sl.1 c.length x.sl.2.2) c (rs.getD i none)) : QMem base w' v (vs.set i x) (some g) (fl.set i c) rs := by
  have hle := h.le
  refine ⟨ho, by simp [h.len], by simpa using hle, fun j hj => ?_, h.new, fun j hj => h.newc j (by simpa using hj), fun j hj => h.ap j (by simpa using hj), fun a b ha hb => h.apc a b (by simpa using ha) (by simpa using hb)⟩
  rw [List.length_set] at hj
  rw [getD_set _ _ _ _ _ (by omega), getD_set _ _ _ _ _ hi]
  by_cases e : j = i
  · rw [if_pos e, if_pos e, e]
    exact hc.kept k (fun g' e2 e3 => h.ap i hi g' e2 e3)
  · rw [if_neg e, if_neg e]
    exact (h.cost j hj).kept k (fun g' e2 e3 => h.ap j hj g' e2 e3)
/-- A queue's costs have turned, in their own block (or in a new one): the row itself has not. -/
theorem QMem.costs {base : Nat} {w w' : World} {v : Value} {vs : List Qv} {r : Option Nat} {fl : List (List Int)} {rs : List (Option Nat)} (h : QMem base w v vs r fl rs) {i : Nat} (hi : i < fl.length) {c : List Int} (k : w.grownBy w' (rs.getD i none)) (hc : RowO w' (.slice (vs.getD i Qv.zero).sl.1 c.length (vs.getD i Qv.zero).sl.2.2) c (rs.getD i none)) : QMem base w' v vs r (fl.set i c) rs := by
  refine ⟨h.row.kept k (by cases e : r with | none => exact .inl rfl | some g => exact .inr (fun e2 => h.ap i hi g e2.symm e)), by simp [h.len], by simpa using h.le, fun j hj => ?_, h.new, fun j hj => h.newc j (by simpa using hj), fun j hj => h.ap j (by simpa using hj), fun a b ha hb => h.apc a b (by simpa using ha) (by simpa using hb)⟩
  rw [List.length_set] at hj
  rw [getD_set _ _ _ _ _ hi]
  by_cases e : j = i
  · rw [if_pos e, e]; exact hc
  · rw [if_neg e]
    exact (h.cost j hj).kept k (fun g' e2 e3 => h.apc j i hj hi e g' e2 e3)
end Go.Proofs.Ytelhjdplghpnbab
