import Derived.Test.YtelhjdplghpnbabSdY
import Derived.Test.YtelhjdplghpnbabSdO
/-! The law's own turns with marks in their spare room. -/
namespace Go.Proofs.Ytelhjdplghpnbab
open Go.RowKit Plain
set_option linter.unusedVariables false
set_option linter.unusedSimpArgs false

def marks : List Int := [-77, -78]
/-- Turns t in memory of the call's own (all their blocks from base on), each list with two marks behind it. -/
structure Rm (base : Nat) (w : World) (g n cap : Nat) (t : Tr) (vs : List Qv) (rs : List (Option Nat)) : Prop where
  mem : QMem base w (.slice (some ⟨g, 0, none⟩) (n + 2) cap) vs (some g) (t.qs.map fun q => q.costs ++ marks) rs
  len : vs.length = n + 2
  n_ : n = t.qs.length
  same : ∀ j, j < n → (vs.getD j Qv.zero).id = (t.q j).id ∧ (vs.getD j Qv.zero).quantum = (t.q j).quantum ∧ (vs.getD j Qv.zero).deficit = (t.q j).deficit ∧ (vs.getD j Qv.zero).sl.2.1 = (t.q j).costs.length
  m1 : (vs.getD n Qv.zero).id = -77
  m2 : (vs.getD (n + 1) Qv.zero).id = -78
  vok : ∀ x ∈ vs, x.Ok
  cok : ∀ j, j < n → (t.q j).costs.length ≤ 17592186043904 ∧ ∀ z ∈ (t.q j).costs, I64 z
  few : n ≤ 2932031007317
  at_ : I64 t.at'
theorem map_marks (l : List Qu) {j : Nat} (h : j < l.length) : (l.map fun q => q.costs ++ marks).getD j [] = (l.getD j Qu.zero).costs ++ marks := by simp [List.getD_eq_getElem?_getD, h]
theorem Rm.later {base : Nat} {w w' : World} {g n cap : Nat} {t : Tr} {vs : List Qv} {rs : List (Option Nat)} (h : Rm base w g n cap t vs rs) (k : Below w.heap.size w w') : Rm base w' g n cap t vs rs := ⟨h.mem.later k, h.len, h.n_, h.same, h.m1, h.m2, h.vok, h.cok, h.few, h.at_⟩
/-- The row of a queue's costs. -/
theorem Rm.row {base : Nat} {w : World} {g n cap : Nat} {t : Tr} {vs : List Qv} {rs : List (Option Nat)} (h : Rm base w g n cap t vs rs) {j : Nat} (hj : j < n) : RowO w (.slice (vs.getD j Qv.zero).sl.1 ((t.q j).costs.length + 2) (vs.getD j Qv.zero).sl.2.2) ((t.q j).costs ++ marks) (rs.getD j none) := by
  have hj2 : j < t.qs.length := by rw [← h.n_]; exact hj
  have hc := h.mem.cost j (by simpa using hj2)
  rw [map_marks _ hj2] at hc
  have e : ((t.qs.getD j Qu.zero).costs ++ marks).length = (t.q j).costs.length + 2 := by simp [marks, Tr.q]
  rw [e] at hc
  exact hc
theorem Rm.cell {base : Nat} {w : World} {g n cap : Nat} {t : Tr} {vs : List Qv} {rs : List (Option Nat)} (h : Rm base w g n cap t vs rs) {j : Nat} (hj : j < n + 2) : Qv.CellsAt w g (j * 4) (vs.getD j Qv.zero) := h.mem.row.at (by rw [h.len]; exact hj)
/-- They are read as t. -/
theorem Rm.reads {base : Nat} {w : World} {g n cap : Nat} {t : Tr} {vs : List Qv} {rs : List (Option Nat)} (h : Rm base w g n cap t vs rs) : TrAt w (.slice (some ⟨g, 0, none⟩) n cap) t := by
  have hf := h.few
  have hl := h.len
  have hn := h.n_
  refine ⟨⟨vs.take n, h.mem.row.first (k := n) (by omega) (by omega) h.vok, by simp; omega, fun j hj => ?_⟩, h.at_⟩
  have hj2 : j < n := by omega
  have e : (vs.take n).getD j Qv.zero = vs.getD j Qv.zero := by simp [List.getD_eq_getElem?_getD, hj2]
  rw [e]
  obtain ⟨a1, a2, a3, a4⟩ := h.same j hj2
  obtain ⟨b1, b2⟩ := h.cok j hj2
  refine ⟨a1, a2, a3, a4, ?_⟩
  rw [a4]
  exact (h.row hj2).head (t.q j).costs.length (by rw [List.length_append]; omega) (List.take_left' rfl) (by omega) b2
theorem Tr.q_set {l : List Qu} {z : Int} {f : Bool} {i : Nat} (hi : i < l.length) (x : Qu) (j : Nat) : (Tr.mk (l.set i x) z f).q j = if j = i then x else (Tr.mk l z f).q j := by
  unfold Tr.q
  exact getD_set l x Qu.zero i j hi
/-- A queue's id is written. -/
theorem Rm.setId {base : Nat} {w : World} {g n cap : Nat} {l : List Qu} {z : Int} {f : Bool} {vs : List Qv} {rs : List (Option Nat)} (h : Rm base w g n cap ⟨l, z, f⟩ vs rs) {i : Nat} (hi : i < n) (y : Int) (hy : I64 y) :
    ∃ vs', Rm base (w.setCell ⟨g, i * 4, none⟩ (.int .i64 y)) g n cap ⟨l.set i ⟨y, (l.getD i Qu.zero).quantum, (l.getD i Qu.zero).deficit, (l.getD i Qu.zero).costs⟩, z, f⟩ vs' rs ∧ (∀ j, (vs'.getD j Qv.zero).sl = (vs.getD j Qv.zero).sl) ∧ Below base w (w.setCell ⟨g, i * 4, none⟩ (.int .i64 y)) ∧ w.grownBy (w.setCell ⟨g, i * 4, none⟩ (.int .i64 y)) (some g) := by
  have hn : n = l.length := h.n_
  have hl := h.len
  have hiv : i < vs.length := by omega
  have hil : i < l.length := by omega
  have ho := h.mem.row.putId hiv y
  have kk : w.grownBy (w.setCell ⟨g, i * 4, none⟩ (.int .i64 y)) (some g) := grow_setT w g (i * 4) (.int .i64 y)
  have hrow := h.row hi
  have hfl : (l.map fun q => q.costs ++ marks).length = l.length := by simp
  have hm := h.mem.put (i := i) (x := ⟨y, (vs.getD i Qv.zero).quantum, (vs.getD i Qv.zero).deficit, (vs.getD i Qv.zero).sl⟩) (c := (l.getD i Qu.zero).costs ++ marks) (by simp; omega) ho kk (by
    have e : ((l.getD i Qu.zero).costs ++ marks).length = (l.getD i Qu.zero).costs.length + 2 := by simp [marks]
    rw [e]; exact hrow)
  have hset : (l.map fun q => q.costs ++ marks).set i ((l.getD i Qu.zero).costs ++ marks) = ((l.set i ⟨y, (l.getD i Qu.zero).quantum, (l.getD i Qu.zero).deficit, (l.getD i Qu.zero).costs⟩).map fun q => q.costs ++ marks) := by rw [List.map_set]
  rw [hset] at hm
  have gq : ∀ j, (vs.set i ⟨y, (vs.getD i Qv.zero).quantum, (vs.getD i Qv.zero).deficit, (vs.getD i Qv.zero).sl⟩).getD j Qv.zero = if j = i then ⟨y, (vs.getD i Qv.zero).quantum, (vs.getD i Qv.zero).deficit, (vs.getD i Qv.zero).sl⟩ else vs.getD j Qv.zero := fun j => getD_set _ _ _ _ _ hiv
  refine ⟨_, ⟨hm, by simp [hl], by simp [hn], fun j hj => ?_, ?_, ?_, fun x hx => ?_, fun j hj => ?_, h.few, h.at_⟩, fun j => ?_, (Below.refl base w).grown kk (by have := h.mem.new g rfl; have := h.mem.row.lt; omega) (fun q e => by have := h.mem.new g rfl; simp at e; omega), kk⟩
  · rw [gq, Tr.q_set hil]
    obtain ⟨a1, a2, a3, a4⟩ := h.same j hj
    by_cases e : j = i
    · subst e
      rw [if_pos rfl, if_pos rfl]
      exact ⟨rfl, a2, a3, a4⟩
    · rw [if_neg e, if_neg e]; exact ⟨a1, a2, a3, a4⟩
  · rw [gq, if_neg (by omega)]; exact h.m1
  · rw [gq, if_neg (by omega)]; exact h.m2
  · rcases List.mem_or_eq_of_mem_set hx with e | e
    · exact h.vok x e
    · have := h.vok (vs.getD i Qv.zero) (by simp [hiv])
      rw [e]
      exact ⟨hy, this.quantum, this.deficit, trivial⟩
  · rw [Tr.q_set hil]
    by_cases e : j = i
    · subst e; rw [if_pos rfl]; exact h.cok j hj
    · rw [if_neg e]; exact h.cok j hj
  · rw [gq]
    by_cases e : j = i
    · subst e; rw [if_pos rfl]
    · rw [if_neg e]
/-- One of a queue's costs is written. -/
theorem Rm.setCost {base : Nat} {w : World} {g n cap : Nat} {l : List Qu} {z : Int} {f : Bool} {vs : List Qv} {rs : List (Option Nat)} (h : Rm base w g n cap ⟨l, z, f⟩ vs rs) {i k : Nat} (hi : i < n) (hk : k < (l.getD i Qu.zero).costs.length) (y : Int) (hy : I64 y) :
    ∃ b off, (vs.getD i Qv.zero).sl.1 = some ⟨b, off, none⟩ ∧ w.frozen? ⟨b, off + k, none⟩ = false ∧ w.cell? ⟨b, off + k, none⟩ = some (.int .i64 ((l.getD i Qu.zero).costs.getD k 0)) ∧ Rm base (w.setCell ⟨b, off + k, none⟩ (.int .i64 y)) g n cap ⟨l.set i ⟨(l.getD i Qu.zero).id, (l.getD i Qu.zero).quantum, (l.getD i Qu.zero).deficit, (l.getD i Qu.zero).costs.set k y⟩, z, f⟩ vs rs ∧ Below base w (w.setCell ⟨b, off + k, none⟩ (.int .i64 y)) ∧ rs.getD i none = some b ∧ w.grownBy (w.setCell ⟨b, off + k, none⟩ (.int .i64 y)) (some b) := by
  have hn : n = l.length := h.n_
  have hl := h.len
  have hil : i < l.length := by omega
  have hrow := h.row hi
  have hrow2 : RowO w (.slice (vs.getD i Qv.zero).sl.1 ((l.getD i Qu.zero).costs.length + 2) (vs.getD i Qv.zero).sl.2.2) ((l.getD i Qu.zero).costs ++ marks) (rs.getD i none) := hrow
  obtain ⟨b, off, e1, e2, e3, e4, e5, kk⟩ := hrow2.set (i := k) (by rw [List.length_append]; omega) y
  have eg : ((l.getD i Qu.zero).costs ++ marks).getD k 0 = (l.getD i Qu.zero).costs.getD k 0 := by rw [List.getD_eq_getElem?_getD, List.getElem?_append_left hk, ← List.getD_eq_getElem?_getD]
  have es : ((l.getD i Qu.zero).costs ++ marks).set k y = (l.getD i Qu.zero).costs.set k y ++ marks := by rw [List.set_append_left _ _ hk]
  rw [eg] at e4
  rw [es] at e5
  have hm := h.mem.costs (i := i) (c := (l.getD i Qu.zero).costs.set k y ++ marks) (w' := w.setCell ⟨b, off + k, none⟩ (.int .i64 y)) (by simp; omega) (by rw [e2]; exact kk) (by
    have e : ((l.getD i Qu.zero).costs.set k y ++ marks).length = (l.getD i Qu.zero).costs.length + 2 := by simp [marks]
    rw [e]; exact e5)
  have hset : (l.map fun q => q.costs ++ marks).set i ((l.getD i Qu.zero).costs.set k y ++ marks) = ((l.set i ⟨(l.getD i Qu.zero).id, (l.getD i Qu.zero).quantum, (l.getD i Qu.zero).deficit, (l.getD i Qu.zero).costs.set k y⟩).map fun q => q.costs ++ marks) := by rw [List.map_set]
  rw [hset] at hm
  have hbase : base ≤ b := h.mem.newc i (by simp; omega) b e2
  have hblt : b < w.heap.size := by have := hrow2; rw [e2] at this; exact this.lt
  refine ⟨b, off, e1, e3, e4, ⟨hm, hl, by simp [hn], fun j hj => ?_, h.m1, h.m2, h.vok, fun j hj => ?_, h.few, h.at_⟩, (Below.refl base w).grown kk (by omega) (fun q e => by simp at e; omega), e2, kk⟩
  · rw [Tr.q_set hil]
    obtain ⟨a1, a2, a3, a4⟩ := h.same j hj
    by_cases e : j = i
    · subst e
      rw [if_pos rfl]
      exact ⟨a1, a2, a3, by rw [List.length_set]; exact a4⟩
    · rw [if_neg e]; exact ⟨a1, a2, a3, a4⟩
  · rw [Tr.q_set hil]
    by_cases e : j = i
    · subst e
      rw [if_pos rfl]
      obtain ⟨c1, c2⟩ := h.cok j hj
      refine ⟨by rw [List.length_set]; exact c1, fun x hx => ?_⟩
      rcases List.mem_or_eq_of_mem_set hx with e | e
      · exact c2 x e
      · rw [e]; exact hy
    · rw [if_neg e]; exact h.cok j hj
end Go.Proofs.Ytelhjdplghpnbab
