import Derived.Test.YtelhjdplghpnbabSyG
/-! The program's Next: what stands in memory. -/
namespace Go.Proofs.Ytelhjdplghpnbab
open Go.RowKit Plain
set_option linter.unusedVariables false
set_option linter.unusedSimpArgs false

theorem OwnQv.putDef {w : World} {v : Value} {g j : Nat} {ts : List Qv} (h : OwnQv w v ts (some g)) (hj : j < ts.length) (z : Int) : OwnQv (w.setCell ⟨g, j * 4 + 2, none⟩ (.int .i64 z)) v (ts.set j ⟨(ts.getD j Qv.zero).id, (ts.getD j Qv.zero).quantum, z, (ts.getD j Qv.zero).sl⟩) (some g) := by
  refine h.sets (o := j * 4 + 2) [.int .i64 z] (by simp) (by simp; omega) fun m hm => ?_
  rw [vcells_put ts j _ hj m hm]
  by_cases h1 : j * 4 ≤ m ∧ m < j * 4 + 4
  · rw [if_pos h1]
    have e := vcells_get ts j (m - j * 4) hj (by omega)
    rw [show j * 4 + (m - j * 4) = m by omega] at e
    rcases (by omega : m - j * 4 = 0 ∨ m - j * 4 = 1 ∨ m - j * 4 = 2 ∨ m - j * 4 = 3) with e1 | e1 | e1 | e1
    · rw [if_neg (by simp; omega), e, e1]; rfl
    · rw [if_neg (by simp; omega), e, e1]; rfl
    · rw [if_pos (by simp; omega), e1, show m - (j * 4 + 2) = 0 by omega]; rfl
    · rw [if_neg (by simp; omega), e, e1]; rfl
  · rw [if_neg h1, if_neg (by simp; omega)]
/-- Nothing below base has turned but the block B. -/
structure SvF (W w : World) (base B : Nat) : Prop where
  os : w.os = W.os
  tape : w.tape = W.tape
  output : w.output = W.output
  size : W.heap.size ≤ w.heap.size
  bs : base ≤ W.heap.size
  block : ∀ k, k < base → k ≠ B → w.heap[k]? = W.heap[k]?
theorem SvF.refl (W : World) (base B : Nat) (h : base ≤ W.heap.size) : SvF W W base B := ⟨rfl, rfl, rfl, Nat.le_refl _, h, fun _ _ _ => rfl⟩
theorem SvF.later {W w w' : World} {base B : Nat} (h : SvF W w base B) (k : Below w.heap.size w w') : SvF W w' base B :=
  ⟨k.os.trans h.os, k.tape.trans h.tape, k.output.trans h.output, Nat.le_trans h.size k.size, h.bs, fun i hi hn => (k.block i (by have := h.size; have := h.bs; omega)).trans (h.block i hi hn)⟩
theorem SvF.grown {W w w' : World} {base B : Nat} {r : Nat} (h : SvF W w base B) (k : w.grownBy w' (some r)) (hr : r = B ∨ base ≤ r) : SvF W w' base B := by
  have hb : Below 0 w w' := (Below.refl 0 w).grown k (Nat.zero_le _) (fun _ _ => Nat.zero_le _)
  refine ⟨hb.os.trans h.os, hb.tape.trans h.tape, hb.output.trans h.output, Nat.le_trans h.size k.size, h.bs, fun i hi hn => (k.block i (by have := h.size; have := h.bs; omega) ?_).trans (h.block i hi hn)⟩
  intro e
  simp only [Option.some.injEq] at e
  omega
theorem SvF.below {W w V : World} {base B : Nat} (h : SvF W w base B) (hV : Below V.heap.size V W) (hB : V.heap.size ≤ B) (hBb : B < base) : Below V.heap.size V w :=
  ⟨h.os.trans hV.os, h.tape.trans hV.tape, h.output.trans hV.output, Nat.le_trans hV.size h.size, fun i hi => (h.block i (by omega) (by omega)).trans (hV.block i hi)⟩
/-- The turns that are served: in their box, the queues in a row of the call's own. -/
structure SvM (W w : World) (base B g : Nat) (u : Tu) (vs : List Qv) (rs : List (Option Nat)) : Prop where
  box : TuB w B (.slice (some ⟨g, 0, none⟩) u.qs.length u.qs.length) (u.at' : Int) u.fresh
  mem : QMem base w (.slice (some ⟨g, 0, none⟩) u.qs.length u.qs.length) vs (some g) (u.qs.map (·.costs)) rs
  len : vs.length = u.qs.length
  same : ∀ j, j < u.qs.length → (vs.getD j Qv.zero).id = (u.q j).id ∧ (vs.getD j Qv.zero).quantum = (u.q j).quantum ∧ (vs.getD j Qv.zero).deficit = (u.q j).deficit ∧ (vs.getD j Qv.zero).sl.2.1 = (u.q j).costs.length
  few : ∀ j, j < u.qs.length → (u.q j).costs.length ≤ 17592186044000
  bb : B < base
  fr : SvF W w base B
theorem SvM.later {W w w' : World} {base B g : Nat} {u : Tu} {vs : List Qv} {rs : List (Option Nat)} (h : SvM W w base B g u vs rs) (k : Below w.heap.size w w') : SvM W w' base B g u vs rs := ⟨h.box.later k, h.mem.later k, h.len, h.same, h.few, h.bb, h.fr.later k⟩
theorem SvM.gB {W w : World} {base B g : Nat} {u : Tu} {vs : List Qv} {rs : List (Option Nat)} (h : SvM W w base B g u vs rs) : B ≠ g ∧ base ≤ g := by
  have h1 := h.mem.new g rfl
  have h2 := h.bb
  exact ⟨by omega, h1⟩
/-- The box alone has turned. -/
theorem SvM.turn {W w w' : World} {base B g : Nat} {u : Tu} {vs : List Qv} {rs : List (Option Nat)} (h : SvM W w base B g u vs rs) (z : Nat) (f : Bool) (hb : TuB w' B (.slice (some ⟨g, 0, none⟩) u.qs.length u.qs.length) (z : Int) f) (k : w.grownBy w' (some B)) : SvM W w' base B g ⟨u.qs, z, f⟩ vs rs := by
  have hbb := h.bb
  refine ⟨hb, h.mem.kept k (fun g' e e2 => ?_) (fun j hj g' e e2 => ?_), h.len, h.same, h.few, h.bb, h.fr.grown k (.inl rfl)⟩
  · have := h.mem.new g' e; simp at e2; omega
  · have := h.mem.newc j hj g' e; simp at e2; omega
/-- A queue has turned, its costs in their own block. -/
theorem SvM.putQ {W w w' : World} {base B g : Nat} {u : Tu} {vs : List Qv} {rs : List (Option Nat)} (h : SvM W w base B g u vs rs) {j : Nat} (hj : j < u.qs.length) {x : Qv} {c : List Int} (ho : OwnQv w' (.slice (some ⟨g, 0, none⟩) u.qs.length u.qs.length) (vs.set j x) (some g)) (k : w.grownBy w' (some g)) (hc : RowO w (.slice x.sl.1 c.length x.sl.2.2) c (rs.getD j none)) (hx : x.sl.2.1 = c.length) (hl : c.length ≤ 17592186044000) :
    SvM W w' base B g ⟨u.qs.set j ⟨x.id, x.quantum, x.deficit, c⟩, u.at', u.fresh⟩ (vs.set j x) rs := by
  obtain ⟨n1, n2⟩ := h.gB
  have hjv : j < vs.length := by rw [h.len]; exact hj
  have hm := h.mem.put (i := j) (by simpa using hj) (x := x) (c := c) ho k hc
  have em : (u.qs.map (·.costs)).set j c = (u.qs.set j ⟨x.id, x.quantum, x.deficit, c⟩).map (·.costs) := by rw [List.map_set]
  rw [em] at hm
  have hq : ∀ i, (⟨u.qs.set j ⟨x.id, x.quantum, x.deficit, c⟩, u.at', u.fresh⟩ : Tu).q i = if i = j then ⟨x.id, x.quantum, x.deficit, c⟩ else u.q i := fun i => getD_set _ _ _ _ _ hj
  refine ⟨?_, ?_, by simp [h.len], fun i hi => ?_, fun i hi => ?_, h.bb, h.fr.grown k (.inr n2)⟩
  · simp only [List.length_set]; exact h.box.kept k (by simp; omega)
  · simp only [List.length_set]; exact hm
  · simp only [List.length_set] at hi
    rw [hq i, getD_set _ _ _ _ _ hjv]
    by_cases e : i = j
    · rw [if_pos e, if_pos e]; exact ⟨rfl, rfl, rfl, hx⟩
    · rw [if_neg e, if_neg e]; exact h.same i hi
  · simp only [List.length_set] at hi
    rw [hq i]
    by_cases e : i = j
    · rw [if_pos e]; exact hl
    · rw [if_neg e]; exact h.few i hi
/-- A queue, cell by cell. -/
theorem SvM.at {W w : World} {base B g : Nat} {u : Tu} {vs : List Qv} {rs : List (Option Nat)} (h : SvM W w base B g u vs rs) {j : Nat} (hj : j < u.qs.length) :
    ∃ ca cc, vs.getD j Qv.zero = ⟨(u.q j).id, (u.q j).quantum, (u.q j).deficit, (ca, (u.q j).costs.length, cc)⟩ ∧ w.cell? ⟨g, j * 4, none⟩ = some (.int .i64 (u.q j).id) ∧ w.cell? ⟨g, j * 4 + 1, none⟩ = some (.int .i64 (u.q j).quantum) ∧ w.cell? ⟨g, j * 4 + 2, none⟩ = some (.int .i64 (u.q j).deficit) ∧ w.cell? ⟨g, j * 4 + 3, none⟩ = some (.slice ca (u.q j).costs.length cc) ∧ w.frozen? ⟨g, j * 4 + 2, none⟩ = false ∧ w.frozen? ⟨g, j * 4 + 3, none⟩ = false ∧ RowO w (.slice ca (u.q j).costs.length cc) (u.q j).costs (rs.getD j none) := by
  have hjv : j < vs.length := by rw [h.len]; exact hj
  obtain ⟨e1, e2, e3, e4⟩ := h.same j hj
  obtain ⟨c0, c1, c2, c3⟩ := h.mem.row.at hjv
  have hc := h.mem.cost j (by simpa using hj)
  have em : (u.qs.map (·.costs)).getD j [] = (u.q j).costs := by simp [List.getD_eq_getElem?_getD, hj, Tu.q]
  rw [em] at hc
  have hx : vs.getD j Qv.zero = ⟨(u.q j).id, (u.q j).quantum, (u.q j).deficit, ((vs.getD j Qv.zero).sl.1, (u.q j).costs.length, (vs.getD j Qv.zero).sl.2.2)⟩ := by
    generalize vs.getD j Qv.zero = X at *
    obtain ⟨xa, xb, xc, xd, xe, xf⟩ := X
    simp only at e1 e2 e3 e4
    subst e1 e2 e3 e4
    rfl
  refine ⟨(vs.getD j Qv.zero).sl.1, (vs.getD j Qv.zero).sl.2.2, hx, by rw [c0, e1], by rw [c1, e2], by rw [c2, e3], by rw [c3, e4], h.mem.row.fz (by omega), h.mem.row.fz (by omega), hc⟩
/-- The deficit of a queue is written. -/
theorem SvM.putD {W w : World} {base B g : Nat} {u : Tu} {vs : List Qv} {rs : List (Option Nat)} (h : SvM W w base B g u vs rs) {j : Nat} (hj : j < u.qs.length) (d : Int) : ∃ vs', SvM W (w.setCell ⟨g, j * 4 + 2, none⟩ (.int .i64 d)) base B g ⟨u.qs.set j ⟨(u.q j).id, (u.q j).quantum, d, (u.q j).costs⟩, u.at', u.fresh⟩ vs' rs := by
  obtain ⟨ca, cc, hx, -, -, -, -, -, -, hr⟩ := h.at hj
  have hjv : j < vs.length := by rw [h.len]; exact hj
  have ho := h.mem.row.putDef hjv d
  rw [hx] at ho
  exact ⟨_, h.putQ hj (x := ⟨(u.q j).id, (u.q j).quantum, d, (ca, (u.q j).costs.length, cc)⟩) (c := (u.q j).costs) ho (grow_setT w g _ _) hr rfl (h.few j hj)⟩
/-- The first cost of a queue is cut off. -/
theorem SvM.tail {W w : World} {base B g : Nat} {u : Tu} {vs : List Qv} {rs : List (Option Nat)} (h : SvM W w base B g u vs rs) {j : Nat} (hj : j < u.qs.length) {c : Int} {cs : List Int} (hc : (u.q j).costs = c :: cs) : ∃ b off cc, w.cell? ⟨g, j * 4 + 3, none⟩ = some (.slice (some ⟨b, off, none⟩) (cs.length + 1) cc) ∧ cs.length + 1 ≤ cc ∧ cc ≤ maxLen ∧ w.cell? ⟨b, off, none⟩ = some (.int .i64 c) ∧ ∀ ad, (cc = 1 ∧ ad = ⟨b, off, none⟩) ∨ (cc ≠ 1 ∧ ad = ⟨b, off + 1, none⟩) → ∃ vs', SvM W (w.setCell ⟨g, j * 4 + 3, none⟩ (.slice (some ad) cs.length (cc - 1))) base B g ⟨u.qs.set j ⟨(u.q j).id, (u.q j).quantum, (u.q j).deficit, cs⟩, u.at', u.fresh⟩ vs' rs := by
  obtain ⟨ca, cc, hx, -, -, -, c3, -, -, hr⟩ := h.at hj
  have hjv : j < vs.length := by rw [h.len]; exact hj
  have hfew := h.few j hj
  rw [hc] at hr c3 hfew
  simp only [List.length_cons] at hr c3 hfew
  obtain ⟨b, off, rfl, hrs, hN, hle, ht⟩ := hr.tail
  have hc0 : w.cell? ⟨b, off, none⟩ = some (.int .i64 c) ∧ cc ≤ maxLen ∧ b < w.heap.size := by
    rcases hr with ⟨_, e, _⟩ | ⟨g', off', cap', _, e, hgl, _, h2, _, _, h5⟩
    · simp at e
    · simp only [Value.slice.injEq, Option.some.injEq, Addr.mk.injEq] at e
      obtain ⟨⟨rfl, rfl, -⟩, -, rfl⟩ := e
      have := h5 0 (by simp)
      simp at this
      exact ⟨this, h2, hgl⟩
  refine ⟨b, off, cc, c3, hle, hc0.2.1, hc0.1, fun ad had => ?_⟩
  have ho := h.mem.row.putSl hjv (some ad, cs.length, cc - 1)
  rw [hx] at ho
  refine ⟨_, h.putQ hj (x := ⟨(u.q j).id, (u.q j).quantum, (u.q j).deficit, (some ad, cs.length, cc - 1)⟩) (c := cs) ho (grow_setT w g _ _) ?_ rfl (by omega)⟩
  rcases had with ⟨h1, rfl⟩ | ⟨h1, rfl⟩
  · subst h1
    have h0 : cs = [] := List.length_eq_zero_iff.mp (by omega)
    subst h0
    exact .inr ⟨b, off, 0, hrs, rfl, hc0.2.2, Nat.le_refl _, by simp [maxLen], fun j hj => by omega, fun j hj => by omega, fun j hj => by simp at hj⟩
  · exact ht
theorem Tu.put_put (t : Tu) (x y : Qu) : (t.put x).put y = t.put y := by unfold Tu.put; simp
theorem Tu.put_at (t : Tu) (x : Qu) : (t.put x).at' = t.at' := rfl
theorem Tu.set_q {t : Tu} {j : Nat} (hj : j < t.qs.length) (x : Qu) (z : Nat) (f : Bool) (k : Nat) : (⟨t.qs.set j x, z, f⟩ : Tu).q k = if k = j then x else t.q k := getD_set _ _ _ _ _ hj
theorem next_give (m s : Nat) (hs : s < m) : (if m ≤ s + 1 then 0 else s + 1) = (s + 1) % m := by
  rw [next_is m s hs]
  by_cases h : s + 1 = m
  · rw [if_pos (by omega), if_pos h]
  · rw [if_neg (by omega), if_neg h]
end Go.Proofs.Ytelhjdplghpnbab
