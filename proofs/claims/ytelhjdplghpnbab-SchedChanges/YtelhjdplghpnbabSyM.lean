import Derived.Test.YtelhjdplghpnbabSyG
import Derived.Test.YtelhjdplghpnbabSdY
/-! What the program's calls that answer turns share. -/
namespace Go.Proofs.Ytelhjdplghpnbab
open Go.RowKit Plain
set_option linter.unusedVariables false
set_option linter.unusedSimpArgs false

theorem TurN.lower {base base' : Nat} {w : World} {v : Value} {t : Tr} {vs : List Qv} {r : Option Nat} {rs : List (Option Nat)} (h : TurN base' w v t vs r rs) (hb : base ≤ base') : TurN base w v t vs r rs :=
  ⟨⟨h.mem.row, h.mem.len, h.mem.le, h.mem.cost, fun g e => Nat.le_trans hb (h.mem.new g e), fun j hj g e => Nat.le_trans hb (h.mem.newc j hj g e), h.mem.ap, h.mem.apc⟩, h.len, h.same, h.ok, h.few, h.at_⟩
theorem TurNew.lower {base base' : Nat} {w : World} {v : Value} {t : Tr} (h : TurNew base' w v t) (hb : base ≤ base') : TurNew base w v t := by
  obtain ⟨vs, r, rs, h⟩ := h
  exact ⟨vs, r, rs, h.lower hb⟩
theorem TurNew.empty (base : Nat) (w : World) : TurNew base w (.slice none 0 0) Tr.zero :=
  ⟨[], none, [], ⟨QMem.nil _ _, rfl, fun j hj => by simp [Tr.zero] at hj, fun j hj => by simp [Tr.zero] at hj, by simp [Tr.zero], by constructor <;> simp [Tr.zero]⟩⟩
/-- A copy is turns of the call's own. -/
theorem CopQ.tur {l : List Qu} {w u : World} {v : Value} {g : Nat} {vs : List Qv} {rs : List (Option Nat)} {base : Nat} {w0 : World} (hq : QsAt w0 v l) (hm : QMem base u (.slice (some ⟨g, 0, none⟩) l.length l.length) vs (some g) (l.map (·.costs)) rs) (hl : vs.length = l.length) (hs : ∀ j, j < l.length → (vs.getD j Qv.zero).id = (l.getD j Qu.zero).id ∧ (vs.getD j Qv.zero).quantum = (l.getD j Qu.zero).quantum ∧ (vs.getD j Qv.zero).deficit = (l.getD j Qu.zero).deficit ∧ (vs.getD j Qv.zero).sl.2.1 = (l.getD j Qu.zero).costs.length) (z : Int) (f : Bool) (hz : I64 z) :
    TurN base u (.slice (some ⟨g, 0, none⟩) l.length l.length) ⟨l, z, f⟩ vs (some g) rs := by
  obtain ⟨a, cap, rfl, hb⟩ := hq.shape
  refine ⟨hm, hl, hs, fun j hj => ?_, hb, hz⟩
  obtain ⟨b, off, ca, cc, -, h1, i1, i2, i3⟩ := hq.at hj
  obtain ⟨-, hin⟩ := h1 w0 (Below.refl _ _)
  obtain ⟨_, _, _, _, k1, k2, _⟩ := hin
  exact ⟨i1, i2, i3, k1, k2⟩
/-- The boxes of the parameter and of the answer. -/
theorem boxes (w : World) (v : Value) (z : Int) (f : Bool) (w1 w2 : World) (h1 : w.alloc (.cells #[v, .int .i64 z, .bool f] 24) = w1) (h2 : w1.alloc (.cells #[.slice none 0 0, .int .i64 0, .bool false] 24) = w2) : Below w.heap.size w w2 ∧ w1.heap.size = w.heap.size + 1 ∧ w2.heap.size = w.heap.size + 1 + 1 ∧ TuB w2 w.heap.size v z f ∧ TuB w2 (w.heap.size + 1) (.slice none 0 0) 0 false := by
  have s1 : w1.heap.size = w.heap.size + 1 := by rw [← h1]; simp
  have s2 : w2.heap.size = w.heap.size + 1 + 1 := by rw [← h2]; simp [s1]
  have b1 : Below w.heap.size w w1 := by rw [← h1]; exact (Below.refl _ _).alloc (Nat.le_refl _) _
  have b2 : Below w1.heap.size w1 w2 := by rw [← h2]; exact (Below.refl _ _).alloc (Nat.le_refl _) _
  have t1 : TuB w1 w.heap.size v z f := by rw [← h1]; exact TuB.new w v z f
  have t2 : TuB w2 w1.heap.size (.slice none 0 0) 0 false := by rw [← h2]; exact TuB.new w1 _ _ _
  rw [s1] at t2
  exact ⟨below_of b1 b2, s1, s2, t1.later b2, t2⟩
/-- The answer is stored. -/
theorem TuB.ans {u : World} {R : Nat} {v : Value} {z : Int} {f : Bool} (h : TuB u R v z f) (v' : Value) (z' : Int) (f' : Bool) : TuB (((u.setCell ⟨R, 0, none⟩ v').setCell ⟨R, 1, none⟩ (.int .i64 z')).setCell ⟨R, 2, none⟩ (.bool f')) R v' z' f' ∧ u.grownBy (((u.setCell ⟨R, 0, none⟩ v').setCell ⟨R, 1, none⟩ (.int .i64 z')).setCell ⟨R, 2, none⟩ (.bool f')) (some R) :=
  ⟨((h.setV v').setAt z').setF f', grow_setCells u R 0 [v', .int .i64 z', .bool f']⟩
theorem run_ids : ∀ (n : Nat) {t u : Tu} {id c : Int}, OkT t → run n t = some (u, id, c) → u.qs.length = t.qs.length ∧ ∀ j, (u.q j).id = (t.q j).id
  | 0, t, u, id, c, _, h => by simp [run] at h
  | n + 1, t, u, id, c, hk, h => by
    unfold run at h
    cases hm : micro t with
    | inl t' =>
      rw [hm] at h
      have hR := (micro_ring hk.lt).1 t' hm
      obtain ⟨h1, h2⟩ := run_ids n (hk.micro.1 t' hm) h
      exact ⟨h1.trans hR.len, fun j => (h2 j).trans (hR.same j).1⟩
    | inr r =>
      rw [hm] at h
      simp only [Option.some.injEq] at h
      subst h
      have hR := ((micro_ring hk.lt).2 u id c hm).1
      exact ⟨hR.len, fun j => (hR.same j).1⟩
end Go.Proofs.Ytelhjdplghpnbab
