import Derived.Test.YtelhjdplghpnbabSeG
import Derived.Test.YtelhjdplghpnbabSdN
import Derived.BigRegion
/-! The law's roomy. -/
namespace Go.Proofs.Ytelhjdplghpnbab
open Go.RowKit Plain
set_option linter.unusedVariables false
set_option linter.unusedSimpArgs false

theorem getD_setO (l : List (Option Nat)) (x : Option Nat) (i j : Nat) (hi : i < l.length) : (l.set i x).getD j none = if j = i then x else l.getD j none := getD_set l x none i j hi
/-- A queue's costs are made longer, and its slice is written back. -/
theorem QMem.regrow {base : Nat} {u u' : World} {v : Value} {vs : List Qv} {g : Nat} {fl : List (List Int)} {rs : List (Option Nat)} (h : QMem base u v vs (some g) fl rs) {i : Nat} (hi : i < fl.length) {c' : List Int} {g6 N c6 : Nat} {a6 : Option Addr} (ho : RowO u' (.slice a6 c'.length c6) c' (some g6)) (k : u.grownBy u' (rs.getD i none)) (hr : some g6 = rs.getD i none ∨ g6 = u.heap.size) :
    QMem base (u'.setCell ⟨g, i * 4 + 3, none⟩ (.slice a6 N c6)) v (vs.set i ⟨(vs.getD i Qv.zero).id, (vs.getD i Qv.zero).quantum, (vs.getD i Qv.zero).deficit, (a6, N, c6)⟩) (some g) (fl.set i c') (rs.set i (some g6)) ∧ OwnQv u' v vs (some g) := by
  have hle := h.le
  have hlen := h.len
  have hrl : i < rs.length := by omega
  obtain ⟨l1, l2⟩ := h.lts
  have hgl := l1 g rfl
  have hgb := h.new g rfl
  have hrow : OwnQv u' v vs (some g) := h.row.kept k (.inr (fun e => h.ap i hi g e.symm rfl))
  have kk : u'.grownBy (u'.setCell ⟨g, i * 4 + 3, none⟩ (.slice a6 N c6)) (some g) := grow_setT u' g (i * 4 + 3) _
  have h6g : g6 ≠ g := by
    rcases hr with e | e
    · exact fun e2 => h.ap i hi g6 e.symm (by rw [e2])
    · omega
  have h6j : ∀ j, j < fl.length → j ≠ i → rs.getD j none ≠ some g6 := fun j hj hji e => by
    rcases hr with e2 | e2
    · exact h.apc j i hj hi hji g6 e e2.symm
    · have := l2 j hj g6 e; omega
  refine ⟨⟨hrow.putSl (by omega) (a6, N, c6), by simp [hlen], by simpa using hle, fun j hj => ?_, h.new, fun j hj q e => ?_, fun j hj q e => ?_, fun x y hx hy hxy q e => ?_⟩, hrow⟩
  · rw [List.length_set] at hj
    rw [getD_set _ _ _ _ _ (by omega), getD_set _ _ _ _ _ hi, getD_setO _ _ _ _ hrl]
    by_cases e : j = i
    · rw [if_pos e, if_pos e, if_pos e]
      exact ho.kept kk (fun q e2 => by simp at e2 ⊢; omega)
    · rw [if_neg e, if_neg e, if_neg e]
      exact ((h.cost j hj).kept k (fun q e2 e3 => h.apc j i hj hi e q e2 e3)).kept kk (fun q e2 => h.ap j hj q e2)
  · rw [List.length_set] at hj
    rw [getD_setO _ _ _ _ hrl] at e
    by_cases e1 : j = i
    · rw [if_pos e1] at e
      simp only [Option.some.injEq] at e
      subst e
      rcases hr with e2 | e2
      · exact h.newc i hi _ e2.symm
      · omega
    · rw [if_neg e1] at e; exact h.newc j hj q e
  · rw [List.length_set] at hj
    rw [getD_setO _ _ _ _ hrl] at e
    by_cases e1 : j = i
    · rw [if_pos e1] at e
      simp only [Option.some.injEq] at e
      subst e
      simpa using Ne.symm h6g
    · rw [if_neg e1] at e; exact h.ap j hj q e
  · rw [List.length_set] at hx hy
    rw [getD_setO _ _ _ _ hrl] at e ⊢
    by_cases e1 : x = i
    · rw [if_pos e1] at e
      simp only [Option.some.injEq] at e
      subst e
      rw [if_neg (by omega)]
      exact h6j y hy (by omega)
    · rw [if_neg e1] at e
      by_cases e2 : y = i
      · rw [if_pos e2]
        intro e3
        simp only [Option.some.injEq] at e3
        subst e3
        exact h6j x hx e1 e
      · rw [if_neg e2]; exact h.apc x y hx hy hxy q e
/-- More queues behind them. -/
theorem QMem.wide {base : Nat} {u u' : World} {v v' : Value} {vs ks : List Qv} {r : Option Nat} {fl : List (List Int)} {rs : List (Option Nat)} {g : Nat} (h : QMem base u v vs r fl rs) (ho : OwnQv u' v' (vs ++ ks) (some g)) (k : u.grownBy u' r) (hr : some g = r ∨ g = u.heap.size) (hb : base ≤ u.heap.size) : QMem base u' v' (vs ++ ks) (some g) fl rs := by
  have hle := h.le
  obtain ⟨l1, l2⟩ := h.lts
  refine ⟨ho, h.len, by simp; omega, fun j hj => ?_, fun q e => ?_, h.newc, fun j hj q e e2 => ?_, h.apc⟩
  · have e : (vs ++ ks).getD j Qv.zero = vs.getD j Qv.zero := by simp [List.getD_eq_getElem?_getD, List.getElem?_append_left (show j < vs.length by omega)]
    rw [e]
    exact (h.cost j hj).kept k (fun q e2 => h.ap j hj q e2)
  · simp only [Option.some.injEq] at e
    subst e
    rcases hr with e | e
    · exact h.new _ e.symm
    · omega
  · simp only [Option.some.injEq] at e2
    subst e2
    rcases hr with e3 | e3
    · exact h.ap j hj _ e e3.symm
    · have := l2 j hj _ e; omega
theorem QMem.mono {base base' : Nat} {u : World} {v : Value} {vs : List Qv} {r : Option Nat} {fl : List (List Int)} {rs : List (Option Nat)} (h : QMem base' u v vs r fl rs) (hb : base ≤ base') : QMem base u v vs r fl rs := ⟨h.row, h.len, h.le, h.cost, fun g e => Nat.le_trans hb (h.new g e), fun j hj g e => Nat.le_trans hb (h.newc j hj g e), h.ap, h.apc⟩
theorem srcTwo (w : World) (b : Nat) (hb : w.heap.size = b) (y z : Int) : Src Try.prog 1 35 (.slice (some ⟨b, 0, none⟩) 2 2) [y, z].length (ints [y, z]) (w.alloc (.cells #[.int .i64 y, .int .i64 z] 3)) := by
  subst hb
  exact Src.ofSlice _ Try.underlying35 _ 2 2 _ (by rfl) (fun j u hj => by
    rw [WideShapes.add_plain, World.cell?_alloc_at _ _ _ _ rfl, Nat.zero_add, ← hj]
    simp [ints]) (fun u hu => by
      simp [ints] at hu
      rcases hu with rfl | rfl <;> rfl)
theorem srcQ2 (w : World) (b : Nat) (hb : w.heap.size = b) (x y : Qv) : Src Try.prog 4 22 (.slice (some ⟨b, 0, none⟩) 2 2) [x, y].length (vcells [x, y]) (w.alloc (.cells #[.int .i64 x.id, .int .i64 x.quantum, .int .i64 x.deficit, .slice x.sl.1 x.sl.2.1 x.sl.2.2, .int .i64 y.id, .int .i64 y.quantum, .int .i64 y.deficit, .slice y.sl.1 y.sl.2.1 y.sl.2.2] 37)) := by
  subst hb
  exact Src.ofSlice _ Try.underlying22 _ 2 2 _ (by rfl) (fun j u hj => by
    rw [WideShapes.add_plain, World.cell?_alloc_at _ _ _ _ rfl, Nat.zero_add, ← hj]
    simp [vcells, Qv.cells]) (vcells_one _)
end Go.Proofs.Ytelhjdplghpnbab
