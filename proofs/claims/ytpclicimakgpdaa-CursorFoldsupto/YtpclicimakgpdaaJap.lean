import Derived.Test.YtpclicimakgpdaaRc
import Derived.Deep.Quiet
import Derived.BigQuiet
/-! More on append of records. -/
namespace Go.Proofs.Ytpclicimakgpdaa
open Go.RowKit Plain
set_option linter.unusedVariables false

theorem rcells_one (ks : List Rc) : ∀ u ∈ rcells ks, u.oneCell' = true := by
  intro u hu
  simp only [rcells, List.mem_flatMap] at hu
  obtain ⟨x, _, hx⟩ := hu
  simp [Rc.cells] at hx
  rcases hx with rfl | rfl | rfl | rfl | rfl | rfl | rfl <;> rfl

theorem src_none (w : World) : Src Try.prog 7 23 (.slice none 0 0) ([] : List Rc).length (rcells []) w :=
  Src.ofNil w Try.underlying23 0

/-- The first records of a row. -/
theorem OwnR.srcTake {w : World} {g n cap k : Nat} {ts : List Rc} (h : OwnR w (.slice (some ⟨g, 0, none⟩) n cap) ts (some g)) (hk : k ≤ ts.length) (c : Nat) : Src Try.prog 7 23 (.slice (some ⟨g, 0, none⟩) k c) (ts.take k).length (rcells (ts.take k)) w := by
  rcases h with ⟨_, _, h⟩ | ⟨g', cap', e, e2, hg, h1, h2, h3, h4, h5⟩
  · simp at h
  · simp at e; subst e
    have hl : (ts.take k).length = k := by simp; omega
    rw [hl]
    refine Src.ofSlice _ Try.underlying23 _ k c _ (by rw [rcells_len, hl]; omega) (fun j u hj => ?_) (rcells_one _)
    have hjl : j < 7 * k := by
      have := (List.getElem?_eq_some_iff.mp hj).1
      rw [rcells_len, hl] at this; omega
    rw [WideShapes.add_plain, Nat.zero_add, h5 j (by omega), ← hj]
    conv => lhs; rw [← List.take_append_drop k ts]
    rw [rcells_app, List.getElem?_append_left (by rw [rcells_len, hl]; omega)]
/-- .. and the last. -/
theorem OwnR.srcDrop {w : World} {g n cap k : Nat} {ts : List Rc} (h : OwnR w (.slice (some ⟨g, 0, none⟩) n cap) ts (some g)) (hk : k ≤ ts.length) (m c : Nat) (hm : m = ts.length - k) : Src Try.prog 7 23 (.slice (some ⟨g, k * 7, none⟩) m c) (ts.drop k).length (rcells (ts.drop k)) w := by
  rcases h with ⟨_, _, h⟩ | ⟨g', cap', e, e2, hg, h1, h2, h3, h4, h5⟩
  · simp at h
  · simp at e; subst e
    have hl : (ts.drop k).length = m := by simp; omega
    rw [hl]
    refine Src.ofSlice _ Try.underlying23 _ m c _ (by rw [rcells_len, hl]; omega) (fun j u hj => ?_) (rcells_one _)
    have hjl : j < 7 * m := by
      have := (List.getElem?_eq_some_iff.mp hj).1
      rw [rcells_len, hl] at this; omega
    rw [WideShapes.add_plain, h5 _ (by omega), ← hj]
    conv => lhs; rw [← List.take_append_drop k ts]
    have ht : (ts.take k).length = k := by simp; omega
    rw [rcells_app, List.getElem?_append_right (by rw [rcells_len, ht]; omega), rcells_len, ht]
    congr 1
    omega

/-- Nothing is appended to nothing. -/
theorem run_append_nil (w : World) (ty : TypeId) (x : Value) (hs : Src Try.prog 7 23 x 0 [] w) : (Builtin.append_ #[23, 23] ty #[.slice none 0 0, x]).run Try.prog w = .ok (.slice none 0 0) w := by
  obtain ⟨i, hi, hz0, hz1, hz2⟩ := info_parts Try.info31
  have hs' : Src Try.prog i.size 23 x 0 [] w := by rw [hz1]; exact hs
  exact run_append_nothing w 23 23 ty 31 i Try.underlying23 hi none 0 0 (Nat.le_refl _) x hs'

/-- append of any row of records to any row of the call's own. -/
theorem wpList_append_any {ops : Array Oper} {rest : List Oper} {o : Oper} {a : Act} {Q : Exit → Act → World → Prop} (w : World) (hgd : o.guard = none) (s x : Operand)
    (ho : o.op = .call { callee := .builtin .append, args := #[s, x], argTypes := #[23, 23] }) (v xv : Value) (ts : List Rc) (ks : List Rc) (r : Option Nat)
    (hs : a.eval s = v) (hx : a.eval x = xv) (hown : OwnR w v ts r) (hsrc : Src Try.prog 7 23 xv ks.length (rcells ks) w) (hlen : ts.length + ks.length ≤ 2199023255552)
    (h : ∀ v' w' r', OwnR w' v' (ts ++ ks) r' → w.grownBy w' r → (r' = r ∨ r' = some w.heap.size) → wpList Try.prog ops Q rest (a.put o.dst v') w') : wpList Try.prog ops Q (o :: rest) a w := by
  by_cases hr0 : r ≠ none ∨ 0 < ks.length
  · exact wpList_append_recs w hgd s x ho v xv ts ks r hs hx hown hsrc hlen hr0 (fun v' w' g h1 h2 h3 => h v' w' (some g) h1 h2 (by
      rcases h3 with h3 | h3
      · exact .inl h3
      · exact .inr (by rw [h3])))
  · have hr : r = none := by
      cases r with
      | none => rfl
      | some g => exact absurd (.inl (by simp)) hr0
    have hk : ks = [] := List.eq_nil_of_length_eq_zero (by
      rcases Nat.eq_zero_or_pos ks.length with h | h
      · exact h
      · exact absurd (.inr h) hr0)
    subst hr hk
    rcases hown with ⟨rfl, rfl, _⟩ | ⟨g, cap, e, _⟩
    · exact wpList_plain hgd fun _ hK => by
        have hr := run_append_nil w o.type xv hsrc
        unfold Oper.wp execOp
        simp only [ho, resolve, invoke, builtin, Sem.run_bind, Sem.run_pure, Result.andThen_ok, List.map_toArray, List.map_cons, List.map_nil, hs, hx, hr]
        exact hK _ _ (h _ _ none (OwnR.nil w) (below_grow (Below.refl _ _) _) (.inl rfl))
    · simp at e
end Go.Proofs.Ytpclicimakgpdaa
