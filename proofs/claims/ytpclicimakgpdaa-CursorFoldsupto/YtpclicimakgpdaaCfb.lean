import Derived.Test.YtpclicimakgpdaaCfa
import Derived.WalkSpells
import Derived.Deep.Quiet
import Derived.BigQuiet
/-! cursor: append of pairs, rows written in place. -/
namespace Go.Proofs.Ytpclicimakgpdaa
open Go.RowKit Plain
set_option linter.unusedVariables false
set_option linter.unusedSimpArgs false

/-- Of the blocks that were there only those of S have turned. -/
structure Chg (S : Nat → Prop) (w w' : World) : Prop where
  os : w'.os = w.os
  tape : w'.tape = w.tape
  output : w'.output = w.output
  size : w.heap.size ≤ w'.heap.size
  block : ∀ k, k < w.heap.size → ¬ S k → w'.heap[k]? = w.heap[k]?
theorem Chg.refl (S : Nat → Prop) (w : World) : Chg S w w := ⟨rfl, rfl, rfl, Nat.le_refl _, fun _ _ _ => rfl⟩
theorem Chg.grown {S : Nat → Prop} {a b c : World} {r : Option Nat} (h : Chg S a b) (k : b.grownBy c r) (hr : ∀ g, r = some g → S g ∨ a.heap.size ≤ g) : Chg S a c :=
  ⟨k.os.trans h.os, k.tape.trans h.tape, k.output.trans h.output, Nat.le_trans h.size k.size, fun i hi hs => by
    rw [k.block i (Nat.lt_of_lt_of_le hi h.size) (fun e => by
      rcases hr i e.symm with h1 | h1
      · exact hs h1
      · omega)]
    exact h.block i hi hs⟩
theorem Chg.more {S : Nat → Prop} {a b c : World} (h : Chg S a b) (k : Below b.heap.size b c) : Chg S a c := h.grown (below_grow k none) (by simp)
theorem Chg.ofBelow {S : Nat → Prop} {a b : World} (k : Below a.heap.size a b) : Chg S a b := (Chg.refl S a).more k
theorem Chg.trans {S : Nat → Prop} {a b c : World} (h : Chg S a b) (k : Chg S b c) : Chg S a c :=
  ⟨k.os.trans h.os, k.tape.trans h.tape, k.output.trans h.output, Nat.le_trans h.size k.size, fun i hi hs => (k.block i (Nat.lt_of_lt_of_le hi h.size) hs).trans (h.block i hi hs)⟩
theorem Chg.trans' {S T : Nat → Prop} {a b c : World} (h : Chg S a b) (k : Chg T b c) (hs : ∀ x, T x → S x ∨ a.heap.size ≤ x) : Chg S a c :=
  ⟨k.os.trans h.os, k.tape.trans h.tape, k.output.trans h.output, Nat.le_trans h.size k.size, fun i hi hn => (k.block i (Nat.lt_of_lt_of_le hi h.size) (fun e => by
    rcases hs i e with h1 | h1
    · exact hn h1
    · omega)).trans (h.block i hi hn)⟩
theorem Chg.mono {S T : Nat → Prop} {a b : World} (h : Chg S a b) (hs : ∀ k, S k → T k) : Chg T a b := ⟨h.os, h.tape, h.output, h.size, fun k hk hn => h.block k hk (fun e => hn (hs k e))⟩
theorem Chg.below {S : Nat → Prop} {w w' : World} {B : Nat} (h : Chg S w w') (hB : B ≤ w.heap.size) (hS : ∀ k, S k → B ≤ k) : Below B w w' :=
  ⟨h.os, h.tape, h.output, h.size, fun k hk => h.block k (by omega) (fun hs => by have := hS k hs; omega)⟩
theorem below_step {w u w' : World} (h : Below w.heap.size w u) (k : Below u.heap.size u w') : Below w.heap.size w w' := h.trans (k.mono h.size)

theorem grow_setC (w : World) (g o : Nat) (x : Value) : w.grownBy (w.setCell ⟨g, o, none⟩ x) (some g) := grow_setCells w g o [x]
theorem size_setC (w : World) (g o : Nat) (x : Value) : (w.setCell ⟨g, o, none⟩ x).heap.size = w.heap.size := setCells_size g [x] o w
theorem ppcells_one (ks : List Pp) : ∀ u ∈ ppcells ks, u.oneCell' = true := by
  intro u hu
  simp only [ppcells, List.mem_flatMap] at hu
  obtain ⟨x, _, hx⟩ := hu
  simp [Pp.cells] at hx
  rcases hx with rfl | rfl | rfl | rfl <;> rfl

theorem src_noneP (w : World) : Src Try.prog 4 22 (.slice none 0 0) ([] : List Pp).length (ppcells []) w :=
  Src.ofNil w Try.underlying22 0

/-- The first records of a row. -/
theorem OwnPp.srcTake {w : World} {g n cap k : Nat} {ts : List Pp} (h : OwnPp w (.slice (some ⟨g, 0, none⟩) n cap) ts (some g)) (hk : k ≤ ts.length) (c : Nat) : Src Try.prog 4 22 (.slice (some ⟨g, 0, none⟩) k c) (ts.take k).length (ppcells (ts.take k)) w := by
  rcases h with ⟨_, _, h⟩ | ⟨g', cap', e, e2, hg, h1, h2, h3, h4, h5⟩
  · simp at h
  · simp at e; subst e
    have hl : (ts.take k).length = k := by simp; omega
    rw [hl]
    refine Src.ofSlice _ Try.underlying22 _ k c _ (by rw [ppcells_len, hl]; omega) (fun j u hj => ?_) (ppcells_one _)
    have hjl : j < 4 * k := by
      have := (List.getElem?_eq_some_iff.mp hj).1
      rw [ppcells_len, hl] at this; omega
    rw [WideShapes.add_plain, Nat.zero_add, h5 j (by omega), ← hj]
    conv => lhs; rw [← List.take_append_drop k ts]
    rw [ppcells_app, List.getElem?_append_left (by rw [ppcells_len, hl]; omega)]
/-- .. and the last. -/
theorem OwnPp.srcDrop {w : World} {g n cap k : Nat} {ts : List Pp} (h : OwnPp w (.slice (some ⟨g, 0, none⟩) n cap) ts (some g)) (hk : k ≤ ts.length) (m c : Nat) (hm : m = ts.length - k) : Src Try.prog 4 22 (.slice (some ⟨g, k * 4, none⟩) m c) (ts.drop k).length (ppcells (ts.drop k)) w := by
  rcases h with ⟨_, _, h⟩ | ⟨g', cap', e, e2, hg, h1, h2, h3, h4, h5⟩
  · simp at h
  · simp at e; subst e
    have hl : (ts.drop k).length = m := by simp; omega
    rw [hl]
    refine Src.ofSlice _ Try.underlying22 _ m c _ (by rw [ppcells_len, hl]; omega) (fun j u hj => ?_) (ppcells_one _)
    have hjl : j < 4 * m := by
      have := (List.getElem?_eq_some_iff.mp hj).1
      rw [ppcells_len, hl] at this; omega
    rw [WideShapes.add_plain, h5 _ (by omega), ← hj]
    conv => lhs; rw [← List.take_append_drop k ts]
    have ht : (ts.take k).length = k := by simp; omega
    rw [ppcells_app, List.getElem?_append_right (by rw [ppcells_len, ht]; omega), ppcells_len, ht]
    congr 1
    omega

/-- Nothing is appended to nothing. -/
theorem run_append_nilP (w : World) (ty : TypeId) (x : Value) (hs : Src Try.prog 4 22 x 0 [] w) : (Builtin.append_ #[22, 22] ty #[.slice none 0 0, x]).run Try.prog w = .ok (.slice none 0 0) w := by
  obtain ⟨i, hi, hz0, hz1, hz2⟩ := info_parts Try.info29
  have hs' : Src Try.prog i.size 22 x 0 [] w := by rw [hz1]; exact hs
  exact run_append_nothing w 22 22 ty 29 i Try.underlying22 hi none 0 0 (Nat.le_refl _) x hs'

/-- append of any row of records to any row of the call's own. -/
theorem wpList_append_anyP {ops : Array Oper} {rest : List Oper} {o : Oper} {a : Act} {Q : Exit → Act → World → Prop} (w : World) (hgd : o.guard = none) (s x : Operand)
    (ho : o.op = .call { callee := .builtin .append, args := #[s, x], argTypes := #[22, 22] }) (v xv : Value) (ts : List Pp) (ks : List Pp) (r : Option Nat)
    (hs : a.eval s = v) (hx : a.eval x = xv) (hown : OwnPp w v ts r) (hsrc : Src Try.prog 4 22 xv ks.length (ppcells ks) w) (hlen : ts.length + ks.length ≤ 2199023255552)
    (h : ∀ v' w' r', OwnPp w' v' (ts ++ ks) r' → w.grownBy w' r → (r' = r ∨ r' = some w.heap.size) → wpList Try.prog ops Q rest (a.put o.dst v') w') : wpList Try.prog ops Q (o :: rest) a w := by
  by_cases hr0 : r ≠ none ∨ 0 < ks.length
  · exact wpList_append_pp w hgd s x ho v xv ts ks r hs hx hown hsrc hlen hr0 (fun v' w' g h1 h2 h3 => h v' w' (some g) h1 h2 (by
      rcases h3 with h3 | h3
      · exact .inl h3
      · exact .inr (by rw [h3])))
  · have hr : r = none := by
      cases r with
      | none => rfl
      | some g => exact absurd (.inl (by simp)) hr0
    have hk : ks = [] := List.eq_nil_of_length_eq_zero (by
      rcases Nat.eq_zero_or_pos ks.length with h | h
      · exact h
      · exact absurd (.inr h) hr0)
    subst hr hk
    rcases hown with ⟨rfl, rfl, _⟩ | ⟨g, cap, e, _⟩
    · exact wpList_plain hgd fun _ hK => by
        have hr := run_append_nilP w o.type xv hsrc
        unfold Oper.wp execOp
        simp only [ho, resolve, invoke, builtin, Sem.run_bind, Sem.run_pure, Result.andThen_ok, List.map_toArray, List.map_cons, List.map_nil, hs, hx, hr]
        exact hK _ _ (h _ _ none (OwnPp.nil w) (below_grow (Below.refl _ _) _) (.inl rfl))
    · simp at e
theorem rcells_set (ts : List Rc) (j : Nat) (x : Rc) (h : j < ts.length) (i : Nat) : (rcells (ts.set j x))[i]? = if j * 7 ≤ i ∧ i < j * 7 + 7 then x.cells[i - j * 7]? else (rcells ts)[i]? := by
  by_cases hi : i < 7 * ts.length
  · obtain ⟨m, r, hm, hr, rfl⟩ : ∃ m r, m < ts.length ∧ r < 7 ∧ i = m * 7 + r := ⟨i / 7, i % 7, by omega, by omega, by omega⟩
    rw [rcells_get (ts.set j x) m r (by simpa using hm) hr, rcells_get ts m r hm hr]
    by_cases e : m = j
    · subst e
      rw [if_pos (by omega), show m * 7 + r - m * 7 = r by omega]
      simp [hm]
    · rw [if_neg (by omega)]
      congr 2
      simp [Ne.symm e]
  · rw [List.getElem?_eq_none (by rw [rcells_len]; simp; omega), if_neg (by omega), List.getElem?_eq_none (by rw [rcells_len]; omega)]

theorem OwnR.setR {w : World} {v : Value} {g j : Nat} {ts : List Rc} (x : Rc) (h : OwnR w v ts (some g)) (hj : j < ts.length) : OwnR (w.setCells g (j * 7) x.cells) v (ts.set j x) (some g) := by
  rcases h with ⟨_, _, h⟩ | ⟨g', cap, e, rfl, hg, h1, h2, h3, h4, h5⟩
  · simp at h
  · simp at e; subst e
    refine .inr ⟨g, cap, rfl, by simp, by rw [setCells_size]; exact hg, by simpa using h1, h2, fun i hi => ?_, fun i hi => ?_, fun i hi => ?_⟩
    · rw [World.frozen?_setCells]; exact h3 i hi
    · exact isSome_setCells g _ _ w _ (h4 i hi)
    · rw [List.length_set] at hi
      rw [rcells_set ts j x hj i]
      have hxl : x.cells.length = 7 := rfl
      by_cases hin : j * 7 ≤ i ∧ i < j * 7 + 7
      · rw [if_pos hin]
        have := World.cell?_setCells_in g x.cells (j * 7) w (fun m hm => h4 _ (by rw [hxl] at hm; omega)) (i - j * 7) (by rw [hxl]; omega)
        rw [show j * 7 + (i - j * 7) = i by omega] at this
        rw [this, List.getElem?_eq_getElem (by rw [hxl]; omega)]
      · rw [if_neg hin, ← h5 i hi]
        refine World.cell?_setCells_out g _ _ w _ (fun _ _ => ?_)
        rw [hxl]
        simp only
        omega
theorem OwnR.fz {w : World} {v : Value} {g : Nat} {ts : List Rc} (h : OwnR w v ts (some g)) {j : Nat} (hj : j < 7 * ts.length) : w.frozen? ⟨g, j, none⟩ = false := by
  rcases h with ⟨_, _, h⟩ | ⟨g', cap, e, rfl, hg, h1, h2, h3, h4, h5⟩
  · simp at h
  · simp at e; subst e
    exact h3 j (by omega)

theorem seven_set (w : World) (g o : Nat) (x : Rc) : (((((((w.setCell ⟨g, o, none⟩ (.int .i64 x.k)).setCell ⟨g, o + 1, none⟩ (.int .i64 x.o)).setCell ⟨g, o + 2, none⟩ (.int .i64 x.t)).setCell ⟨g, o + 3, none⟩ (.int .i64 x.p)).setCell ⟨g, o + 4, none⟩ (.int .i64 x.q)).setCell ⟨g, o + 5, none⟩ (.string x.key)).setCell ⟨g, o + 6, none⟩ (.string x.val)) = w.setCells g o x.cells := rfl

theorem ppcells_set (ts : List Pp) (j : Nat) (x : Pp) (h : j < ts.length) (i : Nat) : (ppcells (ts.set j x))[i]? = if j * 4 ≤ i ∧ i < j * 4 + 4 then x.cells[i - j * 4]? else (ppcells ts)[i]? := by
  by_cases hi : i < 4 * ts.length
  · obtain ⟨m, r, hm, hr, rfl⟩ : ∃ m r, m < ts.length ∧ r < 4 ∧ i = m * 4 + r := ⟨i / 4, i % 4, by omega, by omega, by omega⟩
    rw [ppcells_get (ts.set j x) m r (by simpa using hm) hr, ppcells_get ts m r hm hr]
    by_cases e : m = j
    · subst e
      rw [if_pos (by omega), show m * 4 + r - m * 4 = r by omega]
      simp [hm]
    · rw [if_neg (by omega)]
      congr 2
      simp [Ne.symm e]
  · rw [List.getElem?_eq_none (by rw [ppcells_len]; simp; omega), if_neg (by omega), List.getElem?_eq_none (by rw [ppcells_len]; omega)]

theorem OwnPp.setP {w : World} {v : Value} {g j : Nat} {ts : List Pp} (x : Pp) (h : OwnPp w v ts (some g)) (hj : j < ts.length) : OwnPp (w.setCells g (j * 4) x.cells) v (ts.set j x) (some g) := by
  rcases h with ⟨_, _, h⟩ | ⟨g', cap, e, rfl, hg, h1, h2, h3, h4, h5⟩
  · simp at h
  · simp at e; subst e
    refine .inr ⟨g, cap, rfl, by simp, by rw [setCells_size]; exact hg, by simpa using h1, h2, fun i hi => ?_, fun i hi => ?_, fun i hi => ?_⟩
    · rw [World.frozen?_setCells]; exact h3 i hi
    · exact isSome_setCells g _ _ w _ (h4 i hi)
    · rw [List.length_set] at hi
      rw [ppcells_set ts j x hj i]
      have hxl : x.cells.length = 4 := rfl
      by_cases hin : j * 4 ≤ i ∧ i < j * 4 + 4
      · rw [if_pos hin]
        have := World.cell?_setCells_in g x.cells (j * 4) w (fun m hm => h4 _ (by rw [hxl] at hm; omega)) (i - j * 4) (by rw [hxl]; omega)
        rw [show j * 4 + (i - j * 4) = i by omega] at this
        rw [this, List.getElem?_eq_getElem (by rw [hxl]; omega)]
      · rw [if_neg hin, ← h5 i hi]
        refine World.cell?_setCells_out g _ _ w _ (fun _ _ => ?_)
        rw [hxl]
        simp only
        omega
theorem OwnPp.fz {w : World} {v : Value} {g : Nat} {ts : List Pp} (h : OwnPp w v ts (some g)) {j : Nat} (hj : j < 4 * ts.length) : w.frozen? ⟨g, j, none⟩ = false := by
  rcases h with ⟨_, _, h⟩ | ⟨g', cap, e, rfl, hg, h1, h2, h3, h4, h5⟩
  · simp at h
  · simp at e; subst e
    exact h3 j (by omega)

theorem src_rs {w : World} {v : Value} {st : List Rc} (h : RecsAt w v st) : Src Try.prog 7 23 v st.length (rcells st) w := by
  obtain ⟨a, cap, rfl, h1, h2, h3⟩ := h
  by_cases hnil : st = []
  · subst hnil
    cases a with
    | none => exact Src.ofNil w Try.underlying23 cap
    | some a => exact Src.ofSlice w Try.underlying23 a 0 cap [] (by simp) (by simp) (by simp)
  · obtain ⟨b, off, rfl, h5⟩ := h3 hnil
    refine Src.ofSlice w Try.underlying23 _ _ cap _ (by rw [rcells_len]; omega) (fun j u hj => ?_) (rcells_one st)
    have hjl : j < 7 * st.length := by
      have := (List.getElem?_eq_some_iff.mp hj).1
      rwa [rcells_len] at this
    rw [WideShapes.add_plain]
    have hg := rcells_get st (j / 7) (j % 7) (by omega) (by omega)
    rw [show j / 7 * 7 + j % 7 = j by omega, hj] at hg
    obtain ⟨c0, c1, c2, c3, c4, c5, c6⟩ := h5 (j / 7) (by omega)
    have hm : j % 7 = 0 ∨ j % 7 = 1 ∨ j % 7 = 2 ∨ j % 7 = 3 ∨ j % 7 = 4 ∨ j % 7 = 5 ∨ j % 7 = 6 := by omega
    rw [hg]
    rcases hm with e | e | e | e | e | e | e <;> rw [e]
    · rw [show off + j = off + j / 7 * 7 by omega]; exact c0
    · rw [show off + j = off + j / 7 * 7 + 1 by omega]; exact c1
    · rw [show off + j = off + j / 7 * 7 + 2 by omega]; exact c2
    · rw [show off + j = off + j / 7 * 7 + 3 by omega]; exact c3
    · rw [show off + j = off + j / 7 * 7 + 4 by omega]; exact c4
    · rw [show off + j = off + j / 7 * 7 + 5 by omega]; exact c5
    · rw [show off + j = off + j / 7 * 7 + 6 by omega]; exact c6

theorem src_pps {w : World} {v : Value} {st : List Pp} (h : PpsAt w v st) : Src Try.prog 4 22 v st.length (ppcells st) w := by
  obtain ⟨a, cap, rfl, h1, h2, h3⟩ := h
  by_cases hnil : st = []
  · subst hnil
    cases a with
    | none => exact Src.ofNil w Try.underlying22 cap
    | some a => exact Src.ofSlice w Try.underlying22 a 0 cap [] (by simp) (by simp) (by simp)
  · obtain ⟨b, off, rfl, h5⟩ := h3 hnil
    refine Src.ofSlice w Try.underlying22 _ _ cap _ (by rw [ppcells_len]; omega) (fun j u hj => ?_) (ppcells_one st)
    have hjl : j < 4 * st.length := by
      have := (List.getElem?_eq_some_iff.mp hj).1
      rwa [ppcells_len] at this
    rw [WideShapes.add_plain]
    have hg := ppcells_get st (j / 4) (j % 4) (by omega) (by omega)
    rw [show j / 4 * 4 + j % 4 = j by omega, hj] at hg
    obtain ⟨c0, c1, c2, c3⟩ := h5 (j / 4) (by omega)
    have hm : j % 4 = 0 ∨ j % 4 = 1 ∨ j % 4 = 2 ∨ j % 4 = 3 := by omega
    rw [hg]
    rcases hm with e | e | e | e <;> rw [e]
    · rw [show off + j = off + j / 4 * 4 by omega]; exact c0
    · rw [show off + j = off + j / 4 * 4 + 1 by omega]; exact c1
    · rw [show off + j = off + j / 4 * 4 + 2 by omega]; exact c2
    · rw [show off + j = off + j / 4 * 4 + 3 by omega]; exact c3
theorem four_set (w : World) (g o : Nat) (x : Pp) : ((((w.setCell ⟨g, o, none⟩ (.string x.key)).setCell ⟨g, o + 1, none⟩ (.string x.val)).setCell ⟨g, o + 2, none⟩ (.int .i64 x.off)).setCell ⟨g, o + 3, none⟩ (.int .i64 x.time)) = w.setCells g o x.cells := rfl
theorem OwnPp.where {w : World} {x : Option Addr} {n c : Nat} {ts : List Pp} {r : Option Nat} (h : OwnPp w (.slice x n c) ts r) {k : Nat} (hk : k < ts.length) : ∃ g, r = some g ∧ x = some ⟨g, 0, none⟩ := by
  rcases h with ⟨_, rfl, _⟩ | ⟨g, cap, rfl, e, _⟩
  · simp at hk
  · simp at e; exact ⟨g, rfl, e.1⟩
theorem OwnPp.made1 (w : World) : OwnPp (w.alloc (.cells #[] 29)) (.slice (some ⟨w.heap.size, 0, none⟩) 0 0) [] (some w.heap.size) :=
  .inr ⟨w.heap.size, 0, rfl, rfl, by simp, by simp, by simp [maxLen], by simp, by simp, by simp⟩
theorem OwnR.made2 (w : World) : OwnR (w.alloc (.cells #[] 31)) (.slice (some ⟨w.heap.size, 0, none⟩) 0 0) [] (some w.heap.size) :=
  .inr ⟨w.heap.size, 0, rfl, rfl, by simp, by simp, by simp [maxLen], by simp, by simp, by simp⟩
theorem src_pp (w : World) (p : Pp) : Src Try.prog 4 22 (.slice (some ⟨w.heap.size, 0, none⟩) 1 1) [p].length (ppcells [p]) (w.alloc (.cells #[.string p.key, .string p.val, .int .i64 p.off, .int .i64 p.time] 29)) :=
  Src.ofSlice _ Try.underlying22 _ 1 1 _ (by rfl) (fun j u hj => by
    rw [WideShapes.add_plain, World.cell?_alloc_at _ _ _ _ rfl, Nat.zero_add, ← hj]
    simp [ppcells, Pp.cells]) (ppcells_one _)
theorem src_rc (w : World) (p : Rc) : Src Try.prog 7 23 (.slice (some ⟨w.heap.size, 0, none⟩) 1 1) [p].length (rcells [p]) (w.alloc (.cells #[.int .i64 p.k, .int .i64 p.o, .int .i64 p.t, .int .i64 p.p, .int .i64 p.q, .string p.key, .string p.val] 31)) :=
  Src.ofSlice _ Try.underlying23 _ 1 1 _ (by rfl) (fun j u hj => by
    rw [WideShapes.add_plain, World.cell?_alloc_at _ _ _ _ rfl, Nat.zero_add, ← hj]
    simp [rcells, Rc.cells]) (rcells_one _)
theorem drewN_bel (w : World) (n : Nat) : Below w.heap.size w (w.drewN n) := ⟨rfl, rfl, rfl, Nat.le_refl _, fun _ _ => rfl⟩
theorem bel_al (w : World) (o : Obj) : Below w.heap.size w (w.alloc o) := (Below.refl _ _).alloc (Nat.le_refl _) _
/-- A list of pairs that is being made. -/
structure PpNew (w1 w : World) (v : Value) (M : List Pp) (r : Option Nat) : Prop where
  row : OwnPp w v M r
  new : ∀ g, r = some g → w1.heap.size ≤ g
  below : Below w1.heap.size w1 w
theorem PpNew.later {w1 w w' : World} {v : Value} {M : List Pp} {r : Option Nat} (h : PpNew w1 w v M r) (hb : Below w.heap.size w w') : PpNew w1 w' v M r := ⟨h.row.later hb, h.new, below_step h.below hb⟩
theorem PpNew.app {w1 w w' : World} {v v' : Value} {M M' : List Pp} {r : Option Nat} {g : Nat} (h : PpNew w1 w v M r) (ho : OwnPp w' v' M' (some g)) (hg : w.grownBy w' r) (hr : some g = r ∨ g = w.heap.size) : PpNew w1 w' v' M' (some g) :=
  ⟨ho, fun g' e => by
    cases e
    rcases hr with h1 | h1
    · exact h.new g h1.symm
    · have := h.below.size; omega, h.below.trans (grow_below hg h.below.size h.new)⟩
theorem PpNew.nil (w : World) : PpNew w w (.slice none 0 0) [] none := ⟨OwnPp.nil _, (fun g e => by cases e), Below.refl _ _⟩
end Go.Proofs.Ytpclicimakgpdaa
