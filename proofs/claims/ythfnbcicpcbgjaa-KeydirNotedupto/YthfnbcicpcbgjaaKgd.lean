import Derived.Test.YthfnbcicpcbgjaaKgc
/-! keydir: pieces of rows that are appended. -/
namespace Go.Proofs.Ythfnbcicpcbgjaa
open Go.RowKit Plain
set_option linter.unusedVariables false
set_option linter.unusedSimpArgs false

theorem kcells_one (ks : List Kr) : ∀ u ∈ kcells ks, u.oneCell' = true := by
  intro u hu
  simp only [kcells, List.mem_flatMap] at hu
  obtain ⟨x, _, hx⟩ := hu
  simp [Kr.cells] at hx
  rcases hx with rfl | rfl | rfl | rfl | rfl | rfl | rfl <;> rfl
theorem run_append_nilk (w : World) (ty : TypeId) (x : Value) (hs : Src Try.prog 7 24 x 0 [] w) : (Builtin.append_ #[24, 24] ty #[.slice none 0 0, x]).run Try.prog w = .ok (.slice none 0 0) w := by
  obtain ⟨i, hi, hz0, hz1, hz2⟩ := info_parts Try.info28
  have hs' : Src Try.prog i.size 24 x 0 [] w := by rw [hz1]; exact hs
  exact run_append_nothing w 24 24 ty 28 i Try.underlying24 hi none 0 0 (Nat.le_refl _) x hs'
theorem wpList_append_ka {ops : Array Oper} {rest : List Oper} {o : Oper} {a : Act} {Q : Exit → Act → World → Prop} (w : World) (hgd : o.guard = none) (s x : Operand)
    (ho : o.op = .call { callee := .builtin .append, args := #[s, x], argTypes := #[24, 24] }) (v xv : Value) (ts : List Kr) (ks : List Kr) (r : Option Nat)
    (hs : a.eval s = v) (hx : a.eval x = xv) (hown : OwnKr w v ts r) (hsrc : Src Try.prog 7 24 xv ks.length (kcells ks) w) (hlen : ts.length + ks.length ≤ 2199023255552)
    (h : ∀ v' w' r', OwnKr w' v' (ts ++ ks) r' → w.grownBy w' r → (r' = r ∨ r' = some w.heap.size) → wpList Try.prog ops Q rest (a.put o.dst v') w') : wpList Try.prog ops Q (o :: rest) a w := by
  by_cases hr0 : r ≠ none ∨ 0 < ks.length
  · exact wpList_append_k w hgd s x ho v xv ts ks r hs hx hown hsrc hlen hr0 fun v' w' g h1 h2 h3 => h v' w' (some g) h1 h2 (h3.imp id fun e => by rw [e])
  · have hr : r = none := by
      rcases Classical.em (r = none) with h | h
      · exact h
      · exact absurd (.inl h) hr0
    have hk : ks = [] := by
      rcases ks with _ | ⟨y, ys⟩
      · rfl
      · exact absurd (.inr (by simp)) hr0
    subst hk
    rcases hown with ⟨rfl, rfl, -⟩ | ⟨g, _, e, _⟩
    · refine wpList_plain hgd fun _ hK => ?_
      have hrun := run_append_nilk w o.type xv hsrc
      unfold Oper.wp execOp
      simp only [ho, resolve, invoke, builtin, Sem.run_bind, Sem.run_pure, Result.andThen_ok, List.map_toArray, List.map_cons, List.map_nil, hs, hx, hrun]
      exact hK _ _ (h _ _ none (OwnKr.nil w) (below_grow (Below.refl _ _) _) (.inl hr.symm))
    · rw [hr] at e; cases e
theorem cells_nth {w : World} {b o i : Nat} {x : Kr} (h : Kr.CellsAt w b o x) (hi : i < 7) : w.cell? ⟨b, o + i, none⟩ = x.cells[i]? := by
  obtain ⟨c0, c1, c2, c3, c4, c5, c6⟩ := h
  match i, hi with
  | 0, _ => exact c0
  | 1, _ => exact c1
  | 2, _ => exact c2
  | 3, _ => exact c3
  | 4, _ => exact c4
  | 5, _ => exact c5
  | 6, _ => exact c6
/-- The first of a row. -/
theorem CellsAt.srcTake {w : World} {b off k c : Nat} {rs : List Kr} (h : ∀ j, j < rs.length → Kr.CellsAt w b (off + j * 7) (rs.getD j Kr.zero)) (hk : k ≤ rs.length) : Src Try.prog 7 24 (.slice (some ⟨b, off, none⟩) k c) (rs.take k).length (kcells (rs.take k)) w := by
  have hl : (rs.take k).length = k := by simp; omega
  rw [hl]
  refine Src.ofSlice _ Try.underlying24 _ k c _ (by rw [kcells_len, hl]; omega) (fun j u hj => ?_) (kcells_one _)
  have hjl : j < 7 * k := by
    have := (List.getElem?_eq_some_iff.mp hj).1
    rw [kcells_len, hl] at this; omega
  have hc := h (j / 7) (by omega)
  have hm : j % 7 < 7 := Nat.mod_lt _ (by omega)
  have hg := kcells_get (rs.take k) (j / 7) (j % 7) (by rw [hl]; omega) hm
  rw [show j / 7 * 7 + j % 7 = j by omega, hj] at hg
  have hgd : (rs.take k).getD (j / 7) Kr.zero = rs.getD (j / 7) Kr.zero := by
    rw [List.getD_eq_getElem?_getD, List.getD_eq_getElem?_getD, List.getElem?_take_of_lt (by omega)]
  rw [hgd] at hg
  rw [WideShapes.add_plain]
  have hn := cells_nth hc hm
  rw [show off + j / 7 * 7 + j % 7 = off + j by omega] at hn
  exact hn.trans hg.symm
/-- .. and what is behind it. -/
theorem CellsAt.srcDrop {w : World} {b off k m c : Nat} {rs : List Kr} (h : ∀ j, j < rs.length → Kr.CellsAt w b (off + j * 7) (rs.getD j Kr.zero)) (hk : k ≤ rs.length) (hm : m = rs.length - k) : Src Try.prog 7 24 (.slice (some ⟨b, off + k * 7, none⟩) m c) (rs.drop k).length (kcells (rs.drop k)) w := by
  have h2 : ∀ j, j < (rs.drop k).length → Kr.CellsAt w b (off + k * 7 + j * 7) ((rs.drop k).getD j Kr.zero) := fun j hj => by
    have hj' : k + j < rs.length := by simp at hj; omega
    have h3 := h (k + j) hj'
    rw [show off + (k + j) * 7 = off + k * 7 + j * 7 by omega] at h3
    have e : (rs.drop k).getD j Kr.zero = rs.getD (k + j) Kr.zero := by
      rw [List.getD_eq_getElem?_getD, List.getD_eq_getElem?_getD, List.getElem?_drop]
    rw [e]
    exact h3
  have h4 := CellsAt.srcTake (k := m) (c := c) h2 (by simp; omega)
  have e : (rs.drop k).take m = rs.drop k := List.take_of_length_le (by simp; omega)
  rw [e] at h4
  exact h4
theorem CellsAt.srcEnd {w : World} {a : Addr} {k m c : Nat} {rs : List Kr} (hk : rs.length ≤ k) (hm : m = 0) : Src Try.prog 7 24 (.slice (some a) m c) (rs.drop k).length (kcells (rs.drop k)) w := by
  rw [List.drop_of_length_le hk, hm]
  exact Src.ofSlice w Try.underlying24 _ 0 _ [] (by simp) (by simp) (by simp)
theorem OwnKr.addr {w : World} {a : Option Addr} {n c : Nat} {ts : List Kr} {r : Option Nat} (h : OwnKr w (.slice a n c) ts r) {b off : Nat} (e : a = some ⟨b, off, none⟩) : r = some b := by
  rcases h with ⟨e1, _, _⟩ | ⟨g, cap, e1, e2, _⟩
  · rw [e] at e1; cases e1
  · rw [e] at e2
    injection e2 with e3 _ _
    cases e3
    exact e1
theorem split_at {rs : List Kr} {k : Nat} (h : k < rs.length) : rs = rs.take k ++ rs.getD k Kr.zero :: rs.drop (k + 1) := by
  have e : rs.getD k Kr.zero = rs[k] := by rw [List.getD_eq_getElem?_getD, List.getElem?_eq_getElem h]; rfl
  rw [e, ← List.drop_eq_getElem_cons h, List.take_append_drop]
/-- What is left of a row, of which one item has been noted. -/
theorem restNext {W w3 w4 w5 : World} {rs S items : List Kr} {la lb : List Ke} {k i : Nat} {v4 v5 : Value} {r4 r5 : Option Nat} (hk : k < rs.length) (hl : rs.length ≤ 10000000) (hok : ∀ x ∈ rs, x.Ok)
    (hn : NotedBy S lb ∧ lb.length ≤ i ∧ (∀ x, (x ∈ rs ∨ x ∈ S) ↔ x ∈ items)) (hd : Nd W w3 la (noteK lb (rs.getD k Kr.zero)))
    (h4 : w3.grownBy w4 none) (hr4 : r4 = none ∨ r4 = some w3.heap.size) (h5 : OwnKr w5 v5 (rs.take k ++ rs.drop (k + 1)) r5) (hg5 : w4.grownBy w5 r4) (hr5 : r5 = r4 ∨ r5 = some w4.heap.size) :
    ∃ a' c', v5 = .slice a' (rs.length - 1) c' ∧ (rs.length - 1 ≤ c' ∧ c' ≤ maxLen) ∧ (KrsAt w5 (.slice a' (rs.length - 1) c') (rs.take k ++ rs.drop (k + 1)) ∧ (∀ b off, a' = some ⟨b, off, none⟩ → b ≠ W.heap.size + 1)) ∧ (NotedBy (rs.getD k Kr.zero :: S) (noteK lb (rs.getD k Kr.zero)) ∧ (noteK lb (rs.getD k Kr.zero)).length ≤ i + 1 ∧ (∀ x, (x ∈ rs.take k ++ rs.drop (k + 1) ∨ x ∈ rs.getD k Kr.zero :: S) ↔ x ∈ items)) ∧ Nd W w5 la (noteK lb (rs.getD k Kr.zero)) := by
  have hlen : (rs.take k ++ rs.drop (k + 1)).length = rs.length - 1 := by simp; omega
  have hb34 : Below w3.heap.size w3 w4 := grow_below h4 (Nat.le_refl _) (fun g e => by cases e)
  have hb45 : Below w3.heap.size w4 w5 := grow_below hg5 h4.size (fun g e => by
    rcases hr4 with h | h
    · rw [h] at e; cases e
    · rw [h] at e; cases e; exact Nat.le_refl _)
  have hb35 : Below w3.heap.size w3 w5 := hb34.trans hb45
  obtain ⟨a', c', e, hc1, hc2⟩ := h5.shape
  subst e
  have hks : KrsAt w5 (.slice a' (rs.take k ++ rs.drop (k + 1)).length c') (rs.take k ++ rs.drop (k + 1)) := h5.recs (by omega) (fun x hx => by
    rcases List.mem_append.mp hx with h | h
    · exact hok x (List.mem_of_mem_take h)
    · exact hok x (List.mem_of_mem_drop h))
  have hsz := hd.siz
  have h34 := h4.size
  have hnb : ∀ b off, a' = some ⟨b, off, none⟩ → b ≠ W.heap.size + 1 := fun b off e => by
    have h := h5.addr e
    rcases hr5 with h1 | h1
    · rw [h1] at h
      rcases hr4 with h2 | h2
      · rw [h2] at h; cases h
      · rw [h2] at h; cases h; omega
    · rw [h1] at h; cases h; omega
  rw [hlen] at hks hc2 ⊢
  refine ⟨a', c', rfl, ⟨hc2, hc1⟩, ⟨hks, hnb⟩, ⟨hn.1.note _, by have h1 := noteK_len lb (rs.getD k Kr.zero); have h2 := hn.2.1; omega, fun x => ?_⟩, hd.later hb35⟩
  rw [← hn.2.2 x]
  have hs := split_at hk
  have hm : x ∈ rs ↔ x ∈ rs.take k ++ rs.getD k Kr.zero :: rs.drop (k + 1) := by rw [← hs]
  rw [hm]
  simp only [List.mem_append, List.mem_cons]
  constructor
  · rintro ((h | h) | (h | h))
    · exact .inl (.inl h)
    · exact .inl (.inr (.inr h))
    · exact .inl (.inr (.inl h))
    · exact .inr h
  · rintro ((h | (h | h)) | h)
    · exact .inl (.inl h)
    · exact .inr (.inl h)
    · exact .inl (.inr h)
    · exact .inr (.inr h)
end Go.Proofs.Ythfnbcicpcbgjaa
