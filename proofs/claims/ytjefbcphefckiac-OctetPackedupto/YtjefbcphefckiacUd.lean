import Derived.Test.YtjefbcphefckiacUc
/-! Rows of items of the call's own. -/
namespace Go.Proofs.Ytjefbcphefckiac
open Go.RowKit Plain
set_option linter.unusedVariables false

def It.cells (x : It) : List Value := [.int .i64 x.k, .int .u64 (x.n : Int), .string x.s]
def icells (ts : List It) : List Value := ts.flatMap It.cells
theorem icells_app (ts ks : List It) : icells (ts ++ ks) = icells ts ++ icells ks := by simp [icells]
theorem icells_len : ∀ (ts : List It), (icells ts).length = 3 * ts.length
  | [] => rfl
  | t :: ts => by
    have := icells_len ts
    simp only [icells] at this ⊢
    rw [List.flatMap_cons, List.length_append, this, List.length_cons]
    show 3 + _ = _
    omega
theorem icells_get (ts : List It) (j : Nat) (h : j < ts.length) : (icells ts)[j * 3]? = some (.int .i64 (ts.getD j It.none).k) ∧ (icells ts)[j * 3 + 1]? = some (.int .u64 ((ts.getD j It.none).n : Int)) ∧ (icells ts)[j * 3 + 2]? = some (.string (ts.getD j It.none).s) := by
  induction ts generalizing j with
  | nil => simp at h
  | cons t ts ih =>
    have e : icells (t :: ts) = [.int .i64 t.k, .int .u64 (t.n : Int), .string t.s] ++ icells ts := rfl
    cases j with
    | zero => rw [e]; simp
    | succ j =>
      obtain ⟨h1, h2, h3⟩ := ih j (by simpa using h)
      rw [e]
      refine ⟨?_, ?_, ?_⟩
      · rw [List.getElem?_append_right (by simp; omega)]; simpa [show (j + 1) * 3 - 3 = j * 3 by omega] using h1
      · rw [List.getElem?_append_right (by simp; omega)]; simpa [show (j + 1) * 3 + 1 - 3 = j * 3 + 1 by omega] using h2
      · rw [List.getElem?_append_right (by simp; omega)]; simpa [show (j + 1) * 3 + 2 - 3 = j * 3 + 2 by omega] using h3

theorem Try.info32 : (Try.prog.info? 32).map (fun i => (i.zero, i.size, i.bytes)) = some (some (.agg #[.int .i64 0, .int .u64 0, .string ⟨#[]⟩]), 3, 32) := by kernel_rfl

/-- v is a slice of items of the call's own, in block r. -/
def OwnI (w : World) (v : Value) (ts : List It) (r : Option Nat) : Prop :=
  (v = .slice none 0 0 ∧ ts = [] ∧ r = none) ∨
  ∃ g cap, r = some g ∧ v = .slice (some ⟨g, 0, none⟩) ts.length cap ∧ g < w.heap.size ∧ ts.length ≤ cap ∧ cap ≤ maxLen ∧ (∀ j, j < 3 * cap → w.frozen? ⟨g, j, none⟩ = false) ∧ (∀ j, j < 3 * cap → (w.cell? ⟨g, j, none⟩).isSome = true) ∧
    ∀ j, j < 3 * ts.length → w.cell? ⟨g, j, none⟩ = (icells ts)[j]?

theorem OwnI.kept {w w' : World} {v : Value} {ts : List It} {r r' : Option Nat} (h : OwnI w v ts r) (k : w.grownBy w' r') (hne : r = none ∨ r ≠ r') : OwnI w' v ts r := by
  rcases h with h0 | ⟨g, cap, rfl, rfl, hg, h1, h2, h3, h4, h5⟩
  · exact .inl h0
  · have hb : w'.heap[g]? = w.heap[g]? := k.block g hg (by rcases hne with h | h <;> simp_all)
    refine .inr ⟨g, cap, rfl, rfl, Nat.lt_of_lt_of_le hg k.size, h1, h2, fun j hj => ?_, fun j hj => ?_, fun j hj => ?_⟩
    · rw [World.frozen?_of_block (w := w) (a := ⟨g, j, none⟩) hb]; exact h3 j hj
    · rw [World.cell?_of_block (w := w) (a := ⟨g, j, none⟩) hb]; exact h4 j hj
    · rw [World.cell?_of_block (w := w) (a := ⟨g, j, none⟩) hb]; exact h5 j hj

theorem OwnI.lt {w : World} {v : Value} {ts : List It} {g : Nat} (h : OwnI w v ts (some g)) : g < w.heap.size := by
  rcases h with ⟨_, _, h⟩ | ⟨g', cap, e, _, hg, _⟩
  · simp at h
  · simp at e; omega

theorem OwnI.shape {w : World} {v : Value} {ts : List It} {r : Option Nat} (h : OwnI w v ts r) : ∃ a cap, v = .slice a ts.length cap ∧ cap ≤ maxLen ∧ ts.length ≤ cap := by
  rcases h with ⟨rfl, rfl, h⟩ | ⟨g', cap, e, rfl, hg, h1, h2, _⟩
  · exact ⟨none, 0, rfl, by simp, by simp⟩
  · exact ⟨_, cap, rfl, h2, h1⟩

theorem zcells3 : (Value.agg #[.int .i64 0, .int .u64 0, .string ⟨#[]⟩]).cells.size = 3 := by rfl

/-- WHAT append DOES of items. -/
theorem run_append_its (w : World) (ty : TypeId) (v x : Value) (ts : List It) (ks : List It) (r : Option Nat) (hown : OwnI w v ts r) (hs : Src Try.prog 3 22 x ks.length (icells ks) w) (hlen : ts.length + ks.length ≤ 4398046511104) (hr0 : r ≠ none ∨ 0 < ks.length) :
    ∃ v' w' g, (Builtin.append_ #[22, 22] ty #[v, x]).run Try.prog w = .ok v' w' ∧ OwnI w' v' (ts ++ ks) (some g) ∧ w.grownBy w' r ∧ (some g = r ∨ g = w.heap.size) := by
  obtain ⟨i, hi, hz0, hz1, hz2⟩ := info_parts Try.info32
  have hs' : Src Try.prog i.size 22 x ks.length (icells ks) w := by rw [hz1]; exact hs
  have hl2 : (ts ++ ks).length = ts.length + ks.length := by simp
  have grow : ∀ (base : Option Addr) (sCap : Nat), (Builtin.firstCells i.size ts.length (.slice base ts.length sCap)).run Try.prog w.drew = .ok (icells ts).toArray w.drew → sCap < ts.length + ks.length →
      ∃ v' w' g, (Builtin.append_ #[22, 22] ty #[.slice base ts.length sCap, x]).run Try.prog w = .ok v' w' ∧ OwnI w' v' (ts ++ ks) (some g) ∧ w.grownBy w' r ∧ (some g = r ∨ g = w.heap.size) := by
    intro base sCap hold hg
    have hr := run_append_grow_src (P := Try.prog) w 22 22 ty 32 i _ Try.underlying22 hi hz0 base ts.length sCap (icells ts) hold x ks.length (icells ks) hs' hg (by omega) (by rw [hz2]; exact growslice_fits hg (by omega))
    have hge := grownCap_ge w (ts.length + ks.length) sCap 32
    have hcm := grownCap_le_maxLen w (ts.length + ks.length) sCap 32 (by unfold maxLen; omega)
    refine ⟨_, _, w.heap.size, hr, ?_, ⟨rfl, rfl, rfl, by simp, fun k hk _ => heap_alloc_old w.drew _ hk⟩, .inr rfl⟩
    obtain ⟨C, hC⟩ : ∃ C, (icells ts ++ (icells ks)).toArray ++ Builtin.zeroCells (Value.agg #[.int .i64 0, .int .u64 0, .string ⟨#[]⟩]).cells (grownCap w (ts.length + ks.length) sCap 32 - (ts.length + ks.length)) = C := ⟨_, rfl⟩
    have hCs : C.size = 3 * grownCap w (ts.length + ks.length) sCap 32 := by
      rw [← hC, Array.size_append, List.size_toArray, size_zeroCells, zcells3, List.length_append, icells_len, icells_len]
      omega
    have hCg : ∀ j, j < 3 * (ts.length + ks.length) → C[j]? = (icells (ts ++ ks))[j]? := fun j hj => by
      rw [← hC, Array.getElem?_append_left (by rw [List.size_toArray, List.length_append, icells_len, icells_len]; omega), List.getElem?_toArray, icells_app]
    rw [hC]
    refine .inr ⟨w.heap.size, grownCap w (ts.length + ks.length) sCap 32, rfl, by rw [hl2], by simp, by rw [hl2]; exact hge, hcm, fun j hj => ?_, fun j hj => ?_, fun j hj => ?_⟩
    · exact World.frozen?_alloc_at _ _ _ _ rfl
    · show ((w.drew.alloc (Obj.cells C 32)).cell? ⟨w.drew.heap.size, j, none⟩).isSome = true
      rw [World.cell?_alloc_at _ _ _ _ rfl, Array.getElem?_eq_getElem (by omega)]; rfl
    · rw [hl2] at hj
      show (w.drew.alloc (Obj.cells C 32)).cell? ⟨w.drew.heap.size, j, none⟩ = _
      rw [World.cell?_alloc_at _ _ _ _ rfl]; exact hCg j hj
  rcases hown with ⟨rfl, rfl, rfl⟩ | ⟨g, cap, rfl, rfl, hg, h1, h2, h3, h4, h5⟩
  · rcases hr0 with h | h
    · exact absurd rfl h
    · exact grow none 0 (by rw [List.length_nil]; exact run_firstCells_none w.drew _ _ _ _) (by simpa using h)
  · by_cases hroom : ts.length + ks.length ≤ cap
    · have hr := run_append_room_src (P := Try.prog) w 22 22 ty 32 i Try.underlying22 hi g 0 ts.length cap x ks.length (icells ks) hs' hroom
        (fun j hj => by rw [hz1]; rw [icells_len] at hj; exact h4 _ (by omega))
        (fun j hj => by rw [hz1]; rw [icells_len] at hj; exact h3 _ (by omega))
      rw [hz1, Nat.zero_add] at hr
      refine ⟨_, _, g, hr, .inr ⟨g, cap, rfl, by rw [hl2], ?_, by omega, h2, fun j hj => ?_, fun j hj => ?_, fun j hj => ?_⟩, grow_setCells w g _ _, .inl rfl⟩
      · rw [setCells_size]; exact hg
      · rw [World.frozen?_setCells]; exact h3 j hj
      · exact isSome_setCells g _ _ w _ (h4 j hj)
      · rw [hl2] at hj
        by_cases hj' : j < 3 * ts.length
        · rw [World.cell?_setCells_out g _ _ w _ (fun _ _ => .inl (by show j < ts.length * 3; omega)), h5 j hj', icells_app, List.getElem?_append_left (by rw [icells_len]; exact hj')]
        · have hj2 : j - 3 * ts.length < (icells ks).length := by rw [icells_len]; omega
          have := World.cell?_setCells_in g (icells ks) (ts.length * 3) w (fun m hm => h4 _ (by rw [icells_len] at hm; omega)) (j - 3 * ts.length) hj2
          rw [show ts.length * 3 + (j - 3 * ts.length) = j by omega] at this
          rw [this, icells_app, List.getElem?_append_right (by rw [icells_len]; omega), icells_len, List.getElem?_eq_getElem hj2]
    · refine grow _ cap ?_ (by omega)
      rw [hz1]
      refine run_firstCells_some w.drew 3 ts.length ⟨g, 0, none⟩ _ _ (icells ts) (by rw [icells_len]; omega) (fun j u hj => ?_)
      have hjl : j < 3 * ts.length := by
        have := (List.getElem?_eq_some_iff.mp hj).1
        rwa [icells_len] at this
      rw [WideShapes.add_plain, Nat.zero_add]
      show w.cell? ⟨g, j, none⟩ = some u
      rw [h5 j hjl, hj]

theorem wpList_append_its {ops : Array Oper} {rest : List Oper} {o : Oper} {a : Act} {Q : Exit → Act → World → Prop} (w : World) (hgd : o.guard = none) (s x : Operand)
    (ho : o.op = .call { callee := .builtin .append, args := #[s, x], argTypes := #[22, 22] }) (v xv : Value) (ts : List It) (ks : List It) (r : Option Nat)
    (hs : a.eval s = v) (hx : a.eval x = xv) (hown : OwnI w v ts r) (hsrc : Src Try.prog 3 22 xv ks.length (icells ks) w) (hlen : ts.length + ks.length ≤ 4398046511104) (hr0 : r ≠ none ∨ 0 < ks.length)
    (h : ∀ v' w' g, OwnI w' v' (ts ++ ks) (some g) → w.grownBy w' r → (some g = r ∨ g = w.heap.size) → wpList Try.prog ops Q rest (a.put o.dst v') w') : wpList Try.prog ops Q (o :: rest) a w :=
  wpList_plain hgd fun _ hK => by
    obtain ⟨v', w', g, hr, h1, h2, h3⟩ := run_append_its w o.type v xv ts ks r hown hsrc hlen hr0
    unfold Oper.wp execOp
    simp only [ho, resolve, invoke, builtin, Sem.run_bind, Sem.run_pure, Result.andThen_ok, List.map_toArray, List.map_cons, List.map_nil, hs, hx, hr]
    exact hK _ _ (h v' w' g h1 h2 h3)

/-- A slice that was made without items. -/
theorem OwnI.empty (w : World) (t : TypeId) : OwnI (w.alloc (.cells #[] t)) (.slice (some ⟨w.heap.size, 0, none⟩) 0 0) [] (some w.heap.size) :=
  .inr ⟨w.heap.size, 0, rfl, rfl, by simp, by simp, by simp, fun j hj => by omega, fun j hj => by omega, fun j hj => by simp at hj⟩

theorem OwnI.items {w : World} {g cap : Nat} {ts : List It} {n : Nat} (h : OwnI w (.slice (some ⟨g, 0, none⟩) ts.length cap) ts (some g)) (hn : n ≤ ts.length) (hb : ∀ x ∈ ts, x.n < 18446744073709551616 ∧ x.s.size < 18446744073709551616) : ItemsAt w (.slice (some ⟨g, 0, none⟩) n cap) (ts.take n) := by
  rcases h with ⟨h, _⟩ | ⟨g', cap', e, e2, hg, h1, h2, h3, h4, h5⟩
  · simp at h
  · simp at e; subst e
    simp only [Value.slice.injEq, true_and] at e2
    subst e2
    have hl : (ts.take n).length = n := by simp; omega
    refine ⟨_, cap, by rw [hl], by rw [hl]; omega, fun x hx => hb x (List.mem_of_mem_take hx), fun _ => ⟨g, 0, rfl, fun j hj => ?_⟩⟩
    rw [hl] at hj
    have hget : (ts.take n).getD j It.none = ts.getD j It.none := by simp [hj]
    obtain ⟨k1, k2, k3⟩ := icells_get ts j (by omega)
    rw [hget, Nat.zero_add]
    exact ⟨by rw [h5 _ (by omega)]; exact k1, by rw [h5 _ (by omega)]; exact k2, by rw [h5 _ (by omega)]; exact k3⟩

theorem icells_set (ts : List It) (j : Nat) (x : It) (h : j < ts.length) (hk : x.k = (ts.getD j It.none).k) (hs : x.s = (ts.getD j It.none).s) : ∀ i, i ≠ j * 3 + 1 → (icells (ts.set j x))[i]? = (icells ts)[i]? := by
  induction ts generalizing j with
  | nil => simp at h
  | cons t ts ih =>
    have e : ∀ (t : It) ts, icells (t :: ts) = [.int .i64 t.k, .int .u64 (t.n : Int), .string t.s] ++ icells ts := fun _ _ => rfl
    intro i hi
    cases j with
    | zero =>
      simp only [List.set_cons_zero]
      rw [e, e]
      simp at hk hs
      rw [hk, hs]
      match i, hi with
      | 0, _ => rfl
      | 1, hi => simp at hi
      | 2, _ => rfl
      | i + 3, _ => simp
    | succ j =>
      simp only [List.set_cons_succ]
      rw [e, e]
      match i, hi with
      | 0, _ => rfl
      | 1, _ => rfl
      | 2, _ => rfl
      | i + 3, hi =>
        have := ih j (by simpa using h) (by simpa using hk) (by simpa using hs) i (by omega)
        simpa using this

/-- A number is written. -/
theorem OwnI.setN {w : World} {g cap j m : Nat} {ts : List It} (h : OwnI w (.slice (some ⟨g, 0, none⟩) ts.length cap) ts (some g)) (hj : j < ts.length) :
    OwnI (w.setCell ⟨g, j * 3 + 1, none⟩ (.int .u64 (m : Int))) (.slice (some ⟨g, 0, none⟩) ts.length cap) (ts.set j ⟨(ts.getD j It.none).k, m, (ts.getD j It.none).s⟩) (some g) := by
  rcases h with ⟨h, _⟩ | ⟨g', cap', e, e2, hg, h1, h2, h3, h4, h5⟩
  · simp at h
  · simp at e; subst e
    simp only [Value.slice.injEq, true_and] at e2
    subst e2
    refine .inr ⟨g, cap, rfl, by simp, by simpa [World.setCell] using hg, by simpa using h1, h2, fun i hi => ?_, fun i hi => ?_, fun i hi => ?_⟩
    · have := World.frozen?_setCells g [.int .u64 (m : Int)] (j * 3 + 1) w ⟨g, i, none⟩
      exact this.trans (h3 i hi)
    · exact isSome_setCells g [.int .u64 (m : Int)] (j * 3 + 1) w _ (h4 i hi)
    · rw [List.length_set] at hi
      by_cases hij : i = j * 3 + 1
      · subst hij
        obtain ⟨old, hold⟩ := Option.isSome_iff_exists.mp (h4 (j * 3 + 1) (by omega))
        rw [World.cell?_setCell_same _ _ _ hold, (icells_get _ j (by simpa using hj)).2.1]
        simp [hj]
      · rw [World.cell?_setCell_other _ _ _ _ (by simp <;> omega), h5 i hi]
        exact (icells_set ts j ⟨(ts.getD j It.none).k, m, (ts.getD j It.none).s⟩ hj rfl rfl i hij).symm
end Go.Proofs.Ytjefbcphefckiac
