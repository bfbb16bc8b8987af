import Derived.Test.YtklfmgkfcacfkaaSh0
/-! Rows of tokens of any make, of the call's own. -/
namespace Go.Proofs.Ytklfmgkfcacfkaa
open Go.RowKit Plain
set_option linter.unusedVariables false

def Tg.cells (t : Tg) : List Value := [t.v, .int .i64 t.d, .int .i64 t.n]
theorem Tg.cells_len (t : Tg) : t.cells.length = 3 := rfl
theorem Tg.cells_one (t : Tg) (h : t.v.oneCell' = true) : ∀ u ∈ t.cells, u.oneCell' = true := by
  intro u hu
  simp [Tg.cells] at hu
  rcases hu with rfl | rfl | rfl
  · exact h
  · rfl
  · rfl
def gcells (ts : List Tg) : List Value := ts.flatMap Tg.cells

theorem gcells_snoc (ts : List Tg) (t : Tg) : gcells (ts ++ [t]) = gcells ts ++ t.cells := by simp [gcells]
theorem gcells_len : ∀ (ts : List Tg), (gcells ts).length = 3 * ts.length
  | [] => rfl
  | t :: ts => by
    have := gcells_len ts
    simp only [gcells] at this ⊢
    rw [List.flatMap_cons, List.length_append, this, Tg.cells_len, List.length_cons]
    omega

def OwnG (w : World) (v : Value) (ts : List Tg) (r : Option Nat) : Prop :=
  (v = .slice none 0 0 ∧ ts = [] ∧ r = none) ∨
  ∃ g cap, r = some g ∧ v = .slice (some ⟨g, 0, none⟩) ts.length cap ∧ g < w.heap.size ∧ ts.length ≤ cap ∧ cap ≤ maxLen ∧ (∀ j, j < 3 * cap → w.frozen? ⟨g, j, none⟩ = false) ∧ (∀ j, j < 3 * cap → (w.cell? ⟨g, j, none⟩).isSome = true) ∧
    ∀ j, j < 3 * ts.length → w.cell? ⟨g, j, none⟩ = (gcells ts)[j]?

theorem OwnG.kept {w w' : World} {v : Value} {ts : List Tg} {r r' : Option Nat} (h : OwnG w v ts r) (k : w.grownBy w' r') (hne : r = none ∨ r ≠ r') : OwnG w' v ts r := by
  rcases h with h0 | ⟨g, cap, rfl, rfl, hg, h1, h2, h3, h4, h5⟩
  · exact .inl h0
  · have hb : w'.heap[g]? = w.heap[g]? := k.block g hg (by rcases hne with h | h <;> simp_all)
    refine .inr ⟨g, cap, rfl, rfl, Nat.lt_of_lt_of_le hg k.size, h1, h2, fun j hj => ?_, fun j hj => ?_, fun j hj => ?_⟩
    · rw [World.frozen?_of_block (w := w) (a := ⟨g, j, none⟩) hb]; exact h3 j hj
    · rw [World.cell?_of_block (w := w) (a := ⟨g, j, none⟩) hb]; exact h4 j hj
    · rw [World.cell?_of_block (w := w) (a := ⟨g, j, none⟩) hb]; exact h5 j hj

theorem OwnG.lt {w : World} {v : Value} {ts : List Tg} {g : Nat} (h : OwnG w v ts (some g)) : g < w.heap.size := by
  rcases h with ⟨_, _, h⟩ | ⟨g', cap, e, _, hg, _⟩
  · simp at h
  · simp at e; omega

theorem OwnG.shape {w : World} {v : Value} {ts : List Tg} {r : Option Nat} (h : OwnG w v ts r) : ∃ a cap, v = .slice a ts.length cap ∧ cap ≤ maxLen ∧ ts.length ≤ cap := by
  rcases h with ⟨rfl, rfl, h⟩ | ⟨g', cap, e, rfl, hg, h1, h2, _⟩
  · exact ⟨none, 0, rfl, by simp, by simp⟩
  · exact ⟨_, cap, rfl, h2, h1⟩

theorem zcellsG : (Value.agg #[.slice none 0 0, .int .i64 0, .int .i64 0]).cells.size = 3 := by rfl

theorem run_append_tg (w : World) (ty : TypeId) (v x : Value) (ts : List Tg) (t : Tg) (r : Option Nat) (hown : OwnG w v ts r) (hs : Src Try.prog 3 23 x 1 t.cells w) (hlen : ts.length ≤ 3518437208880) :
    ∃ v' w' g, (Builtin.append_ #[23, 23] ty #[v, x]).run Try.prog w = .ok v' w' ∧ OwnG w' v' (ts ++ [t]) (some g) ∧ w.grownBy w' r ∧ (some g = r ∨ g = w.heap.size) := by
  obtain ⟨i, hi, hz0, hz1, hz2⟩ := info_parts Try.info28
  have hs' : Src Try.prog i.size 23 x 1 t.cells w := by rw [hz1]; exact hs
  have hl2 : (ts ++ [t]).length = ts.length + 1 := by simp
  have grow : ∀ (base : Option Addr) (sCap : Nat), (Builtin.firstCells i.size ts.length (.slice base ts.length sCap)).run Try.prog w.drew = .ok (gcells ts).toArray w.drew → sCap < ts.length + 1 →
      ∃ v' w' g, (Builtin.append_ #[23, 23] ty #[.slice base ts.length sCap, x]).run Try.prog w = .ok v' w' ∧ OwnG w' v' (ts ++ [t]) (some g) ∧ w.grownBy w' r ∧ (some g = r ∨ g = w.heap.size) := by
    intro base sCap hold hg
    have hr := run_append_grow_src (P := Try.prog) w 23 23 ty 28 i _ Try.underlying23 hi hz0 base ts.length sCap (gcells ts) hold x 1 t.cells hs' hg (by omega) (by rw [hz2]; exact growslice_fits hg (by omega))
    have hge := grownCap_ge w (ts.length + 1) sCap 28
    have hcm := grownCap_le_maxLen w (ts.length + 1) sCap 28 (by unfold maxLen; omega)
    refine ⟨_, _, w.heap.size, hr, ?_, ⟨rfl, rfl, rfl, by simp, fun k hk _ => heap_alloc_old w.drew _ hk⟩, .inr rfl⟩
    obtain ⟨C, hC⟩ : ∃ C, (gcells ts ++ t.cells).toArray ++ Builtin.zeroCells (Value.agg #[.slice none 0 0, .int .i64 0, .int .i64 0]).cells (grownCap w (ts.length + 1) sCap 28 - (ts.length + 1)) = C := ⟨_, rfl⟩
    have hCs : C.size = 3 * grownCap w (ts.length + 1) sCap 28 := by
      rw [← hC, Array.size_append, List.size_toArray, size_zeroCells, zcellsG, List.length_append, gcells_len, Tg.cells_len]
      omega
    have hCg : ∀ j, j < 3 * (ts.length + 1) → C[j]? = (gcells (ts ++ [t]))[j]? := fun j hj => by
      rw [← hC, Array.getElem?_append_left (by rw [List.size_toArray, List.length_append, gcells_len, Tg.cells_len]; omega), List.getElem?_toArray, gcells_snoc]
    rw [hC]
    refine .inr ⟨w.heap.size, grownCap w (ts.length + 1) sCap 28, rfl, by rw [hl2], by simp, by rw [hl2]; exact hge, hcm, fun j hj => ?_, fun j hj => ?_, fun j hj => ?_⟩
    · exact World.frozen?_alloc_at _ _ _ _ rfl
    · show ((w.drew.alloc (Obj.cells C 28)).cell? ⟨w.drew.heap.size, j, none⟩).isSome = true
      rw [World.cell?_alloc_at _ _ _ _ rfl, Array.getElem?_eq_getElem (by omega)]; rfl
    · rw [hl2] at hj
      show (w.drew.alloc (Obj.cells C 28)).cell? ⟨w.drew.heap.size, j, none⟩ = _
      rw [World.cell?_alloc_at _ _ _ _ rfl]; exact hCg j hj
  rcases hown with ⟨rfl, rfl, rfl⟩ | ⟨g, cap, rfl, rfl, hg, h1, h2, h3, h4, h5⟩
  · exact grow none 0 (by rw [List.length_nil]; exact run_firstCells_none w.drew _ _ _ _) (by simp)
  · by_cases hroom : ts.length + 1 ≤ cap
    · have hr := run_append_room_src (P := Try.prog) w 23 23 ty 28 i Try.underlying23 hi g 0 ts.length cap x 1 t.cells hs' hroom
        (fun j hj => by rw [hz1]; rw [Tg.cells_len] at hj; exact h4 _ (by omega))
        (fun j hj => by rw [hz1]; rw [Tg.cells_len] at hj; exact h3 _ (by omega))
      rw [hz1, Nat.zero_add] at hr
      refine ⟨_, _, g, hr, .inr ⟨g, cap, rfl, by rw [hl2], ?_, by omega, h2, fun j hj => ?_, fun j hj => ?_, fun j hj => ?_⟩, grow_setCells w g _ _, .inl rfl⟩
      · rw [setCells_size]; exact hg
      · rw [World.frozen?_setCells]; exact h3 j hj
      · exact isSome_setCells g _ _ w _ (h4 j hj)
      · rw [hl2] at hj
        by_cases hj' : j < 3 * ts.length
        · rw [World.cell?_setCells_out g _ _ w _ (fun _ _ => .inl (by show j < ts.length * 3; omega)), h5 j hj', gcells_snoc, List.getElem?_append_left (by rw [gcells_len]; exact hj')]
        · have hj2 : j - 3 * ts.length < t.cells.length := by rw [Tg.cells_len]; omega
          have := World.cell?_setCells_in g t.cells (ts.length * 3) w (fun m hm => h4 _ (by rw [Tg.cells_len] at hm; omega)) (j - 3 * ts.length) hj2
          rw [show ts.length * 3 + (j - 3 * ts.length) = j by omega] at this
          rw [this, gcells_snoc, List.getElem?_append_right (by rw [gcells_len]; omega), gcells_len, List.getElem?_eq_getElem hj2]
    · refine grow _ cap ?_ (by omega)
      rw [hz1]
      refine run_firstCells_some w.drew 3 ts.length ⟨g, 0, none⟩ _ _ (gcells ts) (by rw [gcells_len]; omega) (fun j u hj => ?_)
      have hjl : j < 3 * ts.length := by
        have := (List.getElem?_eq_some_iff.mp hj).1
        rwa [gcells_len] at this
      rw [WideShapes.add_plain, Nat.zero_add]
      show w.cell? ⟨g, j, none⟩ = some u
      rw [h5 j hjl, hj]

theorem wpList_append_tg {ops : Array Oper} {rest : List Oper} {o : Oper} {a : Act} {Q : Exit → Act → World → Prop} (w : World) (hgd : o.guard = none) (s x : Operand)
    (ho : o.op = .call { callee := .builtin .append, args := #[s, x], argTypes := #[23, 23] }) (v xv : Value) (ts : List Tg) (t : Tg) (r : Option Nat)
    (hs : a.eval s = v) (hx : a.eval x = xv) (hown : OwnG w v ts r) (hsrc : Src Try.prog 3 23 xv 1 t.cells w) (hlen : ts.length ≤ 3518437208880)
    (h : ∀ v' w' g, OwnG w' v' (ts ++ [t]) (some g) → w.grownBy w' r → (some g = r ∨ g = w.heap.size) → wpList Try.prog ops Q rest (a.put o.dst v') w') : wpList Try.prog ops Q (o :: rest) a w :=
  wpList_plain hgd fun _ hK => by
    obtain ⟨v', w', g, hr, h1, h2, h3⟩ := run_append_tg w o.type v xv ts t r hown hsrc hlen
    unfold Oper.wp execOp
    simp only [ho, resolve, invoke, builtin, Sem.run_bind, Sem.run_pure, Result.andThen_ok, List.map_toArray, List.map_cons, List.map_nil, hs, hx, hr]
    exact hK _ _ (h v' w' g h1 h2 h3)

theorem src_tg (w : World) (t : Tg) (c0 c1 c2 : Value) (hc : t.cells = [c0, c1, c2]) (hv : t.v.oneCell' = true) (ty : TypeId) : Src Try.prog 3 23 (.slice (some ⟨w.heap.size, 0, none⟩) 1 1) 1 t.cells (w.alloc (.cells #[c0, c1, c2] ty)) :=
  Src.ofSlice _ Try.underlying23 _ 1 1 _ (by rw [Tg.cells_len]) (fun j u hj => by
    rw [hc] at hj
    rw [WideShapes.add_plain, World.cell?_alloc_at _ _ _ _ rfl, Nat.zero_add]
    rw [← hj]; simp) (Tg.cells_one t hv)

theorem gcells_get (ts : List Tg) (k j : Nat) (hk : k < ts.length) (hj : j < 3) : (gcells ts)[k * 3 + j]? = ts[k].cells[j]? := by
  induction ts generalizing k with
  | nil => simp at hk
  | cons t ts ih =>
    have e : gcells (t :: ts) = t.cells ++ gcells ts := by simp [gcells]
    cases k with
    | zero =>
      rw [e, Nat.zero_mul, Nat.zero_add, List.getElem?_append_left (by rw [Tg.cells_len]; exact hj)]
      rfl
    | succ k =>
      have := ih k (by simpa using hk)
      rw [e, List.getElem?_append_right (by rw [Tg.cells_len]; omega), Tg.cells_len, show (k + 1) * 3 + j - 3 = k * 3 + j by omega, this]
      rfl

/-- A row of tokens of the call's own; each literal lies in a row of its own. -/
structure GRow (base : Nat) (w : World) (v : Value) (ts : List Tg) (r : Option Nat) : Prop where
  own : OwnG w v ts r
  rb : ∀ g, r = some g → base ≤ g
  lits : ∀ t ∈ ts, ∃ q, Own w t.v t.l q ∧ (∀ g, q = some g → base ≤ g ∧ r ≠ some g)
  nums : ∀ t ∈ ts, t.l.length ≤ 140737488355328 ∧ -9223372036854775808 ≤ t.d ∧ t.d ≤ 9223372036854775807 ∧ -9223372036854775808 ≤ t.n ∧ t.n ≤ 9223372036854775807
theorem GRow.nil (base : Nat) (w : World) : GRow base w (.slice none 0 0) [] none := ⟨.inl ⟨rfl, rfl, rfl⟩, by simp, by simp, by simp⟩
theorem GRow.rd {base : Nat} {w : World} {v : Value} {ts : List Tg} {r : Option Nat} (h : GRow base w v ts r) : TRd w v ts := by
  have hok : ∀ t ∈ ts, t.ok w := fun t ht => by
    obtain ⟨q, h1, _⟩ := h.lits t ht
    exact ⟨h1.bytes, h.nums t ht⟩
  rcases h.own with ⟨rfl, rfl, rfl⟩ | ⟨g, cap, rfl, rfl, hg, h1, h2, h3, h4, h5⟩
  · exact ⟨none, 0, rfl, by simp, by simp, hok, by simp⟩
  · refine ⟨_, cap, rfl, h1, h2, hok, fun _ => ⟨g, 0, rfl, fun k hk => ?_⟩⟩
    rw [Nat.zero_add]
    have e : ∀ j, j < 3 → w.cell? ⟨g, k * 3 + j, none⟩ = ts[k].cells[j]? := fun j hj => by rw [h5 _ (by omega)]; exact gcells_get ts k j hk hj
    exact ⟨e 0 (by decide), e 1 (by decide), e 2 (by decide)⟩
theorem GRow.kept {base : Nat} {w w' : World} {v : Value} {ts : List Tg} {r r' : Option Nat} (h : GRow base w v ts r) (k : w.grownBy w' r') (hr : ∀ g, r' = some g → g < base ∨ w.heap.size ≤ g) : GRow base w' v ts r := by
  refine ⟨h.own.kept k ?_, h.rb, fun t ht => ?_, h.nums⟩
  · cases r with
    | none => exact .inl rfl
    | some g =>
      refine .inr fun e => ?_
      have h1 := h.rb g rfl
      have h2 := h.own.lt
      have := hr g e.symm
      omega
  · obtain ⟨q, h1, h2⟩ := h.lits t ht
    refine ⟨q, h1.kept k ?_, h2⟩
    cases q with
    | none => exact .inl rfl
    | some g =>
      refine .inr fun e => ?_
      have h3 := (h2 g rfl).1
      have h4 := h1.lt
      have := hr g e.symm
      omega
/-- A token is appended. -/
theorem GRow.snoc {base : Nat} {w w' : World} {v v' : Value} {ts : List Tg} {t : Tg} {r q : Option Nat} {g : Nat} (h : GRow base w v ts r) (hb : base ≤ w.heap.size) (ht : Own w t.v t.l q) (hq : ∀ g, q = some g → base ≤ g ∧ r ≠ some g)
    (hn : t.l.length ≤ 140737488355328 ∧ -9223372036854775808 ≤ t.d ∧ t.d ≤ 9223372036854775807 ∧ -9223372036854775808 ≤ t.n ∧ t.n ≤ 9223372036854775807) (ho : OwnG w' v' (ts ++ [t]) (some g)) (hg : w.grownBy w' r) (hgr : some g = r ∨ w.heap.size ≤ g) : GRow base w' v' (ts ++ [t]) (some g) := by
  have keep : ∀ (u : Value) (l : List Nat) (q : Option Nat), Own w u l q → (∀ g, q = some g → base ≤ g ∧ r ≠ some g) → ∃ q', Own w' u l q' ∧ ∀ g', q' = some g' → base ≤ g' ∧ some g ≠ some g' := fun u l q h1 h2 => by
    refine ⟨q, h1.kept hg ?_, fun g' e => ?_⟩
    · cases q with
      | none => exact .inl rfl
      | some x => exact .inr (fun e => (h2 x rfl).2 e.symm)
    · subst e
      refine ⟨(h2 g' rfl).1, fun e => ?_⟩
      simp at e
      subst e
      rcases hgr with hgr | hgr
      · exact (h2 g rfl).2 hgr.symm
      · have := h1.lt; omega
  refine ⟨ho, fun g' e => ?_, fun x hx => ?_, fun x hx => ?_⟩
  · simp at e
    subst e
    rcases hgr with hgr | hgr
    · exact h.rb g hgr.symm
    · omega
  · rcases List.mem_append.mp hx with hx | hx
    · obtain ⟨q, h1, h2⟩ := h.lits x hx
      exact keep _ _ q h1 h2
    · rw [List.mem_singleton] at hx
      subst hx
      exact keep _ _ q ht hq
  · rcases List.mem_append.mp hx with hx | hx
    · exact h.nums x hx
    · rw [List.mem_singleton] at hx
      subst hx
      exact hn
end Go.Proofs.Ytklfmgkfcacfkaa
