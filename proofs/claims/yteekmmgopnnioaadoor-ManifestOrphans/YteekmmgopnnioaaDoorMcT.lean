import Derived.Test.YteekmmgopnnioaaDoorMcP
/-! Records: in slices that are read, and in rows of the call's own. -/
namespace Go.Proofs.YteekmmgopnnioaaDoor
open Go.RowKit Plain
set_option linter.unusedVariables false

structure Te where
  id : Int
  name : ByteArray
  lim : Int
  hor : Int
def Te.zero : Te := ⟨0, ByteArray.empty, 0, 0⟩
def Te.cells (x : Te) : List Value := [.int .i64 x.id, .string x.name, .int .i64 x.lim, .int .i64 x.hor]
abbrev Te.agg (x : Te) : Value := .agg #[.int .i64 x.id, .string x.name, .int .i64 x.lim, .int .i64 x.hor]
structure Te.Ok (x : Te) : Prop where
  id : I64 x.id
  name : x.name.size ≤ maxLen
  lim : I64 x.lim
  hor : I64 x.hor

/-- The cells at a place. -/
structure Te.CellsAt (w : World) (b o : Nat) (x : Te) : Prop where
  c0 : w.cell? ⟨b, o, none⟩ = some (.int .i64 x.id)
  c1 : w.cell? ⟨b, o + 1, none⟩ = some (.string x.name)
  c2 : w.cell? ⟨b, o + 2, none⟩ = some (.int .i64 x.lim)
  c3 : w.cell? ⟨b, o + 3, none⟩ = some (.int .i64 x.hor)
theorem Te.CellsAt.lt {w : World} {b o : Nat} {x : Te} (h : Te.CellsAt w b o x) : b < w.heap.size := cell_lt h.c0
theorem Te.CellsAt.block {w w' : World} {b o : Nat} {x : Te} (h : Te.CellsAt w b o x) (e : w'.heap[b]? = w.heap[b]?) : Te.CellsAt w' b o x := by
  have hc : ∀ j, w'.cell? ⟨b, j, none⟩ = w.cell? ⟨b, j, none⟩ := fun j => World.cell?_of_block (w := w) (a := ⟨b, j, none⟩) e
  exact ⟨by rw [hc]; exact h.c0, by rw [hc]; exact h.c1, by rw [hc]; exact h.c2, by rw [hc]; exact h.c3⟩

/-- v is a slice of records that reads as st. -/
def TesAt (w : World) (v : Value) (st : List Te) : Prop :=
  ∃ a cap, v = .slice a st.length cap ∧ st.length ≤ 4398046511000 ∧ (∀ x ∈ st, x.Ok) ∧ (st ≠ [] → ∃ b off, a = some ⟨b, off, none⟩ ∧ ∀ j, j < st.length → Te.CellsAt w b (off + j * 4) (st.getD j Te.zero))

theorem TesAt.later {w w' : World} {v : Value} {st : List Te} (h : TesAt w v st) (hb : Below w.heap.size w w') : TesAt w' v st := by
  obtain ⟨a, cap, e, h1, h2, h3⟩ := h
  refine ⟨a, cap, e, h1, h2, fun hne => ?_⟩
  obtain ⟨b, off, e2, hc⟩ := h3 hne
  exact ⟨b, off, e2, fun j hj => (hc j hj).block (hb.block b (hc j hj).lt)⟩

def tcells (ts : List Te) : List Value := ts.flatMap Te.cells
theorem tcells_app (ts ks : List Te) : tcells (ts ++ ks) = tcells ts ++ tcells ks := by simp [tcells]
theorem tcells_cons (t : Te) (ts : List Te) : tcells (t :: ts) = [.int .i64 t.id, .string t.name, .int .i64 t.lim, .int .i64 t.hor] ++ tcells ts := rfl
theorem tcells_len : ∀ (ts : List Te), (tcells ts).length = 4 * ts.length
  | [] => rfl
  | t :: ts => by
    have := tcells_len ts
    rw [tcells_cons, List.length_append, this]
    simp only [List.length_cons, List.length_nil]
    omega
theorem tcells_get (ts : List Te) (j i : Nat) (h : j < ts.length) (hi : i < 4) : (tcells ts)[j * 4 + i]? = (ts.getD j Te.zero).cells[i]? := by
  induction ts generalizing j with
  | nil => simp at h
  | cons t ts ih =>
    cases j with
    | zero =>
      rw [tcells_cons, List.getElem?_append_left (by simp; omega)]
      simp [Te.cells]
    | succ j =>
      have := ih j (by simpa using h)
      rw [tcells_cons, List.getElem?_append_right (by simp; omega)]
      simpa [show (j + 1) * 4 + i - 4 = j * 4 + i by omega] using this

theorem Tryd.info52 : (Tryd.prog.info? 52).map (fun i => (i.zero, i.size, i.bytes)) = some (some Te.zero.agg, 4, 40) := by kernel_rfl

/-- v is a slice of records of the call's own, in block r. -/
def OwnTe (w : World) (v : Value) (ts : List Te) (r : Option Nat) : Prop :=
  (v = .slice none 0 0 ∧ ts = [] ∧ r = none) ∨
  ∃ g cap, r = some g ∧ v = .slice (some ⟨g, 0, none⟩) ts.length cap ∧ g < w.heap.size ∧ ts.length ≤ cap ∧ cap ≤ maxLen ∧ (∀ j, j < 4 * cap → w.frozen? ⟨g, j, none⟩ = false) ∧ (∀ j, j < 4 * cap → (w.cell? ⟨g, j, none⟩).isSome = true) ∧
    ∀ j, j < 4 * ts.length → w.cell? ⟨g, j, none⟩ = (tcells ts)[j]?

theorem OwnTe.nil (w : World) : OwnTe w (.slice none 0 0) [] none := .inl ⟨rfl, rfl, rfl⟩

theorem OwnTe.kept {w w' : World} {v : Value} {ts : List Te} {r r' : Option Nat} (h : OwnTe w v ts r) (k : w.grownBy w' r') (hne : r = none ∨ r ≠ r') : OwnTe w' v ts r := by
  rcases h with h0 | ⟨g, cap, rfl, rfl, hg, h1, h2, h3, h4, h5⟩
  · exact .inl h0
  · have hb : w'.heap[g]? = w.heap[g]? := k.block g hg (by rcases hne with h | h <;> simp_all)
    refine .inr ⟨g, cap, rfl, rfl, Nat.lt_of_lt_of_le hg k.size, h1, h2, fun j hj => ?_, fun j hj => ?_, fun j hj => ?_⟩
    · rw [World.frozen?_of_block (w := w) (a := ⟨g, j, none⟩) hb]; exact h3 j hj
    · rw [World.cell?_of_block (w := w) (a := ⟨g, j, none⟩) hb]; exact h4 j hj
    · rw [World.cell?_of_block (w := w) (a := ⟨g, j, none⟩) hb]; exact h5 j hj
theorem OwnTe.later {w w' : World} {v : Value} {ts : List Te} {r : Option Nat} (h : OwnTe w v ts r) (k : Below w.heap.size w w') : OwnTe w' v ts r := by
  cases r with
  | none => exact h.kept (below_grow k none) (.inl rfl)
  | some g => exact h.kept (below_grow k none) (.inr (by simp))

theorem OwnTe.lt {w : World} {v : Value} {ts : List Te} {g : Nat} (h : OwnTe w v ts (some g)) : g < w.heap.size := by
  rcases h with ⟨_, _, h⟩ | ⟨g', cap, e, _, hg, _⟩
  · simp at h
  · simp at e; omega

theorem OwnTe.shape {w : World} {v : Value} {ts : List Te} {r : Option Nat} (h : OwnTe w v ts r) : ∃ a cap, v = .slice a ts.length cap ∧ cap ≤ maxLen ∧ ts.length ≤ cap := by
  rcases h with ⟨rfl, rfl, h⟩ | ⟨g', cap, e, rfl, hg, h1, h2, _⟩
  · exact ⟨none, 0, rfl, by simp, by simp⟩
  · exact ⟨_, cap, rfl, h2, h1⟩

theorem OwnTe.at {w : World} {v : Value} {ts : List Te} {g : Nat} (h : OwnTe w v ts (some g)) {j : Nat} (hj : j < ts.length) : Te.CellsAt w g (j * 4) (ts.getD j Te.zero) := by
  rcases h with ⟨_, _, h⟩ | ⟨g', cap, e, e2, hg, h1, h2, h3, h4, h5⟩
  · simp at h
  · simp at e; subst e
    have hc : ∀ i, i < 4 → w.cell? ⟨g, j * 4 + i, none⟩ = (ts.getD j Te.zero).cells[i]? := fun i hi => by rw [h5 _ (by omega)]; exact tcells_get ts j i hj hi
    exact ⟨hc 0 (by decide), hc 1 (by decide), hc 2 (by decide), hc 3 (by decide)⟩

theorem OwnTe.recs {w : World} {v : Value} {ts : List Te} {r : Option Nat} (h : OwnTe w v ts r) (hl : ts.length ≤ 4398046511000) (hok : ∀ x ∈ ts, x.Ok) : TesAt w v ts := by
  have h' := h
  rcases h with ⟨rfl, rfl, rfl⟩ | ⟨g, cap, rfl, rfl, hg, h1, h2, h3, h4, h5⟩
  · exact ⟨none, 0, rfl, by simp, by simp, by simp⟩
  · refine ⟨_, cap, rfl, hl, hok, fun _ => ⟨g, 0, rfl, fun j hj => ?_⟩⟩
    rw [Nat.zero_add]
    exact h'.at hj

theorem zcells4t : Te.zero.agg.cells.size = 4 := by rfl

/-- WHAT append DOES of records. -/
theorem run_append_t (w : World) (ty : TypeId) (v x : Value) (ts : List Te) (ks : List Te) (r : Option Nat) (hown : OwnTe w v ts r) (hs : Src Tryd.prog 4 32 x ks.length (tcells ks) w) (hlen : ts.length + ks.length ≤ 4398046511104) (hr0 : r ≠ none ∨ 0 < ks.length) :
    ∃ v' w' g, (Builtin.append_ #[32, 32] ty #[v, x]).run Tryd.prog w = .ok v' w' ∧ OwnTe w' v' (ts ++ ks) (some g) ∧ w.grownBy w' r ∧ (some g = r ∨ g = w.heap.size) := by
  obtain ⟨i, hi, hz0, hz1, hz2⟩ := info_parts Tryd.info52
  have hs' : Src Tryd.prog i.size 32 x ks.length (tcells ks) w := by rw [hz1]; exact hs
  have hl2 : (ts ++ ks).length = ts.length + ks.length := by simp
  have grow : ∀ (base : Option Addr) (sCap : Nat), (Builtin.firstCells i.size ts.length (.slice base ts.length sCap)).run Tryd.prog w.drew = .ok (tcells ts).toArray w.drew → sCap < ts.length + ks.length →
      ∃ v' w' g, (Builtin.append_ #[32, 32] ty #[.slice base ts.length sCap, x]).run Tryd.prog w = .ok v' w' ∧ OwnTe w' v' (ts ++ ks) (some g) ∧ w.grownBy w' r ∧ (some g = r ∨ g = w.heap.size) := by
    intro base sCap hold hg
    have hr := run_append_grow_src (P := Tryd.prog) w 32 32 ty 52 i _ Tryd.underlying32 hi hz0 base ts.length sCap (tcells ts) hold x ks.length (tcells ks) hs' hg (by omega) (by rw [hz2]; exact growslice_fits_wide hg (by omega))
    have hge := grownCap_ge w (ts.length + ks.length) sCap 52
    have hcm := grownCap_le_maxLen w (ts.length + ks.length) sCap 52 (by unfold maxLen; omega)
    refine ⟨_, _, w.heap.size, hr, ?_, ⟨rfl, rfl, rfl, by simp, fun k hk _ => heap_alloc_old w.drew _ hk⟩, .inr rfl⟩
    obtain ⟨C, hC⟩ : ∃ C, (tcells ts ++ (tcells ks)).toArray ++ Builtin.zeroCells Te.zero.agg.cells (grownCap w (ts.length + ks.length) sCap 52 - (ts.length + ks.length)) = C := ⟨_, rfl⟩
    have hCs : C.size = 4 * grownCap w (ts.length + ks.length) sCap 52 := by
      rw [← hC, Array.size_append, List.size_toArray, size_zeroCells, zcells4t, List.length_append, tcells_len, tcells_len]
      omega
    have hCg : ∀ j, j < 4 * (ts.length + ks.length) → C[j]? = (tcells (ts ++ ks))[j]? := fun j hj => by
      rw [← hC, Array.getElem?_append_left (by rw [List.size_toArray, List.length_append, tcells_len, tcells_len]; omega), List.getElem?_toArray, tcells_app]
    rw [hC]
    refine .inr ⟨w.heap.size, grownCap w (ts.length + ks.length) sCap 52, rfl, by rw [hl2], by simp, by rw [hl2]; exact hge, hcm, fun j hj => ?_, fun j hj => ?_, fun j hj => ?_⟩
    · exact World.frozen?_alloc_at _ _ _ _ rfl
    · show ((w.drew.alloc (Obj.cells C 52)).cell? ⟨w.drew.heap.size, j, none⟩).isSome = true
      rw [World.cell?_alloc_at _ _ _ _ rfl, Array.getElem?_eq_getElem (by omega)]; rfl
    · rw [hl2] at hj
      show (w.drew.alloc (Obj.cells C 52)).cell? ⟨w.drew.heap.size, j, none⟩ = _
      rw [World.cell?_alloc_at _ _ _ _ rfl]; exact hCg j hj
  rcases hown with ⟨rfl, rfl, rfl⟩ | ⟨g, cap, rfl, rfl, hg, h1, h2, h3, h4, h5⟩
  · rcases hr0 with h | h
    · exact absurd rfl h
    · exact grow none 0 (by rw [List.length_nil]; exact run_firstCells_none w.drew _ _ _ _) (by simpa using h)
  · by_cases hroom : ts.length + ks.length ≤ cap
    · have hr := run_append_room_src (P := Tryd.prog) w 32 32 ty 52 i Tryd.underlying32 hi g 0 ts.length cap x ks.length (tcells ks) hs' hroom
        (fun j hj => by rw [hz1]; rw [tcells_len] at hj; exact h4 _ (by omega))
        (fun j hj => by rw [hz1]; rw [tcells_len] at hj; exact h3 _ (by omega))
      rw [hz1, Nat.zero_add] at hr
      refine ⟨_, _, g, hr, .inr ⟨g, cap, rfl, by rw [hl2], ?_, by omega, h2, fun j hj => ?_, fun j hj => ?_, fun j hj => ?_⟩, grow_setCells w g _ _, .inl rfl⟩
      · rw [setCells_size]; exact hg
      · rw [World.frozen?_setCells]; exact h3 j hj
      · exact isSome_setCells g _ _ w _ (h4 j hj)
      · rw [hl2] at hj
        by_cases hj' : j < 4 * ts.length
        · rw [World.cell?_setCells_out g _ _ w _ (fun _ _ => .inl (by show j < ts.length * 4; omega)), h5 j hj', tcells_app, List.getElem?_append_left (by rw [tcells_len]; exact hj')]
        · have hj2 : j - 4 * ts.length < (tcells ks).length := by rw [tcells_len]; omega
          have := World.cell?_setCells_in g (tcells ks) (ts.length * 4) w (fun m hm => h4 _ (by rw [tcells_len] at hm; omega)) (j - 4 * ts.length) hj2
          rw [show ts.length * 4 + (j - 4 * ts.length) = j by omega] at this
          rw [this, tcells_app, List.getElem?_append_right (by rw [tcells_len]; omega), tcells_len, List.getElem?_eq_getElem hj2]
    · refine grow _ cap ?_ (by omega)
      rw [hz1]
      refine run_firstCells_some w.drew 4 ts.length ⟨g, 0, none⟩ _ _ (tcells ts) (by rw [tcells_len]; omega) (fun j u hj => ?_)
      have hjl : j < 4 * ts.length := by
        have := (List.getElem?_eq_some_iff.mp hj).1
        rwa [tcells_len] at this
      rw [WideShapes.add_plain, Nat.zero_add]
      show w.cell? ⟨g, j, none⟩ = some u
      rw [h5 j hjl, hj]

theorem wpList_append_t {ops : Array Oper} {rest : List Oper} {o : Oper} {a : Act} {Q : Exit → Act → World → Prop} (w : World) (hgd : o.guard = none) (s x : Operand)
    (ho : o.op = .call { callee := .builtin .append, args := #[s, x], argTypes := #[32, 32] }) (v xv : Value) (ts : List Te) (ks : List Te) (r : Option Nat)
    (hs : a.eval s = v) (hx : a.eval x = xv) (hown : OwnTe w v ts r) (hsrc : Src Tryd.prog 4 32 xv ks.length (tcells ks) w) (hlen : ts.length + ks.length ≤ 4398046511104) (hr0 : r ≠ none ∨ 0 < ks.length)
    (h : ∀ v' w' g, OwnTe w' v' (ts ++ ks) (some g) → w.grownBy w' r → (some g = r ∨ g = w.heap.size) → wpList Tryd.prog ops Q rest (a.put o.dst v') w') : wpList Tryd.prog ops Q (o :: rest) a w :=
  wpList_plain hgd fun _ hK => by
    obtain ⟨v', w', g, hr, h1, h2, h3⟩ := run_append_t w o.type v xv ts ks r hown hsrc hlen hr0
    unfold Oper.wp execOp
    simp only [ho, resolve, invoke, builtin, Sem.run_bind, Sem.run_pure, Result.andThen_ok, List.map_toArray, List.map_cons, List.map_nil, hs, hx, hr]
    exact hK _ _ (h v' w' g h1 h2 h3)
end Go.Proofs.YteekmmgopnnioaaDoor
