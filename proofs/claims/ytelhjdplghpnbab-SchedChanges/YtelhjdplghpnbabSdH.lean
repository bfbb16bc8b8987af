import Derived.Test.YtelhjdplghpnbabSdG
import Derived.Test.YtelhjdplghpnbabSdCt
/-! Records: in slices that are read, and in rows of the call's own. -/
namespace Go.Proofs.Ytelhjdplghpnbab
open Go.RowKit Plain
set_option linter.unusedVariables false

structure Qv where
  id : Int
  quantum : Int
  deficit : Int
  sl : Option Addr × Nat × Nat
def Qv.zero : Qv := ⟨0, 0, 0, (none, 0, 0)⟩
def Qv.cells (x : Qv) : List Value := [.int .i64 x.id, .int .i64 x.quantum, .int .i64 x.deficit, .slice x.sl.1 x.sl.2.1 x.sl.2.2]
abbrev Qv.agg (x : Qv) : Value := .agg #[.int .i64 x.id, .int .i64 x.quantum, .int .i64 x.deficit, .slice x.sl.1 x.sl.2.1 x.sl.2.2]
structure Qv.Ok (x : Qv) : Prop where
  id : I64 x.id
  quantum : I64 x.quantum
  deficit : I64 x.deficit
  sl : True

/-- The cells at a place. -/
structure Qv.CellsAt (w : World) (b o : Nat) (x : Qv) : Prop where
  c0 : w.cell? ⟨b, o, none⟩ = some (.int .i64 x.id)
  c1 : w.cell? ⟨b, o + 1, none⟩ = some (.int .i64 x.quantum)
  c2 : w.cell? ⟨b, o + 2, none⟩ = some (.int .i64 x.deficit)
  c3 : w.cell? ⟨b, o + 3, none⟩ = some (.slice x.sl.1 x.sl.2.1 x.sl.2.2)
theorem Qv.CellsAt.lt {w : World} {b o : Nat} {x : Qv} (h : Qv.CellsAt w b o x) : b < w.heap.size := cell_lt h.c0
theorem Qv.CellsAt.block {w w' : World} {b o : Nat} {x : Qv} (h : Qv.CellsAt w b o x) (e : w'.heap[b]? = w.heap[b]?) : Qv.CellsAt w' b o x := by
  have hc : ∀ j, w'.cell? ⟨b, j, none⟩ = w.cell? ⟨b, j, none⟩ := fun j => World.cell?_of_block (w := w) (a := ⟨b, j, none⟩) e
  exact ⟨by rw [hc]; exact h.c0, by rw [hc]; exact h.c1, by rw [hc]; exact h.c2, by rw [hc]; exact h.c3⟩

/-- v is a slice of records that reads as st. -/
def QvsAt (w : World) (v : Value) (st : List Qv) : Prop :=
  ∃ a cap, v = .slice a st.length cap ∧ st.length ≤ 2932031007400 ∧ (∀ x ∈ st, x.Ok) ∧ (st ≠ [] → ∃ b off, a = some ⟨b, off, none⟩ ∧ ∀ j, j < st.length → Qv.CellsAt w b (off + j * 4) (st.getD j Qv.zero))

theorem QvsAt.later {w w' : World} {v : Value} {st : List Qv} (h : QvsAt w v st) (hb : Below w.heap.size w w') : QvsAt w' v st := by
  obtain ⟨a, cap, e, h1, h2, h3⟩ := h
  refine ⟨a, cap, e, h1, h2, fun hne => ?_⟩
  obtain ⟨b, off, e2, hc⟩ := h3 hne
  exact ⟨b, off, e2, fun j hj => (hc j hj).block (hb.block b (hc j hj).lt)⟩

def vcells (ts : List Qv) : List Value := ts.flatMap Qv.cells
theorem vcells_app (ts ks : List Qv) : vcells (ts ++ ks) = vcells ts ++ vcells ks := by simp [vcells]
theorem vcells_cons (t : Qv) (ts : List Qv) : vcells (t :: ts) = [.int .i64 t.id, .int .i64 t.quantum, .int .i64 t.deficit, .slice t.sl.1 t.sl.2.1 t.sl.2.2] ++ vcells ts := rfl
theorem vcells_len : ∀ (ts : List Qv), (vcells ts).length = 4 * ts.length
  | [] => rfl
  | t :: ts => by
    have := vcells_len ts
    rw [vcells_cons, List.length_append, this]
    simp only [List.length_cons, List.length_nil]
    omega
theorem vcells_get (ts : List Qv) (j i : Nat) (h : j < ts.length) (hi : i < 4) : (vcells ts)[j * 4 + i]? = (ts.getD j Qv.zero).cells[i]? := by
  induction ts generalizing j with
  | nil => simp at h
  | cons t ts ih =>
    cases j with
    | zero =>
      rw [vcells_cons, List.getElem?_append_left (by simp; omega)]
      simp [Qv.cells]
    | succ j =>
      have := ih j (by simpa using h)
      rw [vcells_cons, List.getElem?_append_right (by simp; omega)]
      simpa [show (j + 1) * 4 + i - 4 = j * 4 + i by omega] using this

theorem Try.info37 : (Try.prog.info? 37).map (fun i => (i.zero, i.size, i.bytes)) = some (some Qv.zero.agg, 4, 48) := by kernel_rfl

/-- v is a slice of records of the call's own, in block r. -/
def OwnQv (w : World) (v : Value) (ts : List Qv) (r : Option Nat) : Prop :=
  (v = .slice none 0 0 ∧ ts = [] ∧ r = none) ∨
  ∃ g cap, r = some g ∧ v = .slice (some ⟨g, 0, none⟩) ts.length cap ∧ g < w.heap.size ∧ ts.length ≤ cap ∧ cap ≤ maxLen ∧ (∀ j, j < 4 * cap → w.frozen? ⟨g, j, none⟩ = false) ∧ (∀ j, j < 4 * cap → (w.cell? ⟨g, j, none⟩).isSome = true) ∧
    ∀ j, j < 4 * ts.length → w.cell? ⟨g, j, none⟩ = (vcells ts)[j]?

theorem OwnQv.nil (w : World) : OwnQv w (.slice none 0 0) [] none := .inl ⟨rfl, rfl, rfl⟩

theorem OwnQv.kept {w w' : World} {v : Value} {ts : List Qv} {r r' : Option Nat} (h : OwnQv w v ts r) (k : w.grownBy w' r') (hne : r = none ∨ r ≠ r') : OwnQv w' v ts r := by
  rcases h with h0 | ⟨g, cap, rfl, rfl, hg, h1, h2, h3, h4, h5⟩
  · exact .inl h0
  · have hb : w'.heap[g]? = w.heap[g]? := k.block g hg (by rcases hne with h | h <;> simp_all)
    refine .inr ⟨g, cap, rfl, rfl, Nat.lt_of_lt_of_le hg k.size, h1, h2, fun j hj => ?_, fun j hj => ?_, fun j hj => ?_⟩
    · rw [World.frozen?_of_block (w := w) (a := ⟨g, j, none⟩) hb]; exact h3 j hj
    · rw [World.cell?_of_block (w := w) (a := ⟨g, j, none⟩) hb]; exact h4 j hj
    · rw [World.cell?_of_block (w := w) (a := ⟨g, j, none⟩) hb]; exact h5 j hj
theorem OwnQv.later {w w' : World} {v : Value} {ts : List Qv} {r : Option Nat} (h : OwnQv w v ts r) (k : Below w.heap.size w w') : OwnQv w' v ts r := by
  cases r with
  | none => exact h.kept (below_grow k none) (.inl rfl)
  | some g => exact h.kept (below_grow k none) (.inr (by simp))

theorem OwnQv.lt {w : World} {v : Value} {ts : List Qv} {g : Nat} (h : OwnQv w v ts (some g)) : g < w.heap.size := by
  rcases h with ⟨_, _, h⟩ | ⟨g', cap, e, _, hg, _⟩
  · simp at h
  · simp at e; omega

theorem OwnQv.shape {w : World} {v : Value} {ts : List Qv} {r : Option Nat} (h : OwnQv w v ts r) : ∃ a cap, v = .slice a ts.length cap ∧ cap ≤ maxLen ∧ ts.length ≤ cap := by
  rcases h with ⟨rfl, rfl, h⟩ | ⟨g', cap, e, rfl, hg, h1, h2, _⟩
  · exact ⟨none, 0, rfl, by simp, by simp⟩
  · exact ⟨_, cap, rfl, h2, h1⟩

theorem OwnQv.at {w : World} {v : Value} {ts : List Qv} {g : Nat} (h : OwnQv w v ts (some g)) {j : Nat} (hj : j < ts.length) : Qv.CellsAt w g (j * 4) (ts.getD j Qv.zero) := by
  rcases h with ⟨_, _, h⟩ | ⟨g', cap, e, e2, hg, h1, h2, h3, h4, h5⟩
  · simp at h
  · simp at e; subst e
    have hc : ∀ i, i < 4 → w.cell? ⟨g, j * 4 + i, none⟩ = (ts.getD j Qv.zero).cells[i]? := fun i hi => by rw [h5 _ (by omega)]; exact vcells_get ts j i hj hi
    exact ⟨hc 0 (by decide), hc 1 (by decide), hc 2 (by decide), hc 3 (by decide)⟩

theorem OwnQv.recs {w : World} {v : Value} {ts : List Qv} {r : Option Nat} (h : OwnQv w v ts r) (hl : ts.length ≤ 2932031007400) (hok : ∀ x ∈ ts, x.Ok) : QvsAt w v ts := by
  have h' := h
  rcases h with ⟨rfl, rfl, rfl⟩ | ⟨g, cap, rfl, rfl, hg, h1, h2, h3, h4, h5⟩
  · exact ⟨none, 0, rfl, by simp, by simp, by simp⟩
  · refine ⟨_, cap, rfl, hl, hok, fun _ => ⟨g, 0, rfl, fun j hj => ?_⟩⟩
    rw [Nat.zero_add]
    exact h'.at hj

theorem zcells4v : Qv.zero.agg.cells.size = 4 := by rfl

/-- WHAT append DOES of records. -/
theorem run_append_v (w : World) (ty : TypeId) (v x : Value) (ts : List Qv) (ks : List Qv) (r : Option Nat) (hown : OwnQv w v ts r) (hs : Src Try.prog 4 22 x ks.length (vcells ks) w) (hlen : ts.length + ks.length ≤ 2932031007600) (hr0 : r ≠ none ∨ 0 < ks.length) :
    ∃ v' w' g, (Builtin.append_ #[22, 22] ty #[v, x]).run Try.prog w = .ok v' w' ∧ OwnQv w' v' (ts ++ ks) (some g) ∧ w.grownBy w' r ∧ (some g = r ∨ g = w.heap.size) := by
  obtain ⟨i, hi, hz0, hz1, hz2⟩ := info_parts Try.info37
  have hs' : Src Try.prog i.size 22 x ks.length (vcells ks) w := by rw [hz1]; exact hs
  have hl2 : (ts ++ ks).length = ts.length + ks.length := by simp
  have grow : ∀ (base : Option Addr) (sCap : Nat), (Builtin.firstCells i.size ts.length (.slice base ts.length sCap)).run Try.prog w.drew = .ok (vcells ts).toArray w.drew → sCap < ts.length + ks.length →
      ∃ v' w' g, (Builtin.append_ #[22, 22] ty #[.slice base ts.length sCap, x]).run Try.prog w = .ok v' w' ∧ OwnQv w' v' (ts ++ ks) (some g) ∧ w.grownBy w' r ∧ (some g = r ∨ g = w.heap.size) := by
    intro base sCap hold hg
    have hr := run_append_grow_src (P := Try.prog) w 22 22 ty 37 i _ Try.underlying22 hi hz0 base ts.length sCap (vcells ts) hold x ks.length (vcells ks) hs' hg (by omega) (by rw [hz2]; exact growslice_fits_wide hg (by omega))
    have hge := grownCap_ge w (ts.length + ks.length) sCap 37
    have hcm := grownCap_le_maxLen w (ts.length + ks.length) sCap 37 (by unfold maxLen; omega)
    refine ⟨_, _, w.heap.size, hr, ?_, ⟨rfl, rfl, rfl, by simp, fun k hk _ => heap_alloc_old w.drew _ hk⟩, .inr rfl⟩
    obtain ⟨C, hC⟩ : ∃ C, (vcells ts ++ (vcells ks)).toArray ++ Builtin.zeroCells Qv.zero.agg.cells (grownCap w (ts.length + ks.length) sCap 37 - (ts.length + ks.length)) = C := ⟨_, rfl⟩
    have hCs : C.size = 4 * grownCap w (ts.length + ks.length) sCap 37 := by
      rw [← hC, Array.size_append, List.size_toArray, size_zeroCells, zcells4v, List.length_append, vcells_len, vcells_len]
      omega
    have hCg : ∀ j, j < 4 * (ts.length + ks.length) → C[j]? = (vcells (ts ++ ks))[j]? := fun j hj => by
      rw [← hC, Array.getElem?_append_left (by rw [List.size_toArray, List.length_append, vcells_len, vcells_len]; omega), List.getElem?_toArray, vcells_app]
    rw [hC]
    refine .inr ⟨w.heap.size, grownCap w (ts.length + ks.length) sCap 37, rfl, by rw [hl2], by simp, by rw [hl2]; exact hge, hcm, fun j hj => ?_, fun j hj => ?_, fun j hj => ?_⟩
    · exact World.frozen?_alloc_at _ _ _ _ rfl
    · show ((w.drew.alloc (Obj.cells C 37)).cell? ⟨w.drew.heap.size, j, none⟩).isSome = true
      rw [World.cell?_alloc_at _ _ _ _ rfl, Array.getElem?_eq_getElem (by omega)]; rfl
    · rw [hl2] at hj
      show (w.drew.alloc (Obj.cells C 37)).cell? ⟨w.drew.heap.size, j, none⟩ = _
      rw [World.cell?_alloc_at _ _ _ _ rfl]; exact hCg j hj
  rcases hown with ⟨rfl, rfl, rfl⟩ | ⟨g, cap, rfl, rfl, hg, h1, h2, h3, h4, h5⟩
  · rcases hr0 with h | h
    · exact absurd rfl h
    · exact grow none 0 (by rw [List.length_nil]; exact run_firstCells_none w.drew _ _ _ _) (by simpa using h)
  · by_cases hroom : ts.length + ks.length ≤ cap
    · have hr := run_append_room_src (P := Try.prog) w 22 22 ty 37 i Try.underlying22 hi g 0 ts.length cap x ks.length (vcells ks) hs' hroom
        (fun j hj => by rw [hz1]; rw [vcells_len] at hj; exact h4 _ (by omega))
        (fun j hj => by rw [hz1]; rw [vcells_len] at hj; exact h3 _ (by omega))
      rw [hz1, Nat.zero_add] at hr
      refine ⟨_, _, g, hr, .inr ⟨g, cap, rfl, by rw [hl2], ?_, by omega, h2, fun j hj => ?_, fun j hj => ?_, fun j hj => ?_⟩, grow_setCells w g _ _, .inl rfl⟩
      · rw [setCells_size]; exact hg
      · rw [World.frozen?_setCells]; exact h3 j hj
      · exact isSome_setCells g _ _ w _ (h4 j hj)
      · rw [hl2] at hj
        by_cases hj' : j < 4 * ts.length
        · rw [World.cell?_setCells_out g _ _ w _ (fun _ _ => .inl (by show j < ts.length * 4; omega)), h5 j hj', vcells_app, List.getElem?_append_left (by rw [vcells_len]; exact hj')]
        · have hj2 : j - 4 * ts.length < (vcells ks).length := by rw [vcells_len]; omega
          have := World.cell?_setCells_in g (vcells ks) (ts.length * 4) w (fun m hm => h4 _ (by rw [vcells_len] at hm; omega)) (j - 4 * ts.length) hj2
          rw [show ts.length * 4 + (j - 4 * ts.length) = j by omega] at this
          rw [this, vcells_app, List.getElem?_append_right (by rw [vcells_len]; omega), vcells_len, List.getElem?_eq_getElem hj2]
    · refine grow _ cap ?_ (by omega)
      rw [hz1]
      refine run_firstCells_some w.drew 4 ts.length ⟨g, 0, none⟩ _ _ (vcells ts) (by rw [vcells_len]; omega) (fun j u hj => ?_)
      have hjl : j < 4 * ts.length := by
        have := (List.getElem?_eq_some_iff.mp hj).1
        rwa [vcells_len] at this
      rw [WideShapes.add_plain, Nat.zero_add]
      show w.cell? ⟨g, j, none⟩ = some u
      rw [h5 j hjl, hj]

theorem wpList_append_v {ops : Array Oper} {rest : List Oper} {o : Oper} {a : Act} {Q : Exit → Act → World → Prop} (w : World) (hgd : o.guard = none) (s x : Operand)
    (ho : o.op = .call { callee := .builtin .append, args := #[s, x], argTypes := #[22, 22] }) (v xv : Value) (ts : List Qv) (ks : List Qv) (r : Option Nat)
    (hs : a.eval s = v) (hx : a.eval x = xv) (hown : OwnQv w v ts r) (hsrc : Src Try.prog 4 22 xv ks.length (vcells ks) w) (hlen : ts.length + ks.length ≤ 2932031007600) (hr0 : r ≠ none ∨ 0 < ks.length)
    (h : ∀ v' w' g, OwnQv w' v' (ts ++ ks) (some g) → w.grownBy w' r → (some g = r ∨ g = w.heap.size) → wpList Try.prog ops Q rest (a.put o.dst v') w') : wpList Try.prog ops Q (o :: rest) a w :=
  wpList_plain hgd fun _ hK => by
    obtain ⟨v', w', g, hr, h1, h2, h3⟩ := run_append_v w o.type v xv ts ks r hown hsrc hlen hr0
    unfold Oper.wp execOp
    simp only [ho, resolve, invoke, builtin, Sem.run_bind, Sem.run_pure, Result.andThen_ok, List.map_toArray, List.map_cons, List.map_nil, hs, hx, hr]
    exact hK _ _ (h v' w' g h1 h2 h3)
end Go.Proofs.Ytelhjdplghpnbab
