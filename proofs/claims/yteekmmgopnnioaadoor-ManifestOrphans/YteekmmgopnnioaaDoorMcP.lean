import Derived.Test.YteekmmgopnnioaaDoorSf0
import Derived.Laws.StructEq
import Derived.Deep.DeepAppendWide
/-! Records: in slices that are read, and in rows of the call's own. -/
namespace Go.Proofs.YteekmmgopnnioaaDoor
open Go.RowKit Plain
set_option linter.unusedVariables false

structure Pr where
  pid : Int
  seq : Int
  off : Int
def Pr.zero : Pr := ⟨0, 0, 0⟩
def Pr.cells (x : Pr) : List Value := [.int .i64 x.pid, .int .i64 x.seq, .int .i64 x.off]
abbrev Pr.agg (x : Pr) : Value := .agg #[.int .i64 x.pid, .int .i64 x.seq, .int .i64 x.off]
def I64 (z : Int) : Prop := -9223372036854775808 ≤ z ∧ z ≤ 9223372036854775807
structure Pr.Ok (x : Pr) : Prop where
  pid : I64 x.pid
  seq : I64 x.seq
  off : I64 x.off

/-- The cells at a place. -/
structure Pr.CellsAt (w : World) (b o : Nat) (x : Pr) : Prop where
  c0 : w.cell? ⟨b, o, none⟩ = some (.int .i64 x.pid)
  c1 : w.cell? ⟨b, o + 1, none⟩ = some (.int .i64 x.seq)
  c2 : w.cell? ⟨b, o + 2, none⟩ = some (.int .i64 x.off)
theorem Pr.CellsAt.lt {w : World} {b o : Nat} {x : Pr} (h : Pr.CellsAt w b o x) : b < w.heap.size := cell_lt h.c0
theorem Pr.CellsAt.block {w w' : World} {b o : Nat} {x : Pr} (h : Pr.CellsAt w b o x) (e : w'.heap[b]? = w.heap[b]?) : Pr.CellsAt w' b o x := by
  have hc : ∀ j, w'.cell? ⟨b, j, none⟩ = w.cell? ⟨b, j, none⟩ := fun j => World.cell?_of_block (w := w) (a := ⟨b, j, none⟩) e
  exact ⟨by rw [hc]; exact h.c0, by rw [hc]; exact h.c1, by rw [hc]; exact h.c2⟩

/-- v is a slice of records that reads as st. -/
def PrsAt (w : World) (v : Value) (st : List Pr) : Prop :=
  ∃ a cap, v = .slice a st.length cap ∧ st.length ≤ 8796093022000 ∧ (∀ x ∈ st, x.Ok) ∧ (st ≠ [] → ∃ b off, a = some ⟨b, off, none⟩ ∧ ∀ j, j < st.length → Pr.CellsAt w b (off + j * 3) (st.getD j Pr.zero))

theorem PrsAt.later {w w' : World} {v : Value} {st : List Pr} (h : PrsAt w v st) (hb : Below w.heap.size w w') : PrsAt w' v st := by
  obtain ⟨a, cap, e, h1, h2, h3⟩ := h
  refine ⟨a, cap, e, h1, h2, fun hne => ?_⟩
  obtain ⟨b, off, e2, hc⟩ := h3 hne
  exact ⟨b, off, e2, fun j hj => (hc j hj).block (hb.block b (hc j hj).lt)⟩

def qcells (ts : List Pr) : List Value := ts.flatMap Pr.cells
theorem qcells_app (ts ks : List Pr) : qcells (ts ++ ks) = qcells ts ++ qcells ks := by simp [qcells]
theorem qcells_cons (t : Pr) (ts : List Pr) : qcells (t :: ts) = [.int .i64 t.pid, .int .i64 t.seq, .int .i64 t.off] ++ qcells ts := rfl
theorem qcells_len : ∀ (ts : List Pr), (qcells ts).length = 3 * ts.length
  | [] => rfl
  | t :: ts => by
    have := qcells_len ts
    rw [qcells_cons, List.length_append, this]
    simp only [List.length_cons, List.length_nil]
    omega
theorem qcells_get (ts : List Pr) (j i : Nat) (h : j < ts.length) (hi : i < 3) : (qcells ts)[j * 3 + i]? = (ts.getD j Pr.zero).cells[i]? := by
  induction ts generalizing j with
  | nil => simp at h
  | cons t ts ih =>
    cases j with
    | zero =>
      rw [qcells_cons, List.getElem?_append_left (by simp; omega)]
      simp [Pr.cells]
    | succ j =>
      have := ih j (by simpa using h)
      rw [qcells_cons, List.getElem?_append_right (by simp; omega)]
      simpa [show (j + 1) * 3 + i - 3 = j * 3 + i by omega] using this

theorem Tryd.info50 : (Tryd.prog.info? 50).map (fun i => (i.zero, i.size, i.bytes)) = some (some Pr.zero.agg, 3, 24) := by kernel_rfl

/-- v is a slice of records of the call's own, in block r. -/
def OwnPr (w : World) (v : Value) (ts : List Pr) (r : Option Nat) : Prop :=
  (v = .slice none 0 0 ∧ ts = [] ∧ r = none) ∨
  ∃ g cap, r = some g ∧ v = .slice (some ⟨g, 0, none⟩) ts.length cap ∧ g < w.heap.size ∧ ts.length ≤ cap ∧ cap ≤ maxLen ∧ (∀ j, j < 3 * cap → w.frozen? ⟨g, j, none⟩ = false) ∧ (∀ j, j < 3 * cap → (w.cell? ⟨g, j, none⟩).isSome = true) ∧
    ∀ j, j < 3 * ts.length → w.cell? ⟨g, j, none⟩ = (qcells ts)[j]?

theorem OwnPr.nil (w : World) : OwnPr w (.slice none 0 0) [] none := .inl ⟨rfl, rfl, rfl⟩

theorem OwnPr.kept {w w' : World} {v : Value} {ts : List Pr} {r r' : Option Nat} (h : OwnPr w v ts r) (k : w.grownBy w' r') (hne : r = none ∨ r ≠ r') : OwnPr w' v ts r := by
  rcases h with h0 | ⟨g, cap, rfl, rfl, hg, h1, h2, h3, h4, h5⟩
  · exact .inl h0
  · have hb : w'.heap[g]? = w.heap[g]? := k.block g hg (by rcases hne with h | h <;> simp_all)
    refine .inr ⟨g, cap, rfl, rfl, Nat.lt_of_lt_of_le hg k.size, h1, h2, fun j hj => ?_, fun j hj => ?_, fun j hj => ?_⟩
    · rw [World.frozen?_of_block (w := w) (a := ⟨g, j, none⟩) hb]; exact h3 j hj
    · rw [World.cell?_of_block (w := w) (a := ⟨g, j, none⟩) hb]; exact h4 j hj
    · rw [World.cell?_of_block (w := w) (a := ⟨g, j, none⟩) hb]; exact h5 j hj
theorem OwnPr.later {w w' : World} {v : Value} {ts : List Pr} {r : Option Nat} (h : OwnPr w v ts r) (k : Below w.heap.size w w') : OwnPr w' v ts r := by
  cases r with
  | none => exact h.kept (below_grow k none) (.inl rfl)
  | some g => exact h.kept (below_grow k none) (.inr (by simp))

theorem OwnPr.lt {w : World} {v : Value} {ts : List Pr} {g : Nat} (h : OwnPr w v ts (some g)) : g < w.heap.size := by
  rcases h with ⟨_, _, h⟩ | ⟨g', cap, e, _, hg, _⟩
  · simp at h
  · simp at e; omega

theorem OwnPr.shape {w : World} {v : Value} {ts : List Pr} {r : Option Nat} (h : OwnPr w v ts r) : ∃ a cap, v = .slice a ts.length cap ∧ cap ≤ maxLen ∧ ts.length ≤ cap := by
  rcases h with ⟨rfl, rfl, h⟩ | ⟨g', cap, e, rfl, hg, h1, h2, _⟩
  · exact ⟨none, 0, rfl, by simp, by simp⟩
  · exact ⟨_, cap, rfl, h2, h1⟩

theorem OwnPr.at {w : World} {v : Value} {ts : List Pr} {g : Nat} (h : OwnPr w v ts (some g)) {j : Nat} (hj : j < ts.length) : Pr.CellsAt w g (j * 3) (ts.getD j Pr.zero) := by
  rcases h with ⟨_, _, h⟩ | ⟨g', cap, e, e2, hg, h1, h2, h3, h4, h5⟩
  · simp at h
  · simp at e; subst e
    have hc : ∀ i, i < 3 → w.cell? ⟨g, j * 3 + i, none⟩ = (ts.getD j Pr.zero).cells[i]? := fun i hi => by rw [h5 _ (by omega)]; exact qcells_get ts j i hj hi
    exact ⟨hc 0 (by decide), hc 1 (by decide), hc 2 (by decide)⟩

theorem OwnPr.recs {w : World} {v : Value} {ts : List Pr} {r : Option Nat} (h : OwnPr w v ts r) (hl : ts.length ≤ 8796093022000) (hok : ∀ x ∈ ts, x.Ok) : PrsAt w v ts := by
  have h' := h
  rcases h with ⟨rfl, rfl, rfl⟩ | ⟨g, cap, rfl, rfl, hg, h1, h2, h3, h4, h5⟩
  · exact ⟨none, 0, rfl, by simp, by simp, by simp⟩
  · refine ⟨_, cap, rfl, hl, hok, fun _ => ⟨g, 0, rfl, fun j hj => ?_⟩⟩
    rw [Nat.zero_add]
    exact h'.at hj

theorem zcells3q : Pr.zero.agg.cells.size = 3 := by rfl

/-- WHAT append DOES of records. -/
theorem run_append_q (w : World) (ty : TypeId) (v x : Value) (ts : List Pr) (ks : List Pr) (r : Option Nat) (hown : OwnPr w v ts r) (hs : Src Tryd.prog 3 29 x ks.length (qcells ks) w) (hlen : ts.length + ks.length ≤ 8796093022208) (hr0 : r ≠ none ∨ 0 < ks.length) :
    ∃ v' w' g, (Builtin.append_ #[29, 29] ty #[v, x]).run Tryd.prog w = .ok v' w' ∧ OwnPr w' v' (ts ++ ks) (some g) ∧ w.grownBy w' r ∧ (some g = r ∨ g = w.heap.size) := by
  obtain ⟨i, hi, hz0, hz1, hz2⟩ := info_parts Tryd.info50
  have hs' : Src Tryd.prog i.size 29 x ks.length (qcells ks) w := by rw [hz1]; exact hs
  have hl2 : (ts ++ ks).length = ts.length + ks.length := by simp
  have grow : ∀ (base : Option Addr) (sCap : Nat), (Builtin.firstCells i.size ts.length (.slice base ts.length sCap)).run Tryd.prog w.drew = .ok (qcells ts).toArray w.drew → sCap < ts.length + ks.length →
      ∃ v' w' g, (Builtin.append_ #[29, 29] ty #[.slice base ts.length sCap, x]).run Tryd.prog w = .ok v' w' ∧ OwnPr w' v' (ts ++ ks) (some g) ∧ w.grownBy w' r ∧ (some g = r ∨ g = w.heap.size) := by
    intro base sCap hold hg
    have hr := run_append_grow_src (P := Tryd.prog) w 29 29 ty 50 i _ Tryd.underlying29 hi hz0 base ts.length sCap (qcells ts) hold x ks.length (qcells ks) hs' hg (by omega) (by rw [hz2]; exact growslice_fits_wide hg (by omega))
    have hge := grownCap_ge w (ts.length + ks.length) sCap 50
    have hcm := grownCap_le_maxLen w (ts.length + ks.length) sCap 50 (by unfold maxLen; omega)
    refine ⟨_, _, w.heap.size, hr, ?_, ⟨rfl, rfl, rfl, by simp, fun k hk _ => heap_alloc_old w.drew _ hk⟩, .inr rfl⟩
    obtain ⟨C, hC⟩ : ∃ C, (qcells ts ++ (qcells ks)).toArray ++ Builtin.zeroCells Pr.zero.agg.cells (grownCap w (ts.length + ks.length) sCap 50 - (ts.length + ks.length)) = C := ⟨_, rfl⟩
    have hCs : C.size = 3 * grownCap w (ts.length + ks.length) sCap 50 := by
      rw [← hC, Array.size_append, List.size_toArray, size_zeroCells, zcells3q, List.length_append, qcells_len, qcells_len]
      omega
    have hCg : ∀ j, j < 3 * (ts.length + ks.length) → C[j]? = (qcells (ts ++ ks))[j]? := fun j hj => by
      rw [← hC, Array.getElem?_append_left (by rw [List.size_toArray, List.length_append, qcells_len, qcells_len]; omega), List.getElem?_toArray, qcells_app]
    rw [hC]
    refine .inr ⟨w.heap.size, grownCap w (ts.length + ks.length) sCap 50, rfl, by rw [hl2], by simp, by rw [hl2]; exact hge, hcm, fun j hj => ?_, fun j hj => ?_, fun j hj => ?_⟩
    · exact World.frozen?_alloc_at _ _ _ _ rfl
    · show ((w.drew.alloc (Obj.cells C 50)).cell? ⟨w.drew.heap.size, j, none⟩).isSome = true
      rw [World.cell?_alloc_at _ _ _ _ rfl, Array.getElem?_eq_getElem (by omega)]; rfl
    · rw [hl2] at hj
      show (w.drew.alloc (Obj.cells C 50)).cell? ⟨w.drew.heap.size, j, none⟩ = _
      rw [World.cell?_alloc_at _ _ _ _ rfl]; exact hCg j hj
  rcases hown with ⟨rfl, rfl, rfl⟩ | ⟨g, cap, rfl, rfl, hg, h1, h2, h3, h4, h5⟩
  · rcases hr0 with h | h
    · exact absurd rfl h
    · exact grow none 0 (by rw [List.length_nil]; exact run_firstCells_none w.drew _ _ _ _) (by simpa using h)
  · by_cases hroom : ts.length + ks.length ≤ cap
    · have hr := run_append_room_src (P := Tryd.prog) w 29 29 ty 50 i Tryd.underlying29 hi g 0 ts.length cap x ks.length (qcells ks) hs' hroom
        (fun j hj => by rw [hz1]; rw [qcells_len] at hj; exact h4 _ (by omega))
        (fun j hj => by rw [hz1]; rw [qcells_len] at hj; exact h3 _ (by omega))
      rw [hz1, Nat.zero_add] at hr
      refine ⟨_, _, g, hr, .inr ⟨g, cap, rfl, by rw [hl2], ?_, by omega, h2, fun j hj => ?_, fun j hj => ?_, fun j hj => ?_⟩, grow_setCells w g _ _, .inl rfl⟩
      · rw [setCells_size]; exact hg
      · rw [World.frozen?_setCells]; exact h3 j hj
      · exact isSome_setCells g _ _ w _ (h4 j hj)
      · rw [hl2] at hj
        by_cases hj' : j < 3 * ts.length
        · rw [World.cell?_setCells_out g _ _ w _ (fun _ _ => .inl (by show j < ts.length * 3; omega)), h5 j hj', qcells_app, List.getElem?_append_left (by rw [qcells_len]; exact hj')]
        · have hj2 : j - 3 * ts.length < (qcells ks).length := by rw [qcells_len]; omega
          have := World.cell?_setCells_in g (qcells ks) (ts.length * 3) w (fun m hm => h4 _ (by rw [qcells_len] at hm; omega)) (j - 3 * ts.length) hj2
          rw [show ts.length * 3 + (j - 3 * ts.length) = j by omega] at this
          rw [this, qcells_app, List.getElem?_append_right (by rw [qcells_len]; omega), qcells_len, List.getElem?_eq_getElem hj2]
    · refine grow _ cap ?_ (by omega)
      rw [hz1]
      refine run_firstCells_some w.drew 3 ts.length ⟨g, 0, none⟩ _ _ (qcells ts) (by rw [qcells_len]; omega) (fun j u hj => ?_)
      have hjl : j < 3 * ts.length := by
        have := (List.getElem?_eq_some_iff.mp hj).1
        rwa [qcells_len] at this
      rw [WideShapes.add_plain, Nat.zero_add]
      show w.cell? ⟨g, j, none⟩ = some u
      rw [h5 j hjl, hj]

theorem wpList_append_q {ops : Array Oper} {rest : List Oper} {o : Oper} {a : Act} {Q : Exit → Act → World → Prop} (w : World) (hgd : o.guard = none) (s x : Operand)
    (ho : o.op = .call { callee := .builtin .append, args := #[s, x], argTypes := #[29, 29] }) (v xv : Value) (ts : List Pr) (ks : List Pr) (r : Option Nat)
    (hs : a.eval s = v) (hx : a.eval x = xv) (hown : OwnPr w v ts r) (hsrc : Src Tryd.prog 3 29 xv ks.length (qcells ks) w) (hlen : ts.length + ks.length ≤ 8796093022208) (hr0 : r ≠ none ∨ 0 < ks.length)
    (h : ∀ v' w' g, OwnPr w' v' (ts ++ ks) (some g) → w.grownBy w' r → (some g = r ∨ g = w.heap.size) → wpList Tryd.prog ops Q rest (a.put o.dst v') w') : wpList Tryd.prog ops Q (o :: rest) a w :=
  wpList_plain hgd fun _ hK => by
    obtain ⟨v', w', g, hr, h1, h2, h3⟩ := run_append_q w o.type v xv ts ks r hown hsrc hlen hr0
    unfold Oper.wp execOp
    simp only [ho, resolve, invoke, builtin, Sem.run_bind, Sem.run_pure, Result.andThen_ok, List.map_toArray, List.map_cons, List.map_nil, hs, hx, hr]
    exact hK _ _ (h v' w' g h1 h2 h3)
end Go.Proofs.YteekmmgopnnioaaDoor
