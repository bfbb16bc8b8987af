import Derived.Test.YtpclicimakgpdaaOwn
import Derived.Laws.StructEq
import Derived.Deep.DeepAppendWide
/-! Records: in slices that are read, and in rows of the call's own. -/
namespace Go.Proofs.Ytpclicimakgpdaa
open Go.RowKit Plain
set_option linter.unusedVariables false

structure Rc where
  k : Int
  o : Int
  t : Int
  p : Int
  q : Int
  key : ByteArray
  val : ByteArray
def Rc.none : Rc := ⟨0, 0, 0, 0, 0, ByteArray.empty, ByteArray.empty⟩
def Rc.cells (x : Rc) : List Value := [.int .i64 x.k, .int .i64 x.o, .int .i64 x.t, .int .i64 x.p, .int .i64 x.q, .string x.key, .string x.val]
abbrev Rc.agg (x : Rc) : Value := .agg #[.int .i64 x.k, .int .i64 x.o, .int .i64 x.t, .int .i64 x.p, .int .i64 x.q, .string x.key, .string x.val]
def I64 (z : Int) : Prop := -9223372036854775808 ≤ z ∧ z ≤ 9223372036854775807
/-- Its numbers are numbers of the machine, its texts texts. -/
structure Rc.Ok (x : Rc) : Prop where
  k : I64 x.k
  o : I64 x.o
  t : I64 x.t
  p : I64 x.p
  q : I64 x.q
  key : x.key.size ≤ maxLen
  val : x.val.size ≤ maxLen

/-- The seven cells at a place. -/
structure CellsAt (w : World) (b o : Nat) (x : Rc) : Prop where
  c0 : w.cell? ⟨b, o, none⟩ = some (.int .i64 x.k)
  c1 : w.cell? ⟨b, o + 1, none⟩ = some (.int .i64 x.o)
  c2 : w.cell? ⟨b, o + 2, none⟩ = some (.int .i64 x.t)
  c3 : w.cell? ⟨b, o + 3, none⟩ = some (.int .i64 x.p)
  c4 : w.cell? ⟨b, o + 4, none⟩ = some (.int .i64 x.q)
  c5 : w.cell? ⟨b, o + 5, none⟩ = some (.string x.key)
  c6 : w.cell? ⟨b, o + 6, none⟩ = some (.string x.val)
theorem CellsAt.lt {w : World} {b o : Nat} {x : Rc} (h : CellsAt w b o x) : b < w.heap.size := cell_lt h.c0
theorem CellsAt.block {w w' : World} {b o : Nat} {x : Rc} (h : CellsAt w b o x) (e : w'.heap[b]? = w.heap[b]?) : CellsAt w' b o x := by
  have hc : ∀ j, w'.cell? ⟨b, j, none⟩ = w.cell? ⟨b, j, none⟩ := fun j => World.cell?_of_block (w := w) (a := ⟨b, j, none⟩) e
  exact ⟨by rw [hc]; exact h.c0, by rw [hc]; exact h.c1, by rw [hc]; exact h.c2, by rw [hc]; exact h.c3, by rw [hc]; exact h.c4, by rw [hc]; exact h.c5, by rw [hc]; exact h.c6⟩

/-- v is a slice of records that reads as st. -/
def RecsAt (w : World) (v : Value) (st : List Rc) : Prop :=
  ∃ a cap, v = .slice a st.length cap ∧ st.length ≤ 2199023255000 ∧ (∀ x ∈ st, x.Ok) ∧ (st ≠ [] → ∃ b off, a = some ⟨b, off, none⟩ ∧ ∀ j, j < st.length → CellsAt w b (off + j * 7) (st.getD j Rc.none))

theorem RecsAt.later {w w' : World} {v : Value} {st : List Rc} (h : RecsAt w v st) (hb : Below w.heap.size w w') : RecsAt w' v st := by
  obtain ⟨a, cap, e, h1, h2, h3⟩ := h
  refine ⟨a, cap, e, h1, h2, fun hne => ?_⟩
  obtain ⟨b, off, e2, hc⟩ := h3 hne
  exact ⟨b, off, e2, fun j hj => (hc j hj).block (hb.block b (hc j hj).lt)⟩

def rcells (ts : List Rc) : List Value := ts.flatMap Rc.cells
theorem rcells_app (ts ks : List Rc) : rcells (ts ++ ks) = rcells ts ++ rcells ks := by simp [rcells]
theorem rcells_cons (t : Rc) (ts : List Rc) : rcells (t :: ts) = [.int .i64 t.k, .int .i64 t.o, .int .i64 t.t, .int .i64 t.p, .int .i64 t.q, .string t.key, .string t.val] ++ rcells ts := rfl
theorem rcells_len : ∀ (ts : List Rc), (rcells ts).length = 7 * ts.length
  | [] => rfl
  | t :: ts => by
    have := rcells_len ts
    rw [rcells_cons, List.length_append, this]
    simp only [List.length_cons, List.length_nil]
    omega
theorem rcells_get (ts : List Rc) (j i : Nat) (h : j < ts.length) (hi : i < 7) : (rcells ts)[j * 7 + i]? = (ts.getD j Rc.none).cells[i]? := by
  induction ts generalizing j with
  | nil => simp at h
  | cons t ts ih =>
    cases j with
    | zero =>
      rw [rcells_cons, List.getElem?_append_left (by simp; omega)]
      simp [Rc.cells]
    | succ j =>
      have := ih j (by simpa using h)
      rw [rcells_cons, List.getElem?_append_right (by simp; omega)]
      simpa [show (j + 1) * 7 + i - 7 = j * 7 + i by omega] using this

theorem Try.info31 : (Try.prog.info? 31).map (fun i => (i.zero, i.size, i.bytes)) = some (some Rc.none.agg, 7, 72) := by kernel_rfl

/-- v is a slice of records of the call's own, in block r. -/
def OwnR (w : World) (v : Value) (ts : List Rc) (r : Option Nat) : Prop :=
  (v = .slice none 0 0 ∧ ts = [] ∧ r = none) ∨
  ∃ g cap, r = some g ∧ v = .slice (some ⟨g, 0, none⟩) ts.length cap ∧ g < w.heap.size ∧ ts.length ≤ cap ∧ cap ≤ maxLen ∧ (∀ j, j < 7 * cap → w.frozen? ⟨g, j, none⟩ = false) ∧ (∀ j, j < 7 * cap → (w.cell? ⟨g, j, none⟩).isSome = true) ∧
    ∀ j, j < 7 * ts.length → w.cell? ⟨g, j, none⟩ = (rcells ts)[j]?

theorem OwnR.nil (w : World) : OwnR w (.slice none 0 0) [] none := .inl ⟨rfl, rfl, rfl⟩

theorem OwnR.kept {w w' : World} {v : Value} {ts : List Rc} {r r' : Option Nat} (h : OwnR w v ts r) (k : w.grownBy w' r') (hne : r = none ∨ r ≠ r') : OwnR w' v ts r := by
  rcases h with h0 | ⟨g, cap, rfl, rfl, hg, h1, h2, h3, h4, h5⟩
  · exact .inl h0
  · have hb : w'.heap[g]? = w.heap[g]? := k.block g hg (by rcases hne with h | h <;> simp_all)
    refine .inr ⟨g, cap, rfl, rfl, Nat.lt_of_lt_of_le hg k.size, h1, h2, fun j hj => ?_, fun j hj => ?_, fun j hj => ?_⟩
    · rw [World.frozen?_of_block (w := w) (a := ⟨g, j, none⟩) hb]; exact h3 j hj
    · rw [World.cell?_of_block (w := w) (a := ⟨g, j, none⟩) hb]; exact h4 j hj
    · rw [World.cell?_of_block (w := w) (a := ⟨g, j, none⟩) hb]; exact h5 j hj
theorem OwnR.later {w w' : World} {v : Value} {ts : List Rc} {r : Option Nat} (h : OwnR w v ts r) (k : Below w.heap.size w w') : OwnR w' v ts r := by
  cases r with
  | none => exact h.kept (below_grow k none) (.inl rfl)
  | some g => exact h.kept (below_grow k none) (.inr (by simp))

theorem OwnR.lt {w : World} {v : Value} {ts : List Rc} {g : Nat} (h : OwnR w v ts (some g)) : g < w.heap.size := by
  rcases h with ⟨_, _, h⟩ | ⟨g', cap, e, _, hg, _⟩
  · simp at h
  · simp at e; omega

theorem OwnR.shape {w : World} {v : Value} {ts : List Rc} {r : Option Nat} (h : OwnR w v ts r) : ∃ a cap, v = .slice a ts.length cap ∧ cap ≤ maxLen ∧ ts.length ≤ cap := by
  rcases h with ⟨rfl, rfl, h⟩ | ⟨g', cap, e, rfl, hg, h1, h2, _⟩
  · exact ⟨none, 0, rfl, by simp, by simp⟩
  · exact ⟨_, cap, rfl, h2, h1⟩

theorem OwnR.at {w : World} {v : Value} {ts : List Rc} {g : Nat} (h : OwnR w v ts (some g)) {j : Nat} (hj : j < ts.length) : CellsAt w g (j * 7) (ts.getD j Rc.none) := by
  rcases h with ⟨_, _, h⟩ | ⟨g', cap, e, e2, hg, h1, h2, h3, h4, h5⟩
  · simp at h
  · simp at e; subst e
    have hc : ∀ i, i < 7 → w.cell? ⟨g, j * 7 + i, none⟩ = (ts.getD j Rc.none).cells[i]? := fun i hi => by rw [h5 _ (by omega)]; exact rcells_get ts j i hj hi
    exact ⟨hc 0 (by decide), hc 1 (by decide), hc 2 (by decide), hc 3 (by decide), hc 4 (by decide), hc 5 (by decide), hc 6 (by decide)⟩

theorem OwnR.recs {w : World} {v : Value} {ts : List Rc} {r : Option Nat} (h : OwnR w v ts r) (hl : ts.length ≤ 2199023255000) (hok : ∀ x ∈ ts, x.Ok) : RecsAt w v ts := by
  have h' := h
  rcases h with ⟨rfl, rfl, rfl⟩ | ⟨g, cap, rfl, rfl, hg, h1, h2, h3, h4, h5⟩
  · exact ⟨none, 0, rfl, by simp, by simp, by simp⟩
  · refine ⟨_, cap, rfl, hl, hok, fun _ => ⟨g, 0, rfl, fun j hj => ?_⟩⟩
    rw [Nat.zero_add]
    exact h'.at hj

theorem zcells7 : Rc.none.agg.cells.size = 7 := by rfl

/-- WHAT append DOES of records. -/
theorem run_append_recs (w : World) (ty : TypeId) (v x : Value) (ts : List Rc) (ks : List Rc) (r : Option Nat) (hown : OwnR w v ts r) (hs : Src Try.prog 7 23 x ks.length (rcells ks) w) (hlen : ts.length + ks.length ≤ 2199023255552) (hr0 : r ≠ none ∨ 0 < ks.length) :
    ∃ v' w' g, (Builtin.append_ #[23, 23] ty #[v, x]).run Try.prog w = .ok v' w' ∧ OwnR w' v' (ts ++ ks) (some g) ∧ w.grownBy w' r ∧ (some g = r ∨ g = w.heap.size) := by
  obtain ⟨i, hi, hz0, hz1, hz2⟩ := info_parts Try.info31
  have hs' : Src Try.prog i.size 23 x ks.length (rcells ks) w := by rw [hz1]; exact hs
  have hl2 : (ts ++ ks).length = ts.length + ks.length := by simp
  have grow : ∀ (base : Option Addr) (sCap : Nat), (Builtin.firstCells i.size ts.length (.slice base ts.length sCap)).run Try.prog w.drew = .ok (rcells ts).toArray w.drew → sCap < ts.length + ks.length →
      ∃ v' w' g, (Builtin.append_ #[23, 23] ty #[.slice base ts.length sCap, x]).run Try.prog w = .ok v' w' ∧ OwnR w' v' (ts ++ ks) (some g) ∧ w.grownBy w' r ∧ (some g = r ∨ g = w.heap.size) := by
    intro base sCap hold hg
    have hr := run_append_grow_src (P := Try.prog) w 23 23 ty 31 i _ Try.underlying23 hi hz0 base ts.length sCap (rcells ts) hold x ks.length (rcells ks) hs' hg (by omega) (by rw [hz2]; exact growslice_fits_wide hg (by omega))
    have hge := grownCap_ge w (ts.length + ks.length) sCap 31
    have hcm := grownCap_le_maxLen w (ts.length + ks.length) sCap 31 (by unfold maxLen; omega)
    refine ⟨_, _, w.heap.size, hr, ?_, ⟨rfl, rfl, rfl, by simp, fun k hk _ => heap_alloc_old w.drew _ hk⟩, .inr rfl⟩
    obtain ⟨C, hC⟩ : ∃ C, (rcells ts ++ (rcells ks)).toArray ++ Builtin.zeroCells Rc.none.agg.cells (grownCap w (ts.length + ks.length) sCap 31 - (ts.length + ks.length)) = C := ⟨_, rfl⟩
    have hCs : C.size = 7 * grownCap w (ts.length + ks.length) sCap 31 := by
      rw [← hC, Array.size_append, List.size_toArray, size_zeroCells, zcells7, List.length_append, rcells_len, rcells_len]
      omega
    have hCg : ∀ j, j < 7 * (ts.length + ks.length) → C[j]? = (rcells (ts ++ ks))[j]? := fun j hj => by
      rw [← hC, Array.getElem?_append_left (by rw [List.size_toArray, List.length_append, rcells_len, rcells_len]; omega), List.getElem?_toArray, rcells_app]
    rw [hC]
    refine .inr ⟨w.heap.size, grownCap w (ts.length + ks.length) sCap 31, rfl, by rw [hl2], by simp, by rw [hl2]; exact hge, hcm, fun j hj => ?_, fun j hj => ?_, fun j hj => ?_⟩
    · exact World.frozen?_alloc_at _ _ _ _ rfl
    · show ((w.drew.alloc (Obj.cells C 31)).cell? ⟨w.drew.heap.size, j, none⟩).isSome = true
      rw [World.cell?_alloc_at _ _ _ _ rfl, Array.getElem?_eq_getElem (by omega)]; rfl
    · rw [hl2] at hj
      show (w.drew.alloc (Obj.cells C 31)).cell? ⟨w.drew.heap.size, j, none⟩ = _
      rw [World.cell?_alloc_at _ _ _ _ rfl]; exact hCg j hj
  rcases hown with ⟨rfl, rfl, rfl⟩ | ⟨g, cap, rfl, rfl, hg, h1, h2, h3, h4, h5⟩
  · rcases hr0 with h | h
    · exact absurd rfl h
    · exact grow none 0 (by rw [List.length_nil]; exact run_firstCells_none w.drew _ _ _ _) (by simpa using h)
  · by_cases hroom : ts.length + ks.length ≤ cap
    · have hr := run_append_room_src (P := Try.prog) w 23 23 ty 31 i Try.underlying23 hi g 0 ts.length cap x ks.length (rcells ks) hs' hroom
        (fun j hj => by rw [hz1]; rw [rcells_len] at hj; exact h4 _ (by omega))
        (fun j hj => by rw [hz1]; rw [rcells_len] at hj; exact h3 _ (by omega))
      rw [hz1, Nat.zero_add] at hr
      refine ⟨_, _, g, hr, .inr ⟨g, cap, rfl, by rw [hl2], ?_, by omega, h2, fun j hj => ?_, fun j hj => ?_, fun j hj => ?_⟩, grow_setCells w g _ _, .inl rfl⟩
      · rw [setCells_size]; exact hg
      · rw [World.frozen?_setCells]; exact h3 j hj
      · exact isSome_setCells g _ _ w _ (h4 j hj)
      · rw [hl2] at hj
        by_cases hj' : j < 7 * ts.length
        · rw [World.cell?_setCells_out g _ _ w _ (fun _ _ => .inl (by show j < ts.length * 7; omega)), h5 j hj', rcells_app, List.getElem?_append_left (by rw [rcells_len]; exact hj')]
        · have hj2 : j - 7 * ts.length < (rcells ks).length := by rw [rcells_len]; omega
          have := World.cell?_setCells_in g (rcells ks) (ts.length * 7) w (fun m hm => h4 _ (by rw [rcells_len] at hm; omega)) (j - 7 * ts.length) hj2
          rw [show ts.length * 7 + (j - 7 * ts.length) = j by omega] at this
          rw [this, rcells_app, List.getElem?_append_right (by rw [rcells_len]; omega), rcells_len, List.getElem?_eq_getElem hj2]
    · refine grow _ cap ?_ (by omega)
      rw [hz1]
      refine run_firstCells_some w.drew 7 ts.length ⟨g, 0, none⟩ _ _ (rcells ts) (by rw [rcells_len]; omega) (fun j u hj => ?_)
      have hjl : j < 7 * ts.length := by
        have := (List.getElem?_eq_some_iff.mp hj).1
        rwa [rcells_len] at this
      rw [WideShapes.add_plain, Nat.zero_add]
      show w.cell? ⟨g, j, none⟩ = some u
      rw [h5 j hjl, hj]

theorem wpList_append_recs {ops : Array Oper} {rest : List Oper} {o : Oper} {a : Act} {Q : Exit → Act → World → Prop} (w : World) (hgd : o.guard = none) (s x : Operand)
    (ho : o.op = .call { callee := .builtin .append, args := #[s, x], argTypes := #[23, 23] }) (v xv : Value) (ts : List Rc) (ks : List Rc) (r : Option Nat)
    (hs : a.eval s = v) (hx : a.eval x = xv) (hown : OwnR w v ts r) (hsrc : Src Try.prog 7 23 xv ks.length (rcells ks) w) (hlen : ts.length + ks.length ≤ 2199023255552) (hr0 : r ≠ none ∨ 0 < ks.length)
    (h : ∀ v' w' g, OwnR w' v' (ts ++ ks) (some g) → w.grownBy w' r → (some g = r ∨ g = w.heap.size) → wpList Try.prog ops Q rest (a.put o.dst v') w') : wpList Try.prog ops Q (o :: rest) a w :=
  wpList_plain hgd fun _ hK => by
    obtain ⟨v', w', g, hr, h1, h2, h3⟩ := run_append_recs w o.type v xv ts ks r hown hsrc hlen hr0
    unfold Oper.wp execOp
    simp only [ho, resolve, invoke, builtin, Sem.run_bind, Sem.run_pure, Result.andThen_ok, List.map_toArray, List.map_cons, List.map_nil, hs, hx, hr]
    exact hK _ _ (h v' w' g h1 h2 h3)
end Go.Proofs.Ytpclicimakgpdaa
