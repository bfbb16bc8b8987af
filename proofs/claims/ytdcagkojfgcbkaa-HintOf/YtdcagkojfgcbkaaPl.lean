import Derived.Test.YtdcagkojfgcbkaaOwn
import Derived.Laws.StructEq
import Derived.Deep.DeepAppendWide
/-! Records: in slices that are read, and in rows of the call's own. -/
namespace Go.Proofs.Ytdcagkojfgcbkaa
open Go.RowKit Plain
set_option linter.unusedVariables false

structure Pl where
  k : Int
  o : Int
  t : Int
  p : Int
  q : Int
  key : ByteArray
  val : ByteArray
  pos : Int
  len : Int
def Pl.zero : Pl := ⟨0, 0, 0, 0, 0, ByteArray.empty, ByteArray.empty, 0, 0⟩
def Pl.cells (x : Pl) : List Value := [.int .i64 x.k, .int .i64 x.o, .int .i64 x.t, .int .i64 x.p, .int .i64 x.q, .string x.key, .string x.val, .int .i64 x.pos, .int .i64 x.len]
abbrev Pl.agg (x : Pl) : Value := .agg #[.int .i64 x.k, .int .i64 x.o, .int .i64 x.t, .int .i64 x.p, .int .i64 x.q, .string x.key, .string x.val, .int .i64 x.pos, .int .i64 x.len]
def I64 (z : Int) : Prop := -9223372036854775808 ≤ z ∧ z ≤ 9223372036854775807
structure Pl.Ok (x : Pl) : Prop where
  k : I64 x.k
  o : I64 x.o
  t : I64 x.t
  p : I64 x.p
  q : I64 x.q
  key : x.key.size ≤ maxLen
  val : x.val.size ≤ maxLen
  pos : I64 x.pos
  len : I64 x.len

/-- The cells at a place. -/
structure Pl.CellsAt (w : World) (b o : Nat) (x : Pl) : Prop where
  c0 : w.cell? ⟨b, o, none⟩ = some (.int .i64 x.k)
  c1 : w.cell? ⟨b, o + 1, none⟩ = some (.int .i64 x.o)
  c2 : w.cell? ⟨b, o + 2, none⟩ = some (.int .i64 x.t)
  c3 : w.cell? ⟨b, o + 3, none⟩ = some (.int .i64 x.p)
  c4 : w.cell? ⟨b, o + 4, none⟩ = some (.int .i64 x.q)
  c5 : w.cell? ⟨b, o + 5, none⟩ = some (.string x.key)
  c6 : w.cell? ⟨b, o + 6, none⟩ = some (.string x.val)
  c7 : w.cell? ⟨b, o + 7, none⟩ = some (.int .i64 x.pos)
  c8 : w.cell? ⟨b, o + 8, none⟩ = some (.int .i64 x.len)
theorem Pl.CellsAt.lt {w : World} {b o : Nat} {x : Pl} (h : Pl.CellsAt w b o x) : b < w.heap.size := cell_lt h.c0
theorem Pl.CellsAt.block {w w' : World} {b o : Nat} {x : Pl} (h : Pl.CellsAt w b o x) (e : w'.heap[b]? = w.heap[b]?) : Pl.CellsAt w' b o x := by
  have hc : ∀ j, w'.cell? ⟨b, j, none⟩ = w.cell? ⟨b, j, none⟩ := fun j => World.cell?_of_block (w := w) (a := ⟨b, j, none⟩) e
  exact ⟨by rw [hc]; exact h.c0, by rw [hc]; exact h.c1, by rw [hc]; exact h.c2, by rw [hc]; exact h.c3, by rw [hc]; exact h.c4, by rw [hc]; exact h.c5, by rw [hc]; exact h.c6, by rw [hc]; exact h.c7, by rw [hc]; exact h.c8⟩

/-- v is a slice of records that reads as st. -/
def PlsAt (w : World) (v : Value) (st : List Pl) : Prop :=
  ∃ a cap, v = .slice a st.length cap ∧ st.length ≤ 2199023255000 ∧ (∀ x ∈ st, x.Ok) ∧ (st ≠ [] → ∃ b off, a = some ⟨b, off, none⟩ ∧ ∀ j, j < st.length → Pl.CellsAt w b (off + j * 9) (st.getD j Pl.zero))

theorem PlsAt.later {w w' : World} {v : Value} {st : List Pl} (h : PlsAt w v st) (hb : Below w.heap.size w w') : PlsAt w' v st := by
  obtain ⟨a, cap, e, h1, h2, h3⟩ := h
  refine ⟨a, cap, e, h1, h2, fun hne => ?_⟩
  obtain ⟨b, off, e2, hc⟩ := h3 hne
  exact ⟨b, off, e2, fun j hj => (hc j hj).block (hb.block b (hc j hj).lt)⟩

def pcells (ts : List Pl) : List Value := ts.flatMap Pl.cells
theorem pcells_app (ts ks : List Pl) : pcells (ts ++ ks) = pcells ts ++ pcells ks := by simp [pcells]
theorem pcells_cons (t : Pl) (ts : List Pl) : pcells (t :: ts) = [.int .i64 t.k, .int .i64 t.o, .int .i64 t.t, .int .i64 t.p, .int .i64 t.q, .string t.key, .string t.val, .int .i64 t.pos, .int .i64 t.len] ++ pcells ts := rfl
theorem pcells_len : ∀ (ts : List Pl), (pcells ts).length = 9 * ts.length
  | [] => rfl
  | t :: ts => by
    have := pcells_len ts
    rw [pcells_cons, List.length_append, this]
    simp only [List.length_cons, List.length_nil]
    omega
theorem pcells_get (ts : List Pl) (j i : Nat) (h : j < ts.length) (hi : i < 9) : (pcells ts)[j * 9 + i]? = (ts.getD j Pl.zero).cells[i]? := by
  induction ts generalizing j with
  | nil => simp at h
  | cons t ts ih =>
    cases j with
    | zero =>
      rw [pcells_cons, List.getElem?_append_left (by simp; omega)]
      simp [Pl.cells]
    | succ j =>
      have := ih j (by simpa using h)
      rw [pcells_cons, List.getElem?_append_right (by simp; omega)]
      simpa [show (j + 1) * 9 + i - 9 = j * 9 + i by omega] using this

theorem Try.info32 : (Try.prog.info? 32).map (fun i => (i.zero, i.size, i.bytes)) = some (some Pl.zero.agg, 9, 88) := by kernel_rfl

/-- v is a slice of records of the call's own, in block r. -/
def OwnPl (w : World) (v : Value) (ts : List Pl) (r : Option Nat) : Prop :=
  (v = .slice none 0 0 ∧ ts = [] ∧ r = none) ∨
  ∃ g cap, r = some g ∧ v = .slice (some ⟨g, 0, none⟩) ts.length cap ∧ g < w.heap.size ∧ ts.length ≤ cap ∧ cap ≤ maxLen ∧ (∀ j, j < 9 * cap → w.frozen? ⟨g, j, none⟩ = false) ∧ (∀ j, j < 9 * cap → (w.cell? ⟨g, j, none⟩).isSome = true) ∧
    ∀ j, j < 9 * ts.length → w.cell? ⟨g, j, none⟩ = (pcells ts)[j]?

theorem OwnPl.nil (w : World) : OwnPl w (.slice none 0 0) [] none := .inl ⟨rfl, rfl, rfl⟩

theorem OwnPl.kept {w w' : World} {v : Value} {ts : List Pl} {r r' : Option Nat} (h : OwnPl w v ts r) (k : w.grownBy w' r') (hne : r = none ∨ r ≠ r') : OwnPl w' v ts r := by
  rcases h with h0 | ⟨g, cap, rfl, rfl, hg, h1, h2, h3, h4, h5⟩
  · exact .inl h0
  · have hb : w'.heap[g]? = w.heap[g]? := k.block g hg (by rcases hne with h | h <;> simp_all)
    refine .inr ⟨g, cap, rfl, rfl, Nat.lt_of_lt_of_le hg k.size, h1, h2, fun j hj => ?_, fun j hj => ?_, fun j hj => ?_⟩
    · rw [World.frozen?_of_block (w := w) (a := ⟨g, j, none⟩) hb]; exact h3 j hj
    · rw [World.cell?_of_block (w := w) (a := ⟨g, j, none⟩) hb]; exact h4 j hj
    · rw [World.cell?_of_block (w := w) (a := ⟨g, j, none⟩) hb]; exact h5 j hj
theorem OwnPl.later {w w' : World} {v : Value} {ts : List Pl} {r : Option Nat} (h : OwnPl w v ts r) (k : Below w.heap.size w w') : OwnPl w' v ts r := by
  cases r with
  | none => exact h.kept (below_grow k none) (.inl rfl)
  | some g => exact h.kept (below_grow k none) (.inr (by simp))

theorem OwnPl.lt {w : World} {v : Value} {ts : List Pl} {g : Nat} (h : OwnPl w v ts (some g)) : g < w.heap.size := by
  rcases h with ⟨_, _, h⟩ | ⟨g', cap, e, _, hg, _⟩
  · simp at h
  · simp at e; omega

theorem OwnPl.shape {w : World} {v : Value} {ts : List Pl} {r : Option Nat} (h : OwnPl w v ts r) : ∃ a cap, v = .slice a ts.length cap ∧ cap ≤ maxLen ∧ ts.length ≤ cap := by
  rcases h with ⟨rfl, rfl, h⟩ | ⟨g', cap, e, rfl, hg, h1, h2, _⟩
  · exact ⟨none, 0, rfl, by simp, by simp⟩
  · exact ⟨_, cap, rfl, h2, h1⟩

theorem OwnPl.at {w : World} {v : Value} {ts : List Pl} {g : Nat} (h : OwnPl w v ts (some g)) {j : Nat} (hj : j < ts.length) : Pl.CellsAt w g (j * 9) (ts.getD j Pl.zero) := by
  rcases h with ⟨_, _, h⟩ | ⟨g', cap, e, e2, hg, h1, h2, h3, h4, h5⟩
  · simp at h
  · simp at e; subst e
    have hc : ∀ i, i < 9 → w.cell? ⟨g, j * 9 + i, none⟩ = (ts.getD j Pl.zero).cells[i]? := fun i hi => by rw [h5 _ (by omega)]; exact pcells_get ts j i hj hi
    exact ⟨hc 0 (by decide), hc 1 (by decide), hc 2 (by decide), hc 3 (by decide), hc 4 (by decide), hc 5 (by decide), hc 6 (by decide), hc 7 (by decide), hc 8 (by decide)⟩

theorem OwnPl.recs {w : World} {v : Value} {ts : List Pl} {r : Option Nat} (h : OwnPl w v ts r) (hl : ts.length ≤ 2199023255000) (hok : ∀ x ∈ ts, x.Ok) : PlsAt w v ts := by
  have h' := h
  rcases h with ⟨rfl, rfl, rfl⟩ | ⟨g, cap, rfl, rfl, hg, h1, h2, h3, h4, h5⟩
  · exact ⟨none, 0, rfl, by simp, by simp, by simp⟩
  · refine ⟨_, cap, rfl, hl, hok, fun _ => ⟨g, 0, rfl, fun j hj => ?_⟩⟩
    rw [Nat.zero_add]
    exact h'.at hj

theorem zcells9p : Pl.zero.agg.cells.size = 9 := by rfl

/-- WHAT append DOES of records. -/
theorem run_append_p (w : World) (ty : TypeId) (v x : Value) (ts : List Pl) (ks : List Pl) (r : Option Nat) (hown : OwnPl w v ts r) (hs : Src Try.prog 9 22 x ks.length (pcells ks) w) (hlen : ts.length + ks.length ≤ 2199023255552) (hr0 : r ≠ none ∨ 0 < ks.length) :
    ∃ v' w' g, (Builtin.append_ #[22, 22] ty #[v, x]).run Try.prog w = .ok v' w' ∧ OwnPl w' v' (ts ++ ks) (some g) ∧ w.grownBy w' r ∧ (some g = r ∨ g = w.heap.size) := by
  obtain ⟨i, hi, hz0, hz1, hz2⟩ := info_parts Try.info32
  have hs' : Src Try.prog i.size 22 x ks.length (pcells ks) w := by rw [hz1]; exact hs
  have hl2 : (ts ++ ks).length = ts.length + ks.length := by simp
  have grow : ∀ (base : Option Addr) (sCap : Nat), (Builtin.firstCells i.size ts.length (.slice base ts.length sCap)).run Try.prog w.drew = .ok (pcells ts).toArray w.drew → sCap < ts.length + ks.length →
      ∃ v' w' g, (Builtin.append_ #[22, 22] ty #[.slice base ts.length sCap, x]).run Try.prog w = .ok v' w' ∧ OwnPl w' v' (ts ++ ks) (some g) ∧ w.grownBy w' r ∧ (some g = r ∨ g = w.heap.size) := by
    intro base sCap hold hg
    have hr := run_append_grow_src (P := Try.prog) w 22 22 ty 32 i _ Try.underlying22 hi hz0 base ts.length sCap (pcells ts) hold x ks.length (pcells ks) hs' hg (by omega) (by rw [hz2]; exact growslice_fits_wide hg (by omega))
    have hge := grownCap_ge w (ts.length + ks.length) sCap 32
    have hcm := grownCap_le_maxLen w (ts.length + ks.length) sCap 32 (by unfold maxLen; omega)
    refine ⟨_, _, w.heap.size, hr, ?_, ⟨rfl, rfl, rfl, by simp, fun k hk _ => heap_alloc_old w.drew _ hk⟩, .inr rfl⟩
    obtain ⟨C, hC⟩ : ∃ C, (pcells ts ++ (pcells ks)).toArray ++ Builtin.zeroCells Pl.zero.agg.cells (grownCap w (ts.length + ks.length) sCap 32 - (ts.length + ks.length)) = C := ⟨_, rfl⟩
    have hCs : C.size = 9 * grownCap w (ts.length + ks.length) sCap 32 := by
      rw [← hC, Array.size_append, List.size_toArray, size_zeroCells, zcells9p, List.length_append, pcells_len, pcells_len]
      omega
    have hCg : ∀ j, j < 9 * (ts.length + ks.length) → C[j]? = (pcells (ts ++ ks))[j]? := fun j hj => by
      rw [← hC, Array.getElem?_append_left (by rw [List.size_toArray, List.length_append, pcells_len, pcells_len]; omega), List.getElem?_toArray, pcells_app]
    rw [hC]
    refine .inr ⟨w.heap.size, grownCap w (ts.length + ks.length) sCap 32, rfl, by rw [hl2], by simp, by rw [hl2]; exact hge, hcm, fun j hj => ?_, fun j hj => ?_, fun j hj => ?_⟩
    · exact World.frozen?_alloc_at _ _ _ _ rfl
    · show ((w.drew.alloc (Obj.cells C 32)).cell? ⟨w.drew.heap.size, j, none⟩).isSome = true
      rw [World.cell?_alloc_at _ _ _ _ rfl, Array.getElem?_eq_getElem (by omega)]; rfl
    · rw [hl2] at hj
      show (w.drew.alloc (Obj.cells C 32)).cell? ⟨w.drew.heap.size, j, none⟩ = _
      rw [World.cell?_alloc_at _ _ _ _ rfl]; exact hCg j hj
  rcases hown with ⟨rfl, rfl, rfl⟩ | ⟨g, cap, rfl, rfl, hg, h1, h2, h3, h4, h5⟩
  · rcases hr0 with h | h
    · exact absurd rfl h
    · exact grow none 0 (by rw [List.length_nil]; exact run_firstCells_none w.drew _ _ _ _) (by simpa using h)
  · by_cases hroom : ts.length + ks.length ≤ cap
    · have hr := run_append_room_src (P := Try.prog) w 22 22 ty 32 i Try.underlying22 hi g 0 ts.length cap x ks.length (pcells ks) hs' hroom
        (fun j hj => by rw [hz1]; rw [pcells_len] at hj; exact h4 _ (by omega))
        (fun j hj => by rw [hz1]; rw [pcells_len] at hj; exact h3 _ (by omega))
      rw [hz1, Nat.zero_add] at hr
      refine ⟨_, _, g, hr, .inr ⟨g, cap, rfl, by rw [hl2], ?_, by omega, h2, fun j hj => ?_, fun j hj => ?_, fun j hj => ?_⟩, grow_setCells w g _ _, .inl rfl⟩
      · rw [setCells_size]; exact hg
      · rw [World.frozen?_setCells]; exact h3 j hj
      · exact isSome_setCells g _ _ w _ (h4 j hj)
      · rw [hl2] at hj
        by_cases hj' : j < 9 * ts.length
        · rw [World.cell?_setCells_out g _ _ w _ (fun _ _ => .inl (by show j < ts.length * 9; omega)), h5 j hj', pcells_app, List.getElem?_append_left (by rw [pcells_len]; exact hj')]
        · have hj2 : j - 9 * ts.length < (pcells ks).length := by rw [pcells_len]; omega
          have := World.cell?_setCells_in g (pcells ks) (ts.length * 9) w (fun m hm => h4 _ (by rw [pcells_len] at hm; omega)) (j - 9 * ts.length) hj2
          rw [show ts.length * 9 + (j - 9 * ts.length) = j by omega] at this
          rw [this, pcells_app, List.getElem?_append_right (by rw [pcells_len]; omega), pcells_len, List.getElem?_eq_getElem hj2]
    · refine grow _ cap ?_ (by omega)
      rw [hz1]
      refine run_firstCells_some w.drew 9 ts.length ⟨g, 0, none⟩ _ _ (pcells ts) (by rw [pcells_len]; omega) (fun j u hj => ?_)
      have hjl : j < 9 * ts.length := by
        have := (List.getElem?_eq_some_iff.mp hj).1
        rwa [pcells_len] at this
      rw [WideShapes.add_plain, Nat.zero_add]
      show w.cell? ⟨g, j, none⟩ = some u
      rw [h5 j hjl, hj]

theorem wpList_append_p {ops : Array Oper} {rest : List Oper} {o : Oper} {a : Act} {Q : Exit → Act → World → Prop} (w : World) (hgd : o.guard = none) (s x : Operand)
    (ho : o.op = .call { callee := .builtin .append, args := #[s, x], argTypes := #[22, 22] }) (v xv : Value) (ts : List Pl) (ks : List Pl) (r : Option Nat)
    (hs : a.eval s = v) (hx : a.eval x = xv) (hown : OwnPl w v ts r) (hsrc : Src Try.prog 9 22 xv ks.length (pcells ks) w) (hlen : ts.length + ks.length ≤ 2199023255552) (hr0 : r ≠ none ∨ 0 < ks.length)
    (h : ∀ v' w' g, OwnPl w' v' (ts ++ ks) (some g) → w.grownBy w' r → (some g = r ∨ g = w.heap.size) → wpList Try.prog ops Q rest (a.put o.dst v') w') : wpList Try.prog ops Q (o :: rest) a w :=
  wpList_plain hgd fun _ hK => by
    obtain ⟨v', w', g, hr, h1, h2, h3⟩ := run_append_p w o.type v xv ts ks r hown hsrc hlen hr0
    unfold Oper.wp execOp
    simp only [ho, resolve, invoke, builtin, Sem.run_bind, Sem.run_pure, Result.andThen_ok, List.map_toArray, List.map_cons, List.map_nil, hs, hx, hr]
    exact hK _ _ (h v' w' g h1 h2 h3)
end Go.Proofs.Ytdcagkojfgcbkaa
