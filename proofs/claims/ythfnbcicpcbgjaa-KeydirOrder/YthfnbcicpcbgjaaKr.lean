import Derived.Test.YthfnbcicpcbgjaaOwn
import Derived.Test.YthfnbcicpcbgjaaKta
import Derived.Laws.StructEq
import Derived.Deep.DeepAppendWide
/-! Records: in slices that are read, and in rows of the call's own. -/
namespace Go.Proofs.Ythfnbcicpcbgjaa
open Go.RowKit Plain
set_option linter.unusedVariables false

structure Kr where
  key : ByteArray
  seg : Int
  pos : Int
  size : Int
  off : Int
  time : Int
  tomb : Bool
def Kr.zero : Kr := ⟨ByteArray.empty, 0, 0, 0, 0, 0, false⟩
def Kr.cells (x : Kr) : List Value := [.string x.key, .int .i64 x.seg, .int .i64 x.pos, .int .i64 x.size, .int .i64 x.off, .int .i64 x.time, .bool x.tomb]
abbrev Kr.agg (x : Kr) : Value := .agg #[.string x.key, .int .i64 x.seg, .int .i64 x.pos, .int .i64 x.size, .int .i64 x.off, .int .i64 x.time, .bool x.tomb]
def I64 (z : Int) : Prop := -9223372036854775808 ≤ z ∧ z ≤ 9223372036854775807
structure Kr.Ok (x : Kr) : Prop where
  key : x.key.size ≤ maxLen
  seg : I64 x.seg
  pos : I64 x.pos
  size : I64 x.size
  off : I64 x.off
  time : I64 x.time
  tomb : True

/-- The cells at a place. -/
structure Kr.CellsAt (w : World) (b o : Nat) (x : Kr) : Prop where
  c0 : w.cell? ⟨b, o, none⟩ = some (.string x.key)
  c1 : w.cell? ⟨b, o + 1, none⟩ = some (.int .i64 x.seg)
  c2 : w.cell? ⟨b, o + 2, none⟩ = some (.int .i64 x.pos)
  c3 : w.cell? ⟨b, o + 3, none⟩ = some (.int .i64 x.size)
  c4 : w.cell? ⟨b, o + 4, none⟩ = some (.int .i64 x.off)
  c5 : w.cell? ⟨b, o + 5, none⟩ = some (.int .i64 x.time)
  c6 : w.cell? ⟨b, o + 6, none⟩ = some (.bool x.tomb)
theorem Kr.CellsAt.lt {w : World} {b o : Nat} {x : Kr} (h : Kr.CellsAt w b o x) : b < w.heap.size := cell_lt h.c0
theorem Kr.CellsAt.block {w w' : World} {b o : Nat} {x : Kr} (h : Kr.CellsAt w b o x) (e : w'.heap[b]? = w.heap[b]?) : Kr.CellsAt w' b o x := by
  have hc : ∀ j, w'.cell? ⟨b, j, none⟩ = w.cell? ⟨b, j, none⟩ := fun j => World.cell?_of_block (w := w) (a := ⟨b, j, none⟩) e
  exact ⟨by rw [hc]; exact h.c0, by rw [hc]; exact h.c1, by rw [hc]; exact h.c2, by rw [hc]; exact h.c3, by rw [hc]; exact h.c4, by rw [hc]; exact h.c5, by rw [hc]; exact h.c6⟩

/-- v is a slice of records that reads as st. -/
def KrsAt (w : World) (v : Value) (st : List Kr) : Prop :=
  ∃ a cap, v = .slice a st.length cap ∧ st.length ≤ 2199023255500 ∧ (∀ x ∈ st, x.Ok) ∧ (st ≠ [] → ∃ b off, a = some ⟨b, off, none⟩ ∧ ∀ j, j < st.length → Kr.CellsAt w b (off + j * 7) (st.getD j Kr.zero))

theorem KrsAt.later {w w' : World} {v : Value} {st : List Kr} (h : KrsAt w v st) (hb : Below w.heap.size w w') : KrsAt w' v st := by
  obtain ⟨a, cap, e, h1, h2, h3⟩ := h
  refine ⟨a, cap, e, h1, h2, fun hne => ?_⟩
  obtain ⟨b, off, e2, hc⟩ := h3 hne
  exact ⟨b, off, e2, fun j hj => (hc j hj).block (hb.block b (hc j hj).lt)⟩

def kcells (ts : List Kr) : List Value := ts.flatMap Kr.cells
theorem kcells_app (ts ks : List Kr) : kcells (ts ++ ks) = kcells ts ++ kcells ks := by simp [kcells]
theorem kcells_cons (t : Kr) (ts : List Kr) : kcells (t :: ts) = [.string t.key, .int .i64 t.seg, .int .i64 t.pos, .int .i64 t.size, .int .i64 t.off, .int .i64 t.time, .bool t.tomb] ++ kcells ts := rfl
theorem kcells_len : ∀ (ts : List Kr), (kcells ts).length = 7 * ts.length
  | [] => rfl
  | t :: ts => by
    have := kcells_len ts
    rw [kcells_cons, List.length_append, this]
    simp only [List.length_cons, List.length_nil]
    omega
theorem kcells_get (ts : List Kr) (j i : Nat) (h : j < ts.length) (hi : i < 7) : (kcells ts)[j * 7 + i]? = (ts.getD j Kr.zero).cells[i]? := by
  induction ts generalizing j with
  | nil => simp at h
  | cons t ts ih =>
    cases j with
    | zero =>
      rw [kcells_cons, List.getElem?_append_left (by simp; omega)]
      simp [Kr.cells]
    | succ j =>
      have := ih j (by simpa using h)
      rw [kcells_cons, List.getElem?_append_right (by simp; omega)]
      simpa [show (j + 1) * 7 + i - 7 = j * 7 + i by omega] using this

theorem Try.info28 : (Try.prog.info? 28).map (fun i => (i.zero, i.size, i.bytes)) = some (some Kr.zero.agg, 7, 64) := by kernel_rfl

/-- v is a slice of records of the call's own, in block r. -/
def OwnKr (w : World) (v : Value) (ts : List Kr) (r : Option Nat) : Prop :=
  (v = .slice none 0 0 ∧ ts = [] ∧ r = none) ∨
  ∃ g cap, r = some g ∧ v = .slice (some ⟨g, 0, none⟩) ts.length cap ∧ g < w.heap.size ∧ ts.length ≤ cap ∧ cap ≤ maxLen ∧ (∀ j, j < 7 * cap → w.frozen? ⟨g, j, none⟩ = false) ∧ (∀ j, j < 7 * cap → (w.cell? ⟨g, j, none⟩).isSome = true) ∧
    ∀ j, j < 7 * ts.length → w.cell? ⟨g, j, none⟩ = (kcells ts)[j]?

theorem OwnKr.nil (w : World) : OwnKr w (.slice none 0 0) [] none := .inl ⟨rfl, rfl, rfl⟩

theorem OwnKr.kept {w w' : World} {v : Value} {ts : List Kr} {r r' : Option Nat} (h : OwnKr w v ts r) (k : w.grownBy w' r') (hne : r = none ∨ r ≠ r') : OwnKr w' v ts r := by
  rcases h with h0 | ⟨g, cap, rfl, rfl, hg, h1, h2, h3, h4, h5⟩
  · exact .inl h0
  · have hb : w'.heap[g]? = w.heap[g]? := k.block g hg (by rcases hne with h | h <;> simp_all)
    refine .inr ⟨g, cap, rfl, rfl, Nat.lt_of_lt_of_le hg k.size, h1, h2, fun j hj => ?_, fun j hj => ?_, fun j hj => ?_⟩
    · rw [World.frozen?_of_block (w := w) (a := ⟨g, j, none⟩) hb]; exact h3 j hj
    · rw [World.cell?_of_block (w := w) (a := ⟨g, j, none⟩) hb]; exact h4 j hj
    · rw [World.cell?_of_block (w := w) (a := ⟨g, j, none⟩) hb]; exact h5 j hj
theorem OwnKr.later {w w' : World} {v : Value} {ts : List Kr} {r : Option Nat} (h : OwnKr w v ts r) (k : Below w.heap.size w w') : OwnKr w' v ts r := by
  cases r with
  | none => exact h.kept (below_grow k none) (.inl rfl)
  | some g => exact h.kept (below_grow k none) (.inr (by simp))

theorem OwnKr.lt {w : World} {v : Value} {ts : List Kr} {g : Nat} (h : OwnKr w v ts (some g)) : g < w.heap.size := by
  rcases h with ⟨_, _, h⟩ | ⟨g', cap, e, _, hg, _⟩
  · simp at h
  · simp at e; omega

theorem OwnKr.shape {w : World} {v : Value} {ts : List Kr} {r : Option Nat} (h : OwnKr w v ts r) : ∃ a cap, v = .slice a ts.length cap ∧ cap ≤ maxLen ∧ ts.length ≤ cap := by
  rcases h with ⟨rfl, rfl, h⟩ | ⟨g', cap, e, rfl, hg, h1, h2, _⟩
  · exact ⟨none, 0, rfl, by simp, by simp⟩
  · exact ⟨_, cap, rfl, h2, h1⟩

theorem OwnKr.at {w : World} {v : Value} {ts : List Kr} {g : Nat} (h : OwnKr w v ts (some g)) {j : Nat} (hj : j < ts.length) : Kr.CellsAt w g (j * 7) (ts.getD j Kr.zero) := by
  rcases h with ⟨_, _, h⟩ | ⟨g', cap, e, e2, hg, h1, h2, h3, h4, h5⟩
  · simp at h
  · simp at e; subst e
    have hc : ∀ i, i < 7 → w.cell? ⟨g, j * 7 + i, none⟩ = (ts.getD j Kr.zero).cells[i]? := fun i hi => by rw [h5 _ (by omega)]; exact kcells_get ts j i hj hi
    exact ⟨hc 0 (by decide), hc 1 (by decide), hc 2 (by decide), hc 3 (by decide), hc 4 (by decide), hc 5 (by decide), hc 6 (by decide)⟩

theorem OwnKr.recs {w : World} {v : Value} {ts : List Kr} {r : Option Nat} (h : OwnKr w v ts r) (hl : ts.length ≤ 2199023255500) (hok : ∀ x ∈ ts, x.Ok) : KrsAt w v ts := by
  have h' := h
  rcases h with ⟨rfl, rfl, rfl⟩ | ⟨g, cap, rfl, rfl, hg, h1, h2, h3, h4, h5⟩
  · exact ⟨none, 0, rfl, by simp, by simp, by simp⟩
  · refine ⟨_, cap, rfl, hl, hok, fun _ => ⟨g, 0, rfl, fun j hj => ?_⟩⟩
    rw [Nat.zero_add]
    exact h'.at hj

theorem zcells7k : Kr.zero.agg.cells.size = 7 := by rfl

/-- WHAT append DOES of records. -/
theorem run_append_k (w : World) (ty : TypeId) (v x : Value) (ts : List Kr) (ks : List Kr) (r : Option Nat) (hown : OwnKr w v ts r) (hs : Src Try.prog 7 24 x ks.length (kcells ks) w) (hlen : ts.length + ks.length ≤ 2199023255552) (hr0 : r ≠ none ∨ 0 < ks.length) :
    ∃ v' w' g, (Builtin.append_ #[24, 24] ty #[v, x]).run Try.prog w = .ok v' w' ∧ OwnKr w' v' (ts ++ ks) (some g) ∧ w.grownBy w' r ∧ (some g = r ∨ g = w.heap.size) := by
  obtain ⟨i, hi, hz0, hz1, hz2⟩ := info_parts Try.info28
  have hs' : Src Try.prog i.size 24 x ks.length (kcells ks) w := by rw [hz1]; exact hs
  have hl2 : (ts ++ ks).length = ts.length + ks.length := by simp
  have grow : ∀ (base : Option Addr) (sCap : Nat), (Builtin.firstCells i.size ts.length (.slice base ts.length sCap)).run Try.prog w.drew = .ok (kcells ts).toArray w.drew → sCap < ts.length + ks.length →
      ∃ v' w' g, (Builtin.append_ #[24, 24] ty #[.slice base ts.length sCap, x]).run Try.prog w = .ok v' w' ∧ OwnKr w' v' (ts ++ ks) (some g) ∧ w.grownBy w' r ∧ (some g = r ∨ g = w.heap.size) := by
    intro base sCap hold hg
    have hr := run_append_grow_src (P := Try.prog) w 24 24 ty 28 i _ Try.underlying24 hi hz0 base ts.length sCap (kcells ts) hold x ks.length (kcells ks) hs' hg (by omega) (by rw [hz2]; exact growslice_fits_wide hg (by omega))
    have hge := grownCap_ge w (ts.length + ks.length) sCap 28
    have hcm := grownCap_le_maxLen w (ts.length + ks.length) sCap 28 (by unfold maxLen; omega)
    refine ⟨_, _, w.heap.size, hr, ?_, ⟨rfl, rfl, rfl, by simp, fun k hk _ => heap_alloc_old w.drew _ hk⟩, .inr rfl⟩
    obtain ⟨C, hC⟩ : ∃ C, (kcells ts ++ (kcells ks)).toArray ++ Builtin.zeroCells Kr.zero.agg.cells (grownCap w (ts.length + ks.length) sCap 28 - (ts.length + ks.length)) = C := ⟨_, rfl⟩
    have hCs : C.size = 7 * grownCap w (ts.length + ks.length) sCap 28 := by
      rw [← hC, Array.size_append, List.size_toArray, size_zeroCells, zcells7k, List.length_append, kcells_len, kcells_len]
      omega
    have hCg : ∀ j, j < 7 * (ts.length + ks.length) → C[j]? = (kcells (ts ++ ks))[j]? := fun j hj => by
      rw [← hC, Array.getElem?_append_left (by rw [List.size_toArray, List.length_append, kcells_len, kcells_len]; omega), List.getElem?_toArray, kcells_app]
    rw [hC]
    refine .inr ⟨w.heap.size, grownCap w (ts.length + ks.length) sCap 28, rfl, by rw [hl2], by simp, by rw [hl2]; exact hge, hcm, fun j hj => ?_, fun j hj => ?_, fun j hj => ?_⟩
    · exact World.frozen?_alloc_at _ _ _ _ rfl
    · show ((w.drew.alloc (Obj.cells C 28)).cell? ⟨w.drew.heap.size, j, none⟩).isSome = true
      rw [World.cell?_alloc_at _ _ _ _ rfl, Array.getElem?_eq_getElem (by omega)]; rfl
    · rw [hl2] at hj
      show (w.drew.alloc (Obj.cells C 28)).cell? ⟨w.drew.heap.size, j, none⟩ = _
      rw [World.cell?_alloc_at _ _ _ _ rfl]; exact hCg j hj
  rcases hown with ⟨rfl, rfl, rfl⟩ | ⟨g, cap, rfl, rfl, hg, h1, h2, h3, h4, h5⟩
  · rcases hr0 with h | h
    · exact absurd rfl h
    · exact grow none 0 (by rw [List.length_nil]; exact run_firstCells_none w.drew _ _ _ _) (by simpa using h)
  · by_cases hroom : ts.length + ks.length ≤ cap
    · have hr := run_append_room_src (P := Try.prog) w 24 24 ty 28 i Try.underlying24 hi g 0 ts.length cap x ks.length (kcells ks) hs' hroom
        (fun j hj => by rw [hz1]; rw [kcells_len] at hj; exact h4 _ (by omega))
        (fun j hj => by rw [hz1]; rw [kcells_len] at hj; exact h3 _ (by omega))
      rw [hz1, Nat.zero_add] at hr
      refine ⟨_, _, g, hr, .inr ⟨g, cap, rfl, by rw [hl2], ?_, by omega, h2, fun j hj => ?_, fun j hj => ?_, fun j hj => ?_⟩, grow_setCells w g _ _, .inl rfl⟩
      · rw [setCells_size]; exact hg
      · rw [World.frozen?_setCells]; exact h3 j hj
      · exact isSome_setCells g _ _ w _ (h4 j hj)
      · rw [hl2] at hj
        by_cases hj' : j < 7 * ts.length
        · rw [World.cell?_setCells_out g _ _ w _ (fun _ _ => .inl (by show j < ts.length * 7; omega)), h5 j hj', kcells_app, List.getElem?_append_left (by rw [kcells_len]; exact hj')]
        · have hj2 : j - 7 * ts.length < (kcells ks).length := by rw [kcells_len]; omega
          have := World.cell?_setCells_in g (kcells ks) (ts.length * 7) w (fun m hm => h4 _ (by rw [kcells_len] at hm; omega)) (j - 7 * ts.length) hj2
          rw [show ts.length * 7 + (j - 7 * ts.length) = j by omega] at this
          rw [this, kcells_app, List.getElem?_append_right (by rw [kcells_len]; omega), kcells_len, List.getElem?_eq_getElem hj2]
    · refine grow _ cap ?_ (by omega)
      rw [hz1]
      refine run_firstCells_some w.drew 7 ts.length ⟨g, 0, none⟩ _ _ (kcells ts) (by rw [kcells_len]; omega) (fun j u hj => ?_)
      have hjl : j < 7 * ts.length := by
        have := (List.getElem?_eq_some_iff.mp hj).1
        rwa [kcells_len] at this
      rw [WideShapes.add_plain, Nat.zero_add]
      show w.cell? ⟨g, j, none⟩ = some u
      rw [h5 j hjl, hj]

theorem wpList_append_k {ops : Array Oper} {rest : List Oper} {o : Oper} {a : Act} {Q : Exit → Act → World → Prop} (w : World) (hgd : o.guard = none) (s x : Operand)
    (ho : o.op = .call { callee := .builtin .append, args := #[s, x], argTypes := #[24, 24] }) (v xv : Value) (ts : List Kr) (ks : List Kr) (r : Option Nat)
    (hs : a.eval s = v) (hx : a.eval x = xv) (hown : OwnKr w v ts r) (hsrc : Src Try.prog 7 24 xv ks.length (kcells ks) w) (hlen : ts.length + ks.length ≤ 2199023255552) (hr0 : r ≠ none ∨ 0 < ks.length)
    (h : ∀ v' w' g, OwnKr w' v' (ts ++ ks) (some g) → w.grownBy w' r → (some g = r ∨ g = w.heap.size) → wpList Try.prog ops Q rest (a.put o.dst v') w') : wpList Try.prog ops Q (o :: rest) a w :=
  wpList_plain hgd fun _ hK => by
    obtain ⟨v', w', g, hr, h1, h2, h3⟩ := run_append_k w o.type v xv ts ks r hown hsrc hlen hr0
    unfold Oper.wp execOp
    simp only [ho, resolve, invoke, builtin, Sem.run_bind, Sem.run_pure, Result.andThen_ok, List.map_toArray, List.map_cons, List.map_nil, hs, hx, hr]
    exact hK _ _ (h v' w' g h1 h2 h3)
end Go.Proofs.Ythfnbcicpcbgjaa
