import Derived.Test.YtmhaodcgognhiaaRc
/-! Records: in slices that are read, and in rows of the call's own. -/
namespace Go.Proofs.Ytmhaodcgognhiaa
open Go.RowKit Plain
set_option linter.unusedVariables false

structure Ss where
  num : Int
  cnt : Int
  liv : Int
  byt : Int
  lby : Int
def Ss.zero : Ss := ⟨0, 0, 0, 0, 0⟩
def Ss.cells (x : Ss) : List Value := [.int .i64 x.num, .int .i64 x.cnt, .int .i64 x.liv, .int .i64 x.byt, .int .i64 x.lby]
abbrev Ss.agg (x : Ss) : Value := .agg #[.int .i64 x.num, .int .i64 x.cnt, .int .i64 x.liv, .int .i64 x.byt, .int .i64 x.lby]
structure Ss.Ok (x : Ss) : Prop where
  num : I64 x.num
  cnt : I64 x.cnt
  liv : I64 x.liv
  byt : I64 x.byt
  lby : I64 x.lby

/-- The cells at a place. -/
structure Ss.CellsAt (w : World) (b o : Nat) (x : Ss) : Prop where
  c0 : w.cell? ⟨b, o, none⟩ = some (.int .i64 x.num)
  c1 : w.cell? ⟨b, o + 1, none⟩ = some (.int .i64 x.cnt)
  c2 : w.cell? ⟨b, o + 2, none⟩ = some (.int .i64 x.liv)
  c3 : w.cell? ⟨b, o + 3, none⟩ = some (.int .i64 x.byt)
  c4 : w.cell? ⟨b, o + 4, none⟩ = some (.int .i64 x.lby)
theorem Ss.CellsAt.lt {w : World} {b o : Nat} {x : Ss} (h : Ss.CellsAt w b o x) : b < w.heap.size := cell_lt h.c0
theorem Ss.CellsAt.block {w w' : World} {b o : Nat} {x : Ss} (h : Ss.CellsAt w b o x) (e : w'.heap[b]? = w.heap[b]?) : Ss.CellsAt w' b o x := by
  have hc : ∀ j, w'.cell? ⟨b, j, none⟩ = w.cell? ⟨b, j, none⟩ := fun j => World.cell?_of_block (w := w) (a := ⟨b, j, none⟩) e
  exact ⟨by rw [hc]; exact h.c0, by rw [hc]; exact h.c1, by rw [hc]; exact h.c2, by rw [hc]; exact h.c3, by rw [hc]; exact h.c4⟩

/-- v is a slice of records that reads as st. -/
def SssAt (w : World) (v : Value) (st : List Ss) : Prop :=
  ∃ a cap, v = .slice a st.length cap ∧ st.length ≤ 4398046511000 ∧ (∀ x ∈ st, x.Ok) ∧ (st ≠ [] → ∃ b off, a = some ⟨b, off, none⟩ ∧ ∀ j, j < st.length → Ss.CellsAt w b (off + j * 5) (st.getD j Ss.zero))

theorem SssAt.later {w w' : World} {v : Value} {st : List Ss} (h : SssAt w v st) (hb : Below w.heap.size w w') : SssAt w' v st := by
  obtain ⟨a, cap, e, h1, h2, h3⟩ := h
  refine ⟨a, cap, e, h1, h2, fun hne => ?_⟩
  obtain ⟨b, off, e2, hc⟩ := h3 hne
  exact ⟨b, off, e2, fun j hj => (hc j hj).block (hb.block b (hc j hj).lt)⟩

def zcells (ts : List Ss) : List Value := ts.flatMap Ss.cells
theorem zcells_app (ts ks : List Ss) : zcells (ts ++ ks) = zcells ts ++ zcells ks := by simp [zcells]
theorem zcells_cons (t : Ss) (ts : List Ss) : zcells (t :: ts) = [.int .i64 t.num, .int .i64 t.cnt, .int .i64 t.liv, .int .i64 t.byt, .int .i64 t.lby] ++ zcells ts := rfl
theorem zcells_len : ∀ (ts : List Ss), (zcells ts).length = 5 * ts.length
  | [] => rfl
  | t :: ts => by
    have := zcells_len ts
    rw [zcells_cons, List.length_append, this]
    simp only [List.length_cons, List.length_nil]
    omega
theorem zcells_get (ts : List Ss) (j i : Nat) (h : j < ts.length) (hi : i < 5) : (zcells ts)[j * 5 + i]? = (ts.getD j Ss.zero).cells[i]? := by
  induction ts generalizing j with
  | nil => simp at h
  | cons t ts ih =>
    cases j with
    | zero =>
      rw [zcells_cons, List.getElem?_append_left (by simp; omega)]
      simp [Ss.cells]
    | succ j =>
      have := ih j (by simpa using h)
      rw [zcells_cons, List.getElem?_append_right (by simp; omega)]
      simpa [show (j + 1) * 5 + i - 5 = j * 5 + i by omega] using this

theorem Try.info36 : (Try.prog.info? 36).map (fun i => (i.zero, i.size, i.bytes)) = some (some Ss.zero.agg, 5, 40) := by kernel_rfl

/-- v is a slice of records of the call's own, in block r. -/
def OwnSs (w : World) (v : Value) (ts : List Ss) (r : Option Nat) : Prop :=
  (v = .slice none 0 0 ∧ ts = [] ∧ r = none) ∨
  ∃ g cap, r = some g ∧ v = .slice (some ⟨g, 0, none⟩) ts.length cap ∧ g < w.heap.size ∧ ts.length ≤ cap ∧ cap ≤ maxLen ∧ (∀ j, j < 5 * cap → w.frozen? ⟨g, j, none⟩ = false) ∧ (∀ j, j < 5 * cap → (w.cell? ⟨g, j, none⟩).isSome = true) ∧
    ∀ j, j < 5 * ts.length → w.cell? ⟨g, j, none⟩ = (zcells ts)[j]?

theorem OwnSs.nil (w : World) : OwnSs w (.slice none 0 0) [] none := .inl ⟨rfl, rfl, rfl⟩

theorem OwnSs.kept {w w' : World} {v : Value} {ts : List Ss} {r r' : Option Nat} (h : OwnSs w v ts r) (k : w.grownBy w' r') (hne : r = none ∨ r ≠ r') : OwnSs w' v ts r := by
  rcases h with h0 | ⟨g, cap, rfl, rfl, hg, h1, h2, h3, h4, h5⟩
  · exact .inl h0
  · have hb : w'.heap[g]? = w.heap[g]? := k.block g hg (by rcases hne with h | h <;> simp_all)
    refine .inr ⟨g, cap, rfl, rfl, Nat.lt_of_lt_of_le hg k.size, h1, h2, fun j hj => ?_, fun j hj => ?_, fun j hj => ?_⟩
    · rw [World.frozen?_of_block (w := w) (a := ⟨g, j, none⟩) hb]; exact h3 j hj
    · rw [World.cell?_of_block (w := w) (a := ⟨g, j, none⟩) hb]; exact h4 j hj
    · rw [World.cell?_of_block (w := w) (a := ⟨g, j, none⟩) hb]; exact h5 j hj
theorem OwnSs.later {w w' : World} {v : Value} {ts : List Ss} {r : Option Nat} (h : OwnSs w v ts r) (k : Below w.heap.size w w') : OwnSs w' v ts r := by
  cases r with
  | none => exact h.kept (below_grow k none) (.inl rfl)
  | some g => exact h.kept (below_grow k none) (.inr (by simp))

theorem OwnSs.lt {w : World} {v : Value} {ts : List Ss} {g : Nat} (h : OwnSs w v ts (some g)) : g < w.heap.size := by
  rcases h with ⟨_, _, h⟩ | ⟨g', cap, e, _, hg, _⟩
  · simp at h
  · simp at e; omega

theorem OwnSs.shape {w : World} {v : Value} {ts : List Ss} {r : Option Nat} (h : OwnSs w v ts r) : ∃ a cap, v = .slice a ts.length cap ∧ cap ≤ maxLen ∧ ts.length ≤ cap := by
  rcases h with ⟨rfl, rfl, h⟩ | ⟨g', cap, e, rfl, hg, h1, h2, _⟩
  · exact ⟨none, 0, rfl, by simp, by simp⟩
  · exact ⟨_, cap, rfl, h2, h1⟩

theorem OwnSs.at {w : World} {v : Value} {ts : List Ss} {g : Nat} (h : OwnSs w v ts (some g)) {j : Nat} (hj : j < ts.length) : Ss.CellsAt w g (j * 5) (ts.getD j Ss.zero) := by
  rcases h with ⟨_, _, h⟩ | ⟨g', cap, e, e2, hg, h1, h2, h3, h4, h5⟩
  · simp at h
  · simp at e; subst e
    have hc : ∀ i, i < 5 → w.cell? ⟨g, j * 5 + i, none⟩ = (ts.getD j Ss.zero).cells[i]? := fun i hi => by rw [h5 _ (by omega)]; exact zcells_get ts j i hj hi
    exact ⟨hc 0 (by decide), hc 1 (by decide), hc 2 (by decide), hc 3 (by decide), hc 4 (by decide)⟩

theorem OwnSs.recs {w : World} {v : Value} {ts : List Ss} {r : Option Nat} (h : OwnSs w v ts r) (hl : ts.length ≤ 4398046511000) (hok : ∀ x ∈ ts, x.Ok) : SssAt w v ts := by
  have h' := h
  rcases h with ⟨rfl, rfl, rfl⟩ | ⟨g, cap, rfl, rfl, hg, h1, h2, h3, h4, h5⟩
  · exact ⟨none, 0, rfl, by simp, by simp, by simp⟩
  · refine ⟨_, cap, rfl, hl, hok, fun _ => ⟨g, 0, rfl, fun j hj => ?_⟩⟩
    rw [Nat.zero_add]
    exact h'.at hj

theorem zcells5z : Ss.zero.agg.cells.size = 5 := by rfl

/-- WHAT append DOES of records. -/
theorem run_append_z (w : World) (ty : TypeId) (v x : Value) (ts : List Ss) (ks : List Ss) (r : Option Nat) (hown : OwnSs w v ts r) (hs : Src Try.prog 5 24 x ks.length (zcells ks) w) (hlen : ts.length + ks.length ≤ 4398046511104) (hr0 : r ≠ none ∨ 0 < ks.length) :
    ∃ v' w' g, (Builtin.append_ #[24, 24] ty #[v, x]).run Try.prog w = .ok v' w' ∧ OwnSs w' v' (ts ++ ks) (some g) ∧ w.grownBy w' r ∧ (some g = r ∨ g = w.heap.size) := by
  obtain ⟨i, hi, hz0, hz1, hz2⟩ := info_parts Try.info36
  have hs' : Src Try.prog i.size 24 x ks.length (zcells ks) w := by rw [hz1]; exact hs
  have hl2 : (ts ++ ks).length = ts.length + ks.length := by simp
  have grow : ∀ (base : Option Addr) (sCap : Nat), (Builtin.firstCells i.size ts.length (.slice base ts.length sCap)).run Try.prog w.drew = .ok (zcells ts).toArray w.drew → sCap < ts.length + ks.length →
      ∃ v' w' g, (Builtin.append_ #[24, 24] ty #[.slice base ts.length sCap, x]).run Try.prog w = .ok v' w' ∧ OwnSs w' v' (ts ++ ks) (some g) ∧ w.grownBy w' r ∧ (some g = r ∨ g = w.heap.size) := by
    intro base sCap hold hg
    have hr := run_append_grow_src (P := Try.prog) w 24 24 ty 36 i _ Try.underlying24 hi hz0 base ts.length sCap (zcells ts) hold x ks.length (zcells ks) hs' hg (by omega) (by rw [hz2]; exact growslice_fits_wide hg (by omega))
    have hge := grownCap_ge w (ts.length + ks.length) sCap 36
    have hcm := grownCap_le_maxLen w (ts.length + ks.length) sCap 36 (by unfold maxLen; omega)
    refine ⟨_, _, w.heap.size, hr, ?_, ⟨rfl, rfl, rfl, by simp, fun k hk _ => heap_alloc_old w.drew _ hk⟩, .inr rfl⟩
    obtain ⟨C, hC⟩ : ∃ C, (zcells ts ++ (zcells ks)).toArray ++ Builtin.zeroCells Ss.zero.agg.cells (grownCap w (ts.length + ks.length) sCap 36 - (ts.length + ks.length)) = C := ⟨_, rfl⟩
    have hCs : C.size = 5 * grownCap w (ts.length + ks.length) sCap 36 := by
      rw [← hC, Array.size_append, List.size_toArray, size_zeroCells, zcells5z, List.length_append, zcells_len, zcells_len]
      omega
    have hCg : ∀ j, j < 5 * (ts.length + ks.length) → C[j]? = (zcells (ts ++ ks))[j]? := fun j hj => by
      rw [← hC, Array.getElem?_append_left (by rw [List.size_toArray, List.length_append, zcells_len, zcells_len]; omega), List.getElem?_toArray, zcells_app]
    rw [hC]
    refine .inr ⟨w.heap.size, grownCap w (ts.length + ks.length) sCap 36, rfl, by rw [hl2], by simp, by rw [hl2]; exact hge, hcm, fun j hj => ?_, fun j hj => ?_, fun j hj => ?_⟩
    · exact World.frozen?_alloc_at _ _ _ _ rfl
    · show ((w.drew.alloc (Obj.cells C 36)).cell? ⟨w.drew.heap.size, j, none⟩).isSome = true
      rw [World.cell?_alloc_at _ _ _ _ rfl, Array.getElem?_eq_getElem (by omega)]; rfl
    · rw [hl2] at hj
      show (w.drew.alloc (Obj.cells C 36)).cell? ⟨w.drew.heap.size, j, none⟩ = _
      rw [World.cell?_alloc_at _ _ _ _ rfl]; exact hCg j hj
  rcases hown with ⟨rfl, rfl, rfl⟩ | ⟨g, cap, rfl, rfl, hg, h1, h2, h3, h4, h5⟩
  · rcases hr0 with h | h
    · exact absurd rfl h
    · exact grow none 0 (by rw [List.length_nil]; exact run_firstCells_none w.drew _ _ _ _) (by simpa using h)
  · by_cases hroom : ts.length + ks.length ≤ cap
    · have hr := run_append_room_src (P := Try.prog) w 24 24 ty 36 i Try.underlying24 hi g 0 ts.length cap x ks.length (zcells ks) hs' hroom
        (fun j hj => by rw [hz1]; rw [zcells_len] at hj; exact h4 _ (by omega))
        (fun j hj => by rw [hz1]; rw [zcells_len] at hj; exact h3 _ (by omega))
      rw [hz1, Nat.zero_add] at hr
      refine ⟨_, _, g, hr, .inr ⟨g, cap, rfl, by rw [hl2], ?_, by omega, h2, fun j hj => ?_, fun j hj => ?_, fun j hj => ?_⟩, grow_setCells w g _ _, .inl rfl⟩
      · rw [setCells_size]; exact hg
      · rw [World.frozen?_setCells]; exact h3 j hj
      · exact isSome_setCells g _ _ w _ (h4 j hj)
      · rw [hl2] at hj
        by_cases hj' : j < 5 * ts.length
        · rw [World.cell?_setCells_out g _ _ w _ (fun _ _ => .inl (by show j < ts.length * 5; omega)), h5 j hj', zcells_app, List.getElem?_append_left (by rw [zcells_len]; exact hj')]
        · have hj2 : j - 5 * ts.length < (zcells ks).length := by rw [zcells_len]; omega
          have := World.cell?_setCells_in g (zcells ks) (ts.length * 5) w (fun m hm => h4 _ (by rw [zcells_len] at hm; omega)) (j - 5 * ts.length) hj2
          rw [show ts.length * 5 + (j - 5 * ts.length) = j by omega] at this
          rw [this, zcells_app, List.getElem?_append_right (by rw [zcells_len]; omega), zcells_len, List.getElem?_eq_getElem hj2]
    · refine grow _ cap ?_ (by omega)
      rw [hz1]
      refine run_firstCells_some w.drew 5 ts.length ⟨g, 0, none⟩ _ _ (zcells ts) (by rw [zcells_len]; omega) (fun j u hj => ?_)
      have hjl : j < 5 * ts.length := by
        have := (List.getElem?_eq_some_iff.mp hj).1
        rwa [zcells_len] at this
      rw [WideShapes.add_plain, Nat.zero_add]
      show w.cell? ⟨g, j, none⟩ = some u
      rw [h5 j hjl, hj]

theorem wpList_append_z {ops : Array Oper} {rest : List Oper} {o : Oper} {a : Act} {Q : Exit → Act → World → Prop} (w : World) (hgd : o.guard = none) (s x : Operand)
    (ho : o.op = .call { callee := .builtin .append, args := #[s, x], argTypes := #[24, 24] }) (v xv : Value) (ts : List Ss) (ks : List Ss) (r : Option Nat)
    (hs : a.eval s = v) (hx : a.eval x = xv) (hown : OwnSs w v ts r) (hsrc : Src Try.prog 5 24 xv ks.length (zcells ks) w) (hlen : ts.length + ks.length ≤ 4398046511104) (hr0 : r ≠ none ∨ 0 < ks.length)
    (h : ∀ v' w' g, OwnSs w' v' (ts ++ ks) (some g) → w.grownBy w' r → (some g = r ∨ g = w.heap.size) → wpList Try.prog ops Q rest (a.put o.dst v') w') : wpList Try.prog ops Q (o :: rest) a w :=
  wpList_plain hgd fun _ hK => by
    obtain ⟨v', w', g, hr, h1, h2, h3⟩ := run_append_z w o.type v xv ts ks r hown hsrc hlen hr0
    unfold Oper.wp execOp
    simp only [ho, resolve, invoke, builtin, Sem.run_bind, Sem.run_pure, Result.andThen_ok, List.map_toArray, List.map_cons, List.map_nil, hs, hx, hr]
    exact hK _ _ (h v' w' g h1 h2 h3)

theorem OwnSs.sets {w : World} {v : Value} {g o : Nat} {ts ts' : List Ss} (h : OwnSs w v ts (some g)) (cs : List Value) (hl : ts'.length = ts.length) (ho : o + cs.length ≤ 5 * ts.length) (hq : ∀ m, m < 5 * ts.length → (zcells ts')[m]? = if o ≤ m ∧ m < o + cs.length then cs[m - o]? else (zcells ts)[m]?) : OwnSs (w.setCells g o cs) v ts' (some g) := by
  rcases h with ⟨_, _, h⟩ | ⟨g', cap, e, rfl, hg, h1, h2, h3, h4, h5⟩
  · simp at h
  · cases e
    refine .inr ⟨g, cap, rfl, by rw [hl], by rw [setCells_size]; exact hg, by rw [hl]; exact h1, h2, fun i hi => ?_, fun i hi => ?_, fun i hi => ?_⟩
    · rw [World.frozen?_setCells]; exact h3 i hi
    · exact isSome_setCells g _ _ w _ (h4 i hi)
    · rw [hl] at hi
      rw [hq i hi]
      by_cases hin : o ≤ i ∧ i < o + cs.length
      · rw [if_pos hin]
        have := World.cell?_setCells_in g cs o w (fun m hm => h4 _ (by omega)) (i - o) (by omega)
        rw [show o + (i - o) = i by omega] at this
        rw [this, List.getElem?_eq_getElem (by omega)]
      · rw [if_neg hin, ← h5 i hi]
        refine World.cell?_setCells_out g _ _ w _ (fun _ _ => ?_)
        simp only
        omega
theorem zcells_put (ts : List Ss) (j : Nat) (x : Ss) (h : j < ts.length) (m : Nat) (hm : m < 5 * ts.length) : (zcells (ts.set j x))[m]? = if j * 5 ≤ m ∧ m < j * 5 + 5 then x.cells[m - j * 5]? else (zcells ts)[m]? := by
  obtain ⟨q, r, hq, hr, rfl⟩ : ∃ q r, q < ts.length ∧ r < 5 ∧ m = q * 5 + r := ⟨m / 5, m % 5, by omega, by omega, by omega⟩
  rw [zcells_get (ts.set j x) q r (by simpa using hq) hr, zcells_get ts q r hq hr]
  by_cases e : q = j
  · subst e
    rw [if_pos (by omega), show q * 5 + r - q * 5 = r by omega]
    simp [hq]
  · rw [if_neg (by omega)]
    congr 2
    simp [Ne.symm e]
theorem OwnSs.putAll {w : World} {v : Value} {g j : Nat} {ts : List Ss} (h : OwnSs w v ts (some g)) (hj : j < ts.length) (x : Ss) : OwnSs (w.setCells g (j * 5) x.cells) v (ts.set j x) (some g) :=
  h.sets x.cells (by simp) (by show j * 5 + 5 ≤ _; omega) fun m hm => zcells_put ts j x hj m hm
theorem OwnSs.fz {w : World} {v : Value} {g : Nat} {ts : List Ss} (h : OwnSs w v ts (some g)) {j : Nat} (hj : j < 5 * ts.length) : w.frozen? ⟨g, j, none⟩ = false := by
  rcases h with ⟨_, _, h⟩ | ⟨g', cap, e, rfl, hg, h1, h2, h3, h4, h5⟩
  · simp at h
  · cases e; exact h3 j (by omega)
theorem OwnSs.capP {w : World} {g n c : Nat} {ts : List Ss} (h : OwnSs w (.slice (some ⟨g, 0, none⟩) n c) ts (some g)) : n = ts.length ∧ n ≤ c := by
  rcases h with ⟨h, _, _⟩ | ⟨g', cap, e, e2, hg, h1, _⟩
  · simp at h
  · simp at e2
    obtain ⟨_, rfl, rfl⟩ := e2
    exact ⟨rfl, h1⟩
theorem OwnSs.of_block {w w' : World} {v : Value} {ts : List Ss} {r : Option Nat} (h : OwnSs w v ts r) (hs : w.heap.size ≤ w'.heap.size) (hb : ∀ g, r = some g → w'.heap[g]? = w.heap[g]?) : OwnSs w' v ts r := by
  rcases h with h0 | ⟨g, cap, rfl, rfl, hg, h1, h2, h3, h4, h5⟩
  · exact .inl h0
  · have hb := hb g rfl
    refine .inr ⟨g, cap, rfl, rfl, Nat.lt_of_lt_of_le hg hs, h1, h2, fun j hj => ?_, fun j hj => ?_, fun j hj => ?_⟩
    · rw [World.frozen?_of_block (w := w) (a := ⟨g, j, none⟩) hb]; exact h3 j hj
    · rw [World.cell?_of_block (w := w) (a := ⟨g, j, none⟩) hb]; exact h4 j hj
    · rw [World.cell?_of_block (w := w) (a := ⟨g, j, none⟩) hb]; exact h5 j hj
/-- A first part of a row reads. -/
theorem OwnSs.first {w : World} {g n c k : Nat} {ts : List Ss} (h : OwnSs w (.slice (some ⟨g, 0, none⟩) n c) ts (some g)) (hk : k ≤ ts.length) (hl : ts.length ≤ 4398046511000) (hok : ∀ x ∈ ts, x.Ok) : SssAt w (.slice (some ⟨g, 0, none⟩) k c) (ts.take k) := by
  have hlen : (ts.take k).length = k := by simp; omega
  refine ⟨_, c, by rw [hlen], by rw [hlen]; omega, fun z hz => hok z (List.mem_of_mem_take hz), fun hne => ⟨g, 0, rfl, fun j hj => ?_⟩⟩
  rw [hlen] at hj
  have e : (ts.take k).getD j Ss.zero = ts.getD j Ss.zero := by simp [List.getD_eq_getElem?_getD, hj]
  rw [e, Nat.zero_add]
  exact h.at (by omega)

theorem zmade (n j : Nat) (h : j < n * 5) : (madeCells Ss.zero.agg.cells (n * 5)).toList[j]? = Ss.zero.cells[j % 5]? := by
  unfold madeCells
  rw [zcells5z]
  simp only [Array.toList_map, List.getElem?_map, Array.toList_range]
  rw [List.getElem?_eq_getElem (by simpa using h)]
  simp only [List.getElem_range, Option.map_some]
  have hm : j % 5 < 5 := Nat.mod_lt _ (by decide)
  have h3 : j % 5 = 0 ∨ j % 5 = 1 ∨ j % 5 = 2 ∨ j % 5 = 3 ∨ j % 5 = 4 := by omega
  rcases h3 with e | e | e | e | e <;> rw [e] <;> rfl
theorem OwnSs.made {w : World} {g base n : Nat} (ho : w.ownsRow base 36 5 (.slice (some ⟨g, 0, none⟩) n n) n (madeCells Ss.zero.agg.cells (n * 5)).toList) : OwnSs w (.slice (some ⟨g, 0, none⟩) n n) (List.replicate n Ss.zero) (some g) ∧ base ≤ g := by
  rcases ho.2 with ⟨h, _⟩ | ⟨g', cap', cur, e, hg, hh, hle, hm, hs, ht⟩
  · simp at h
  · simp only [Value.slice.injEq, Option.some.injEq, Addr.mk.injEq] at e
    obtain ⟨⟨rfl, _, _⟩, _, rfl⟩ := e
    have hlt : g < w.heap.size := (Array.getElem?_eq_some_iff.mp hh).1
    refine ⟨.inr ⟨g, n, rfl, by rw [List.length_replicate], hlt, by rw [List.length_replicate]; exact Nat.le_refl _, hm, fun j hj => ?_, fun j hj => ?_, fun j hj => ?_⟩, hg⟩
    · simp only [World.frozen?, hh]; simp
    · simp only [World.cell?, hh]
      have hsz : j < cur.size := by omega
      simp [hsz]
    · rw [List.length_replicate] at hj
      obtain ⟨k, m, rfl, hm⟩ : ∃ k m, j = k * 5 + m ∧ m < 5 := ⟨j / 5, j % 5, by omega, by omega⟩
      have h1 := zmade n (k * 5 + m) (by omega)
      rw [← ht, List.getElem?_take_of_lt (by omega)] at h1
      simp only [World.cell?, hh]
      rw [Array.getElem?_toList] at h1
      rw [zcells_get _ k m (by rw [List.length_replicate]; omega) hm]
      have h0 : (List.replicate n Ss.zero).getD k Ss.zero = Ss.zero := by simp [List.getD_eq_getElem?_getD, List.getElem?_replicate]; split <;> rfl
      have h2 : (k * 5 + m) % 5 = m := by omega
      rw [h2] at h1
      rw [h0]
      simpa using h1
end Go.Proofs.Ytmhaodcgognhiaa
