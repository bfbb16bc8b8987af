import Derived.Test.YthcnhjmkcekdaaaGreatQs17
import Derived.Laws.StructEq
import Derived.Deep.DeepAppendWide
namespace Go.Proofs.YthcnhjmkcekdaaaGreat
open Go.RowKit Plain
set_option linter.unusedVariables false
structure Nw where
  text : ByteArray
  file : Int
def Nw.zero : Nw := ⟨ByteArray.empty, 0⟩
def Nw.cells (x : Nw) : List Value := [.string x.text, .int .i64 x.file]
abbrev Nw.agg (x : Nw) : Value := .agg #[.string x.text, .int .i64 x.file]
structure Nw.Ok (x : Nw) : Prop where
  text : x.text.size ≤ maxLen
  file : I64 x.file
/-- The cells at a place. -/
structure Nw.CellsAt (w : World) (b o : Nat) (x : Nw) : Prop where
  c0 : w.cell? ⟨b, o, none⟩ = some (.string x.text)
  c1 : w.cell? ⟨b, o + 1, none⟩ = some (.int .i64 x.file)
theorem Nw.CellsAt.lt {w : World} {b o : Nat} {x : Nw} (h : Nw.CellsAt w b o x) : b < w.heap.size := cell_lt h.c0
theorem Nw.CellsAt.block {w w' : World} {b o : Nat} {x : Nw} (h : Nw.CellsAt w b o x) (e : w'.heap[b]? = w.heap[b]?) : Nw.CellsAt w' b o x := by
  have hc : ∀ j, w'.cell? ⟨b, j, none⟩ = w.cell? ⟨b, j, none⟩ := fun j => World.cell?_of_block (w := w) (a := ⟨b, j, none⟩) e
  exact ⟨by rw [hc]; exact h.c0, by rw [hc]; exact h.c1⟩
/-- v is a slice of records that reads as st. -/
def NwsAt (w : World) (v : Value) (st : List Nw) : Prop :=
  ∃ a cap, v = .slice a st.length cap ∧ st.length ≤ 2199023255000 ∧ (∀ x ∈ st, x.Ok) ∧ (st ≠ [] → ∃ b off, a = some ⟨b, off, none⟩ ∧ ∀ j, j < st.length → Nw.CellsAt w b (off + j * 2) (st.getD j Nw.zero))
theorem NwsAt.later {w w' : World} {v : Value} {st : List Nw} (h : NwsAt w v st) (hb : Below w.heap.size w w') : NwsAt w' v st := by
  obtain ⟨a, cap, e, h1, h2, h3⟩ := h
  refine ⟨a, cap, e, h1, h2, fun hne => ?_⟩
  obtain ⟨b, off, e2, hc⟩ := h3 hne
  exact ⟨b, off, e2, fun j hj => (hc j hj).block (hb.block b (hc j hj).lt)⟩
def nwcells (ts : List Nw) : List Value := ts.flatMap Nw.cells
theorem nwcells_app (ts ks : List Nw) : nwcells (ts ++ ks) = nwcells ts ++ nwcells ks := by simp [nwcells]
theorem nwcells_cons (t : Nw) (ts : List Nw) : nwcells (t :: ts) = [.string t.text, .int .i64 t.file] ++ nwcells ts := rfl
theorem nwcells_len : ∀ (ts : List Nw), (nwcells ts).length = 2 * ts.length
  | [] => rfl
  | t :: ts => by
    have := nwcells_len ts
    rw [nwcells_cons, List.length_append, this]
    simp only [List.length_cons, List.length_nil]
    omega
theorem nwcells_get (ts : List Nw) (j i : Nat) (h : j < ts.length) (hi : i < 2) : (nwcells ts)[j * 2 + i]? = (ts.getD j Nw.zero).cells[i]? := by
  induction ts generalizing j with
  | nil => simp at h
  | cons t ts ih =>
    cases j with
    | zero =>
      rw [nwcells_cons, List.getElem?_append_left (by simp; omega)]
      simp [Nw.cells]
    | succ j =>
      have := ih j (by simpa using h)
      rw [nwcells_cons, List.getElem?_append_right (by simp; omega)]
      simpa [show (j + 1) * 2 + i - 2 = j * 2 + i by omega] using this
theorem Tryz.info85 : (Tryz.prog.info? 85).map (fun i => (i.zero, i.size, i.bytes)) = some (some Nw.zero.agg, 2, 24) := by kernel_rfl
/-- v is a slice of records of the call's own, in block r. -/
def OwnNw (w : World) (v : Value) (ts : List Nw) (r : Option Nat) : Prop :=
  (v = .slice none 0 0 ∧ ts = [] ∧ r = none) ∨
  ∃ g cap, r = some g ∧ v = .slice (some ⟨g, 0, none⟩) ts.length cap ∧ g < w.heap.size ∧ ts.length ≤ cap ∧ cap ≤ maxLen ∧ (∀ j, j < 2 * cap → w.frozen? ⟨g, j, none⟩ = false) ∧ (∀ j, j < 2 * cap → (w.cell? ⟨g, j, none⟩).isSome = true) ∧
    ∀ j, j < 2 * ts.length → w.cell? ⟨g, j, none⟩ = (nwcells ts)[j]?
theorem OwnNw.nil (w : World) : OwnNw w (.slice none 0 0) [] none := .inl ⟨rfl, rfl, rfl⟩
theorem OwnNw.kept {w w' : World} {v : Value} {ts : List Nw} {r r' : Option Nat} (h : OwnNw w v ts r) (k : w.grownBy w' r') (hne : r = none ∨ r ≠ r') : OwnNw w' v ts r := by
  rcases h with h0 | ⟨g, cap, rfl, rfl, hg, h1, h2, h3, h4, h5⟩
  · exact .inl h0
  · have hb : w'.heap[g]? = w.heap[g]? := k.block g hg (by rcases hne with h | h <;> simp_all)
    refine .inr ⟨g, cap, rfl, rfl, Nat.lt_of_lt_of_le hg k.size, h1, h2, fun j hj => ?_, fun j hj => ?_, fun j hj => ?_⟩
    · rw [World.frozen?_of_block (w := w) (a := ⟨g, j, none⟩) hb]; exact h3 j hj
    · rw [World.cell?_of_block (w := w) (a := ⟨g, j, none⟩) hb]; exact h4 j hj
    · rw [World.cell?_of_block (w := w) (a := ⟨g, j, none⟩) hb]; exact h5 j hj
theorem OwnNw.later {w w' : World} {v : Value} {ts : List Nw} {r : Option Nat} (h : OwnNw w v ts r) (k : Below w.heap.size w w') : OwnNw w' v ts r := by
  cases r with
  | none => exact h.kept (below_grow k none) (.inl rfl)
  | some g => exact h.kept (below_grow k none) (.inr (by simp))
theorem OwnNw.lt {w : World} {v : Value} {ts : List Nw} {g : Nat} (h : OwnNw w v ts (some g)) : g < w.heap.size := by
  rcases h with ⟨_, _, h⟩ | ⟨g', cap, e, _, hg, _⟩
  · simp at h
  · simp at e; omega
theorem OwnNw.shape {w : World} {v : Value} {ts : List Nw} {r : Option Nat} (h : OwnNw w v ts r) : ∃ a cap, v = .slice a ts.length cap ∧ cap ≤ maxLen ∧ ts.length ≤ cap := by
  rcases h with ⟨rfl, rfl, h⟩ | ⟨g', cap, e, rfl, hg, h1, h2, _⟩
  · exact ⟨none, 0, rfl, by simp, by simp⟩
  · exact ⟨_, cap, rfl, h2, h1⟩
theorem OwnNw.at {w : World} {v : Value} {ts : List Nw} {g : Nat} (h : OwnNw w v ts (some g)) {j : Nat} (hj : j < ts.length) : Nw.CellsAt w g (j * 2) (ts.getD j Nw.zero) := by
  rcases h with ⟨_, _, h⟩ | ⟨g', cap, e, e2, hg, h1, h2, h3, h4, h5⟩
  · simp at h
  · simp at e; subst e
    have hc : ∀ i, i < 2 → w.cell? ⟨g, j * 2 + i, none⟩ = (ts.getD j Nw.zero).cells[i]? := fun i hi => by rw [h5 _ (by omega)]; exact nwcells_get ts j i hj hi
    exact ⟨hc 0 (by decide), hc 1 (by decide)⟩
theorem zcells2nw : Nw.zero.agg.cells.size = 2 := by rfl
/-- WHAT append DOES of records. -/
theorem run_append_nw (w : World) (ty : TypeId) (v x : Value) (ts : List Nw) (ks : List Nw) (r : Option Nat) (hown : OwnNw w v ts r) (hs : Src Tryz.prog 2 78 x ks.length (nwcells ks) w) (hlen : ts.length + ks.length ≤ 2199023255552) (hr0 : r ≠ none ∨ 0 < ks.length) :
    ∃ v' w' g, (Builtin.append_ #[78, 78] ty #[v, x]).run Tryz.prog w = .ok v' w' ∧ OwnNw w' v' (ts ++ ks) (some g) ∧ w.grownBy w' r ∧ (some g = r ∨ g = w.heap.size) := by
  obtain ⟨i, hi, hz0, hz1, hz2⟩ := info_parts Tryz.info85
  have hs' : Src Tryz.prog i.size 78 x ks.length (nwcells ks) w := by rw [hz1]; exact hs
  have hl2 : (ts ++ ks).length = ts.length + ks.length := by simp
  have grow : ∀ (base : Option Addr) (sCap : Nat), (Builtin.firstCells i.size ts.length (.slice base ts.length sCap)).run Tryz.prog w.drew = .ok (nwcells ts).toArray w.drew → sCap < ts.length + ks.length →
      ∃ v' w' g, (Builtin.append_ #[78, 78] ty #[.slice base ts.length sCap, x]).run Tryz.prog w = .ok v' w' ∧ OwnNw w' v' (ts ++ ks) (some g) ∧ w.grownBy w' r ∧ (some g = r ∨ g = w.heap.size) := by
    intro base sCap hold hg
    have hr := run_append_grow_src (P := Tryz.prog) w 78 78 ty 85 i _ Tryz.underlying78 hi hz0 base ts.length sCap (nwcells ts) hold x ks.length (nwcells ks) hs' hg (by omega) (by rw [hz2]; exact growslice_fits_wide hg (by omega))
    have hge := grownCap_ge w (ts.length + ks.length) sCap 85
    have hcm := grownCap_le_maxLen w (ts.length + ks.length) sCap 85 (by unfold maxLen; omega)
    refine ⟨_, _, w.heap.size, hr, ?_, ⟨rfl, rfl, rfl, by simp, fun k hk _ => Below.heap_alloc w.drew _ k hk⟩, .inr rfl⟩
    obtain ⟨C, hC⟩ : ∃ C, (nwcells ts ++ (nwcells ks)).toArray ++ Builtin.zeroCells Nw.zero.agg.cells (grownCap w (ts.length + ks.length) sCap 85 - (ts.length + ks.length)) = C := ⟨_, rfl⟩
    have hCs : C.size = 2 * grownCap w (ts.length + ks.length) sCap 85 := by
      rw [← hC, Array.size_append, List.size_toArray, size_zeroCells, zcells2nw, List.length_append, nwcells_len, nwcells_len]
      omega
    have hCg : ∀ j, j < 2 * (ts.length + ks.length) → C[j]? = (nwcells (ts ++ ks))[j]? := fun j hj => by
      rw [← hC, Array.getElem?_append_left (by rw [List.size_toArray, List.length_append, nwcells_len, nwcells_len]; omega), List.getElem?_toArray, nwcells_app]
    rw [hC]
    refine .inr ⟨w.heap.size, grownCap w (ts.length + ks.length) sCap 85, rfl, by rw [hl2], by simp, by rw [hl2]; exact hge, hcm, fun j hj => ?_, fun j hj => ?_, fun j hj => ?_⟩
    · exact World.frozen?_alloc_at _ _ _ _ rfl
    · show ((w.drew.alloc (Obj.cells C 85)).cell? ⟨w.drew.heap.size, j, none⟩).isSome = true
      rw [World.cell?_alloc_at _ _ _ _ rfl, Array.getElem?_eq_getElem (by omega)]; rfl
    · rw [hl2] at hj
      show (w.drew.alloc (Obj.cells C 85)).cell? ⟨w.drew.heap.size, j, none⟩ = _
      rw [World.cell?_alloc_at _ _ _ _ rfl]; exact hCg j hj
  rcases hown with ⟨rfl, rfl, rfl⟩ | ⟨g, cap, rfl, rfl, hg, h1, h2, h3, h4, h5⟩
  · rcases hr0 with h | h
    · exact absurd rfl h
    · exact grow none 0 (by rw [List.length_nil]; exact run_firstCells_none w.drew _ _ _ _) (by simpa using h)
  · by_cases hroom : ts.length + ks.length ≤ cap
    · have hr := run_append_room_src (P := Tryz.prog) w 78 78 ty 85 i Tryz.underlying78 hi g 0 ts.length cap x ks.length (nwcells ks) hs' hroom
        (fun j hj => by rw [hz1]; rw [nwcells_len] at hj; exact h4 _ (by omega))
        (fun j hj => by rw [hz1]; rw [nwcells_len] at hj; exact h3 _ (by omega))
      rw [hz1, Nat.zero_add] at hr
      refine ⟨_, _, g, hr, .inr ⟨g, cap, rfl, by rw [hl2], ?_, by omega, h2, fun j hj => ?_, fun j hj => ?_, fun j hj => ?_⟩, grow_setCells w g _ _, .inl rfl⟩
      · rw [setCells_size]; exact hg
      · rw [World.frozen?_setCells]; exact h3 j hj
      · exact isSome_setCells g _ _ w _ (h4 j hj)
      · rw [hl2] at hj
        by_cases hj' : j < 2 * ts.length
        · rw [World.cell?_setCells_out g _ _ w _ (fun _ _ => .inl (by show j < ts.length * 2; omega)), h5 j hj', nwcells_app, List.getElem?_append_left (by rw [nwcells_len]; exact hj')]
        · have hj2 : j - 2 * ts.length < (nwcells ks).length := by rw [nwcells_len]; omega
          have := World.cell?_setCells_in g (nwcells ks) (ts.length * 2) w (fun m hm => h4 _ (by rw [nwcells_len] at hm; omega)) (j - 2 * ts.length) hj2
          rw [show ts.length * 2 + (j - 2 * ts.length) = j by omega] at this
          rw [this, nwcells_app, List.getElem?_append_right (by rw [nwcells_len]; omega), nwcells_len, List.getElem?_eq_getElem hj2]
    · refine grow _ cap ?_ (by omega)
      rw [hz1]
      refine run_firstCells_some w.drew 2 ts.length ⟨g, 0, none⟩ _ _ (nwcells ts) (by rw [nwcells_len]; omega) (fun j u hj => ?_)
      have hjl : j < 2 * ts.length := by
        have := (List.getElem?_eq_some_iff.mp hj).1
        rwa [nwcells_len] at this
      rw [WideShapes.add_plain, Nat.zero_add]
      show w.cell? ⟨g, j, none⟩ = some u
      rw [h5 j hjl, hj]
theorem wpList_append_nw {ops : Array Oper} {rest : List Oper} {o : Oper} {a : Act} {Q : Exit → Act → World → Prop} (w : World) (hgd : o.guard = none) (s x : Operand)
    (ho : o.op = .call { callee := .builtin .append, args := #[s, x], argTypes := #[78, 78] }) (v xv : Value) (ts : List Nw) (ks : List Nw) (r : Option Nat)
    (hs : a.eval s = v) (hx : a.eval x = xv) (hown : OwnNw w v ts r) (hsrc : Src Tryz.prog 2 78 xv ks.length (nwcells ks) w) (hlen : ts.length + ks.length ≤ 2199023255552) (hr0 : r ≠ none ∨ 0 < ks.length)
    (h : ∀ v' w' g, OwnNw w' v' (ts ++ ks) (some g) → w.grownBy w' r → (some g = r ∨ g = w.heap.size) → wpList Tryz.prog ops Q rest (a.put o.dst v') w') : wpList Tryz.prog ops Q (o :: rest) a w :=
  wpList_plain hgd fun _ hK => by
    obtain ⟨v', w', g, hr, h1, h2, h3⟩ := run_append_nw w o.type v xv ts ks r hown hsrc hlen hr0
    unfold Oper.wp execOp
    simp only [ho, resolve, invoke, builtin, Sem.run_bind, Sem.run_pure, Result.andThen_ok, List.map_toArray, List.map_cons, List.map_nil, hs, hx, hr]
    exact hK _ _ (h v' w' g h1 h2 h3)
end Go.Proofs.YthcnhjmkcekdaaaGreat

namespace Go.Proofs.YthcnhjmkcekdaaaGreat
open Go.RowKit Go.Maps Plain
set_option linter.unusedVariables false
set_option linter.unusedSimpArgs false
theorem OwnNw.of_block {w w' : World} {v : Value} {ts : List Nw} {r : Option Nat} (h : OwnNw w v ts r) (hs : w.heap.size ≤ w'.heap.size) (hb : ∀ g, r = some g → w'.heap[g]? = w.heap[g]?) : OwnNw w' v ts r := by
  rcases h with h0 | ⟨g, cap, rfl, rfl, hg, h1, h2, h3, h4, h5⟩
  · exact .inl h0
  · have hb := hb g rfl
    refine .inr ⟨g, cap, rfl, rfl, Nat.lt_of_lt_of_le hg hs, h1, h2, fun j hj => ?_, fun j hj => ?_, fun j hj => ?_⟩
    · rw [World.frozen?_of_block (w := w) (a := ⟨g, j, none⟩) hb]; exact h3 j hj
    · rw [World.cell?_of_block (w := w) (a := ⟨g, j, none⟩) hb]; exact h4 j hj
    · rw [World.cell?_of_block (w := w) (a := ⟨g, j, none⟩) hb]; exact h5 j hj
theorem OwnNw.rlt {w : World} {v : Value} {l : List Nw} {r : Option Nat} (h : OwnNw w v l r) : ∀ g, r = some g → g < w.heap.size := fun g e => by subst e; exact h.lt
theorem Own.rlt' {w : World} {v : Value} {l : List Nat} {r : Option Nat} (h : Own w v l r) : ∀ g, r = some g → g < w.heap.size := fun g e => by
  rcases h.2 with ⟨_, _, e2⟩ | ⟨g', _, e2, _, hg, _⟩
  · rw [e] at e2; cases e2
  · rw [e] at e2; cases e2; exact hg
/-- A row of rows. -/
structure RR {α : Type} (d0 : α) (w : World) (leaf : Value → α → Prop) (v : Value) (fs : List (List α)) (r : Option Nat) (fv : List Value) (rf : Nat → Option Nat) (sv : Nat → List Value) : Prop where
  out : OwnV w v fv r
  len : fv.length = fs.length
  inn : ∀ n, n < fs.length → OwnV w (fv.getD n undef) (sv n) (rf n)
  sl : ∀ n, n < fs.length → (sv n).length = (fs.getD n []).length
  lf : ∀ n, n < fs.length → ∀ j, j < (sv n).length → leaf ((sv n).getD j undef) ((fs.getD n []).getD j d0)
  sep : ∀ n, n < fs.length → ∀ g, rf n = some g → r ≠ some g
  ap : ∀ n m, n < fs.length → m < fs.length → n ≠ m → ∀ g, rf n = some g → rf m ≠ some g
/-- Its blocks that are written to. -/
def RRB (N : Nat) (r : Option Nat) (rf : Nat → Option Nat) (g : Nat) : Prop := r = some g ∨ ∃ n, n < N ∧ rf n = some g
theorem RR.frame {α : Type} {d0 : α} {w w' : World} {leaf leaf' : Value → α → Prop} {v : Value} {fs : List (List α)} {r : Option Nat} {fv : List Value} {rf : Nat → Option Nat} {sv : Nat → List Value} (h : RR d0 w leaf v fs r fv rf sv) (hs : w.heap.size ≤ w'.heap.size) (hb : ∀ g, RRB fs.length r rf g → w'.heap[g]? = w.heap[g]?) (hl : ∀ u x, leaf u x → leaf' u x) : RR d0 w' leaf' v fs r fv rf sv :=
  ⟨h.out.of_block hs (fun g e => hb g (.inl e)), h.len, fun n hn => (h.inn n hn).of_block hs (fun g e => hb g (.inr ⟨n, hn, e⟩)), h.sl, fun n hn j hj => hl _ _ (h.lf n hn j hj), h.sep, h.ap⟩
theorem RR.lt {α : Type} {d0 : α} {w : World} {leaf : Value → α → Prop} {v : Value} {fs : List (List α)} {r : Option Nat} {fv : List Value} {rf : Nat → Option Nat} {sv : Nat → List Value} (h : RR d0 w leaf v fs r fv rf sv) : ∀ g, RRB fs.length r rf g → g < w.heap.size := fun g hg => by
  rcases hg with e | ⟨n, hn, e⟩
  · exact h.out.rlt g e
  · exact (h.inn n hn).rlt g e
theorem getD_app_lt' {α : Type} {l : List α} {j : Nat} (x d : α) (h : j < l.length) : (l ++ [x]).getD j d = l.getD j d := by
  rw [List.getD_eq_getElem?_getD, List.getD_eq_getElem?_getD, List.getElem?_append_left h]
theorem getD_app_eq' {α : Type} {l : List α} (x d : α) : (l ++ [x]).getD l.length d = x := by
  rw [List.getD_eq_getElem?_getD, List.getElem?_append_right (Nat.le_refl _)]
  simp
theorem getD_set_eq' {α : Type} {l : List α} {n : Nat} (x d : α) (h : n < l.length) : (l.set n x).getD n d = x := by
  rw [List.getD_eq_getElem?_getD, List.getElem?_set_self h]; rfl
theorem getD_set_ne' {α : Type} {l : List α} {n m : Nat} (x d : α) (h : n ≠ m) : (l.set n x).getD m d = l.getD m d := by
  rw [List.getD_eq_getElem?_getD, List.getD_eq_getElem?_getD, List.getElem?_set_ne h]
/-- One row more. -/
theorem RR.push {α : Type} {d0 : α} {w w' : World} {leaf leaf' : Value → α → Prop} {v v' x : Value} {fs : List (List α)} {ys : List α} {r r' q : Option Nat} {fv us : List Value} {rf : Nat → Option Nat} {sv : Nat → List Value} (h : RR d0 w leaf v fs r fv rf sv)
    (hs : w.heap.size ≤ w'.heap.size) (hl : ∀ u y, leaf u y → leaf' u y) (hin : ∀ n, n < fs.length → ∀ g, rf n = some g → w'.heap[g]? = w.heap[g]?)
    (hout : OwnV w' v' (fv ++ [x]) r') (hx : OwnV w' x us q) (hus : us.length = ys.length) (hlf : ∀ j, j < us.length → leaf' (us.getD j undef) (ys.getD j d0))
    (h1 : ∀ g, q = some g → r' ≠ some g) (h2 : ∀ n, n < fs.length → ∀ g, rf n = some g → r' ≠ some g ∧ q ≠ some g) :
    RR d0 w' leaf' v' (fs ++ [ys]) r' (fv ++ [x]) (fun n => if n = fs.length then q else rf n) (fun n => if n = fs.length then us else sv n) := by
  have hsp : ∀ n, n < (fs ++ [ys]).length → n < fs.length ∨ n = fs.length := fun n hn => by simp at hn; omega
  refine ⟨hout, by simp [h.len], fun n hn => ?_, fun n hn => ?_, fun n hn j hj => ?_, fun n hn g e => ?_, fun n m hn hm hnm g e => ?_⟩
  · rcases hsp n hn with e | e
    · rw [if_neg (by omega), if_neg (by omega), getD_app_lt' _ _ (by rw [h.len]; exact e)]
      exact (h.inn n e).of_block hs (hin n e)
    · subst e
      rw [if_pos rfl, if_pos rfl, ← h.len, getD_app_eq']; exact hx
  · rcases hsp n hn with e | e
    · rw [if_neg (by omega), getD_app_lt' _ _ e]; exact h.sl n e
    · subst e; rw [if_pos rfl, getD_app_eq']; exact hus
  · rcases hsp n hn with e | e
    · rw [if_neg (by omega)] at hj ⊢
      rw [getD_app_lt' _ _ e]; exact hl _ _ (h.lf n e j hj)
    · subst e
      rw [if_pos rfl] at hj ⊢
      rw [getD_app_eq']; exact hlf j hj
  · rcases hsp n hn with e2 | e2
    · rw [if_neg (by omega)] at e; exact (h2 n e2 g e).1
    · subst e2; rw [if_pos rfl] at e; exact h1 g e
  · rcases hsp n hn with e1 | e1 <;> rcases hsp m hm with e2 | e2
    · rw [if_neg (by omega)] at e ⊢; exact h.ap n m e1 e2 hnm g e
    · subst e2; rw [if_neg (by omega)] at e; rw [if_pos rfl]; exact (h2 n e1 g e).2
    · subst e1; rw [if_pos rfl] at e; rw [if_neg (by omega)]; exact fun e3 => (h2 m e2 g e3).2 e
    · omega
/-- Another row in the place of one. -/
theorem RR.set {α : Type} {d0 : α} {w w' : World} {leaf leaf' : Value → α → Prop} {v x : Value} {fs : List (List α)} {ys : List α} {r q : Option Nat} {fv us : List Value} {rf : Nat → Option Nat} {sv : Nat → List Value} {i : Nat} (h : RR d0 w leaf v fs r fv rf sv) (hi : i < fs.length)
    (hs : w.heap.size ≤ w'.heap.size) (hl : ∀ u y, leaf u y → leaf' u y) (hin : ∀ n, n < fs.length → n ≠ i → ∀ g, rf n = some g → w'.heap[g]? = w.heap[g]?)
    (hout : OwnV w' v (fv.set i x) r) (hx : OwnV w' x us q) (hus : us.length = ys.length) (hlf : ∀ j, j < us.length → leaf' (us.getD j undef) (ys.getD j d0))
    (h1 : ∀ g, q = some g → r ≠ some g) (h2 : ∀ n, n < fs.length → n ≠ i → ∀ g, rf n = some g → q ≠ some g) :
    RR d0 w' leaf' v (fs.set i ys) r (fv.set i x) (fun n => if n = i then q else rf n) (fun n => if n = i then us else sv n) := by
  refine ⟨hout, by simp [h.len], fun n hn => ?_, fun n hn => ?_, fun n hn j hj => ?_, fun n hn g e => ?_, fun n m hn hm hnm g e => ?_⟩
  all_goals rw [List.length_set] at hn
  · by_cases e : n = i
    · subst e; rw [if_pos rfl, if_pos rfl, getD_set_eq' _ _ (by rw [h.len]; exact hi)]; exact hx
    · rw [if_neg e, if_neg e, getD_set_ne' _ _ (fun e2 => e e2.symm)]; exact (h.inn n hn).of_block hs (hin n hn e)
  · by_cases e : n = i
    · subst e; rw [if_pos rfl, getD_set_eq' _ _ hi]; exact hus
    · rw [if_neg e, getD_set_ne' _ _ (fun e2 => e e2.symm)]; exact h.sl n hn
  · by_cases e : n = i
    · subst e
      rw [if_pos rfl] at hj ⊢
      rw [getD_set_eq' _ _ hi]; exact hlf j hj
    · rw [if_neg e] at hj ⊢
      rw [getD_set_ne' _ _ (fun e2 => e e2.symm)]; exact hl _ _ (h.lf n hn j hj)
  · by_cases e2 : n = i
    · subst e2; rw [if_pos rfl] at e; exact h1 g e
    · rw [if_neg e2] at e; exact h.sep n hn g e
  · rw [List.length_set] at hm
    by_cases e1 : n = i
    · subst e1
      rw [if_pos rfl] at e
      rw [if_neg (fun e3 => hnm e3.symm)]
      exact fun e3 => h2 m hm (fun e4 => hnm e4.symm) g e3 e
    · rw [if_neg e1] at e
      by_cases e2 : m = i
      · subst e2; rw [if_pos rfl]; exact h2 n hn e1 g e
      · rw [if_neg e2]; exact h.ap n m hn hm hnm g e
end Go.Proofs.YthcnhjmkcekdaaaGreat

namespace Go.Proofs.YthcnhjmkcekdaaaGreat
open Go.RowKit Plain
set_option linter.unusedVariables false
structure Ino where
  st : Value
  mo : Value
def Ino.zero : Ino := ⟨.slice none 0 0, .slice none 0 0⟩
def Ino.cells (x : Ino) : List Value := [x.st, x.mo]
abbrev Ino.agg (x : Ino) : Value := .agg #[x.st, x.mo]
structure Ino.Ok (x : Ino) : Prop where
  st : True
  mo : True
/-- The cells at a place. -/
structure Ino.CellsAt (w : World) (b o : Nat) (x : Ino) : Prop where
  c0 : w.cell? ⟨b, o, none⟩ = some (x.st)
  c1 : w.cell? ⟨b, o + 1, none⟩ = some (x.mo)
theorem Ino.CellsAt.lt {w : World} {b o : Nat} {x : Ino} (h : Ino.CellsAt w b o x) : b < w.heap.size := cell_lt h.c0
theorem Ino.CellsAt.block {w w' : World} {b o : Nat} {x : Ino} (h : Ino.CellsAt w b o x) (e : w'.heap[b]? = w.heap[b]?) : Ino.CellsAt w' b o x := by
  have hc : ∀ j, w'.cell? ⟨b, j, none⟩ = w.cell? ⟨b, j, none⟩ := fun j => World.cell?_of_block (w := w) (a := ⟨b, j, none⟩) e
  exact ⟨by rw [hc]; exact h.c0, by rw [hc]; exact h.c1⟩
/-- v is a slice of records that reads as st. -/
def InosAt (w : World) (v : Value) (st : List Ino) : Prop :=
  ∃ a cap, v = .slice a st.length cap ∧ st.length ≤ 2199023255000 ∧ (∀ x ∈ st, x.Ok) ∧ (st ≠ [] → ∃ b off, a = some ⟨b, off, none⟩ ∧ ∀ j, j < st.length → Ino.CellsAt w b (off + j * 2) (st.getD j Ino.zero))
theorem InosAt.later {w w' : World} {v : Value} {st : List Ino} (h : InosAt w v st) (hb : Below w.heap.size w w') : InosAt w' v st := by
  obtain ⟨a, cap, e, h1, h2, h3⟩ := h
  refine ⟨a, cap, e, h1, h2, fun hne => ?_⟩
  obtain ⟨b, off, e2, hc⟩ := h3 hne
  exact ⟨b, off, e2, fun j hj => (hc j hj).block (hb.block b (hc j hj).lt)⟩
def inocells (ts : List Ino) : List Value := ts.flatMap Ino.cells
theorem inocells_app (ts ks : List Ino) : inocells (ts ++ ks) = inocells ts ++ inocells ks := by simp [inocells]
theorem inocells_cons (t : Ino) (ts : List Ino) : inocells (t :: ts) = [t.st, t.mo] ++ inocells ts := rfl
theorem inocells_len : ∀ (ts : List Ino), (inocells ts).length = 2 * ts.length
  | [] => rfl
  | t :: ts => by
    have := inocells_len ts
    rw [inocells_cons, List.length_append, this]
    simp only [List.length_cons, List.length_nil]
    omega
theorem inocells_get (ts : List Ino) (j i : Nat) (h : j < ts.length) (hi : i < 2) : (inocells ts)[j * 2 + i]? = (ts.getD j Ino.zero).cells[i]? := by
  induction ts generalizing j with
  | nil => simp at h
  | cons t ts ih =>
    cases j with
    | zero =>
      rw [inocells_cons, List.getElem?_append_left (by simp; omega)]
      simp [Ino.cells]
    | succ j =>
      have := ih j (by simpa using h)
      rw [inocells_cons, List.getElem?_append_right (by simp; omega)]
      simpa [show (j + 1) * 2 + i - 2 = j * 2 + i by omega] using this
theorem Tryz.info83 : (Tryz.prog.info? 83).map (fun i => (i.zero, i.size, i.bytes)) = some (some Ino.zero.agg, 2, 48) := by kernel_rfl
/-- v is a slice of records of the call's own, in block r. -/
def OwnIno (w : World) (v : Value) (ts : List Ino) (r : Option Nat) : Prop :=
  (v = .slice none 0 0 ∧ ts = [] ∧ r = none) ∨
  ∃ g cap, r = some g ∧ v = .slice (some ⟨g, 0, none⟩) ts.length cap ∧ g < w.heap.size ∧ ts.length ≤ cap ∧ cap ≤ maxLen ∧ (∀ j, j < 2 * cap → w.frozen? ⟨g, j, none⟩ = false) ∧ (∀ j, j < 2 * cap → (w.cell? ⟨g, j, none⟩).isSome = true) ∧
    ∀ j, j < 2 * ts.length → w.cell? ⟨g, j, none⟩ = (inocells ts)[j]?
theorem OwnIno.nil (w : World) : OwnIno w (.slice none 0 0) [] none := .inl ⟨rfl, rfl, rfl⟩
theorem OwnIno.kept {w w' : World} {v : Value} {ts : List Ino} {r r' : Option Nat} (h : OwnIno w v ts r) (k : w.grownBy w' r') (hne : r = none ∨ r ≠ r') : OwnIno w' v ts r := by
  rcases h with h0 | ⟨g, cap, rfl, rfl, hg, h1, h2, h3, h4, h5⟩
  · exact .inl h0
  · have hb : w'.heap[g]? = w.heap[g]? := k.block g hg (by rcases hne with h | h <;> simp_all)
    refine .inr ⟨g, cap, rfl, rfl, Nat.lt_of_lt_of_le hg k.size, h1, h2, fun j hj => ?_, fun j hj => ?_, fun j hj => ?_⟩
    · rw [World.frozen?_of_block (w := w) (a := ⟨g, j, none⟩) hb]; exact h3 j hj
    · rw [World.cell?_of_block (w := w) (a := ⟨g, j, none⟩) hb]; exact h4 j hj
    · rw [World.cell?_of_block (w := w) (a := ⟨g, j, none⟩) hb]; exact h5 j hj
theorem OwnIno.later {w w' : World} {v : Value} {ts : List Ino} {r : Option Nat} (h : OwnIno w v ts r) (k : Below w.heap.size w w') : OwnIno w' v ts r := by
  cases r with
  | none => exact h.kept (below_grow k none) (.inl rfl)
  | some g => exact h.kept (below_grow k none) (.inr (by simp))
theorem OwnIno.lt {w : World} {v : Value} {ts : List Ino} {g : Nat} (h : OwnIno w v ts (some g)) : g < w.heap.size := by
  rcases h with ⟨_, _, h⟩ | ⟨g', cap, e, _, hg, _⟩
  · simp at h
  · simp at e; omega
theorem OwnIno.shape {w : World} {v : Value} {ts : List Ino} {r : Option Nat} (h : OwnIno w v ts r) : ∃ a cap, v = .slice a ts.length cap ∧ cap ≤ maxLen ∧ ts.length ≤ cap := by
  rcases h with ⟨rfl, rfl, h⟩ | ⟨g', cap, e, rfl, hg, h1, h2, _⟩
  · exact ⟨none, 0, rfl, by simp, by simp⟩
  · exact ⟨_, cap, rfl, h2, h1⟩
theorem OwnIno.at {w : World} {v : Value} {ts : List Ino} {g : Nat} (h : OwnIno w v ts (some g)) {j : Nat} (hj : j < ts.length) : Ino.CellsAt w g (j * 2) (ts.getD j Ino.zero) := by
  rcases h with ⟨_, _, h⟩ | ⟨g', cap, e, e2, hg, h1, h2, h3, h4, h5⟩
  · simp at h
  · simp at e; subst e
    have hc : ∀ i, i < 2 → w.cell? ⟨g, j * 2 + i, none⟩ = (ts.getD j Ino.zero).cells[i]? := fun i hi => by rw [h5 _ (by omega)]; exact inocells_get ts j i hj hi
    exact ⟨hc 0 (by decide), hc 1 (by decide)⟩
theorem zcells2ino : Ino.zero.agg.cells.size = 2 := by rfl
/-- WHAT append DOES of records. -/
theorem run_append_ino (w : World) (ty : TypeId) (v x : Value) (ts : List Ino) (ks : List Ino) (r : Option Nat) (hown : OwnIno w v ts r) (hs : Src Tryz.prog 2 49 x ks.length (inocells ks) w) (hlen : ts.length + ks.length ≤ 2199023255552) (hr0 : r ≠ none ∨ 0 < ks.length) :
    ∃ v' w' g, (Builtin.append_ #[49, 49] ty #[v, x]).run Tryz.prog w = .ok v' w' ∧ OwnIno w' v' (ts ++ ks) (some g) ∧ w.grownBy w' r ∧ (some g = r ∨ g = w.heap.size) := by
  obtain ⟨i, hi, hz0, hz1, hz2⟩ := info_parts Tryz.info83
  have hs' : Src Tryz.prog i.size 49 x ks.length (inocells ks) w := by rw [hz1]; exact hs
  have hl2 : (ts ++ ks).length = ts.length + ks.length := by simp
  have grow : ∀ (base : Option Addr) (sCap : Nat), (Builtin.firstCells i.size ts.length (.slice base ts.length sCap)).run Tryz.prog w.drew = .ok (inocells ts).toArray w.drew → sCap < ts.length + ks.length →
      ∃ v' w' g, (Builtin.append_ #[49, 49] ty #[.slice base ts.length sCap, x]).run Tryz.prog w = .ok v' w' ∧ OwnIno w' v' (ts ++ ks) (some g) ∧ w.grownBy w' r ∧ (some g = r ∨ g = w.heap.size) := by
    intro base sCap hold hg
    have hr := run_append_grow_src (P := Tryz.prog) w 49 49 ty 83 i _ Tryz.underlying49 hi hz0 base ts.length sCap (inocells ts) hold x ks.length (inocells ks) hs' hg (by omega) (by rw [hz2]; exact growslice_fits_wide hg (by omega))
    have hge := grownCap_ge w (ts.length + ks.length) sCap 83
    have hcm := grownCap_le_maxLen w (ts.length + ks.length) sCap 83 (by unfold maxLen; omega)
    refine ⟨_, _, w.heap.size, hr, ?_, ⟨rfl, rfl, rfl, by simp, fun k hk _ => Below.heap_alloc w.drew _ k hk⟩, .inr rfl⟩
    obtain ⟨C, hC⟩ : ∃ C, (inocells ts ++ (inocells ks)).toArray ++ Builtin.zeroCells Ino.zero.agg.cells (grownCap w (ts.length + ks.length) sCap 83 - (ts.length + ks.length)) = C := ⟨_, rfl⟩
    have hCs : C.size = 2 * grownCap w (ts.length + ks.length) sCap 83 := by
      rw [← hC, Array.size_append, List.size_toArray, size_zeroCells, zcells2ino, List.length_append, inocells_len, inocells_len]
      omega
    have hCg : ∀ j, j < 2 * (ts.length + ks.length) → C[j]? = (inocells (ts ++ ks))[j]? := fun j hj => by
      rw [← hC, Array.getElem?_append_left (by rw [List.size_toArray, List.length_append, inocells_len, inocells_len]; omega), List.getElem?_toArray, inocells_app]
    rw [hC]
    refine .inr ⟨w.heap.size, grownCap w (ts.length + ks.length) sCap 83, rfl, by rw [hl2], by simp, by rw [hl2]; exact hge, hcm, fun j hj => ?_, fun j hj => ?_, fun j hj => ?_⟩
    · exact World.frozen?_alloc_at _ _ _ _ rfl
    · show ((w.drew.alloc (Obj.cells C 83)).cell? ⟨w.drew.heap.size, j, none⟩).isSome = true
      rw [World.cell?_alloc_at _ _ _ _ rfl, Array.getElem?_eq_getElem (by omega)]; rfl
    · rw [hl2] at hj
      show (w.drew.alloc (Obj.cells C 83)).cell? ⟨w.drew.heap.size, j, none⟩ = _
      rw [World.cell?_alloc_at _ _ _ _ rfl]; exact hCg j hj
  rcases hown with ⟨rfl, rfl, rfl⟩ | ⟨g, cap, rfl, rfl, hg, h1, h2, h3, h4, h5⟩
  · rcases hr0 with h | h
    · exact absurd rfl h
    · exact grow none 0 (by rw [List.length_nil]; exact run_firstCells_none w.drew _ _ _ _) (by simpa using h)
  · by_cases hroom : ts.length + ks.length ≤ cap
    · have hr := run_append_room_src (P := Tryz.prog) w 49 49 ty 83 i Tryz.underlying49 hi g 0 ts.length cap x ks.length (inocells ks) hs' hroom
        (fun j hj => by rw [hz1]; rw [inocells_len] at hj; exact h4 _ (by omega))
        (fun j hj => by rw [hz1]; rw [inocells_len] at hj; exact h3 _ (by omega))
      rw [hz1, Nat.zero_add] at hr
      refine ⟨_, _, g, hr, .inr ⟨g, cap, rfl, by rw [hl2], ?_, by omega, h2, fun j hj => ?_, fun j hj => ?_, fun j hj => ?_⟩, grow_setCells w g _ _, .inl rfl⟩
      · rw [setCells_size]; exact hg
      · rw [World.frozen?_setCells]; exact h3 j hj
      · exact isSome_setCells g _ _ w _ (h4 j hj)
      · rw [hl2] at hj
        by_cases hj' : j < 2 * ts.length
        · rw [World.cell?_setCells_out g _ _ w _ (fun _ _ => .inl (by show j < ts.length * 2; omega)), h5 j hj', inocells_app, List.getElem?_append_left (by rw [inocells_len]; exact hj')]
        · have hj2 : j - 2 * ts.length < (inocells ks).length := by rw [inocells_len]; omega
          have := World.cell?_setCells_in g (inocells ks) (ts.length * 2) w (fun m hm => h4 _ (by rw [inocells_len] at hm; omega)) (j - 2 * ts.length) hj2
          rw [show ts.length * 2 + (j - 2 * ts.length) = j by omega] at this
          rw [this, inocells_app, List.getElem?_append_right (by rw [inocells_len]; omega), inocells_len, List.getElem?_eq_getElem hj2]
    · refine grow _ cap ?_ (by omega)
      rw [hz1]
      refine run_firstCells_some w.drew 2 ts.length ⟨g, 0, none⟩ _ _ (inocells ts) (by rw [inocells_len]; omega) (fun j u hj => ?_)
      have hjl : j < 2 * ts.length := by
        have := (List.getElem?_eq_some_iff.mp hj).1
        rwa [inocells_len] at this
      rw [WideShapes.add_plain, Nat.zero_add]
      show w.cell? ⟨g, j, none⟩ = some u
      rw [h5 j hjl, hj]
theorem wpList_append_ino {ops : Array Oper} {rest : List Oper} {o : Oper} {a : Act} {Q : Exit → Act → World → Prop} (w : World) (hgd : o.guard = none) (s x : Operand)
    (ho : o.op = .call { callee := .builtin .append, args := #[s, x], argTypes := #[49, 49] }) (v xv : Value) (ts : List Ino) (ks : List Ino) (r : Option Nat)
    (hs : a.eval s = v) (hx : a.eval x = xv) (hown : OwnIno w v ts r) (hsrc : Src Tryz.prog 2 49 xv ks.length (inocells ks) w) (hlen : ts.length + ks.length ≤ 2199023255552) (hr0 : r ≠ none ∨ 0 < ks.length)
    (h : ∀ v' w' g, OwnIno w' v' (ts ++ ks) (some g) → w.grownBy w' r → (some g = r ∨ g = w.heap.size) → wpList Tryz.prog ops Q rest (a.put o.dst v') w') : wpList Tryz.prog ops Q (o :: rest) a w :=
  wpList_plain hgd fun _ hK => by
    obtain ⟨v', w', g, hr, h1, h2, h3⟩ := run_append_ino w o.type v xv ts ks r hown hsrc hlen hr0
    unfold Oper.wp execOp
    simp only [ho, resolve, invoke, builtin, Sem.run_bind, Sem.run_pure, Result.andThen_ok, List.map_toArray, List.map_cons, List.map_nil, hs, hx, hr]
    exact hK _ _ (h v' w' g h1 h2 h3)
theorem OwnIno.of_block {w w' : World} {v : Value} {ts : List Ino} {r : Option Nat} (h : OwnIno w v ts r) (hs : w.heap.size ≤ w'.heap.size) (hb : ∀ g, r = some g → w'.heap[g]? = w.heap[g]?) : OwnIno w' v ts r := by
  rcases h with h0 | ⟨g, cap, rfl, rfl, hg, h1, h2, h3, h4, h5⟩
  · exact .inl h0
  · have hb := hb g rfl
    refine .inr ⟨g, cap, rfl, rfl, Nat.lt_of_lt_of_le hg hs, h1, h2, fun j hj => ?_, fun j hj => ?_, fun j hj => ?_⟩
    · rw [World.frozen?_of_block (w := w) (a := ⟨g, j, none⟩) hb]; exact h3 j hj
    · rw [World.cell?_of_block (w := w) (a := ⟨g, j, none⟩) hb]; exact h4 j hj
    · rw [World.cell?_of_block (w := w) (a := ⟨g, j, none⟩) hb]; exact h5 j hj
theorem OwnIno.rlt {w : World} {v : Value} {l : List Ino} {r : Option Nat} (h : OwnIno w v l r) : ∀ g, r = some g → g < w.heap.size := fun g e => by subst e; exact h.lt
/-- The row of a list that is not empty. -/
theorem OwnIno.full {w : World} {v : Value} {ts : List Ino} {r : Option Nat} (h : OwnIno w v ts r) {n : Nat} (hn : n < ts.length) : ∃ g cap, r = some g ∧ v = .slice (some ⟨g, 0, none⟩) ts.length cap ∧ w.cell? ⟨g, n * 2, none⟩ = some (ts.getD n Ino.zero).st ∧ w.cell? ⟨g, n * 2 + 1, none⟩ = some (ts.getD n Ino.zero).mo ∧ w.frozen? ⟨g, n * 2, none⟩ = false ∧ w.frozen? ⟨g, n * 2 + 1, none⟩ = false := by
  have h0 := h
  rcases h with ⟨_, rfl, _⟩ | ⟨g, cap, rfl, rfl, hg, h1, h2, h3, h4, h5⟩
  · simp at hn
  · have hc := h0.at hn
    exact ⟨g, cap, rfl, rfl, hc.c0, hc.c1, h3 _ (by omega), h3 _ (by omega)⟩
theorem inocells_set (ts : List Ino) (n : Nat) (x : Ino) (hn : n < ts.length) (j : Nat) (hj : j < 2 * ts.length) : (inocells (ts.set n x))[j]? = if j = n * 2 then some x.st else if j = n * 2 + 1 then some x.mo else (inocells ts)[j]? := by
  have hq : j = (j / 2) * 2 + j % 2 := by omega
  have hl : j / 2 < ts.length := by omega
  have e1 := inocells_get (ts.set n x) (j / 2) (j % 2) (by rw [List.length_set]; exact hl) (by omega)
  have e2 := inocells_get ts (j / 2) (j % 2) hl (by omega)
  rw [← hq] at e1 e2
  rw [e1, e2]
  by_cases hd : j / 2 = n
  · rw [hd, getD_set_eq' _ _ hn]
    by_cases h0 : j % 2 = 0
    · rw [if_pos (by omega), h0]; rfl
    · rw [if_neg (by omega), if_pos (by omega), show j % 2 = 1 by omega]; rfl
  · rw [if_neg (by omega), if_neg (by omega), getD_set_ne' _ _ (fun e => hd e.symm)]
/-- One of its cells is written. -/
theorem OwnIno.set {w w' : World} {v : Value} {ts : List Ino} {g n : Nat} {x : Ino} (h : OwnIno w v ts (some g)) (hn : n < ts.length) (hs : w.heap.size ≤ w'.heap.size) (hf : ∀ j, w'.frozen? ⟨g, j, none⟩ = w.frozen? ⟨g, j, none⟩)
    (hc : ∀ j, w'.cell? ⟨g, j, none⟩ = if j = n * 2 then some x.st else if j = n * 2 + 1 then some x.mo else w.cell? ⟨g, j, none⟩) : OwnIno w' v (ts.set n x) (some g) := by
  rcases h with ⟨_, _, e⟩ | ⟨g', cap, e, rfl, hg, h1, h2, h3, h4, h5⟩
  · cases e
  · cases e
    refine .inr ⟨g, cap, rfl, by rw [List.length_set], Nat.lt_of_lt_of_le hg hs, by rw [List.length_set]; exact h1, h2, fun j hj => by rw [hf]; exact h3 j hj, fun j hj => ?_, fun j hj => ?_⟩
    · rw [hc]
      split
      · rfl
      · split
        · rfl
        · exact h4 j hj
    · rw [List.length_set] at hj
      rw [hc, inocells_set ts n x hn j hj, h5 j hj]
end Go.Proofs.YthcnhjmkcekdaaaGreat
