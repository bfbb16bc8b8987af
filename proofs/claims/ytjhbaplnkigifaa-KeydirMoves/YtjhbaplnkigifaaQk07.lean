import Derived.Test.YtjhbaplnkigifaaQk04
import Derived.Test.YtjhbaplnkigifaaQk01
import Derived.Laws.StructEq
import Derived.Deep.DeepAppendWide
import Derived.Test.YtjhbaplnkigifaaQk06
import Derived.Test.YtjhbaplnkigifaaRows
import Derived.ProofKit
import Derived.OpenShut
import Derived.SizedLaws
import Derived.Deep.Slices
import Derived.Deep.Strs
import Derived.SliceStrings
/-! Records: in slices that are read, and in rows of the call's own. -/
namespace Go.Proofs.Ytjhbaplnkigifaa
open Go.RowKit Plain
set_option linter.unusedVariables false

structure Kr where
  key : ByteArray
  seg : Int
  pos : Int
  size : Int
  off : Int
  time : Int
  tomb : Bool
def Kr.zero : Kr := ⟨ByteArray.empty, 0, 0, 0, 0, 0, false⟩
def Kr.cells (x : Kr) : List Value := [.string x.key, .int .i64 x.seg, .int .i64 x.pos, .int .i64 x.size, .int .i64 x.off, .int .i64 x.time, .bool x.tomb]
abbrev Kr.agg (x : Kr) : Value := .agg #[.string x.key, .int .i64 x.seg, .int .i64 x.pos, .int .i64 x.size, .int .i64 x.off, .int .i64 x.time, .bool x.tomb]
def I64 (z : Int) : Prop := -9223372036854775808 ≤ z ∧ z ≤ 9223372036854775807
structure Kr.Ok (x : Kr) : Prop where
  key : x.key.size ≤ maxLen
  seg : I64 x.seg
  pos : I64 x.pos
  size : I64 x.size
  off : I64 x.off
  time : I64 x.time
  tomb : True

/-- The cells at a place. -/
structure Kr.CellsAt (w : World) (b o : Nat) (x : Kr) : Prop where
  c0 : w.cell? ⟨b, o, none⟩ = some (.string x.key)
  c1 : w.cell? ⟨b, o + 1, none⟩ = some (.int .i64 x.seg)
  c2 : w.cell? ⟨b, o + 2, none⟩ = some (.int .i64 x.pos)
  c3 : w.cell? ⟨b, o + 3, none⟩ = some (.int .i64 x.size)
  c4 : w.cell? ⟨b, o + 4, none⟩ = some (.int .i64 x.off)
  c5 : w.cell? ⟨b, o + 5, none⟩ = some (.int .i64 x.time)
  c6 : w.cell? ⟨b, o + 6, none⟩ = some (.bool x.tomb)
theorem Kr.CellsAt.lt {w : World} {b o : Nat} {x : Kr} (h : Kr.CellsAt w b o x) : b < w.heap.size := cell_lt h.c0
theorem Kr.CellsAt.block {w w' : World} {b o : Nat} {x : Kr} (h : Kr.CellsAt w b o x) (e : w'.heap[b]? = w.heap[b]?) : Kr.CellsAt w' b o x := by
  have hc : ∀ j, w'.cell? ⟨b, j, none⟩ = w.cell? ⟨b, j, none⟩ := fun j => World.cell?_of_block (w := w) (a := ⟨b, j, none⟩) e
  exact ⟨by rw [hc]; exact h.c0, by rw [hc]; exact h.c1, by rw [hc]; exact h.c2, by rw [hc]; exact h.c3, by rw [hc]; exact h.c4, by rw [hc]; exact h.c5, by rw [hc]; exact h.c6⟩

/-- v is a slice of records that reads as st. -/
def KrsAt (w : World) (v : Value) (st : List Kr) : Prop :=
  ∃ a cap, v = .slice a st.length cap ∧ st.length ≤ 2199023255500 ∧ (∀ x ∈ st, x.Ok) ∧ (st ≠ [] → ∃ b off, a = some ⟨b, off, none⟩ ∧ ∀ j, j < st.length → Kr.CellsAt w b (off + j * 7) (st.getD j Kr.zero))

theorem KrsAt.later {w w' : World} {v : Value} {st : List Kr} (h : KrsAt w v st) (hb : Below w.heap.size w w') : KrsAt w' v st := by
  obtain ⟨a, cap, e, h1, h2, h3⟩ := h
  refine ⟨a, cap, e, h1, h2, fun hne => ?_⟩
  obtain ⟨b, off, e2, hc⟩ := h3 hne
  exact ⟨b, off, e2, fun j hj => (hc j hj).block (hb.block b (hc j hj).lt)⟩

def kcells (ts : List Kr) : List Value := ts.flatMap Kr.cells
theorem kcells_app (ts ks : List Kr) : kcells (ts ++ ks) = kcells ts ++ kcells ks := by simp [kcells]
theorem kcells_cons (t : Kr) (ts : List Kr) : kcells (t :: ts) = [.string t.key, .int .i64 t.seg, .int .i64 t.pos, .int .i64 t.size, .int .i64 t.off, .int .i64 t.time, .bool t.tomb] ++ kcells ts := rfl
theorem kcells_len : ∀ (ts : List Kr), (kcells ts).length = 7 * ts.length
  | [] => rfl
  | t :: ts => by
    have := kcells_len ts
    rw [kcells_cons, List.length_append, this]
    simp only [List.length_cons, List.length_nil]
    omega
theorem kcells_get (ts : List Kr) (j i : Nat) (h : j < ts.length) (hi : i < 7) : (kcells ts)[j * 7 + i]? = (ts.getD j Kr.zero).cells[i]? := by
  induction ts generalizing j with
  | nil => simp at h
  | cons t ts ih =>
    cases j with
    | zero =>
      rw [kcells_cons, List.getElem?_append_left (by simp; omega)]
      simp [Kr.cells]
    | succ j =>
      have := ih j (by simpa using h)
      rw [kcells_cons, List.getElem?_append_right (by simp; omega)]
      simpa [show (j + 1) * 7 + i - 7 = j * 7 + i by omega] using this

theorem Try.info58 : (Try.prog.info? 58).map (fun i => (i.zero, i.size, i.bytes)) = some (some Kr.zero.agg, 7, 64) := by kernel_rfl

/-- v is a slice of records of the call's own, in block r. -/
def OwnKr (w : World) (v : Value) (ts : List Kr) (r : Option Nat) : Prop :=
  (v = .slice none 0 0 ∧ ts = [] ∧ r = none) ∨
  ∃ g cap, r = some g ∧ v = .slice (some ⟨g, 0, none⟩) ts.length cap ∧ g < w.heap.size ∧ ts.length ≤ cap ∧ cap ≤ maxLen ∧ (∀ j, j < 7 * cap → w.frozen? ⟨g, j, none⟩ = false) ∧ (∀ j, j < 7 * cap → (w.cell? ⟨g, j, none⟩).isSome = true) ∧
    ∀ j, j < 7 * ts.length → w.cell? ⟨g, j, none⟩ = (kcells ts)[j]?

theorem OwnKr.nil (w : World) : OwnKr w (.slice none 0 0) [] none := .inl ⟨rfl, rfl, rfl⟩

theorem OwnKr.kept {w w' : World} {v : Value} {ts : List Kr} {r r' : Option Nat} (h : OwnKr w v ts r) (k : w.grownBy w' r') (hne : r = none ∨ r ≠ r') : OwnKr w' v ts r := by
  rcases h with h0 | ⟨g, cap, rfl, rfl, hg, h1, h2, h3, h4, h5⟩
  · exact .inl h0
  · have hb : w'.heap[g]? = w.heap[g]? := k.block g hg (by rcases hne with h | h <;> simp_all)
    refine .inr ⟨g, cap, rfl, rfl, Nat.lt_of_lt_of_le hg k.size, h1, h2, fun j hj => ?_, fun j hj => ?_, fun j hj => ?_⟩
    · rw [World.frozen?_of_block (w := w) (a := ⟨g, j, none⟩) hb]; exact h3 j hj
    · rw [World.cell?_of_block (w := w) (a := ⟨g, j, none⟩) hb]; exact h4 j hj
    · rw [World.cell?_of_block (w := w) (a := ⟨g, j, none⟩) hb]; exact h5 j hj
theorem OwnKr.later {w w' : World} {v : Value} {ts : List Kr} {r : Option Nat} (h : OwnKr w v ts r) (k : Below w.heap.size w w') : OwnKr w' v ts r := by
  cases r with
  | none => exact h.kept (below_grow k none) (.inl rfl)
  | some g => exact h.kept (below_grow k none) (.inr (by simp))

theorem OwnKr.lt {w : World} {v : Value} {ts : List Kr} {g : Nat} (h : OwnKr w v ts (some g)) : g < w.heap.size := by
  rcases h with ⟨_, _, h⟩ | ⟨g', cap, e, _, hg, _⟩
  · simp at h
  · simp at e; omega

theorem OwnKr.shape {w : World} {v : Value} {ts : List Kr} {r : Option Nat} (h : OwnKr w v ts r) : ∃ a cap, v = .slice a ts.length cap ∧ cap ≤ maxLen ∧ ts.length ≤ cap := by
  rcases h with ⟨rfl, rfl, h⟩ | ⟨g', cap, e, rfl, hg, h1, h2, _⟩
  · exact ⟨none, 0, rfl, by simp, by simp⟩
  · exact ⟨_, cap, rfl, h2, h1⟩

theorem OwnKr.at {w : World} {v : Value} {ts : List Kr} {g : Nat} (h : OwnKr w v ts (some g)) {j : Nat} (hj : j < ts.length) : Kr.CellsAt w g (j * 7) (ts.getD j Kr.zero) := by
  rcases h with ⟨_, _, h⟩ | ⟨g', cap, e, e2, hg, h1, h2, h3, h4, h5⟩
  · simp at h
  · simp at e; subst e
    have hc : ∀ i, i < 7 → w.cell? ⟨g, j * 7 + i, none⟩ = (ts.getD j Kr.zero).cells[i]? := fun i hi => by rw [h5 _ (by omega)]; exact kcells_get ts j i hj hi
    exact ⟨hc 0 (by decide), hc 1 (by decide), hc 2 (by decide), hc 3 (by decide), hc 4 (by decide), hc 5 (by decide), hc 6 (by decide)⟩

theorem OwnKr.recs {w : World} {v : Value} {ts : List Kr} {r : Option Nat} (h : OwnKr w v ts r) (hl : ts.length ≤ 2199023255500) (hok : ∀ x ∈ ts, x.Ok) : KrsAt w v ts := by
  have h' := h
  rcases h with ⟨rfl, rfl, rfl⟩ | ⟨g, cap, rfl, rfl, hg, h1, h2, h3, h4, h5⟩
  · exact ⟨none, 0, rfl, by simp, by simp, by simp⟩
  · refine ⟨_, cap, rfl, hl, hok, fun _ => ⟨g, 0, rfl, fun j hj => ?_⟩⟩
    rw [Nat.zero_add]
    exact h'.at hj

theorem zcells7k : Kr.zero.agg.cells.size = 7 := by rfl

/-- WHAT append DOES of records. -/
theorem run_append_k (w : World) (ty : TypeId) (v x : Value) (ts : List Kr) (ks : List Kr) (r : Option Nat) (hown : OwnKr w v ts r) (hs : Src Try.prog 7 43 x ks.length (kcells ks) w) (hlen : ts.length + ks.length ≤ 2199023255552) (hr0 : r ≠ none ∨ 0 < ks.length) :
    ∃ v' w' g, (Builtin.append_ #[43, 43] ty #[v, x]).run Try.prog w = .ok v' w' ∧ OwnKr w' v' (ts ++ ks) (some g) ∧ w.grownBy w' r ∧ (some g = r ∨ g = w.heap.size) := by
  obtain ⟨i, hi, hz0, hz1, hz2⟩ := info_parts Try.info58
  have hs' : Src Try.prog i.size 43 x ks.length (kcells ks) w := by rw [hz1]; exact hs
  have hl2 : (ts ++ ks).length = ts.length + ks.length := by simp
  have grow : ∀ (base : Option Addr) (sCap : Nat), (Builtin.firstCells i.size ts.length (.slice base ts.length sCap)).run Try.prog w.drew = .ok (kcells ts).toArray w.drew → sCap < ts.length + ks.length →
      ∃ v' w' g, (Builtin.append_ #[43, 43] ty #[.slice base ts.length sCap, x]).run Try.prog w = .ok v' w' ∧ OwnKr w' v' (ts ++ ks) (some g) ∧ w.grownBy w' r ∧ (some g = r ∨ g = w.heap.size) := by
    intro base sCap hold hg
    have hr := run_append_grow_src (P := Try.prog) w 43 43 ty 58 i _ Try.underlying43 hi hz0 base ts.length sCap (kcells ts) hold x ks.length (kcells ks) hs' hg (by omega) (by rw [hz2]; exact growslice_fits_wide hg (by omega))
    have hge := grownCap_ge w (ts.length + ks.length) sCap 58
    have hcm := grownCap_le_maxLen w (ts.length + ks.length) sCap 58 (by unfold maxLen; omega)
    refine ⟨_, _, w.heap.size, hr, ?_, ⟨rfl, rfl, rfl, by simp, fun k hk _ => heap_alloc_old w.drew _ hk⟩, .inr rfl⟩
    obtain ⟨C, hC⟩ : ∃ C, (kcells ts ++ (kcells ks)).toArray ++ Builtin.zeroCells Kr.zero.agg.cells (grownCap w (ts.length + ks.length) sCap 58 - (ts.length + ks.length)) = C := ⟨_, rfl⟩
    have hCs : C.size = 7 * grownCap w (ts.length + ks.length) sCap 58 := by
      rw [← hC, Array.size_append, List.size_toArray, size_zeroCells, zcells7k, List.length_append, kcells_len, kcells_len]
      omega
    have hCg : ∀ j, j < 7 * (ts.length + ks.length) → C[j]? = (kcells (ts ++ ks))[j]? := fun j hj => by
      rw [← hC, Array.getElem?_append_left (by rw [List.size_toArray, List.length_append, kcells_len, kcells_len]; omega), List.getElem?_toArray, kcells_app]
    rw [hC]
    refine .inr ⟨w.heap.size, grownCap w (ts.length + ks.length) sCap 58, rfl, by rw [hl2], by simp, by rw [hl2]; exact hge, hcm, fun j hj => ?_, fun j hj => ?_, fun j hj => ?_⟩
    · exact World.frozen?_alloc_at _ _ _ _ rfl
    · show ((w.drew.alloc (Obj.cells C 58)).cell? ⟨w.drew.heap.size, j, none⟩).isSome = true
      rw [World.cell?_alloc_at _ _ _ _ rfl, Array.getElem?_eq_getElem (by omega)]; rfl
    · rw [hl2] at hj
      show (w.drew.alloc (Obj.cells C 58)).cell? ⟨w.drew.heap.size, j, none⟩ = _
      rw [World.cell?_alloc_at _ _ _ _ rfl]; exact hCg j hj
  rcases hown with ⟨rfl, rfl, rfl⟩ | ⟨g, cap, rfl, rfl, hg, h1, h2, h3, h4, h5⟩
  · rcases hr0 with h | h
    · exact absurd rfl h
    · exact grow none 0 (by rw [List.length_nil]; exact run_firstCells_none w.drew _ _ _ _) (by simpa using h)
  · by_cases hroom : ts.length + ks.length ≤ cap
    · have hr := run_append_room_src (P := Try.prog) w 43 43 ty 58 i Try.underlying43 hi g 0 ts.length cap x ks.length (kcells ks) hs' hroom
        (fun j hj => by rw [hz1]; rw [kcells_len] at hj; exact h4 _ (by omega))
        (fun j hj => by rw [hz1]; rw [kcells_len] at hj; exact h3 _ (by omega))
      rw [hz1, Nat.zero_add] at hr
      refine ⟨_, _, g, hr, .inr ⟨g, cap, rfl, by rw [hl2], ?_, by omega, h2, fun j hj => ?_, fun j hj => ?_, fun j hj => ?_⟩, grow_setCells w g _ _, .inl rfl⟩
      · rw [setCells_size]; exact hg
      · rw [World.frozen?_setCells]; exact h3 j hj
      · exact isSome_setCells g _ _ w _ (h4 j hj)
      · rw [hl2] at hj
        by_cases hj' : j < 7 * ts.length
        · rw [World.cell?_setCells_out g _ _ w _ (fun _ _ => .inl (by show j < ts.length * 7; omega)), h5 j hj', kcells_app, List.getElem?_append_left (by rw [kcells_len]; exact hj')]
        · have hj2 : j - 7 * ts.length < (kcells ks).length := by rw [kcells_len]; omega
          have := World.cell?_setCells_in g (kcells ks) (ts.length * 7) w (fun m hm => h4 _ (by rw [kcells_len] at hm; omega)) (j - 7 * ts.length) hj2
          rw [show ts.length * 7 + (j - 7 * ts.length) = j by omega] at this
          rw [this, kcells_app, List.getElem?_append_right (by rw [kcells_len]; omega), kcells_len, List.getElem?_eq_getElem hj2]
    · refine grow _ cap ?_ (by omega)
      rw [hz1]
      refine run_firstCells_some w.drew 7 ts.length ⟨g, 0, none⟩ _ _ (kcells ts) (by rw [kcells_len]; omega) (fun j u hj => ?_)
      have hjl : j < 7 * ts.length := by
        have := (List.getElem?_eq_some_iff.mp hj).1
        rwa [kcells_len] at this
      rw [WideShapes.add_plain, Nat.zero_add]
      show w.cell? ⟨g, j, none⟩ = some u
      rw [h5 j hjl, hj]

theorem wpList_append_k {ops : Array Oper} {rest : List Oper} {o : Oper} {a : Act} {Q : Exit → Act → World → Prop} (w : World) (hgd : o.guard = none) (s x : Operand)
    (ho : o.op = .call { callee := .builtin .append, args := #[s, x], argTypes := #[43, 43] }) (v xv : Value) (ts : List Kr) (ks : List Kr) (r : Option Nat)
    (hs : a.eval s = v) (hx : a.eval x = xv) (hown : OwnKr w v ts r) (hsrc : Src Try.prog 7 43 xv ks.length (kcells ks) w) (hlen : ts.length + ks.length ≤ 2199023255552) (hr0 : r ≠ none ∨ 0 < ks.length)
    (h : ∀ v' w' g, OwnKr w' v' (ts ++ ks) (some g) → w.grownBy w' r → (some g = r ∨ g = w.heap.size) → wpList Try.prog ops Q rest (a.put o.dst v') w') : wpList Try.prog ops Q (o :: rest) a w :=
  wpList_plain hgd fun _ hK => by
    obtain ⟨v', w', g, hr, h1, h2, h3⟩ := run_append_k w o.type v xv ts ks r hown hsrc hlen hr0
    unfold Oper.wp execOp
    simp only [ho, resolve, invoke, builtin, Sem.run_bind, Sem.run_pure, Result.andThen_ok, List.map_toArray, List.map_cons, List.map_nil, hs, hx, hr]
    exact hK _ _ (h v' w' g h1 h2 h3)
end Go.Proofs.Ytjhbaplnkigifaa

/-! keydir: slices of keys with entries, and of texts, that came in. -/
namespace Go.Proofs.Ytjhbaplnkigifaa
open Go.RowKit Go.Deep Go.ChangeShapes Go.WideShapes Go.ChangeAt Plain
set_option linter.unusedVariables false

theorem cells_en : Try.prog.cellsOf 38 = 6 := by kernel_rfl
theorem cells_ke : Try.prog.cellsOf 58 = 7 := by kernel_rfl
theorem cells_2 : Try.prog.cellsOf 2 = 1 := by kernel_rfl
theorem cells_3 : Try.prog.cellsOf 3 = 1 := by kernel_rfl
theorem cells_4 : Try.prog.cellsOf 4 = 1 := by kernel_rfl
theorem cells_9 : Try.prog.cellsOf 9 = 1 := by kernel_rfl
theorem bytes_ke : Try.prog.bytesOf 58 = 64 := by kernel_rfl
theorem bytes_9 : Try.prog.bytesOf 9 = 16 := by kernel_rfl

theorem wf_i64 {z : Int} (h : (Lit.int .i64 z).wf = true) : I64 z := by
  have := bounds_i64 h
  unfold I64
  omega

set_option maxRecDepth 100000 in
theorem open_en {H : Type} {enc : TypeId × Value → H} {W : World} {n : Nat} {x : DataW H × List MemPlace} {cs' : List Value}
    (h2 : DataW.trod enc Try.prog W 0 (fun _ => true) true n 38 cs' = some x) :
    ∃ (a b c d t : Int) (m : Bool), cs' = [.int .i64 a, .int .i64 b, .int .i64 c, .int .i64 d, .int .i64 t, .bool m] ∧ I64 a ∧ I64 b ∧ I64 c ∧ I64 d ∧ I64 t := by
  obtain ⟨xs, m, _, hx, hl, hlen, hf⟩ := DataW.trod_struct Try.underlying38 h2
  rw [cells_en] at hl
  have hlen : xs.length = 6 := hlen
  match cs', hl with
  | [v0, v1, v2, v3, v4, v5], _ =>
    match xs, hlen with
    | [y0, y1, y2, y3, y4, y5], _ =>
      have k0 : DataW.trod enc Try.prog W 0 (fun _ => true) true m 3 [v0] = some y0 := by simpa [cells_3] using hf 0 _ rfl
      have k1 : DataW.trod enc Try.prog W 0 (fun _ => true) true m 3 [v1] = some y1 := by simpa [cells_3] using hf 1 _ rfl
      have k2 : DataW.trod enc Try.prog W 0 (fun _ => true) true m 3 [v2] = some y2 := by simpa [cells_3] using hf 2 _ rfl
      have k3 : DataW.trod enc Try.prog W 0 (fun _ => true) true m 2 [v3] = some y3 := by simpa [cells_2] using hf 3 _ rfl
      have k4 : DataW.trod enc Try.prog W 0 (fun _ => true) true m 2 [v4] = some y4 := by simpa [cells_2] using hf 4 _ rfl
      have k5 : DataW.trod enc Try.prog W 0 (fun _ => true) true m 4 [v5] = some y5 := by simpa [cells_4] using hf 5 _ rfl
      obtain ⟨n0, e0, _, w0⟩ := DataW.trod_int Try.underlying3 k0
      obtain ⟨n1, e1, _, w1⟩ := DataW.trod_int Try.underlying3 k1
      obtain ⟨n2, e2, _, w2⟩ := DataW.trod_int Try.underlying3 k2
      obtain ⟨n3, e3, _, w3⟩ := DataW.trod_int Try.underlying2 k3
      obtain ⟨n4, e4, _, w4⟩ := DataW.trod_int Try.underlying2 k4
      obtain ⟨b5, e5, _⟩ := DataW.trod_bool Try.underlying4 k5
      simp only [List.cons.injEq, and_true] at e0 e1 e2 e3 e4 e5
      subst e0 e1 e2 e3 e4 e5
      exact ⟨n0, n1, n2, n3, n4, b5, rfl, wf_i64 w0, wf_i64 w1, wf_i64 w2, wf_i64 w3, wf_i64 w4⟩

set_option maxRecDepth 100000 in
theorem open_kr {H : Type} {enc : TypeId × Value → H} {W : World} {n : Nat} {a : Addr} {i : Nat} {x : DataW H × List MemPlace} {cs' : List Value} (h1 : W.cells? 0 (a.add (i * Try.prog.cellsOf 58)) (Try.prog.cellsOf 58) = some cs')
    (h2 : DataW.trod enc Try.prog W 0 (fun _ => true) true n 58 cs' = some x) :
    ∃ s : Kr, s.Ok ∧ W.cell? ((a.add (i * 7)).add 0) = some (.string s.key) ∧ W.cell? ((a.add (i * 7)).add 1) = some (.int .i64 s.seg) ∧ W.cell? ((a.add (i * 7)).add 2) = some (.int .i64 s.pos) ∧ W.cell? ((a.add (i * 7)).add 3) = some (.int .i64 s.size) ∧
      W.cell? ((a.add (i * 7)).add 4) = some (.int .i64 s.off) ∧ W.cell? ((a.add (i * 7)).add 5) = some (.int .i64 s.time) ∧ W.cell? ((a.add (i * 7)).add 6) = some (.bool s.tomb) := by
  rw [cells_ke] at h1
  obtain ⟨_, hlen0, hcell⟩ := World.cells?_some h1
  obtain ⟨xs, m, _, hx, hl, hlen, hf⟩ := DataW.trod_struct Try.underlying58 h2
  rw [cells_ke] at hl
  have hlen : xs.length = 2 := hlen
  match cs', hl with
  | [v0, v1, v2, v3, v4, v5, v6], _ =>
    match xs, hlen with
    | [y0, y1], _ =>
      have k0 : DataW.trod enc Try.prog W 0 (fun _ => true) true m 9 [v0] = some y0 := by simpa [cells_9] using hf 0 _ rfl
      have k1 : DataW.trod enc Try.prog W 0 (fun _ => true) true m 38 [v1, v2, v3, v4, v5, v6] = some y1 := by simpa [cells_9, cells_en] using hf 1 _ rfl
      obtain ⟨s0, e0, _, w0⟩ := DataW.trod_string Try.underlying9 k0
      obtain ⟨n1, n2, n3, n4, n5, b6, e1, q1, q2, q3, q4, q5⟩ := open_en k1
      simp only [List.cons.injEq, and_true] at e0 e1
      obtain ⟨rfl, rfl, rfl, rfl, rfl, rfl⟩ := e1
      subst e0
      exact ⟨⟨s0, n1, n2, n3, n4, n5, b6⟩, ⟨w0, q1, q2, q3, q4, q5, trivial⟩, by simpa using hcell 0 (by omega), by simpa using hcell 1 (by omega), by simpa using hcell 2 (by omega), by simpa using hcell 3 (by omega), by simpa using hcell 4 (by omega), by simpa using hcell 5 (by omega), by simpa using hcell 6 (by omega)⟩

theorem open_krs {H : Type} {enc : TypeId × Value → H} {W : World} {fuel : Nat} {v : Value} {x : DataW H × List MemPlace} (h : DataW.trod enc Try.prog W 0 (fun _ => true) true fuel 43 [v] = some x)
    (hsz : ∀ el sp, x.1 = .slice el sp → (el.length + sp.length) * Try.prog.bytesOf 58 ≤ reachBytes) : ∃ st : List Kr, KrsAt W v st := by
  rcases open_slice Try.underlying43 h with ⟨hcs, hx⟩ | ⟨a, len, cap, m, n, D, PP, hcs, hb, hl, hm, hmm, hx, hel⟩
  · simp at hcs
    subst hcs
    exact ⟨[], ⟨none, 0, rfl, by simp, by simp, by simp⟩⟩
  · simp at hcs
    subst hcs
    simp only [if_true] at hmm
    subst hmm
    have each := fun i hi => (hel i hi).elim fun cs' h12 => open_kr (i := i) h12.1 h12.2
    have iSt : Inhabited Kr := ⟨Kr.zero⟩
    obtain ⟨q, hq⟩ := choose_lt each
    have hbig : len ≤ 2199023255500 := by
      have := hsz _ _ (by rw [hx])
      rw [bytes_ke] at this
      simp [reachBytes] at this
      omega
    refine ⟨(List.range len).map q, ⟨some a, m, by simp, by simpa using hbig, ?_, ?_⟩⟩
    · intro s hs
      obtain ⟨i, hi, rfl⟩ := List.mem_map.mp hs
      exact (hq i (by have := List.mem_range.mp hi; omega)).1
    · intro hne
      have hlen : 0 < len := by
        rcases Nat.eq_zero_or_pos len with rfl | h
        · simp at hne
        · exact h
      obtain ⟨b, off, spot⟩ := a
      have hspot : spot = none := by
        have := World.cell?_spot (hq 0 (by omega)).2.1
        simpa [Addr.add] using this
      subst hspot
      refine ⟨b, off, rfl, fun j hj => ?_⟩
      have hj' : j < len := by simpa using hj
      obtain ⟨_, c0, c1, c2, c3, c4, c5, c6⟩ := hq j (by omega)
      rw [WideShapes.add_plain, WideShapes.add_plain] at c0 c1 c2 c3 c4 c5 c6
      have e : ((List.range len).map q).getD j Kr.zero = q j := by simp [hj']
      rw [e]
      exact ⟨c0, c1, c2, c3, c4, c5, c6⟩

/-- v is a slice of texts that reads as ss. -/
def TxtsAt (w : World) (v : Value) (ss : List ByteArray) : Prop :=
  ∃ a cap, v = .slice a ss.length cap ∧ ss.length ≤ 8796093022208 ∧ (∀ s ∈ ss, s.size ≤ maxLen) ∧ (ss ≠ [] → ∃ b off, a = some ⟨b, off, none⟩ ∧ ∀ j, j < ss.length → w.cell? ⟨b, off + j, none⟩ = some (.string (ss.getD j ⟨#[]⟩)))
theorem TxtsAt.later {w w' : World} {v : Value} {ss : List ByteArray} (h : TxtsAt w v ss) (hb : Below w.heap.size w w') : TxtsAt w' v ss := by
  obtain ⟨a, cap, e, h1, h2, h3⟩ := h
  refine ⟨a, cap, e, h1, h2, fun hne => ?_⟩
  obtain ⟨b, off, e2, hc⟩ := h3 hne
  exact ⟨b, off, e2, fun j hj => (hb.cell (p := ⟨b, off + j, none⟩) (cell_lt (hc j hj))).trans (hc j hj)⟩

end Go.Proofs.Ytjhbaplnkigifaa

/-! keydir: the law's good and last. -/
namespace Go.Proofs.Ytjhbaplnkigifaa
open Go.RowKit Plain
set_option linter.unusedVariables false
set_option linter.unusedSimpArgs false

theorem keys_ne {a b : ByteArray} (h : ¬ a = b) : (a.toList == b.toList) = false := by
  rw [beq_eq_false_iff_ne, ByteArray.toList_eq, ByteArray.toList_eq]
  exact fun e => h (WideShapes.bytes_inj e)
def Kr.ke (r : Kr) : Ke := ⟨r.key, ⟨r.seg, r.pos, r.size, r.off, r.time, r.tomb⟩⟩
/-- The last item with that key. -/
def lastM (key : ByteArray) (st : List Kr) : Option Kr := st.reverse.find? fun x => decide (kc key x.key = 0)
def lastK (key : ByteArray) (st : List Kr) : Option Kr := if okKey key then lastM key st else none
def entR (o : Option Kr) : En := match o with | some r => r.ke.e | none => En.zero
theorem lastM_snoc (key : ByteArray) (st : List Kr) (x : Kr) : lastM key (st ++ [x]) = if kc key x.key = 0 then some x else lastM key st := by
  unfold lastM
  rw [List.reverse_append, List.reverse_singleton, List.singleton_append, List.find?_cons]
  by_cases h : kc key x.key = 0
  · simp [h]
  · simp [h]
theorem take_succ_getD {st : List Kr} {m : Nat} (h : m < st.length) : st.take (m + 1) = st.take m ++ [st.getD m Kr.zero] := by
  rw [List.take_add_one, List.getD_eq_getElem?_getD, List.getElem?_eq_getElem h]
  simp

theorem below_step' {w u w' : World} (h : Below w.heap.size w u) (k : Below u.heap.size u w') : Below w.heap.size w w' := h.trans (k.mono h.size)
end Go.Proofs.Ytjhbaplnkigifaa

/-! keydir: the law's laid. -/
namespace Go.Proofs.Ytjhbaplnkigifaa
open Go.RowKit Plain
set_option linter.unusedVariables false
set_option linter.unusedSimpArgs false

def layK (l : List Ke) (x : Kr) : List Ke := if okKey x.key then insL x.key x.ke.e l else l
def laidL (st : List Kr) : List Ke := st.foldl layK []
theorem laidL_snoc (st : List Kr) (x : Kr) : laidL (st ++ [x]) = layK (laidL st) x := by simp [laidL]
theorem laidL_len_aux : ∀ (st : List Kr) (l : List Ke), (st.foldl layK l).length ≤ l.length + st.length
  | [], l => by simp
  | x :: st, l => by
    have := laidL_len_aux st (layK l x)
    have h2 : (layK l x).length ≤ l.length + 1 := by
      unfold layK
      split
      · exact insL_len _ _ _
      · omega
    simp only [List.foldl_cons, List.length_cons]
    omega
theorem laidL_len (st : List Kr) : (laidL st).length ≤ st.length := by
  have := laidL_len_aux st []
  simpa [laidL] using this
theorem find_lay (key : ByteArray) (l : List Ke) (x : Kr) : findL key (layK l x) = if kc key x.key = 0 ∧ okKey x.key = true then some x.ke else findL key l := by
  unfold layK
  by_cases h : okKey x.key = true
  · rw [if_pos h, findL_ins]
    by_cases h0 : kc key x.key = 0
    · rw [if_pos h0, if_pos ⟨h0, h⟩]; rfl
    · rw [if_neg h0, if_neg (fun h2 => h0 h2.1)]
  · rw [if_neg h, if_neg (fun h2 => h h2.2)]
theorem find_laid_aux (key : ByteArray) : ∀ (n : Nat) (st : List Kr), st.length = n → findL key (laidL st) = (lastK key st).map Kr.ke
  | 0, st, h => by
    have : st = [] := List.eq_nil_of_length_eq_zero h
    subst this
    unfold lastK
    split <;> rfl
  | n + 1, st, h => by
    have hne : st ≠ [] := by intro e; rw [e] at h; simp at h
    obtain ⟨s', x, rfl⟩ : ∃ s' x, st = s' ++ [x] := ⟨st.dropLast, st.getLast hne, (List.dropLast_concat_getLast hne).symm⟩
    have ih := find_laid_aux key n s' (by simpa using h)
    rw [laidL_snoc, find_lay, ih]
    unfold lastK
    rw [lastM_snoc]
    by_cases h0 : kc key x.key = 0
    · have hk := kc_zero h0
      rw [← hk]
      by_cases h1 : okKey key = true
      · simp [h1, kc_self]
      · simp [h1]
    · simp [h0]
theorem find_laid (key : ByteArray) (st : List Kr) : findL key (laidL st) = (lastK key st).map Kr.ke := find_laid_aux key _ st rfl

theorem DirAt.more {D D' : Nat → Prop} {w : World} {gd : Nat} {l : List Ke} (h : DirAt D w gd l) (h1 : ∀ g, D g → D' g) (h2 : ∀ g, D' g → D g ∨ w.heap.size ≤ g) : DirAt D' w gd l := by
  obtain ⟨k1, k2, k3, n, p, k4, k5⟩ := h
  exact ⟨h1 _ k1, k2, k3, n, p, k4, k5.tight fun g hg hlt hd => (h2 g hd).elim hg (fun h => by omega)⟩
theorem DirAt.less {D D' : Nat → Prop} {w : World} {gd : Nat} {l : List Ke} (h : DirAt D' w gd l) (h1 : ∀ g, D g → D' g) (h2 : D gd) : DirAt D w gd l := by
  obtain ⟨k1, k2, k3, n, p, k4, k5⟩ := h
  exact ⟨h2, k2, k3, n, p, k4, k5.weak fun g hg hd => hg (h1 g hd)⟩
/-- A dir stands when an answer is laid down in a block that no node lies in. -/
theorem DirAt.put {D : Nat → Prop} {w : World} {gd R : Nat} {l : List Ke} (h : DirAt D w gd l) (hR : D R) (hne : R ≠ gd) (e : En) : DirAt D (putEn w R e) gd l :=
  h.kept ((putEn_grow w R e).block gd h.lt (fun e' => hne (by cases e'; rfl))) fun g hg hd => (putEn_grow w R e).block g hg (fun e' => hd (by cases e'; exact hR))

end Go.Proofs.Ytjhbaplnkigifaa
