import Derived.Test.YthcnhjmkcekdaaaGreatQs10
import Derived.Deep.DeepAppendWide
namespace Go.Proofs.YthcnhjmkcekdaaaGreat
open Go.RowKit Plain
set_option linter.unusedVariables false
set_option linter.unusedSimpArgs false
structure Fi where
  name : ByteArray
  data : Value
def Fi.none : Fi := ⟨ByteArray.empty, .slice Option.none 0 0⟩
def Fi.cells (x : Fi) : List Value := [.string x.name, x.data]
def Fi.agg (x : Fi) : Value := .agg #[.string x.name, x.data]
def icells (ts : List Fi) : List Value := ts.flatMap Fi.cells
theorem icells_app (ts ks : List Fi) : icells (ts ++ ks) = icells ts ++ icells ks := by simp [icells]
theorem icells_cons (t : Fi) (ts : List Fi) : icells (t :: ts) = [.string t.name, t.data] ++ icells ts := rfl
theorem icells_len : ∀ (ts : List Fi), (icells ts).length = 2 * ts.length
  | [] => rfl
  | t :: ts => by
    have := icells_len ts
    rw [icells_cons, List.length_append, this]
    simp only [List.length_cons, List.length_nil]
    omega
theorem icells_get (ts : List Fi) (j i : Nat) (h : j < ts.length) (hi : i < 2) : (icells ts)[j * 2 + i]? = (ts.getD j Fi.none).cells[i]? := by
  induction ts generalizing j with
  | nil => simp at h
  | cons t ts ih =>
    cases j with
    | zero =>
      rw [icells_cons, List.getElem?_append_left (by simp; omega)]
      simp [Fi.cells]
    | succ j =>
      have := ih j (by simpa using h)
      rw [icells_cons, List.getElem?_append_right (by simp; omega)]
      simpa [show (j + 1) * 2 + i - 2 = j * 2 + i by omega] using this
theorem infoFile : (Tryz.prog.info? 46).map (fun i => (i.zero, i.size, i.bytes)) = some (some Fi.none.agg, 2, 40) := by kernel_rfl
/-- v is a slice of records of the call's own, in block r. -/
def OwnI (w : World) (v : Value) (ts : List Fi) (r : Option Nat) : Prop :=
  (v = .slice none 0 0 ∧ ts = [] ∧ r = none) ∨
  ∃ g cap, r = some g ∧ v = .slice (some ⟨g, 0, none⟩) ts.length cap ∧ g < w.heap.size ∧ ts.length ≤ cap ∧ cap ≤ maxLen ∧ (∀ j, j < 2 * cap → w.frozen? ⟨g, j, none⟩ = false) ∧ (∀ j, j < 2 * cap → (w.cell? ⟨g, j, none⟩).isSome = true) ∧
    ∀ j, j < 2 * ts.length → w.cell? ⟨g, j, none⟩ = (icells ts)[j]?
theorem OwnI.nil (w : World) : OwnI w (.slice none 0 0) [] none := .inl ⟨rfl, rfl, rfl⟩
theorem OwnI.kept {w w' : World} {v : Value} {ts : List Fi} {r r' : Option Nat} (h : OwnI w v ts r) (k : w.grownBy w' r') (hne : r = none ∨ r ≠ r') : OwnI w' v ts r := by
  rcases h with h0 | ⟨g, cap, rfl, rfl, hg, h1, h2, h3, h4, h5⟩
  · exact .inl h0
  · have hb : w'.heap[g]? = w.heap[g]? := k.block g hg (by rcases hne with h | h <;> simp_all)
    refine .inr ⟨g, cap, rfl, rfl, Nat.lt_of_lt_of_le hg k.size, h1, h2, fun j hj => ?_, fun j hj => ?_, fun j hj => ?_⟩
    · rw [World.frozen?_of_block (w := w) (a := ⟨g, j, none⟩) hb]; exact h3 j hj
    · rw [World.cell?_of_block (w := w) (a := ⟨g, j, none⟩) hb]; exact h4 j hj
    · rw [World.cell?_of_block (w := w) (a := ⟨g, j, none⟩) hb]; exact h5 j hj
theorem OwnI.later {w w' : World} {v : Value} {ts : List Fi} {r : Option Nat} (h : OwnI w v ts r) (k : Below w.heap.size w w') : OwnI w' v ts r := by
  cases r with
  | none => exact h.kept (below_grow k none) (.inl rfl)
  | some g => exact h.kept (below_grow k none) (.inr (by simp))
theorem OwnI.lt {w : World} {v : Value} {ts : List Fi} {g : Nat} (h : OwnI w v ts (some g)) : g < w.heap.size := by
  rcases h with ⟨_, _, h⟩ | ⟨g', cap, e, _, hg, _⟩
  · simp at h
  · simp at e; omega
theorem OwnI.shape {w : World} {v : Value} {ts : List Fi} {r : Option Nat} (h : OwnI w v ts r) : ∃ a cap, v = .slice a ts.length cap ∧ cap ≤ maxLen ∧ ts.length ≤ cap := by
  rcases h with ⟨rfl, rfl, h⟩ | ⟨g', cap, e, rfl, hg, h1, h2, _⟩
  · exact ⟨none, 0, rfl, by simp, by simp⟩
  · exact ⟨_, cap, rfl, h2, h1⟩
theorem OwnI.at {w : World} {v : Value} {ts : List Fi} {g : Nat} (h : OwnI w v ts (some g)) {j : Nat} (hj : j < ts.length) : w.cell? ⟨g, j * 2, none⟩ = some (.string (ts.getD j Fi.none).name) ∧ w.cell? ⟨g, j * 2 + 1, none⟩ = some (ts.getD j Fi.none).data := by
  rcases h with ⟨_, _, h⟩ | ⟨g', cap, e, e2, hg, h1, h2, h3, h4, h5⟩
  · simp at h
  · simp at e; subst e
    have hc : ∀ i, i < 2 → w.cell? ⟨g, j * 2 + i, none⟩ = (ts.getD j Fi.none).cells[i]? := fun i hi => by rw [h5 _ (by omega)]; exact icells_get ts j i hj hi
    exact ⟨hc 0 (by decide), hc 1 (by decide)⟩
theorem zcellsI : Fi.none.agg.cells.size = 2 := by rfl
/-- WHAT append DOES of records. -/
theorem run_append_files (w : World) (ty : TypeId) (v x : Value) (ts : List Fi) (ks : List Fi) (r : Option Nat) (hown : OwnI w v ts r) (hs : Src Tryz.prog 2 40 x ks.length (icells ks) w) (hlen : ts.length + ks.length ≤ 2199023255552) (hr0 : r ≠ none ∨ 0 < ks.length) :
    ∃ v' w' g, (Builtin.append_ #[40, 40] ty #[v, x]).run Tryz.prog w = .ok v' w' ∧ OwnI w' v' (ts ++ ks) (some g) ∧ w.grownBy w' r ∧ (some g = r ∨ g = w.heap.size) := by
  obtain ⟨i, hi, hz0, hz1, hz2⟩ := info_parts infoFile
  have hs' : Src Tryz.prog i.size 40 x ks.length (icells ks) w := by rw [hz1]; exact hs
  have hl2 : (ts ++ ks).length = ts.length + ks.length := by simp
  have grow : ∀ (base : Option Addr) (sCap : Nat), (Builtin.firstCells i.size ts.length (.slice base ts.length sCap)).run Tryz.prog w.drew = .ok (icells ts).toArray w.drew → sCap < ts.length + ks.length →
      ∃ v' w' g, (Builtin.append_ #[40, 40] ty #[.slice base ts.length sCap, x]).run Tryz.prog w = .ok v' w' ∧ OwnI w' v' (ts ++ ks) (some g) ∧ w.grownBy w' r ∧ (some g = r ∨ g = w.heap.size) := by
    intro base sCap hold hg
    have hr := run_append_grow_src (P := Tryz.prog) w 40 40 ty 46 i _ Tryz.underlying40 hi hz0 base ts.length sCap (icells ts) hold x ks.length (icells ks) hs' hg (by omega) (by rw [hz2]; exact growslice_fits_wide hg (by omega))
    have hge := grownCap_ge w (ts.length + ks.length) sCap 46
    have hcm := grownCap_le_maxLen w (ts.length + ks.length) sCap 46 (by unfold maxLen; omega)
    refine ⟨_, _, w.heap.size, hr, ?_, ⟨rfl, rfl, rfl, by simp, fun k hk _ => Below.heap_alloc _ _ _ hk⟩, .inr rfl⟩
    obtain ⟨C, hC⟩ : ∃ C, (icells ts ++ (icells ks)).toArray ++ Builtin.zeroCells Fi.none.agg.cells (grownCap w (ts.length + ks.length) sCap 46 - (ts.length + ks.length)) = C := ⟨_, rfl⟩
    have hCs : C.size = 2 * grownCap w (ts.length + ks.length) sCap 46 := by
      rw [← hC, Array.size_append, List.size_toArray, size_zeroCells, zcellsI, List.length_append, icells_len, icells_len]
      omega
    have hCg : ∀ j, j < 2 * (ts.length + ks.length) → C[j]? = (icells (ts ++ ks))[j]? := fun j hj => by
      rw [← hC, Array.getElem?_append_left (by rw [List.size_toArray, List.length_append, icells_len, icells_len]; omega), List.getElem?_toArray, icells_app]
    rw [hC]
    refine .inr ⟨w.heap.size, grownCap w (ts.length + ks.length) sCap 46, rfl, by rw [hl2], by simp, by rw [hl2]; exact hge, hcm, fun j hj => ?_, fun j hj => ?_, fun j hj => ?_⟩
    · exact World.frozen?_alloc_at _ _ _ _ rfl
    · show ((w.drew.alloc (Obj.cells C 46)).cell? ⟨w.drew.heap.size, j, none⟩).isSome = true
      rw [World.cell?_alloc_at _ _ _ _ rfl, Array.getElem?_eq_getElem (by omega)]; rfl
    · rw [hl2] at hj
      show (w.drew.alloc (Obj.cells C 46)).cell? ⟨w.drew.heap.size, j, none⟩ = _
      rw [World.cell?_alloc_at _ _ _ _ rfl]; exact hCg j hj
  rcases hown with ⟨rfl, rfl, rfl⟩ | ⟨g, cap, rfl, rfl, hg, h1, h2, h3, h4, h5⟩
  · rcases hr0 with h | h
    · exact absurd rfl h
    · exact grow none 0 (by rw [List.length_nil]; exact run_firstCells_none w.drew _ _ _ _) (by simpa using h)
  · by_cases hroom : ts.length + ks.length ≤ cap
    · have hr := run_append_room_src (P := Tryz.prog) w 40 40 ty 46 i Tryz.underlying40 hi g 0 ts.length cap x ks.length (icells ks) hs' hroom
        (fun j hj => by rw [hz1]; rw [icells_len] at hj; exact h4 _ (by omega))
        (fun j hj => by rw [hz1]; rw [icells_len] at hj; exact h3 _ (by omega))
      rw [hz1, Nat.zero_add] at hr
      refine ⟨_, _, g, hr, .inr ⟨g, cap, rfl, by rw [hl2], ?_, by omega, h2, fun j hj => ?_, fun j hj => ?_, fun j hj => ?_⟩, grow_setCells w g _ _, .inl rfl⟩
      · rw [setCells_size]; exact hg
      · rw [World.frozen?_setCells]; exact h3 j hj
      · exact isSome_setCells g _ _ w _ (h4 j hj)
      · rw [hl2] at hj
        by_cases hj' : j < 2 * ts.length
        · rw [World.cell?_setCells_out g _ _ w _ (fun _ _ => .inl (by show j < ts.length * 2; omega)), h5 j hj', icells_app, List.getElem?_append_left (by rw [icells_len]; exact hj')]
        · have hj2 : j - 2 * ts.length < (icells ks).length := by rw [icells_len]; omega
          have := World.cell?_setCells_in g (icells ks) (ts.length * 2) w (fun m hm => h4 _ (by rw [icells_len] at hm; omega)) (j - 2 * ts.length) hj2
          rw [show ts.length * 2 + (j - 2 * ts.length) = j by omega] at this
          rw [this, icells_app, List.getElem?_append_right (by rw [icells_len]; omega), icells_len, List.getElem?_eq_getElem hj2]
    · refine grow _ cap ?_ (by omega)
      rw [hz1]
      refine run_firstCells_some w.drew 2 ts.length ⟨g, 0, none⟩ _ _ (icells ts) (by rw [icells_len]; omega) (fun j u hj => ?_)
      have hjl : j < 2 * ts.length := by
        have := (List.getElem?_eq_some_iff.mp hj).1
        rwa [icells_len] at this
      rw [WideShapes.add_plain, Nat.zero_add]
      show w.cell? ⟨g, j, none⟩ = some u
      rw [h5 j hjl, hj]
theorem wpList_append_files {ops : Array Oper} {rest : List Oper} {o : Oper} {a : Act} {Q : Exit → Act → World → Prop} (w : World) (hgd : o.guard = none) (s x : Operand)
    (ho : o.op = .call { callee := .builtin .append, args := #[s, x], argTypes := #[40, 40] }) (v xv : Value) (ts : List Fi) (ks : List Fi) (r : Option Nat)
    (hs : a.eval s = v) (hx : a.eval x = xv) (hown : OwnI w v ts r) (hsrc : Src Tryz.prog 2 40 xv ks.length (icells ks) w) (hlen : ts.length + ks.length ≤ 2199023255552) (hr0 : r ≠ none ∨ 0 < ks.length)
    (h : ∀ v' w' g, OwnI w' v' (ts ++ ks) (some g) → w.grownBy w' r → (some g = r ∨ g = w.heap.size) → wpList Tryz.prog ops Q rest (a.put o.dst v') w') : wpList Tryz.prog ops Q (o :: rest) a w :=
  wpList_plain hgd fun _ hK => by
    obtain ⟨v', w', g, hr, h1, h2, h3⟩ := run_append_files w o.type v xv ts ks r hown hsrc hlen hr0
    unfold Oper.wp execOp
    simp only [ho, resolve, invoke, builtin, Sem.run_bind, Sem.run_pure, Result.andThen_ok, List.map_toArray, List.map_cons, List.map_nil, hs, hx, hr]
    exact hK _ _ (h v' w' g h1 h2 h3)
end Go.Proofs.YthcnhjmkcekdaaaGreat

namespace Go.Proofs.YthcnhjmkcekdaaaGreat
open Go.RowKit Go.Maps Plain
set_option linter.unusedVariables false
set_option linter.unusedSimpArgs false
/-- Names in their order. -/
def srt (ss : List (List UInt8)) : List (List UInt8) := ss.mergeSort (fun x y => decide (x ≤ y))
theorem srt_pw (ss : List (List UInt8)) : (srt ss).Pairwise (· ≤ ·) := by
  have := List.pairwise_mergeSort (le := fun x y : List UInt8 => decide (x ≤ y)) (fun a b c h k => by simp only [decide_eq_true_eq] at *; exact List.le_trans h k)
    (fun a b => by rw [Bool.or_eq_true, decide_eq_true_eq, decide_eq_true_eq]; exact List.le_total a b) ss
  exact this.imp (fun h => by simpa using h)
theorem srt_perm (ss : List (List UInt8)) : (srt ss).Perm ss := List.mergeSort_perm _ _
theorem srt_of {ss ts : List (List UInt8)} (h : ts.Perm ss) (hp : ts.Pairwise (· ≤ ·)) : srt ss = ts :=
  List.Perm.eq_of_pairwise (fun a b _ _ h k => List.le_antisymm h k) (srt_pw ss) hp ((srt_perm ss).trans h.symm)
theorem srt_eq {ss ts : List (List UInt8)} (h : ss.Perm ts) : srt ss = srt ts := srt_of ((srt_perm ts).trans h.symm) (srt_pw ts)
/-- The names of a directory, rising. -/
def nms (L : Dir) : List (List UInt8) := srt (L.map (·.1))
theorem nms_len (L : Dir) : (nms L).length = L.length := by rw [nms, (srt_perm _).length_eq, List.length_map]
theorem nms_mem {L : Dir} {k : List UInt8} : k ∈ nms L ↔ k ∈ L.map (·.1) := (srt_perm _).mem_iff
/-- v is a row of files of the call's own, which reads as im; its block and its files' blocks are new, and all apart. -/
structure ImgM (w : World) (v : Value) (im : List (List UInt8 × List Nat)) (base : Nat) (ts : List Fi) (r : Option Nat) (blk : Nat → Option Nat) : Prop where
  row : OwnI w v ts r
  len : ts.length = im.length
  one : ∀ j p, im[j]? = some p → ∃ dv, ts[j]? = some ⟨str p.1, dv⟩ ∧ Own w dv p.2 (blk j)
  rbase : ∀ g, r = some g → base ≤ g
  bbase : ∀ j g, blk j = some g → base ≤ g ∧ r ≠ some g
  out : ∀ j, im.length ≤ j → blk j = none
  apart : ∀ i j g, blk i = some g → blk j = some g → i = j
def ImgAt (w : World) (v : Value) (im : List (List UInt8 × List Nat)) (base : Nat) : Prop := ∃ ts r blk, ImgM w v im base ts r blk
theorem ImgM.live {w : World} {v : Value} {im : List (List UInt8 × List Nat)} {base : Nat} {ts : List Fi} {r : Option Nat} {blk : Nat → Option Nat} (h : ImgM w v im base ts r blk) {j g : Nat} (e : blk j = some g) : g < w.heap.size := by
  by_cases hj : j < im.length
  · obtain ⟨dv, _, ho⟩ := h.one j _ (List.getElem?_eq_getElem hj)
    rw [e] at ho
    exact ho.lt
  · rw [h.out j (by omega)] at e
    simp at e
theorem ImgM.frame {w w' : World} {v : Value} {im : List (List UInt8 × List Nat)} {base : Nat} {ts : List Fi} {r r' : Option Nat} {blk : Nat → Option Nat} (h : ImgM w v im base ts r blk) (k : w.grownBy w' r') (h1 : ∀ g, r' = some g → g < base) : ImgM w' v im base ts r blk := by
  refine ⟨h.row.kept k ?_, h.len, fun j p hp => ?_, h.rbase, h.bbase, h.out, h.apart⟩
  · cases r with
    | none => exact .inl rfl
    | some g => exact .inr (fun e => by have := h.rbase g rfl; have := h1 g e.symm; omega)
  · obtain ⟨dv, h2, h3⟩ := h.one j p hp
    refine ⟨dv, h2, h3.kept k ?_⟩
    cases hb : blk j with
    | none => exact .inl rfl
    | some g => exact .inr (fun e => by have := (h.bbase j g hb).1; have := h1 g e.symm; omega)
theorem ImgM.later {w w' : World} {v : Value} {im : List (List UInt8 × List Nat)} {base : Nat} {ts : List Fi} {r : Option Nat} {blk : Nat → Option Nat} (h : ImgM w v im base ts r blk) (k : Below w.heap.size w w') : ImgM w' v im base ts r blk := h.frame (below_grow k none) (by simp)
theorem ImgAt.frame {w w' : World} {v : Value} {im : List (List UInt8 × List Nat)} {base : Nat} {r' : Option Nat} (h : ImgAt w v im base) (k : w.grownBy w' r') (h1 : ∀ g, r' = some g → g < base) : ImgAt w' v im base := by
  obtain ⟨ts, r, blk, hm⟩ := h
  exact ⟨ts, r, blk, hm.frame k h1⟩
theorem ImgAt.later {w w' : World} {v : Value} {im : List (List UInt8 × List Nat)} {base : Nat} (h : ImgAt w v im base) (k : Below w.heap.size w w') : ImgAt w' v im base := h.frame (below_grow k none) (by simp)
/-- One file more: the row behind the append, which has left the files' bytes alone. -/
theorem ImgM.push {w w' : World} {v v' dv : Value} {im : List (List UInt8 × List Nat)} {base : Nat} {ts : List Fi} {r q : Option Nat} {blk : Nat → Option Nat} {k : List UInt8} {l : List Nat} {g' : Nat}
    (h : ImgM w v im base ts r blk) (ho : Own w dv l q) (hq : ∀ g, q = some g → base ≤ g ∧ r ≠ some g ∧ ∀ j, blk j ≠ some g)
    (hr : OwnI w' v' (ts ++ [⟨str k, dv⟩]) (some g')) (hg : w.grownBy w' r) (hg' : some g' = r ∨ g' = w.heap.size) (hbase : base ≤ w.heap.size) :
    ImgM w' v' (im ++ [(k, l)]) base (ts ++ [⟨str k, dv⟩]) (some g') (fun j => if j = im.length then q else blk j) := by
  have hlive : ∀ g, q = some g → g < w.heap.size := fun g e => by rw [e] at ho; exact ho.lt
  refine ⟨hr, by simp [h.len], fun j p hp => ?_, fun g e => ?_, fun j g e => ?_, fun j hj => ?_, fun i j g h1 h2 => ?_⟩
  · by_cases hj : j < im.length
    · rw [List.getElem?_append_left hj] at hp
      obtain ⟨d0, h2, h3⟩ := h.one j p hp
      refine ⟨d0, by rw [List.getElem?_append_left (by rw [h.len]; exact hj)]; exact h2, ?_⟩
      simp only [Nat.ne_of_lt hj, if_false]
      refine h3.kept hg ?_
      cases hb : blk j with
      | none => exact .inl rfl
      | some g => exact .inr (fun e => (h.bbase j g hb).2 e.symm)
    · rw [List.getElem?_append_right (by omega)] at hp
      have hj2 : j = im.length := by
        have := (List.getElem?_eq_some_iff.mp hp).1
        simp at this; omega
      subst hj2
      simp at hp
      subst hp
      refine ⟨dv, by rw [List.getElem?_append_right (by rw [h.len]; exact Nat.le_refl _), h.len]; simp, ?_⟩
      simp only [if_true]
      refine ho.kept hg ?_
      cases hb : q with
      | none => exact .inl rfl
      | some g => exact .inr (fun e => (hq g hb).2.1 e.symm)
  · simp at e
    subst e
    rcases hg' with e | e
    · exact h.rbase _ e.symm
    · omega
  · have hne : ∀ g, (base ≤ g ∧ r ≠ some g) → g < w.heap.size → base ≤ g ∧ some g' ≠ some g := fun g h1 h2 => ⟨h1.1, fun e => by
      simp at e
      subst e
      rcases hg' with e | e
      · exact h1.2 e.symm
      · omega⟩
    split at e
    · exact hne g ⟨(hq g e).1, (hq g e).2.1⟩ (hlive g e)
    · exact hne g (h.bbase j g e) (h.live e)
  · simp at hj
    simp only [show j ≠ im.length by omega, if_false]
    exact h.out j (by omega)
  · split at h1
    · rename_i e1
      split at h2
      · rename_i e2; omega
      · exact absurd h2 ((hq g h1).2.2 j)
    · split at h2
      · exact absurd h1 ((hq g h2).2.2 i)
      · exact h.apart i j g h1 h2
end Go.Proofs.YthcnhjmkcekdaaaGreat
