import Derived.Test.YtelhjdplghpnbaaSdO
import Derived.Test.YtelhjdplghpnbaaSdJz
/-! The document's Next: what stands in memory within its loop. -/
namespace Go.Proofs.Ytelhjdplghpnbaa
open Go.RowKit Plain
set_option linter.unusedVariables false
set_option linter.unusedSimpArgs false

/-- Within Next's loop: the box C of the turns, the answer's box R, the queues of the call's own. -/
structure NxL (w u : World) (base C R : Nat) (cv : Value) (vs : List Qv) (r : Nat) (fl : List (List Int)) (rs : List (Option Nat)) (z : Nat) (f : Bool) : Prop where
  c0 : u.cell? ⟨C, 0, none⟩ = some cv
  c1 : u.cell? ⟨C, 1, none⟩ = some (.int .i64 z)
  c2 : u.cell? ⟨C, 2, none⟩ = some (.bool f)
  cf : ∀ i, i < 3 → u.frozen? ⟨C, i, none⟩ = false
  rr : ∀ i, i < 3 → (u.cell? ⟨R, i, none⟩).isSome = true ∧ u.frozen? ⟨R, i, none⟩ = false
  mem : QMem base u cv vs (some r) fl rs
  full : fl.length = vs.length
  sl : ∀ j, j < vs.length → (vs.getD j Qv.zero).sl.2.1 = (fl.getD j []).length
  ok : ∀ j, j < vs.length → (vs.getD j Qv.zero).Ok
  cok : ∀ j, j < fl.length → (fl.getD j []).length ≤ 17592186044000 ∧ ∀ y ∈ fl.getD j [], I64 y
  cr : C ≠ R ∧ r ≠ C ∧ r ≠ R
  crs : ∀ j, j < fl.length → rs.getD j none ≠ some C ∧ rs.getD j none ≠ some R
  lt : C < u.heap.size ∧ R < u.heap.size ∧ w.heap.size ≤ C ∧ w.heap.size ≤ R ∧ w.heap.size ≤ base
  below : Below w.heap.size w u
/-- What only blocks from u's end on have turned. -/
theorem NxL.later {w u u' : World} {base C R : Nat} {cv : Value} {vs : List Qv} {r : Nat} {fl : List (List Int)} {rs : List (Option Nat)} {z : Nat} {f : Bool} (h : NxL w u base C R cv vs r fl rs z f) (k : Below u.heap.size u u') : NxL w u' base C R cv vs r fl rs z f := by
  obtain ⟨l1, l2, l3, l4, l5⟩ := h.lt
  have cc : ∀ g j, g < u.heap.size → u'.cell? ⟨g, j, none⟩ = u.cell? ⟨g, j, none⟩ := fun g j hg => World.cell?_of_block (w := u) (a := ⟨g, j, none⟩) (k.block g hg)
  have ff : ∀ g j, g < u.heap.size → u'.frozen? ⟨g, j, none⟩ = u.frozen? ⟨g, j, none⟩ := fun g j hg => World.frozen?_of_block (w := u) (a := ⟨g, j, none⟩) (k.block g hg)
  have hs := k.size
  exact ⟨by rw [cc _ _ l1]; exact h.c0, by rw [cc _ _ l1]; exact h.c1, by rw [cc _ _ l1]; exact h.c2, fun i hi => by rw [ff _ _ l1]; exact h.cf i hi, fun i hi => by rw [cc _ _ l2, ff _ _ l2]; exact h.rr i hi, h.mem.later k, h.full, h.sl, h.ok, h.cok, h.cr, h.crs, ⟨by omega, by omega, l3, l4, l5⟩, below_of h.below k⟩
/-- The turns' box is written over. -/
theorem NxL.turn {w u : World} {base C R : Nat} {cv : Value} {vs : List Qv} {r : Nat} {fl : List (List Int)} {rs : List (Option Nat)} {z : Nat} {f : Bool} (h : NxL w u base C R cv vs r fl rs z f) (z' : Nat) (f' : Bool) : NxL w (((u.setCell ⟨C, 0, none⟩ cv).setCell ⟨C, 1, none⟩ (.int .i64 z')).setCell ⟨C, 2, none⟩ (.bool f')) base C R cv vs r fl rs z' f' := by
  obtain ⟨n1, n2, n3⟩ := h.cr
  obtain ⟨l1, l2, l3, l4, l5⟩ := h.lt
  have kk : u.grownBy (((u.setCell ⟨C, 0, none⟩ cv).setCell ⟨C, 1, none⟩ (.int .i64 z')).setCell ⟨C, 2, none⟩ (.bool f')) (some C) := grow_setCells u C 0 [cv, .int .i64 z', .bool f']
  have ot : ∀ (x : World) (i j : Nat) (v : Value), i ≠ j → (x.setCell ⟨C, i, none⟩ v).cell? ⟨C, j, none⟩ = x.cell? ⟨C, j, none⟩ := fun x i j v e => World.cell?_setCell_other _ _ _ _ (by simp only [ne_eq, Addr.mk.injEq]; omega)
  have hs := kk.size
  refine ⟨?_, ?_, ?_, fun i hi => ?_, fun i hi => ?_, h.mem.kept kk (fun g e e2 => ?_) (fun j hj g e e2 => ?_), h.full, h.sl, h.ok, h.cok, h.cr, h.crs, ⟨by omega, by omega, l3, l4, l5⟩, h.below.grown kk h.below.size (fun g e => by simp at e; omega)⟩
  · rw [ot _ 2 0 _ (by omega), ot _ 1 0 _ (by omega), World.cell?_setCell_same _ _ _ h.c0]
  · rw [ot _ 2 1 _ (by omega), World.cell?_setCell_same (h := by rw [ot _ 0 1 _ (by omega)]; exact h.c1)]
  · rw [World.cell?_setCell_same (h := by rw [ot _ 1 2 _ (by omega), ot _ 0 2 _ (by omega)]; exact h.c2)]
  · rw [World.frozen?_setCell, World.frozen?_setCell, World.frozen?_setCell]; exact h.cf i hi
  · have hb := kk.block R l2 (by simp; omega)
    rw [World.cell?_of_block (w := u) (a := ⟨R, i, none⟩) hb, World.frozen?_of_block (w := u) (a := ⟨R, i, none⟩) hb]; exact h.rr i hi
  · simp at e e2; omega
  · have := (h.crs j hj).1; rw [e] at this; simp at this e2; omega
/-- The quantum has been added. -/
theorem NxL.fresh {w u : World} {base C R : Nat} {cv : Value} {vs : List Qv} {r : Nat} {fl : List (List Int)} {rs : List (Option Nat)} {z : Nat} {f : Bool} (h : NxL w u base C R cv vs r fl rs z f) : NxL w (u.setCell ⟨C, 2, none⟩ (.bool true)) base C R cv vs r fl rs z true := by
  obtain ⟨n1, n2, n3⟩ := h.cr
  obtain ⟨l1, l2, l3, l4, l5⟩ := h.lt
  have kk : u.grownBy (u.setCell ⟨C, 2, none⟩ (.bool true)) (some C) := grow_setT u C 2 (.bool true)
  have ot : ∀ (x : World) (i j : Nat) (v : Value), i ≠ j → (x.setCell ⟨C, i, none⟩ v).cell? ⟨C, j, none⟩ = x.cell? ⟨C, j, none⟩ := fun x i j v e => World.cell?_setCell_other _ _ _ _ (by simp only [ne_eq, Addr.mk.injEq]; omega)
  have hs := kk.size
  refine ⟨?_, ?_, ?_, fun i hi => ?_, fun i hi => ?_, h.mem.kept kk (fun g e e2 => ?_) (fun j hj g e e2 => ?_), h.full, h.sl, h.ok, h.cok, h.cr, h.crs, ⟨by omega, by omega, l3, l4, l5⟩, h.below.grown kk h.below.size (fun g e => by simp at e; omega)⟩
  · rw [ot _ 2 0 _ (by omega)]; exact h.c0
  · rw [ot _ 2 1 _ (by omega)]; exact h.c1
  · rw [World.cell?_setCell_same _ _ _ h.c2]
  · rw [World.frozen?_setCell]; exact h.cf i hi
  · have hb := kk.block R l2 (by simp; omega)
    rw [World.cell?_of_block (w := u) (a := ⟨R, i, none⟩) hb, World.frozen?_of_block (w := u) (a := ⟨R, i, none⟩) hb]; exact h.rr i hi
  · simp at e e2; omega
  · have := (h.crs j hj).1; rw [e] at this; simp at this e2; omega
/-- A queue is written back, with costs c in its own row's block. -/
theorem NxL.put {w u : World} {base C R : Nat} {cv : Value} {vs : List Qv} {r : Nat} {fl : List (List Int)} {rs : List (Option Nat)} {z : Nat} {f : Bool} (h : NxL w u base C R cv vs r fl rs z f) {i : Nat} (hi : i < vs.length) (x : Qv) (c : List Int) (hc : RowO u (.slice x.sl.1 c.length x.sl.2.2) c (rs.getD i none)) (hx : x.sl.2.1 = c.length) (hok : x.Ok) (hck : c.length ≤ 17592186044000 ∧ ∀ y ∈ c, I64 y) :
    NxL w ((((u.setCell ⟨r, i * 4, none⟩ (.int .i64 x.id)).setCell ⟨r, i * 4 + 1, none⟩ (.int .i64 x.quantum)).setCell ⟨r, i * 4 + 2, none⟩ (.int .i64 x.deficit)).setCell ⟨r, i * 4 + 3, none⟩ (.slice x.sl.1 x.sl.2.1 x.sl.2.2)) base C R cv (vs.set i x) r (fl.set i c) rs z f := by
  rw [setQ4]
  obtain ⟨n1, n2, n3⟩ := h.cr
  obtain ⟨l1, l2, l3, l4, l5⟩ := h.lt
  have hfu := h.full
  have kk : u.grownBy (u.setCells r (i * 4) x.cells) (some r) := grow_setCells u r (i * 4) x.cells
  have hs := kk.size
  have hbC := kk.block C l1 (by simp; omega)
  have hbR := kk.block R l2 (by simp; omega)
  have hr := h.mem.new r rfl
  refine ⟨?_, ?_, ?_, fun j hj => ?_, fun j hj => ?_, h.mem.put (by omega) (h.mem.row.putAll hi x) kk hc, by simp [hfu], fun j hj => ?_, fun j hj => ?_, fun j hj => ?_, h.cr, fun j hj => h.crs j (by simpa using hj), ⟨by omega, by omega, l3, l4, l5⟩, h.below.grown kk h.below.size (fun g e => by simp at e; omega)⟩
  · rw [World.cell?_of_block (w := u) (a := ⟨C, 0, none⟩) hbC]; exact h.c0
  · rw [World.cell?_of_block (w := u) (a := ⟨C, 1, none⟩) hbC]; exact h.c1
  · rw [World.cell?_of_block (w := u) (a := ⟨C, 2, none⟩) hbC]; exact h.c2
  · rw [World.frozen?_of_block (w := u) (a := ⟨C, j, none⟩) hbC]; exact h.cf j hj
  · rw [World.cell?_of_block (w := u) (a := ⟨R, j, none⟩) hbR, World.frozen?_of_block (w := u) (a := ⟨R, j, none⟩) hbR]; exact h.rr j hj
  · rw [List.length_set] at hj
    rw [getD_set _ _ _ _ _ hi, getD_set _ _ _ _ _ (by omega)]
    by_cases e : j = i
    · rw [if_pos e, if_pos e]; exact hx
    · rw [if_neg e, if_neg e]; exact h.sl j hj
  · rw [List.length_set] at hj
    rw [getD_set _ _ _ _ _ hi]
    by_cases e : j = i
    · rw [if_pos e]; exact hok
    · rw [if_neg e]; exact h.ok j hj
  · rw [List.length_set] at hj
    rw [getD_set _ _ _ _ _ (by omega)]
    by_cases e : j = i
    · rw [if_pos e]; exact hck
    · rw [if_neg e]; exact h.cok j hj
theorem quL_set {vs : List Qv} {fl : List (List Int)} (h : fl.length = vs.length) {i : Nat} (hi : i < vs.length) (x : Qv) (c : List Int) : quL (vs.set i x) (fl.set i c) = (quL vs fl).set i ⟨x.id, x.quantum, x.deficit, c⟩ := by
  refine List.ext_getElem (by simp [quL]) (fun j h1 h2 => ?_)
  by_cases e : i = j
  · subst e; simp [quL, List.getElem_zipWith]
  · simp [quL, List.getElem_zipWith, e]
/-- The turns read. -/
theorem NxL.reads {w u : World} {base C R : Nat} {cv : Value} {vs : List Qv} {r : Nat} {fl : List (List Int)} {rs : List (Option Nat)} {z : Nat} {f : Bool} (h : NxL w u base C R cv vs r fl rs z f) (hn : vs.length ≤ 32) (hz : z < vs.length) : TrAt u cv ⟨quL vs fl, z, f⟩ :=
  ⟨h.mem.reads h.full h.sl (by omega) (fun x hx => by
    obtain ⟨j, hj, rfl⟩ := List.mem_iff_getElem.mp hx
    have := h.ok j hj
    simpa [List.getD_eq_getElem?_getD, hj] using this) h.cok, by constructor <;> (simp only; omega)⟩
/-- Looks from t0 on lead to t. -/
def RunTo (t0 t : Tu) : Prop := ∀ k r, run k t = some r → ∃ n, run n t0 = some r
theorem RunTo.refl (t : Tu) : RunTo t t := fun k r h => ⟨k, h⟩
theorem RunTo.step {t0 t t' : Tu} (h : RunTo t0 t) (hm : micro t = .inl t') : RunTo t0 t' := fun k r hk => h (k + 1) r (by unfold run; rw [hm]; exact hk)
theorem RunTo.ends {t0 t : Tu} {r : Tu × Int × Int} (h : RunTo t0 t) (hm : micro t = .inr r) : ∃ n, run n t0 = some r := h 1 r (by unfold run; rw [hm])
end Go.Proofs.Ytelhjdplghpnbaa
