import Derived.Test.YtmcfcbonmmifeaaDoorJa
import Derived.Maps.OwnSet
import Derived.Maps.OwnOps
import Derived.Maps.Views
import Derived.Sort.KeysCollected
/-! dedupe: the map of producers. -/
namespace Go.Proofs.YtmcfcbonmmifeaaDoor
open Go.RowKit Go.Maps Plain
set_option linter.unusedVariables false

def Pr.d (p : Pr) : DataW Unit := .agg [.lit (.int .i64 p.pid), .lit (.int .i64 p.seq), .lit (.int .i64 p.off)]
/-- How a producer in the map reads. -/
def Rq (v : Value) : Option (DataW Unit × List MemPlace) := match v with
  | .agg ⟨[.int .i64 a, .int .i64 b, .int .i64 c]⟩ => some (Pr.d ⟨a, b, c⟩, [])
  | _ => none
theorem Rq_agg (p : Pr) : Rq p.agg = some (p.d, []) := rfl
theorem Rq_inv {v : Value} {y : DataW Unit × List MemPlace} (h : Rq v = some y) : ∃ p : Pr, v = p.agg ∧ y = (p.d, []) := by
  unfold Rq at h
  split at h
  · simp at h; exact ⟨⟨_, _, _⟩, rfl, h.symm⟩
  · simp at h
theorem Pr.d_inj {p q : Pr} (h : p.d = q.d) : p = q := by
  cases p; cases q
  simp [Pr.d] at h
  simp [h]
def dentQ (p : Pr) : Lit × DataW Unit := (.int .i64 p.pid, p.d)
def toQ (L : List Pr) : DataW Unit := .map (L.map dentQ)
theorem same_int (a b : Int) : (Lit.int .i64 a).sameKey (.int .i64 b) = (a == b) := by
  by_cases h : a = b
  · simp [Lit.sameKey, h]
  · simp [Lit.sameKey, h]
theorem toQ_insert (x : Pr) : ∀ L : List Pr, DataW.insert (dentQ x) (L.map dentQ) = (insP x L).map dentQ
  | [] => rfl
  | y :: r => by
    simp only [List.map_cons, DataW.insert, insP]
    by_cases h : x.pid < y.pid
    · have h' : (dentQ x).1.before (dentQ y).1 = true := by simp [dentQ, Lit.before, h]
      rw [if_pos h', if_pos h]; rfl
    · have h' : ¬ (dentQ x).1.before (dentQ y).1 = true := by simp [dentQ, Lit.before, h]
      rw [if_neg h', if_neg h, toQ_insert x r]; rfl
theorem toQ_filter (L : List Pr) (k : Int) : (L.map dentQ).filter (fun p => !p.1.sameKey (.int .i64 k)) = (delP L k).map dentQ := by
  unfold delP
  rw [List.filter_map]
  congr 1
  refine List.filter_congr fun p _ => ?_
  show (!(dentQ p).1.sameKey (.int .i64 k)) = _
  unfold dentQ
  rw [same_int]
theorem toQ_put (L : List Pr) (p : Pr) : (toQ L).put (.int .i64 p.pid) p.d = toQ (layP L p) := by
  unfold toQ layP
  rw [← toQ_insert, ← toQ_filter]
  rfl
theorem toQ_at (L : List Pr) (k : Int) (zd : DataW Unit) : (toQ L).atKey (.int .i64 k) zd = match lookP L k with
    | some p => p.d
    | none => zd := by
  unfold toQ DataW.atKey lookP
  simp only
  induction L with
  | nil => rfl
  | cons p L ih =>
    by_cases h : p.pid == k
    · have h2 : (dentQ p).1.sameKey (.int .i64 k) = true := by unfold dentQ; rw [same_int]; exact h
      rw [List.map_cons, List.find?_cons_of_pos (by exact h2), List.find?_cons_of_pos (by exact h)]
      rfl
    · have h2 : ¬ (dentQ p).1.sameKey (.int .i64 k) = true := by unfold dentQ; rw [same_int]; exact h
      rw [List.map_cons, List.find?_cons_of_neg (by exact h2), List.find?_cons_of_neg (by exact h)]
      exact ih
theorem toQ_has (L : List Pr) (k : Int) : Maps.has (toQ L) (.int .i64 k) = (lookP L k).isSome := by
  unfold Maps.has toQ lookP
  simp only
  induction L with
  | nil => rfl
  | cons p L ih =>
    simp only [List.map_cons, List.any_cons, List.find?_cons]
    have h3 : (dentQ p).1.sameKey (.int .i64 k) = (p.pid == k) := by unfold dentQ; rw [same_int]
    rw [h3]
    cases h : p.pid == k with
    | true => simp
    | false => simpa using ih
theorem toQ_size (L : List Pr) : Maps.size (toQ L) = L.length := by simp [toQ, Maps.size_eq]
theorem tightQ {w : World} {b n : Nat} {D : DataW Unit} (h : w.ownsMap Tryd.prog 2 Rq b n D) : w.ownsMap Tryd.prog 2 Rq b (Maps.size D) D := by
  obtain ⟨es, clock, hb, F, hs, rfl⟩ := h
  exact ⟨es, clock, hb, F, by simp [Maps.size, length_sorted], rfl⟩
/-- Block b is the map of the producers L. -/
def MapQ (w : World) (b : Nat) (L : List Pr) : Prop := w.ownsMap Tryd.prog 2 Rq b L.length (toQ L)
theorem keyed2 : Keyed Tryd.prog 2 := int_keyed Tryd.underlying2
theorem MapQ.lt {w : World} {b : Nat} {L : List Pr} (h : MapQ w b L) : b < w.heap.size := World.ownsMap.lt h
theorem MapQ.of_block {w w' : World} {b : Nat} {L : List Pr} (h : MapQ w b L) (hb : w'.heap[b]? = w.heap[b]?) : MapQ w' b L := by
  obtain ⟨es, clock, h1, h2⟩ := h
  exact ⟨es, clock, hb.trans h1, h2⟩
theorem MapQ.made (w : World) : MapQ (w.alloc (.map #[] 0)) w.heap.size [] := World.ownsMap_made w _ _ _
theorem MapQ.obj {w : World} {b : Nat} {L : List Pr} (h : MapQ w b L) : ∃ es c, w.heap[b]? = some (.map es c) := by
  obtain ⟨es, clock, h1, _⟩ := h
  exact ⟨_, _, h1⟩
theorem key_int {z : Int} (h : I64 z) : keyOf Tryd.prog 2 (.int .i64 z) = some (.int .i64 z) := Maps.keyOf_int_mk Tryd.underlying2 (WalkArith.wf_i64 (by unfold I64 at h; omega))
end Go.Proofs.YtmcfcbonmmifeaaDoor
