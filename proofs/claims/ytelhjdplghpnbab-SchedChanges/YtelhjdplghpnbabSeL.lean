import Derived.Test.YtelhjdplghpnbabSeK
import Derived.Test.YtelhjdplghpnbabSdY
/-! The law's spoilt: what stands in memory within it. -/
namespace Go.Proofs.Ytelhjdplghpnbab
open Go.RowKit Plain
set_option linter.unusedVariables false
set_option linter.unusedSimpArgs false

/-- Turns that are written over: their queues' slice v stands in the box B. -/
structure Spo (base : Nat) (w u : World) (B : Nat) (v : Value) (vs : List Qv) (r : Option Nat) (fl : List (List Int)) (rs : List (Option Nat)) : Prop where
  mem : QMem base u v vs r fl rs
  len : fl.length = vs.length
  sl : ∀ j, j < vs.length → (vs.getD j Qv.zero).sl.2.1 = (fl.getD j []).length
  b0 : u.cell? ⟨B, 0, none⟩ = some v
  bf : u.frozen? ⟨B, 0, none⟩ = false
  blt : B < u.heap.size
  below : Below base w u
  lb : r ≠ some B ∧ ∀ j, j < fl.length → rs.getD j none ≠ some B
  bge : base ≤ B
  cl : ∀ j, j < fl.length → (fl.getD j []).length ≤ 17592186044000
  fr : ∀ k, k < w.heap.size → r ≠ some k → (∀ j, j < fl.length → rs.getD j none ≠ some k) → u.heap[k]? = w.heap[k]?
theorem Spo.kept {base : Nat} {w u u' : World} {B : Nat} {v : Value} {vs : List Qv} {r : Option Nat} {fl : List (List Int)} {rs : List (Option Nat)} (h : Spo base w u B v vs r fl rs) {q : Option Nat} (k : u.grownBy u' q) (h1 : ∀ g, r = some g → q ≠ some g) (h2 : ∀ j, j < fl.length → ∀ g, rs.getD j none = some g → q ≠ some g) (h3 : q ≠ some B) (h4 : ∀ g, q = some g → base ≤ g) (h5 : ∀ g, q = some g → w.heap.size ≤ g) : Spo base w u' B v vs r fl rs := by
  have hb := k.block B h.blt (fun e => h3 (by first | exact e | exact e.symm))
  have hl := h.blt
  have hg := h.bge
  exact ⟨h.mem.kept k h1 h2, h.len, h.sl, by rw [World.cell?_of_block (w := u) (a := ⟨B, 0, none⟩) hb]; exact h.b0, by rw [World.frozen?_of_block (w := u) (a := ⟨B, 0, none⟩) hb]; exact h.bf, Nat.lt_of_lt_of_le hl k.size, h.below.grown k (by omega) h4, h.lb, h.bge, h.cl, fun x hx a b => (k.block x (by have := h.below.size; omega) (fun e => by have := h5 x (by first | exact e | exact e.symm); omega)).trans (h.fr x hx a b)⟩
theorem Spo.later {base : Nat} {w u u' : World} {B : Nat} {v : Value} {vs : List Qv} {r : Option Nat} {fl : List (List Int)} {rs : List (Option Nat)} (h : Spo base w u B v vs r fl rs) (k : Below u.heap.size u u') : Spo base w u' B v vs r fl rs := h.kept (below_grow k none) (by simp) (by simp) (by simp) (by simp) (by simp)
/-- A queue's costs have turned, in their own block. -/
theorem Spo.costs {base : Nat} {w u u' : World} {B : Nat} {v : Value} {vs : List Qv} {r : Option Nat} {fl : List (List Int)} {rs : List (Option Nat)} (h : Spo base w u B v vs r fl rs) {i : Nat} (hi : i < fl.length) {c : List Int} (k : u.grownBy u' (rs.getD i none)) (hc : RowO u' (.slice (vs.getD i Qv.zero).sl.1 c.length (vs.getD i Qv.zero).sl.2.2) c (rs.getD i none)) (hl : c.length = (fl.getD i []).length) : Spo base w u' B v vs r (fl.set i c) rs := by
  have hb := k.block B h.blt (fun e => h.lb.2 i hi (by first | exact e | exact e.symm))
  have hbl := h.blt
  have hg := h.bge
  refine ⟨h.mem.costs hi k hc, by simp [h.len], fun j hj => ?_, by rw [World.cell?_of_block (w := u) (a := ⟨B, 0, none⟩) hb]; exact h.b0, by rw [World.frozen?_of_block (w := u) (a := ⟨B, 0, none⟩) hb]; exact h.bf, Nat.lt_of_lt_of_le hbl k.size, h.below.grown k (by omega) (fun g e => h.mem.newc i hi g e), ⟨h.lb.1, fun j hj => h.lb.2 j (by simpa using hj)⟩, h.bge, fun j hj => ?_, fun x hx a b => (k.block x (by have := h.below.size; omega) (fun e => b i (by simpa using hi) (by first | exact e | exact e.symm))).trans (h.fr x hx a (fun j hj => b j (by simpa using hj)))⟩
  · rw [getD_set _ _ _ _ _ hi]
    by_cases e : j = i
    · rw [if_pos e, e, hl]; exact h.sl i (by rw [← h.len]; exact hi)
    · rw [if_neg e]; exact h.sl j hj
  · rw [List.length_set] at hj
    rw [getD_set _ _ _ _ _ hi]
    by_cases e : j = i
    · rw [if_pos e, hl]; exact h.cl i hi
    · rw [if_neg e]; exact h.cl j hj
/-- One cost is written. -/
theorem Spo.set {base : Nat} {w u : World} {B : Nat} {v : Value} {vs : List Qv} {r : Option Nat} {fl : List (List Int)} {rs : List (Option Nat)} (h : Spo base w u B v vs r fl rs) {i k : Nat} (hi : i < fl.length) (hk : k < (fl.getD i []).length) (y : Int) :
    ∃ b off, (vs.getD i Qv.zero).sl.1 = some ⟨b, off, none⟩ ∧ u.frozen? ⟨b, off + k, none⟩ = false ∧ u.cell? ⟨b, off + k, none⟩ = some (.int .i64 ((fl.getD i []).getD k 0)) ∧ Spo base w (u.setCell ⟨b, off + k, none⟩ (.int .i64 y)) B v vs r (fl.set i ((fl.getD i []).set k y)) rs := by
  obtain ⟨b, off, e1, e2, e3, e4, e5, kk⟩ := (h.mem.cost i hi).set hk y
  refine ⟨b, off, e1, e3, e4, h.costs hi (by rw [e2]; exact kk) ?_ (by simp)⟩
  rw [List.length_set]
  exact e5
/-- A queue's row and its costs read. -/
theorem Spo.cell {base : Nat} {w u : World} {B : Nat} {vs : List Qv} {g n cap : Nat} {fl : List (List Int)} {rs : List (Option Nat)} (h : Spo base w u B (.slice (some ⟨g, 0, none⟩) n cap) vs (some g) fl rs) {j : Nat} (hj : j < vs.length) : u.cell? ⟨g, j * 4 + 3, none⟩ = some (.slice (vs.getD j Qv.zero).sl.1 (fl.getD j []).length (vs.getD j Qv.zero).sl.2.2) := by
  have := (h.mem.row.at hj).c3
  rw [h.sl j hj] at this
  exact this
/-- All costs of the first i queues are as spoilt leaves them. -/
def Spoilt (fl : List (List Int)) (i : Nat) : Prop := ∀ j, j < i → ∀ k, k < (fl.getD j []).length → (fl.getD j []).getD k 0 = -1 - (j : Int)
end Go.Proofs.Ytelhjdplghpnbab
