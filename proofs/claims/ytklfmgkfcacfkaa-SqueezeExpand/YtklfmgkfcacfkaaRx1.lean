import Derived.Test.YtklfmgkfcacfkaaGt
import Derived.BigQuiet
/-! The document's right and Expand. -/
namespace Go.Proofs.Ytklfmgkfcacfkaa
open Go.RowKit Plain
set_option linter.unusedVariables false
set_option linter.unusedSimpArgs false

set_option maxHeartbeats 400000 in
set_option maxRecDepth 1000000 in
theorem refRight (t : Tg) (m : Nat) (w : World) (h : t.ok w) (hm : m ≤ 4096) :
    Calls Try.prog 36 #[t.val, .int .i64 m] w fun e w' => e = .returned (.bool (t.right m)) ∧ Below w.heap.size w w' := by
  obtain ⟨h1, hll, h2, h3, h4, h5⟩ := h
  obtain ⟨v, l, d, n⟩ := t
  change BytesAt w v l at h1
  obtain ⟨a, cap, rfl, hlc, hcm, hby, hcells⟩ := h1
  simp only at hlc hcm h2 h3 h4 h5
  unfold maxLen at hcm
  simp only [Tg.val, Tg.right]
  clear hcells hby
  by_cases h0 : l = []
  · subst h0
    rw [if_pos rfl]
    go_enter Try.func36, Try.ntmps36
    go_wp2
    all_goals
      go_ret
      exact ⟨retB1 (by first | rfl | (rw [Bool.eq_iff_iff]; simp; omega) | (simp; omega)), (Below.refl _ _).alloc (Nat.le_refl _) _⟩
  · rw [if_neg h0]
    have hpos : 0 < l.length := List.length_pos_iff.mpr h0
    go_enter Try.func36, Try.ntmps36
    go_wp2
    all_goals
      go_ret
      exact ⟨retB1 (by first | rfl | (rw [Bool.eq_iff_iff]; simp; omega) | (simp; omega)), (Below.refl _ _).alloc (Nat.le_refl _) _⟩

/-- A text that grows. -/
structure Gw (w wr : World) (v : Value) (x : List Nat) (q : Option Nat) : Prop where
  ow : Own wr v x q
  qb : ∀ g, q = some g → w.heap.size ≤ g
  be : Below w.heap.size w wr
theorem Gw.drew {w wr : World} {v : Value} {x : List Nat} {q : Option Nat} (h : Gw w wr v x q) (n : Nat) : Gw w (wr.drewN n) v x q := ⟨h.ow.later (below_drewN (Below.refl _ _) n), h.qb, below_drewN h.be n⟩
theorem Gw.later {w wr w' : World} {v : Value} {x : List Nat} {q : Option Nat} (h : Gw w wr v x q) (k : Below wr.heap.size wr w') : Gw w w' v x q := ⟨h.ow.later k, h.qb, below_on h.be k⟩
theorem Gw.more {w wr w1 w' : World} {v v' : Value} {x x' : List Nat} {q q' : Option Nat} (h : Gw w wr v x q) (k : Below wr.heap.size wr w1) (ho : Own w' v' x' q') (hg : w1.grownBy w' q) (hq : q' = q ∨ q' = some w1.heap.size) : Gw w w' v' x' q' := by
  have hb := below_on h.be k
  refine ⟨ho, fun g e => ?_, hb.trans (grow_below hg hb.size h.qb)⟩
  rcases hq with rfl | rfl
  · exact h.qb g e
  · simp at e; have := hb.size; omega

def ExpPost (w : World) (tg : List Tg) : Ending → World → Prop := fun e w' =>
  (((tlen tg 0).2 ≠ 0 ∧ e = .returned (.tuple #[.slice none 0 0, .int .i64 ((tlen tg 0).2 : Nat)])) ∨ ((tlen tg 0).2 = 0 ∧ ∃ v r, e = .returned (.tuple #[v, .int .i64 0]) ∧ Own w' v (expd tg) r ∧ (∀ g, r = some g → w.heap.size ≤ g) ∧ (expd tg).length = (tlen tg 0).1)) ∧ Below w.heap.size w w'

theorem cpy_succ (x : List Nat) (d n : Nat) : cpy x d (n + 1) = cpy x d n ++ [(cpy x d n).getD ((cpy x d n).length - d) 0] := rfl
end Go.Proofs.Ytklfmgkfcacfkaa
