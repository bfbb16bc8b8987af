import Derived.Test.YteekmmgopnnioaaDoorMcI
import Derived.WalkSpells
import Derived.Deep.Quiet
import Derived.BigQuiet
import Derived.Deep.RegionHeld3
/-! manifest: what turns; numbers within; plain tests. -/
namespace Go.Proofs.YteekmmgopnnioaaDoor
open Go.RowKit Plain
set_option linter.unusedVariables false
set_option linter.unusedSimpArgs false

/-- Of the blocks that were there only those of S have turned. -/
structure Chg (S : Nat → Prop) (w w' : World) : Prop where
  os : w'.os = w.os
  tape : w'.tape = w.tape
  output : w'.output = w.output
  size : w.heap.size ≤ w'.heap.size
  block : ∀ k, k < w.heap.size → ¬ S k → w'.heap[k]? = w.heap[k]?
theorem Chg.refl (S : Nat → Prop) (w : World) : Chg S w w := ⟨rfl, rfl, rfl, Nat.le_refl _, fun _ _ _ => rfl⟩
theorem Chg.grown {S : Nat → Prop} {a b c : World} {r : Option Nat} (h : Chg S a b) (k : b.grownBy c r) (hr : ∀ g, r = some g → S g ∨ a.heap.size ≤ g) : Chg S a c :=
  ⟨k.os.trans h.os, k.tape.trans h.tape, k.output.trans h.output, Nat.le_trans h.size k.size, fun i hi hs => by
    rw [k.block i (Nat.lt_of_lt_of_le hi h.size) (fun e => by
      rcases hr i e.symm with h1 | h1
      · exact hs h1
      · omega)]
    exact h.block i hi hs⟩
theorem Chg.more {S : Nat → Prop} {a b c : World} (h : Chg S a b) (k : Below b.heap.size b c) : Chg S a c := h.grown (below_grow k none) (by simp)
theorem Chg.ofBelow {S : Nat → Prop} {a b : World} (k : Below a.heap.size a b) : Chg S a b := (Chg.refl S a).more k
theorem Chg.trans {S : Nat → Prop} {a b c : World} (h : Chg S a b) (k : Chg S b c) : Chg S a c :=
  ⟨k.os.trans h.os, k.tape.trans h.tape, k.output.trans h.output, Nat.le_trans h.size k.size, fun i hi hs => (k.block i (Nat.lt_of_lt_of_le hi h.size) hs).trans (h.block i hi hs)⟩
theorem Chg.trans' {S T : Nat → Prop} {a b c : World} (h : Chg S a b) (k : Chg T b c) (hs : ∀ x, T x → S x ∨ a.heap.size ≤ x) : Chg S a c :=
  ⟨k.os.trans h.os, k.tape.trans h.tape, k.output.trans h.output, Nat.le_trans h.size k.size, fun i hi hn => (k.block i (Nat.lt_of_lt_of_le hi h.size) (fun e => by
    rcases hs i e with h1 | h1
    · exact hn h1
    · omega)).trans (h.block i hi hn)⟩
theorem Chg.mono {S T : Nat → Prop} {a b : World} (h : Chg S a b) (hs : ∀ k, S k → T k) : Chg T a b := ⟨h.os, h.tape, h.output, h.size, fun k hk hn => h.block k hk (fun e => hn (hs k e))⟩
theorem Chg.below {S : Nat → Prop} {w w' : World} {B : Nat} (h : Chg S w w') (hB : B ≤ w.heap.size) (hS : ∀ k, S k → B ≤ k) : Below B w w' :=
  ⟨h.os, h.tape, h.output, h.size, fun k hk => h.block k (by omega) (fun hs => by have := hS k hs; omega)⟩
theorem below_step {w u w' : World} (h : Below w.heap.size w u) (k : Below u.heap.size u w') : Below w.heap.size w w' := h.trans (k.mono h.size)

theorem grow_setC (w : World) (g o : Nat) (x : Value) : w.grownBy (w.setCell ⟨g, o, none⟩ x) (some g) := grow_setCells w g o [x]
theorem size_setC (w : World) (g o : Nat) (x : Value) : (w.setCell ⟨g, o, none⟩ x).heap.size = w.heap.size := setCells_size g [x] o w

def inW (n a e : Int) : Bool := decide (a ≤ n) && decide (n ≤ e)
theorem wintOf (n a e : Int) (w : World) : Calls Tryd.prog 43 #[.int .i64 n, .int .i64 a, .int .i64 e] w fun x w' => x = .returned (.bool (inW n a e)) ∧ w' = w := by
  by_cases h1 : a ≤ n
  · by_cases h2 : n ≤ e
    all_goals
      go_enter Tryd.func43, Tryd.ntmps43
      go_wp2
      go_ret
      exact ⟨by simp [inW, h1, h2], rfl⟩
  · go_enter Tryd.func43, Tryd.ntmps43
    go_wp2
    go_ret
    exact ⟨by simp [inW, h1]; try omega, rfl⟩
theorem isTopicOf (n : Int) (w : World) : Calls Tryd.prog 35 #[.int .i64 n] w fun x w' => x = .returned (.bool (inW n 0 1073741823)) ∧ w' = w := by
  go_enter Tryd.func35, Tryd.ntmps35
  go_wp2_with fail
  refine (wintOf _ _ _ _).mono ?_
  rintro x w1 ⟨rfl, rfl⟩
  go_wp2
  go_ret
  exact ⟨rfl, rfl⟩
/-- All of the first n. -/
def allB (n : Nat) (f : Nat → Bool) : Bool := (List.range n).all f
theorem allB_succ (n : Nat) (f : Nat → Bool) : allB (n + 1) f = (allB n f && f n) := by
  unfold allB
  rw [List.range_succ, List.all_append]
  simp
theorem allB_bad {n k : Nat} {f : Nat → Bool} (hk : k < n) (h : f k = false) : allB n f = false := by
  unfold allB
  rw [List.all_eq_false]
  exact ⟨k, by simp [hk], by simp [h]⟩
theorem allB_at {n k : Nat} {f : Nat → Bool} (h : allB n f = true) (hk : k < n) : f k = true := by
  unfold allB at h
  rw [List.all_eq_true] at h
  exact h k (by simp [hk])
theorem allB_zero (f : Nat → Bool) : allB 0 f = true := rfl
theorem allB_step {k : Nat} {f : Nat → Bool} (h : allB k f = true) (hf : f k = true) : allB (k + 1) f = true := by rw [allB_succ, h, hf]; rfl

/-! Is the number among them? -/
theorem take_has {l : List Int} {z : Int} {k : Nat} (hk : k < l.length) : (l.take (k + 1)).contains z = ((l.take k).contains z || l.getD k 0 == z) := by
  have e : l.getD k 0 = l[k] := by simp [hk]
  rw [e, List.take_succ_eq_append_getElem hk, Bool.eq_iff_iff]
  simp only [List.contains_iff_mem, List.mem_append, List.mem_singleton, Bool.or_eq_true, beq_iff_eq]
  constructor
  · rintro (h | h)
    · exact .inl h
    · exact .inr h.symm
  · rintro (h | h)
    · exact .inl h
    · exact .inr h.symm
end Go.Proofs.YteekmmgopnnioaaDoor
