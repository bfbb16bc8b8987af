import Derived.Test.YtpeejgnkdoeijaaMcI
import Derived.WalkSpells
import Derived.Deep.Quiet
import Derived.BigQuiet
import Derived.Deep.RegionHeld3
/-! manifest: what turns; numbers within; plain tests. -/
namespace Go.Proofs.Ytpeejgnkdoeijaa
open Go.RowKit Plain
set_option linter.unusedVariables false
set_option linter.unusedSimpArgs false

/-- Of the blocks that were there only those of S have turned. -/
structure Chg (S : Nat → Prop) (w w' : World) : Prop where
  os : w'.os = w.os
  tape : w'.tape = w.tape
  output : w'.output = w.output
  size : w.heap.size ≤ w'.heap.size
  block : ∀ k, k < w.heap.size → ¬ S k → w'.heap[k]? = w.heap[k]?
theorem Chg.refl (S : Nat → Prop) (w : World) : Chg S w w := ⟨rfl, rfl, rfl, Nat.le_refl _, fun _ _ _ => rfl⟩
theorem Chg.grown {S : Nat → Prop} {a b c : World} {r : Option Nat} (h : Chg S a b) (k : b.grownBy c r) (hr : ∀ g, r = some g → S g ∨ a.heap.size ≤ g) : Chg S a c :=
  ⟨k.os.trans h.os, k.tape.trans h.tape, k.output.trans h.output, Nat.le_trans h.size k.size, fun i hi hs => by
    rw [k.block i (Nat.lt_of_lt_of_le hi h.size) (fun e => by
      rcases hr i e.symm with h1 | h1
      · exact hs h1
      · omega)]
    exact h.block i hi hs⟩
theorem Chg.more {S : Nat → Prop} {a b c : World} (h : Chg S a b) (k : Below b.heap.size b c) : Chg S a c := h.grown (below_grow k none) (by simp)
theorem Chg.ofBelow {S : Nat → Prop} {a b : World} (k : Below a.heap.size a b) : Chg S a b := (Chg.refl S a).more k
theorem Chg.trans {S : Nat → Prop} {a b c : World} (h : Chg S a b) (k : Chg S b c) : Chg S a c :=
  ⟨k.os.trans h.os, k.tape.trans h.tape, k.output.trans h.output, Nat.le_trans h.size k.size, fun i hi hs => (k.block i (Nat.lt_of_lt_of_le hi h.size) hs).trans (h.block i hi hs)⟩
theorem Chg.trans' {S T : Nat → Prop} {a b c : World} (h : Chg S a b) (k : Chg T b c) (hs : ∀ x, T x → S x ∨ a.heap.size ≤ x) : Chg S a c :=
  ⟨k.os.trans h.os, k.tape.trans h.tape, k.output.trans h.output, Nat.le_trans h.size k.size, fun i hi hn => (k.block i (Nat.lt_of_lt_of_le hi h.size) (fun e => by
    rcases hs i e with h1 | h1
    · exact hn h1
    · omega)).trans (h.block i hi hn)⟩
theorem Chg.mono {S T : Nat → Prop} {a b : World} (h : Chg S a b) (hs : ∀ k, S k → T k) : Chg T a b := ⟨h.os, h.tape, h.output, h.size, fun k hk hn => h.block k hk (fun e => hn (hs k e))⟩
theorem Chg.below {S : Nat → Prop} {w w' : World} {B : Nat} (h : Chg S w w') (hB : B ≤ w.heap.size) (hS : ∀ k, S k → B ≤ k) : Below B w w' :=
  ⟨h.os, h.tape, h.output, h.size, fun k hk => h.block k (by omega) (fun hs => by have := hS k hs; omega)⟩
theorem below_step {w u w' : World} (h : Below w.heap.size w u) (k : Below u.heap.size u w') : Below w.heap.size w w' := h.trans (k.mono h.size)

theorem grow_setC (w : World) (g o : Nat) (x : Value) : w.grownBy (w.setCell ⟨g, o, none⟩ x) (some g) := grow_setCells w g o [x]
theorem size_setC (w : World) (g o : Nat) (x : Value) : (w.setCell ⟨g, o, none⟩ x).heap.size = w.heap.size := setCells_size g [x] o w

def inW (n a e : Int) : Bool := decide (a ≤ n) && decide (n ≤ e)
theorem wintOf (n a e : Int) (w : World) : Calls Try.prog 27 #[.int .i64 n, .int .i64 a, .int .i64 e] w fun x w' => x = .returned (.bool (inW n a e)) ∧ w' = w := by
  by_cases h1 : a ≤ n
  · by_cases h2 : n ≤ e
    all_goals
      go_enter Try.func27, Try.ntmps27
      go_wp2
      go_ret
      exact ⟨by simp [inW, h1, h2], rfl⟩
  · go_enter Try.func27, Try.ntmps27
    go_wp2
    go_ret
    exact ⟨by simp [inW, h1]; try omega, rfl⟩
theorem wint64Of (n a e : Int) (w : World) : Calls Try.prog 28 #[.int .i64 n, .int .i64 a, .int .i64 e] w fun x w' => x = .returned (.bool (inW n a e)) ∧ w' = w := by
  by_cases h1 : a ≤ n
  · by_cases h2 : n ≤ e
    all_goals
      go_enter Try.func28, Try.ntmps28
      go_wp2
      go_ret
      exact ⟨by simp [inW, h1, h2], rfl⟩
  · go_enter Try.func28, Try.ntmps28
    go_wp2
    go_ret
    exact ⟨by simp [inW, h1]; try omega, rfl⟩
theorem wruneOf (n a e : Int) (w : World) : Calls Try.prog 58 #[.int .i32 n, .int .i32 a, .int .i32 e] w fun x w' => x = .returned (.bool (inW n a e)) ∧ w' = w := by
  by_cases h1 : a ≤ n
  · by_cases h2 : n ≤ e
    all_goals
      go_enter Try.func58, Try.ntmps58
      go_wp2
      go_ret
      exact ⟨by simp [inW, h1, h2], rfl⟩
  · go_enter Try.func58, Try.ntmps58
    go_wp2
    go_ret
    exact ⟨by simp [inW, h1]; try omega, rfl⟩
theorem rwithinOf (n a e : Int) (w : World) : Calls Try.prog 32 #[.int .i64 n, .int .i64 a, .int .i64 e] w fun x w' => x = .returned (.bool (inW n a e)) ∧ w' = w := by
  by_cases h1 : a ≤ n
  · by_cases h2 : n ≤ e
    all_goals
      go_enter Try.func32, Try.ntmps32
      go_wp2
      go_ret
      exact ⟨by simp [inW, h1, h2], rfl⟩
  · go_enter Try.func32, Try.ntmps32
    go_wp2
    go_ret
    exact ⟨by simp [inW, h1]; try omega, rfl⟩
theorem isTopicOf (n : Int) (w : World) : Calls Try.prog 26 #[.int .i64 n] w fun x w' => x = .returned (.bool (inW n 0 1073741823)) ∧ w' = w := by
  go_enter Try.func26, Try.ntmps26
  go_wp2_with fail
  refine (wintOf _ _ _ _).mono ?_
  rintro x w1 ⟨rfl, rfl⟩
  go_wp2
  go_ret
  exact ⟨rfl, rfl⟩
/-- All of the first n. -/
def allB (n : Nat) (f : Nat → Bool) : Bool := (List.range n).all f
theorem allB_succ (n : Nat) (f : Nat → Bool) : allB (n + 1) f = (allB n f && f n) := by
  unfold allB
  rw [List.range_succ, List.all_append]
  simp
theorem allB_bad {n k : Nat} {f : Nat → Bool} (hk : k < n) (h : f k = false) : allB n f = false := by
  unfold allB
  rw [List.all_eq_false]
  exact ⟨k, by simp [hk], by simp [h]⟩
theorem allB_at {n k : Nat} {f : Nat → Bool} (h : allB n f = true) (hk : k < n) : f k = true := by
  unfold allB at h
  rw [List.all_eq_true] at h
  exact h k (by simp [hk])
theorem allB_zero (f : Nat → Bool) : allB 0 f = true := rfl
theorem allB_step {k : Nat} {f : Nat → Bool} (h : allB k f = true) (hf : f k = true) : allB (k + 1) f = true := by rw [allB_succ, h, hf]; rfl

/-! Is the number among them? -/
theorem take_has {l : List Int} {z : Int} {k : Nat} (hk : k < l.length) : (l.take (k + 1)).contains z = ((l.take k).contains z || l.getD k 0 == z) := by
  have e : l.getD k 0 = l[k] := by simp [hk]
  rw [e, List.take_succ_eq_append_getElem hk, Bool.eq_iff_iff]
  simp only [List.contains_iff_mem, List.mem_append, List.mem_singleton, Bool.or_eq_true, beq_iff_eq]
  constructor
  · rintro (h | h)
    · exact .inl h
    · exact .inr h.symm
  · rintro (h | h)
    · exact .inl h
    · exact .inr h.symm
set_option maxHeartbeats 1000000 in
theorem indexIOf (v : Value) (l : List Int) (z : Int) (w : World) (h : IntsAt w v l) : Calls Try.prog 74 #[v, .int .i64 z] w fun e w' => ∃ q : Int, e = .returned (.int .i64 q) ∧ decide (0 ≤ q) = l.contains z ∧ w' = w := by
  obtain ⟨a, cap, rfl, hcap, hcl, hok, hcells⟩ := h
  have HC : Hid (l ≠ [] → ∃ b off, a = some ⟨b, off, none⟩ ∧ ∀ j, j < l.length → w.cell? ⟨b, off + j, none⟩ = some (.int .i64 (l.getD j 0))) := hcells
  clear hcells hok
  go_enter Try.func74, Try.ntmps74
  go_wp2
  go_loopw [8] (fun i wr => ∃ k : Nat, k ≤ l.length ∧ i = .int .i64 k ∧ Hid ((l.take k).contains z = false) ∧ wr = w) (fun i _ => l.length - (intOf i).toNat)
  case atStart => exact ⟨0, by omega, rfl, by simp [Hid], rfl⟩
  case round =>
    obtain ⟨k, hk, rfl, HA, rfl⟩ := hrel
    by_cases hlt : k < l.length
    · obtain ⟨b, off, rfl, hc⟩ := HC.out (by rintro rfl; simp at hlt)
      have hck := hc k hlt
      have HT : Hid ((l.take (k + 1)).contains z = (l.getD k 0 == z)) := by unfold Hid; rw [take_has hlt, HA.out]; simp
      have HM : Hid (l.getD k 0 = z → l.contains z = true) := fun e => by
        rw [← e]
        simp [List.getD_eq_getElem?_getD, hlt]
      generalize l.getD k 0 = x at hck HT HM
      clear hc
      have hki : (k : Int) < (l.length : Int) := by omega
      by_cases hx : x = z
      · subst hx
        have HM1 : Hid (l.contains x = true) := HM.out rfl
        clear HT HM
        go_wp2
        go_ret
        exact ⟨k, rfl, by rw [HM1.out]; simp, rfl⟩
      · have hx' : (z == x) = false := by simpa using fun e : z = x => hx e.symm
        have hx2 : (x == z) = false := by simpa using hx
        have HT1 : Hid ((l.take (k + 1)).contains z = false) := by rw [Hid, HT.out, hx2]
        clear HT HM
        go_wp2
        go_roundw
        case rel => exact ⟨k + 1, by omega, by go_num, HT1.out, by first | rfl | trivial⟩
        case measure => simp [intOf]; omega
    · obtain rfl : k = l.length := by omega
      have HA1 : Hid (l.contains z = false) := by have := HA.out; rwa [List.take_length] at this
      clear HA
      go_wp2
      go_ret
      exact ⟨-1, rfl, by rw [HA1.out]; rfl, rfl⟩
theorem containsIOf (v : Value) (l : List Int) (z : Int) (w : World) (h : IntsAt w v l) : Calls Try.prog 53 #[v, .int .i64 z] w fun e w' => e = .returned (.bool (l.contains z)) ∧ w' = w := by
  have HI : Hid (Calls Try.prog 74 #[v, .int .i64 z] w fun e w' => ∃ q : Int, e = .returned (.int .i64 q) ∧ decide (0 ≤ q) = l.contains z ∧ w' = w) := indexIOf v l z w h
  obtain ⟨a, cap, rfl, -⟩ := h
  go_enter Try.func53, Try.ntmps53
  go_wp2_with fail
  refine HI.out.mono ?_
  rintro e w1 ⟨q, rfl, hq, rfl⟩
  have HQ : Hid (decide (0 ≤ q) = l.contains z) := hq
  clear hq
  go_wp2
  go_ret
  exact ⟨by rw [← HQ.out]; rfl, rfl⟩
end Go.Proofs.Ytpeejgnkdoeijaa
