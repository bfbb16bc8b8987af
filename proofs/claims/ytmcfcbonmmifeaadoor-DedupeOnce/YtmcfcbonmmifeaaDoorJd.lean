import Derived.Test.YtmcfcbonmmifeaaDoorJb
import Derived.Test.YtmcfcbonmmifeaaDoorJc
import Derived.WalkSpells
import Derived.Deep.Quiet
import Derived.BigQuiet
/-! dedupe: a table in memory; its small calls. -/
namespace Go.Proofs.YtmcfcbonmmifeaaDoor
open Go.RowKit Go.Maps Plain
set_option linter.unusedVariables false
set_option linter.unusedSimpArgs false

/-- Of the blocks that were there only those of S have turned. -/
structure Chg (S : Nat → Prop) (w w' : World) : Prop where
  os : w'.os = w.os
  tape : w'.tape = w.tape
  output : w'.output = w.output
  size : w.heap.size ≤ w'.heap.size
  block : ∀ k, k < w.heap.size → ¬ S k → w'.heap[k]? = w.heap[k]?
theorem Chg.refl (S : Nat → Prop) (w : World) : Chg S w w := ⟨rfl, rfl, rfl, Nat.le_refl _, fun _ _ _ => rfl⟩
theorem Chg.grown {S : Nat → Prop} {a b c : World} {r : Option Nat} (h : Chg S a b) (k : b.grownBy c r) (hr : ∀ g, r = some g → S g ∨ a.heap.size ≤ g) : Chg S a c :=
  ⟨k.os.trans h.os, k.tape.trans h.tape, k.output.trans h.output, Nat.le_trans h.size k.size, fun i hi hs => by
    rw [k.block i (Nat.lt_of_lt_of_le hi h.size) (fun e => by
      rcases hr i e.symm with h1 | h1
      · exact hs h1
      · omega)]
    exact h.block i hi hs⟩
theorem Chg.more {S : Nat → Prop} {a b c : World} (h : Chg S a b) (k : Below b.heap.size b c) : Chg S a c := h.grown (below_grow k none) (by simp)
theorem Chg.ofBelow {S : Nat → Prop} {a b : World} (k : Below a.heap.size a b) : Chg S a b := (Chg.refl S a).more k
theorem Chg.trans {S : Nat → Prop} {a b c : World} (h : Chg S a b) (k : Chg S b c) : Chg S a c :=
  ⟨k.os.trans h.os, k.tape.trans h.tape, k.output.trans h.output, Nat.le_trans h.size k.size, fun i hi hs => (k.block i (Nat.lt_of_lt_of_le hi h.size) hs).trans (h.block i hi hs)⟩
theorem Chg.trans' {S T : Nat → Prop} {a b c : World} (h : Chg S a b) (k : Chg T b c) (hs : ∀ x, T x → S x ∨ a.heap.size ≤ x) : Chg S a c :=
  ⟨k.os.trans h.os, k.tape.trans h.tape, k.output.trans h.output, Nat.le_trans h.size k.size, fun i hi hn => (k.block i (Nat.lt_of_lt_of_le hi h.size) (fun e => by
    rcases hs i e with h1 | h1
    · exact hn h1
    · omega)).trans (h.block i hi hn)⟩
theorem Chg.mono {S T : Nat → Prop} {a b : World} (h : Chg S a b) (hs : ∀ k, S k → T k) : Chg T a b := ⟨h.os, h.tape, h.output, h.size, fun k hk hn => h.block k hk (fun e => hn (hs k e))⟩
theorem Chg.below {S : Nat → Prop} {w w' : World} {B : Nat} (h : Chg S w w') (hB : B ≤ w.heap.size) (hS : ∀ k, S k → B ≤ k) : Below B w w' :=
  ⟨h.os, h.tape, h.output, h.size, fun k hk => h.block k (by omega) (fun hs => by have := hS k hs; omega)⟩
theorem below_step {w u w' : World} (h : Below w.heap.size w u) (k : Below u.heap.size u w') : Below w.heap.size w w' := h.trans (k.mono h.size)

theorem grow_setC (w : World) (g o : Nat) (x : Value) : w.grownBy (w.setCell ⟨g, o, none⟩ x) (some g) := grow_setCells w g o [x]
theorem size_setC (w : World) (g o : Nat) (x : Value) : (w.setCell ⟨g, o, none⟩ x).heap.size = w.heap.size := setCells_size g [x] o w
/-- The map of a table, or none. -/
def MapO (w : World) (m : Option Nat) (L : List Pr) : Prop := (m = none ∧ L = []) ∨ ∃ b, m = some b ∧ MapQ w b L
theorem MapO.of_block {w w' : World} {m : Option Nat} {L : List Pr} (h : MapO w m L) (hb : ∀ b, m = some b → w'.heap[b]? = w.heap[b]?) : MapO w' m L := by
  rcases h with h | ⟨b, e, h⟩
  · exact .inl h
  · exact .inr ⟨b, e, h.of_block (hb b e)⟩
theorem MapO.later {w w' : World} {m : Option Nat} {L : List Pr} (h : MapO w m L) (hb : Below w.heap.size w w') : MapO w' m L := by
  rcases h with h | ⟨b, e, h⟩
  · exact .inl h
  · exact .inr ⟨b, e, h.of_block (hb.block b h.lt)⟩
/-- Block t is a table, its map m, its producers L. -/
structure TabAt (w : World) (t : Nat) (m : Option Nat) (L : List Pr) : Prop where
  cell : w.cell? ⟨t, 0, none⟩ = some (.map m)
  froz : w.frozen? ⟨t, 0, none⟩ = false
  map : MapO w m L
  tab : TabL L
theorem TabAt.lt {w : World} {t : Nat} {m : Option Nat} {L : List Pr} (h : TabAt w t m L) : t < w.heap.size := cell_lt h.cell
theorem TabAt.mlt {w : World} {t : Nat} {m : Option Nat} {L : List Pr} (h : TabAt w t m L) : ∀ b, m = some b → b < w.heap.size := by
  intro b e
  rcases h.map with ⟨e2, _⟩ | ⟨b', e2, h2⟩
  · rw [e2] at e; cases e
  · rw [e2] at e; cases e; exact h2.lt
theorem TabAt.ne {w : World} {t : Nat} {m : Option Nat} {L : List Pr} (h : TabAt w t m L) {t' : Nat} {v : Value} (h' : w.cell? ⟨t', 0, none⟩ = some v) : m ≠ some t' := by
  intro e
  rcases h.map with ⟨e2, _⟩ | ⟨b', e2, h2⟩
  · rw [e2] at e; cases e
  · rw [e2] at e; cases e
    obtain ⟨es, c, ho⟩ := h2.obj
    unfold World.cell? at h'
    rw [ho] at h'
    simp at h'
theorem TabAt.of_block {w w' : World} {t : Nat} {m : Option Nat} {L : List Pr} (h : TabAt w t m L) (ht : w'.heap[t]? = w.heap[t]?) (hb : ∀ b, m = some b → w'.heap[b]? = w.heap[b]?) : TabAt w' t m L :=
  ⟨(World.cell?_of_block (w := w) (a := ⟨t, 0, none⟩) ht).trans h.cell, (World.frozen?_of_block (w := w) (a := ⟨t, 0, none⟩) ht).trans h.froz, h.map.of_block hb, h.tab⟩
theorem TabAt.later {w w' : World} {t : Nat} {m : Option Nat} {L : List Pr} (h : TabAt w t m L) (hb : Below w.heap.size w w') : TabAt w' t m L :=
  h.of_block (hb.block t h.lt) fun b e => hb.block b (h.mlt b e)
/-- A table's blocks. -/
def foot (t : Nat) (m : Option Nat) (k : Nat) : Prop := k = t ∨ m = some k
/-- Another table stays. -/
theorem TabAt.apart {w w' : World} {t t2 : Nat} {m m2 : Option Nat} {L L2 : List Pr} (h : TabAt w t m L) (h2 : TabAt w t2 m2 L2) (hc : Chg (foot t m) w w') (hne : t2 ≠ t) (hm : ∀ b, m2 = some b → m ≠ some b) : TabAt w' t2 m2 L2 := by
  refine h2.of_block (hc.block t2 h2.lt ?_) fun b e => hc.block b (h2.mlt b e) ?_
  · rintro (e | e)
    · exact hne e
    · exact h.ne h2.cell e
  · rintro (e1 | e1)
    · subst e1; exact h2.ne h.cell e
    · exact hm b e e1

/-! The small calls. -/
theorem dwithinOf (n a e : Int) (w : World) : Calls Tryd.prog 29 #[.int .i64 n, .int .i64 a, .int .i64 e] w fun x w' => x = .returned (.bool (decide (a ≤ n) && decide (n ≤ e))) ∧ w' = w := by
  by_cases h1 : a ≤ n
  · by_cases h2 : n ≤ e
    all_goals
      go_enter Tryd.func29, Tryd.ntmps29
      go_wp2
      go_ret
      exact ⟨by simp [h1, h2], rfl⟩
  · go_enter Tryd.func29, Tryd.ntmps29
    go_wp2
    go_ret
    exact ⟨by simp [h1]; try omega, rfl⟩
theorem isOffsetOf (n : Int) (w : World) : Calls Tryd.prog 21 #[.int .i64 n] w fun x w' => x = .returned (.bool (okOff n)) ∧ w' = w := by
  go_enter Tryd.func21, Tryd.ntmps21
  go_wp2_with fail
  refine (dwithinOf _ _ _ _).mono ?_
  rintro x w1 ⟨rfl, rfl⟩
  go_wp2
  go_ret
  exact ⟨rfl, rfl⟩
theorem isNumberedOf (p q : Int) (w : World) : Calls Tryd.prog 20 #[.int .i64 p, .int .i64 q] w fun x w' => x = .returned (.bool (okNum p q)) ∧ w' = w := by
  have e : okNum p q = ((decide (1 ≤ p) && decide (p ≤ 4294967295)) && (decide (1 ≤ q) && decide (q ≤ 1099511627775))) := by unfold okNum; simp only [Bool.and_assoc]
  rw [e]
  cases h1 : (decide (1 ≤ p) && decide (p ≤ 4294967295)) with
  | true =>
    go_enter Tryd.func20, Tryd.ntmps20
    go_wp2_with fail
    refine (dwithinOf p 1 4294967295 _).mono ?_
    rintro x w1 ⟨rfl, rfl⟩
    rw [h1]
    go_wp2_with fail
    refine (dwithinOf q 1 1099511627775 _).mono ?_
    rintro x w1 ⟨rfl, rfl⟩
    go_wp2
    go_ret
    exact ⟨by simp, rfl⟩
  | false =>
    go_enter Tryd.func20, Tryd.ntmps20
    go_wp2_with fail
    refine (dwithinOf p 1 4294967295 _).mono ?_
    rintro x w1 ⟨rfl, rfl⟩
    rw [h1]
    go_wp2
    go_ret
    exact ⟨by simp, rfl⟩
theorem isFullOf (t : Nat) (m : Option Nat) (L : List Pr) (w : World) (h : TabAt w t m L) : Calls Tryd.prog 22 #[.pointer (some ⟨t, 0, none⟩)] w fun x w' => x = .returned (.bool (decide (64 ≤ L.length))) ∧ w' = w := by
  have hc := h.cell
  have hl := h.tab.len
  rcases h.map with ⟨rfl, rfl⟩ | ⟨b, rfl, hm⟩
  · go_enter Tryd.func22, Tryd.ntmps22
    go_wp2
    go_ret
    exact ⟨by simp, rfl⟩
  · have HM : Hid (MapQ w b L) := hm
    clear hm h
    by_cases h64 : (64 : Int) ≤ (L.length : Int)
    all_goals
      go_enter Tryd.func22, Tryd.ntmps22
      go_wp2_with (at_len; refine wpList_len_own _ rfl _ 48 rfl 2 43 Tryd.underlying48 Rq b L.length (toQ L) rfl HM.out ?_)
      rw [toQ_size]
      go_wp2
      go_ret
      exact ⟨by simp; omega, rfl⟩
end Go.Proofs.YtmcfcbonmmifeaaDoor
