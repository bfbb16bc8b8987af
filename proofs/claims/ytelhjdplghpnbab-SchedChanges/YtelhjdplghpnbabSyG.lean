import Derived.Test.YtelhjdplghpnbabSyF
import Derived.Test.YtelhjdplghpnbabSyA
import Derived.Test.YtelhjdplghpnbabSdL
import Derived.Shelf.Abstract
/-! The program's slices.ContainsFunc, giveTurn, spend. -/
namespace Go.Proofs.Ytelhjdplghpnbab
open Go.RowKit Plain
set_option linter.unusedVariables false
set_option linter.unusedSimpArgs false

theorem enter_waits : ∀ (args : Array Value) (w : World), (callFunc 31 args).run Try.prog w = .ok (.enter 31 args) w := enters_of Try.func31 (by kernel_rfl) rfl
/-- The box of turns that is written over. -/
structure TuB (u : World) (B : Nat) (v : Value) (z : Int) (f : Bool) : Prop where
  b0 : u.cell? ⟨B, 0, none⟩ = some v
  b1 : u.cell? ⟨B, 1, none⟩ = some (.int .i64 z)
  b2 : u.cell? ⟨B, 2, none⟩ = some (.bool f)
  fz : ∀ i, i < 3 → u.frozen? ⟨B, i, none⟩ = false
theorem TuB.lt {u : World} {B : Nat} {v : Value} {z : Int} {f : Bool} (h : TuB u B v z f) : B < u.heap.size := cell_lt h.b0
theorem TuB.block {u u' : World} {B : Nat} {v : Value} {z : Int} {f : Bool} (h : TuB u B v z f) (hb : u'.heap[B]? = u.heap[B]?) : TuB u' B v z f := by
  have cc : ∀ j, u'.cell? ⟨B, j, none⟩ = u.cell? ⟨B, j, none⟩ := fun j => World.cell?_of_block (w := u) (a := ⟨B, j, none⟩) hb
  exact ⟨by rw [cc]; exact h.b0, by rw [cc]; exact h.b1, by rw [cc]; exact h.b2, fun i hi => by rw [World.frozen?_of_block (w := u) (a := ⟨B, i, none⟩) hb]; exact h.fz i hi⟩
theorem TuB.later {u u' : World} {B : Nat} {v : Value} {z : Int} {f : Bool} (h : TuB u B v z f) (hb : Below u.heap.size u u') : TuB u' B v z f := h.block (hb.block _ h.lt)
theorem TuB.kept {u u' : World} {B : Nat} {v : Value} {z : Int} {f : Bool} {r : Option Nat} (h : TuB u B v z f) (k : u.grownBy u' r) (hr : r ≠ some B) : TuB u' B v z f := h.block (k.block B h.lt (fun e => hr (by first | exact e | exact e.symm)))
theorem TuB.setV {u : World} {B : Nat} {v : Value} {z : Int} {f : Bool} (h : TuB u B v z f) (v' : Value) : TuB (u.setCell ⟨B, 0, none⟩ v') B v' z f := by
  have ot : ∀ j, j ≠ 0 → (u.setCell ⟨B, 0, none⟩ v').cell? ⟨B, j, none⟩ = u.cell? ⟨B, j, none⟩ := fun j e => World.cell?_setCell_other _ _ _ _ (by simp only [ne_eq, Addr.mk.injEq]; omega)
  exact ⟨World.cell?_setCell_same _ _ _ h.b0, by rw [ot _ (by omega)]; exact h.b1, by rw [ot _ (by omega)]; exact h.b2, fun i hi => by rw [World.frozen?_setCell]; exact h.fz i hi⟩
theorem TuB.setAt {u : World} {B : Nat} {v : Value} {z : Int} {f : Bool} (h : TuB u B v z f) (z' : Int) : TuB (u.setCell ⟨B, 1, none⟩ (.int .i64 z')) B v z' f := by
  have ot : ∀ j, j ≠ 1 → (u.setCell ⟨B, 1, none⟩ (.int .i64 z')).cell? ⟨B, j, none⟩ = u.cell? ⟨B, j, none⟩ := fun j e => World.cell?_setCell_other _ _ _ _ (by simp only [ne_eq, Addr.mk.injEq]; omega)
  exact ⟨by rw [ot _ (by omega)]; exact h.b0, World.cell?_setCell_same _ _ _ h.b1, by rw [ot _ (by omega)]; exact h.b2, fun i hi => by rw [World.frozen?_setCell]; exact h.fz i hi⟩
theorem TuB.setF {u : World} {B : Nat} {v : Value} {z : Int} {f : Bool} (h : TuB u B v z f) (f' : Bool) : TuB (u.setCell ⟨B, 2, none⟩ (.bool f')) B v z f' := by
  have ot : ∀ j, j ≠ 2 → (u.setCell ⟨B, 2, none⟩ (.bool f')).cell? ⟨B, j, none⟩ = u.cell? ⟨B, j, none⟩ := fun j e => World.cell?_setCell_other _ _ _ _ (by simp only [ne_eq, Addr.mk.injEq]; omega)
  exact ⟨by rw [ot _ (by omega)]; exact h.b0, by rw [ot _ (by omega)]; exact h.b1, World.cell?_setCell_same _ _ _ h.b2, fun i hi => by rw [World.frozen?_setCell]; exact h.fz i hi⟩
theorem TuB.new (w : World) (v : Value) (z : Int) (f : Bool) : TuB (w.alloc (.cells #[v, .int .i64 z, .bool f] 24)) w.heap.size v z f :=
  ⟨World.cell?_alloc_at _ _ _ _ rfl, World.cell?_alloc_at _ _ _ _ rfl, World.cell?_alloc_at _ _ _ _ rfl, fun i hi => World.frozen?_alloc_at _ _ _ _ rfl⟩
set_option maxHeartbeats 2000000 in
set_option maxRecDepth 100000 in
/-- giveTurn: At and Fresh alone turn. -/
theorem qgiveTurnOf {w : World} {B : Nat} {a : Option Addr} {n c : Nat} {z : Int} {f : Bool} (h : TuB w B (.slice a n c) z f) (p : Nat) (hp : p ≤ 9223372036854775807) : Calls Try.prog 28 #[.pointer (some ⟨B, 0, none⟩), .int .i64 p] w fun e w' => (∃ x, e = .returned x) ∧ TuB w' B (.slice a n c) ((if n ≤ p then 0 else p : Nat) : Int) false ∧ w.grownBy w' (some B) := by
  obtain ⟨b0, b1, b2, bf⟩ := h
  have f1 := bf 1 (by omega)
  have f2 := bf 2 (by omega)
  have HT := Hid.mkT (fun (q : Int) => ((TuB.mk b0 b1 b2 bf).setAt q).setF false)
  have HG : Hid (∀ q : Int, w.grownBy ((w.setCell ⟨B, 1, none⟩ (.int .i64 q)).setCell ⟨B, 2, none⟩ (.bool false)) (some B)) := fun q => grow_setCells w B 1 [.int .i64 q, .bool false]
  clear bf
  by_cases hn : n ≤ p
  · have hnz : (n : Int) ≤ (p : Int) := by omega
    have HT0 := Hid.mkT (HT.out 0)
    clear HT
    go_enter Try.func28, Try.ntmps28
    go_wp2
    refine ⟨rfl, _, results_none rfl _ _ _, ?_⟩
    exact ⟨⟨_, rfl⟩, by first | exact HT0.out | (rw [if_pos hn]; exact HT0.out), HG.out _⟩
  · have hnz : ¬ (n : Int) ≤ (p : Int) := by omega
    have HT0 := Hid.mkT (HT.out p)
    clear HT
    go_enter Try.func28, Try.ntmps28
    go_wp2
    refine ⟨rfl, _, results_none rfl _ _ _, ?_⟩
    exact ⟨⟨_, rfl⟩, by first | exact HT0.out | (rw [if_neg hn]; exact HT0.out), HG.out _⟩
end Go.Proofs.Ytelhjdplghpnbab
