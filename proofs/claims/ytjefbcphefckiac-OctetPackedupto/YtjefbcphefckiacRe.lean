import Derived.Test.YtjefbcphefckiacCl
import Derived.Deep.RegionWith
/-! Readers: a struct of four cells: the bytes, the place, the failure and its place. -/
namespace Go.Proofs.Ytjefbcphefckiac
open Go.RowKit Plain
set_option linter.unusedVariables false

structure RAt (w : World) (b : Nat) (dv : Value) (l : List Nat) (p : Nat) (e : Int) (q : Int) (r : Option Nat) : Prop where
  c0 : w.cell? ⟨b, 0, none⟩ = some dv
  c1 : w.cell? ⟨b, 1, none⟩ = some (.int .i64 p)
  c2 : w.cell? ⟨b, 2, none⟩ = some (.int .i64 e)
  c3 : w.cell? ⟨b, 3, none⟩ = some (.int .i64 q)
  f0 : w.frozen? ⟨b, 0, none⟩ = false
  f1 : w.frozen? ⟨b, 1, none⟩ = false
  f2 : w.frozen? ⟨b, 2, none⟩ = false
  f3 : w.frozen? ⟨b, 3, none⟩ = false
  ow : Own w dv l r
  ne : r ≠ some b
  pl : p ≤ l.length
  ll : l.length ≤ 140737488351232

theorem RAt.lt {w : World} {b : Nat} {dv : Value} {l : List Nat} {p : Nat} {e q : Int} {r : Option Nat} (h : RAt w b dv l p e q r) : b < w.heap.size := cell_lt h.c0

theorem RAt.kept {w w' : World} {b : Nat} {dv : Value} {l : List Nat} {p : Nat} {e q : Int} {r : Option Nat} (h : RAt w b dv l p e q r) (hs : w.heap.size ≤ w'.heap.size) (h1 : w'.heap[b]? = w.heap[b]?) (h2 : ∀ g, r = some g → w'.heap[g]? = w.heap[g]?) : RAt w' b dv l p e q r := by
  have hc : ∀ j, w'.cell? ⟨b, j, none⟩ = w.cell? ⟨b, j, none⟩ := fun j => World.cell?_of_block (w := w) (a := ⟨b, j, none⟩) h1
  have hf : ∀ j, w'.frozen? ⟨b, j, none⟩ = w.frozen? ⟨b, j, none⟩ := fun j => World.frozen?_of_block (w := w) (a := ⟨b, j, none⟩) h1
  refine ⟨by rw [hc]; exact h.c0, by rw [hc]; exact h.c1, by rw [hc]; exact h.c2, by rw [hc]; exact h.c3, by rw [hf]; exact h.f0, by rw [hf]; exact h.f1, by rw [hf]; exact h.f2, by rw [hf]; exact h.f3, ?_, h.ne, h.pl, h.ll⟩
  refine ⟨h.ow.1, ?_⟩
  rcases h.ow.2 with h0 | ⟨g, cap, rfl, rfl, hg, b1, b2, b3, b4, b5⟩
  · exact .inl h0
  · have hb := h2 g rfl
    refine .inr ⟨g, cap, rfl, rfl, Nat.lt_of_lt_of_le hg hs, b1, b2, fun j hj => ?_, fun j hj => ?_, fun j hj => ?_⟩
    · rw [World.frozen?_of_block (w := w) (a := ⟨g, j, none⟩) hb]; exact b3 j hj
    · rw [World.cell?_of_block (w := w) (a := ⟨g, j, none⟩) hb]; exact b4 j hj
    · rw [World.cell?_of_block (w := w) (a := ⟨g, j, none⟩) hb]; exact b5 j hj

theorem RAt.later {w w' : World} {b : Nat} {dv : Value} {l : List Nat} {p : Nat} {e q : Int} {r : Option Nat} (h : RAt w b dv l p e q r) (k : Below w.heap.size w w') : RAt w' b dv l p e q r :=
  h.kept k.size (k.block b h.lt) (fun g hg => by subst hg; exact k.block g h.ow.lt)
theorem RAt.drewN {w : World} {b : Nat} {dv : Value} {l : List Nat} {p : Nat} {e q : Int} {r : Option Nat} (h : RAt w b dv l p e q r) (n : Nat) : RAt (w.drewN n) b dv l p e q r := h.later (below_drewN (Below.refl _ _) n)

theorem grow_set (w : World) (b j : Nat) (v : Value) : w.grownBy (w.setCell ⟨b, j, none⟩ v) (some b) := grow_setCells w b j [v]
theorem frozen_set (w : World) (b j i : Nat) (v : Value) : (w.setCell ⟨b, j, none⟩ v).frozen? ⟨b, i, none⟩ = w.frozen? ⟨b, i, none⟩ := World.frozen?_setCells b [v] j w _
theorem cell_set_other (w : World) (b j i : Nat) (v : Value) (h : i ≠ j) : (w.setCell ⟨b, j, none⟩ v).cell? ⟨b, i, none⟩ = w.cell? ⟨b, i, none⟩ := World.cell?_setCell_other _ _ _ _ (by simp <;> omega)

/-- The place is written. -/
theorem RAt.move {w : World} {b : Nat} {dv : Value} {l : List Nat} {p : Nat} {e q : Int} {r : Option Nat} (h : RAt w b dv l p e q r) (p' : Nat) (hp : p' ≤ l.length) : RAt (w.setCell ⟨b, 1, none⟩ (.int .i64 p')) b dv l p' e q r := by
  refine ⟨?_, World.cell?_setCell_same _ _ _ h.c1, ?_, ?_, ?_, ?_, ?_, ?_, h.ow.kept (grow_set w b 1 _) (.inr h.ne), h.ne, hp, h.ll⟩
  · rw [cell_set_other _ _ _ _ _ (by omega)]; exact h.c0
  · rw [cell_set_other _ _ _ _ _ (by omega)]; exact h.c2
  · rw [cell_set_other _ _ _ _ _ (by omega)]; exact h.c3
  · rw [frozen_set]; exact h.f0
  · rw [frozen_set]; exact h.f1
  · rw [frozen_set]; exact h.f2
  · rw [frozen_set]; exact h.f3

theorem pRest (w : World) (b : Nat) (dv : Value) (l : List Nat) (p : Nat) (e q : Int) (r : Option Nat) (h : RAt w b dv l p e q r) :
    Calls Try.prog 17 #[.pointer (some ⟨b, 0, none⟩)] w fun x w' => x = .returned (.int .i64 ((l.length - p : Nat) : Int)) ∧ ∃ n, w' = w.drewN n := by
  obtain ⟨a, cap, rfl⟩ := h.ow.isSlice
  have c0 := h.c0
  have c1 := h.c1
  have hp := h.pl
  have hl := h.ll
  have hblt := h.lt
  clear h
  go_enter Try.func17, Try.ntmps17
  go_wp2
  go_quiet (fail)
  go_wp2
  go_ret
  exact ⟨ret_k (by omega), _, rfl⟩

theorem qRest (w : World) (b : Nat) (dv : Value) (l : List Nat) (p : Nat) (e q : Int) (r : Option Nat) (h : RAt w b dv l p e q r) :
    Calls Try.prog 18 #[.pointer (some ⟨b, 0, none⟩)] w fun x w' => x = .returned (.int .i64 ((l.length - p : Nat) : Int)) ∧ ∃ n, w' = w.drewN n := by
  obtain ⟨a, cap, rfl⟩ := h.ow.isSlice
  have c0 := h.c0
  have c1 := h.c1
  have hp := h.pl
  have hl := h.ll
  have hblt := h.lt
  clear h
  go_enter Try.func18, Try.ntmps18
  go_wp2
  go_quiet (fail)
  go_wp2
  go_ret
  exact ⟨ret_k (by omega), _, rfl⟩

/-- It fails: nothing is done. -/
theorem pFail0 (w : World) (b : Nat) (dv : Value) (l : List Nat) (p : Nat) (e q : Int) (r : Option Nat) (x : Int) (h : RAt w b dv l p e q r) (hx : x = 0 ∨ e ≠ 0) :
    Calls Try.prog 41 #[.pointer (some ⟨b, 0, none⟩), .int .i64 x] w fun y w' => y = .returned (.tuple #[]) ∧ w' = w := by
  have c2 := h.c2
  clear h
  by_cases h0 : x = 0
  · subst h0
    go_enter Try.func41, Try.ntmps41
    go_wp2
    refine bodyPost_ret (results_none rfl _ _ _) rfl ?_
    exact ⟨rfl, rfl⟩
  · have h1 : (x == 0) = false := by simpa using h0
    have h2 : (e != 0) = true := by simp; omega
    clear hx h0
    go_enter Try.func41, Try.ntmps41
    go_wp2
    refine bodyPost_ret (results_none rfl _ _ _) rfl ?_
    exact ⟨rfl, rfl⟩

theorem qFail0 (w : World) (b : Nat) (dv : Value) (l : List Nat) (p : Nat) (e q : Int) (r : Option Nat) (x : Int) (h : RAt w b dv l p e q r) (hx : x = 0 ∨ e ≠ 0) :
    Calls Try.prog 42 #[.pointer (some ⟨b, 0, none⟩), .int .i64 x] w fun y w' => y = .returned (.tuple #[]) ∧ w' = w := by
  have c2 := h.c2
  clear h
  by_cases h0 : e = 0
  · subst h0
    obtain rfl : x = 0 := by omega
    go_enter Try.func42, Try.ntmps42
    go_wp2
    go_end0
    exact ⟨rfl, rfl⟩
  · have h1 : (e == 0) = false := by simpa using h0
    clear hx h0
    go_enter Try.func42, Try.ntmps42
    go_wp2
    go_end0
    exact ⟨rfl, rfl⟩

/-- Three cells, and the first, are written: the program's failure. -/
theorem RAt.fell {w : World} {b : Nat} {dv : Value} {l : List Nat} {p : Nat} {e q : Int} {r : Option Nat} (h : RAt w b dv l p e q r) (x : Int) :
    RAt ((((w.setCell ⟨b, 2, none⟩ (.int .i64 x)).setCell ⟨b, 3, none⟩ (.int .i64 p)).setCell ⟨b, 0, none⟩ (.slice none 0 0)).setCell ⟨b, 1, none⟩ (.int .i64 0)) b (.slice none 0 0) [] 0 x p none ∧
      w.grownBy ((((w.setCell ⟨b, 2, none⟩ (.int .i64 x)).setCell ⟨b, 3, none⟩ (.int .i64 p)).setCell ⟨b, 0, none⟩ (.slice none 0 0)).setCell ⟨b, 1, none⟩ (.int .i64 0)) (some b) := by
  have hg : w.grownBy ((((w.setCell ⟨b, 2, none⟩ (.int .i64 x)).setCell ⟨b, 3, none⟩ (.int .i64 p)).setCell ⟨b, 0, none⟩ (.slice none 0 0)).setCell ⟨b, 1, none⟩ (.int .i64 0)) (some b) :=
    grow_trans (grow_trans (grow_trans (grow_set w b 2 _) (grow_set _ b 3 _) (.inl rfl)) (grow_set _ b 0 _) (.inl rfl)) (grow_set _ b 1 _) (.inl rfl)
  refine ⟨⟨?_, ?_, ?_, ?_, ?_, ?_, ?_, ?_, Own.nil _, by simp, by simp, by simp⟩, hg⟩
  · rw [cell_set_other _ _ _ _ _ (by omega)]
    exact World.cell?_setCell_same _ _ _ (by rw [cell_set_other _ _ _ _ _ (by omega), cell_set_other _ _ _ _ _ (by omega)]; exact h.c0)
  · exact World.cell?_setCell_same _ _ _ (by rw [cell_set_other _ _ _ _ _ (by omega), cell_set_other _ _ _ _ _ (by omega), cell_set_other _ _ _ _ _ (by omega)]; exact h.c1)
  · rw [cell_set_other _ _ _ _ _ (by omega), cell_set_other _ _ _ _ _ (by omega), cell_set_other _ _ _ _ _ (by omega)]
    exact World.cell?_setCell_same _ _ _ h.c2
  · rw [cell_set_other _ _ _ _ _ (by omega), cell_set_other _ _ _ _ _ (by omega)]
    exact World.cell?_setCell_same _ _ _ (by rw [cell_set_other _ _ _ _ _ (by omega)]; exact h.c3)
  · rw [frozen_set, frozen_set, frozen_set, frozen_set]; exact h.f0
  · rw [frozen_set, frozen_set, frozen_set, frozen_set]; exact h.f1
  · rw [frozen_set, frozen_set, frozen_set, frozen_set]; exact h.f2
  · rw [frozen_set, frozen_set, frozen_set, frozen_set]; exact h.f3

theorem RAt.qfell {w : World} {b : Nat} {dv : Value} {l : List Nat} {p : Nat} {e q : Int} {r : Option Nat} (h : RAt w b dv l p e q r) (x : Int) :
    RAt (((w.setCell ⟨b, 2, none⟩ (.int .i64 x)).setCell ⟨b, 3, none⟩ (.int .i64 p)).setCell ⟨b, 1, none⟩ (.int .i64 (l.length : Nat))) b dv l l.length x p r ∧
      w.grownBy (((w.setCell ⟨b, 2, none⟩ (.int .i64 x)).setCell ⟨b, 3, none⟩ (.int .i64 p)).setCell ⟨b, 1, none⟩ (.int .i64 (l.length : Nat))) (some b) := by
  have hg : w.grownBy (((w.setCell ⟨b, 2, none⟩ (.int .i64 x)).setCell ⟨b, 3, none⟩ (.int .i64 p)).setCell ⟨b, 1, none⟩ (.int .i64 (l.length : Nat))) (some b) :=
    grow_trans (grow_trans (grow_set w b 2 _) (grow_set _ b 3 _) (.inl rfl)) (grow_set _ b 1 _) (.inl rfl)
  refine ⟨⟨?_, ?_, ?_, ?_, ?_, ?_, ?_, ?_, h.ow.kept hg (.inr h.ne), h.ne, Nat.le_refl _, h.ll⟩, hg⟩
  · rw [cell_set_other _ _ _ _ _ (by omega), cell_set_other _ _ _ _ _ (by omega), cell_set_other _ _ _ _ _ (by omega)]; exact h.c0
  · exact World.cell?_setCell_same _ _ _ (by rw [cell_set_other _ _ _ _ _ (by omega), cell_set_other _ _ _ _ _ (by omega)]; exact h.c1)
  · rw [cell_set_other _ _ _ _ _ (by omega), cell_set_other _ _ _ _ _ (by omega)]
    exact World.cell?_setCell_same _ _ _ h.c2
  · rw [cell_set_other _ _ _ _ _ (by omega)]
    exact World.cell?_setCell_same _ _ _ (by rw [cell_set_other _ _ _ _ _ (by omega)]; exact h.c3)
  · rw [frozen_set, frozen_set, frozen_set]; exact h.f0
  · rw [frozen_set, frozen_set, frozen_set]; exact h.f1
  · rw [frozen_set, frozen_set, frozen_set]; exact h.f2
  · rw [frozen_set, frozen_set, frozen_set]; exact h.f3

theorem pFail1 (w : World) (b : Nat) (dv : Value) (l : List Nat) (p : Nat) (q : Int) (r : Option Nat) (x : Int) (h : RAt w b dv l p 0 q r) (hx : x ≠ 0) :
    Calls Try.prog 41 #[.pointer (some ⟨b, 0, none⟩), .int .i64 x] w fun y w' => y = .returned (.tuple #[]) ∧ RAt w' b (.slice none 0 0) [] 0 x p none ∧ w.grownBy w' (some b) := by
  have HF : Hid _ := h.fell x
  have c0 := h.c0
  have c1 := h.c1
  have c2 := h.c2
  have c3 := h.c3
  have f0 := h.f0
  have f1 := h.f1
  have f2 := h.f2
  have f3 := h.f3
  have h1 : (x == 0) = false := by simpa using hx
  clear h hx
  go_enter Try.func41, Try.ntmps41
  go_wp2
  go_end0
  exact ⟨rfl, HF.out⟩

theorem qFail1 (w : World) (b : Nat) (dv : Value) (l : List Nat) (p : Nat) (q : Int) (r : Option Nat) (x : Int) (h : RAt w b dv l p 0 q r) (hx : x ≠ 0) :
    Calls Try.prog 42 #[.pointer (some ⟨b, 0, none⟩), .int .i64 x] w fun y w' => y = .returned (.tuple #[]) ∧ RAt w' b dv l l.length x p r ∧ w.grownBy w' (some b) := by
  have HF : Hid _ := h.qfell x
  obtain ⟨a, cap, rfl⟩ := h.ow.isSlice
  have c0 := h.c0
  have c1 := h.c1
  have c2 := h.c2
  have c3 := h.c3
  have f1 := h.f1
  have f2 := h.f2
  have f3 := h.f3
  have hl := h.ll
  have h1 : (x != 0) = true := by simpa using hx
  clear h hx
  go_enter Try.func42, Try.ntmps42
  go_wp2
  go_end0
  exact ⟨rfl, HF.out⟩
end Go.Proofs.Ytjefbcphefckiac
