import Derived.Test.YtelhjdplghpnbaaSdT
import Derived.Test.YtelhjdplghpnbaaSyB
/-! The program's Class. -/
namespace Go.Proofs.Ytelhjdplghpnbaa
open Go.RowKit Plain
set_option linter.unusedVariables false
set_option linter.unusedSimpArgs false

/-- A box of four numbers of the call's own. -/
structure Bx4 (W u : World) (X : Nat) (f : Nat → Int) : Prop where
  c : ∀ i, i < 4 → u.cell? ⟨X, i, none⟩ = some (.int .i64 (f i))
  fz : ∀ i, i < 4 → u.frozen? ⟨X, i, none⟩ = false
  ge : W.heap.size ≤ X
  lt : X < u.heap.size
theorem Bx4.set {W u : World} {X : Nat} {f f' : Nat → Int} (h : Bx4 W u X f) {i : Nat} (hi : i < 4) (z : Int) (hf : ∀ j, j < 4 → f' j = if j = i then z else f j) : Bx4 W (u.setCell ⟨X, i, none⟩ (.int .i64 z)) X f' := by
  refine ⟨fun j hj => ?_, fun j hj => ?_, h.ge, ?_⟩
  · rw [hf j hj]
    by_cases e : j = i
    · subst e
      rw [World.cell?_setCell_same _ _ _ (h.c j hj), if_pos rfl]
    · rw [World.cell?_setCell_other _ _ _ _ (by simp only [ne_eq, Addr.mk.injEq]; omega), h.c j hj, if_neg e]
  · rw [World.frozen?_setCell]; exact h.fz j hj
  · have hg : u.grownBy (u.setCell ⟨X, i, none⟩ (.int .i64 z)) (some X) := grow_setCells u X i [.int .i64 z]
    have := hg.size
    have := h.lt
    omega
theorem Bx4.other {W u : World} {X Y : Nat} {f : Nat → Int} (h : Bx4 W u X f) (hne : X ≠ Y) (i : Nat) (v : Value) : Bx4 W (u.setCell ⟨Y, i, none⟩ v) X f := by
  have hg : u.grownBy (u.setCell ⟨Y, i, none⟩ v) (some Y) := grow_setCells u Y i [v]
  refine ⟨fun j hj => ?_, fun j hj => ?_, h.ge, by have := hg.size; have := h.lt; omega⟩
  · rw [World.cell?_setCell_other _ _ _ _ (by simp only [ne_eq, Addr.mk.injEq]; omega)]; exact h.c j hj
  · rw [World.frozen?_setCell]; exact h.fz j hj
theorem Bx4.later {W u u' : World} {X : Nat} {f : Nat → Int} (h : Bx4 W u X f) (hb : Below u.heap.size u u') : Bx4 W u' X f :=
  ⟨fun j hj => (hb.cell (p := ⟨X, j, none⟩) h.lt).trans (h.c j hj), fun j hj => by rw [World.frozen?_of_block (w := u) (a := ⟨X, j, none⟩) (hb.block _ h.lt)]; exact h.fz j hj, h.ge, by have := hb.size; have := h.lt; omega⟩
theorem Bx4.new {W u : World} (hW : W.heap.size ≤ u.heap.size) (a b c d : Int) (T : TypeId) (f : Nat → Int) (hf : f 0 = a ∧ f 1 = b ∧ f 2 = c ∧ f 3 = d) : Bx4 W (u.alloc (.cells #[.int .i64 a, .int .i64 b, .int .i64 c, .int .i64 d] T)) u.heap.size f := by
  obtain ⟨h0, h1, h2, h3⟩ := hf
  have x1 : (u.alloc (.cells #[.int .i64 a, .int .i64 b, .int .i64 c, .int .i64 d] T)).heap[u.heap.size]? = some (.cells #[.int .i64 a, .int .i64 b, .int .i64 c, .int .i64 d] T) := by show (u.heap.push _)[u.heap.size]? = _; simp
  have hl : u.heap.size < (u.alloc (.cells #[.int .i64 a, .int .i64 b, .int .i64 c, .int .i64 d] T)).heap.size := by simp
  generalize u.alloc (.cells #[.int .i64 a, .int .i64 b, .int .i64 c, .int .i64 d] T) = w1 at *
  refine ⟨four _ ?_ ?_ ?_ ?_, four _ ?_ ?_ ?_ ?_, hW, hl⟩
  all_goals simp [World.cell?, World.frozen?, x1, h0, h1, h2, h3]
theorem below_set {W u : World} (hb : Below W.heap.size W u) {X : Nat} (hX : W.heap.size ≤ X) (i : Nat) (v : Value) : Below W.heap.size W (u.setCell ⟨X, i, none⟩ v) := hb.grown (grow_setCells u X i [v]) hb.size (fun g e => by simp at e; subst e; exact hX)
/-- The boxes of Class: what came in, the work, the answer's, the waits. -/
structure QcB (W u : World) (B D R X : Nat) (c : Nat → Int) (b : Nat → Bool) (f : Nat → Int) : Prop where
  c : Bx4 W u B c
  w : ∀ i, i < 4 → u.cell? ⟨D, i, none⟩ = some (.bool (b i))
  dl : D < u.heap.size
  r : Bx4 W u R (fun _ => 0)
  x : Bx4 W u X f
  below : Below W.heap.size W u
  nb : B ≠ X
  nd : D ≠ X
  nr : R ≠ X
theorem QcB.set {W u : World} {B D R X : Nat} {c : Nat → Int} {b : Nat → Bool} {f f' : Nat → Int} (h : QcB W u B D R X c b f) {i : Nat} (hi : i < 4) (z : Int) (hf : ∀ j, j < 4 → f' j = if j = i then z else f j) : QcB W (u.setCell ⟨X, i, none⟩ (.int .i64 z)) B D R X c b f' := by
  have nd := h.nd
  refine ⟨h.c.other h.nb i _, fun j hj => ?_, ?_, h.r.other h.nr i _, h.x.set hi z hf, below_set h.below h.x.ge i _, h.nb, h.nd, h.nr⟩
  · rw [World.cell?_setCell_other _ _ _ _ (by simp only [ne_eq, Addr.mk.injEq]; omega)]; exact h.w j hj
  · have hg : u.grownBy (u.setCell ⟨X, i, none⟩ (.int .i64 z)) (some X) := grow_setCells u X i [.int .i64 z]
    have := hg.size
    have := h.dl
    omega
theorem QcB.later {W u u' : World} {B D R X : Nat} {c : Nat → Int} {b : Nat → Bool} {f : Nat → Int} (h : QcB W u B D R X c b f) (hb : Below u.heap.size u u') : QcB W u' B D R X c b f :=
  ⟨h.c.later hb, fun j hj => (hb.cell (p := ⟨D, j, none⟩) h.dl).trans (h.w j hj), by have := hb.size; have := h.dl; omega, h.r.later hb, h.x.later hb, h.below.trans (hb.mono h.below.size), h.nb, h.nd, h.nr⟩
theorem QcB.other {W u : World} {B D R X Y : Nat} {c : Nat → Int} {b : Nat → Bool} {f : Nat → Int} (h : QcB W u B D R X c b f) (h1 : B ≠ Y) (h2 : D ≠ Y) (h3 : R ≠ Y) (h4 : X ≠ Y) (hW : W.heap.size ≤ Y) (i : Nat) (v : Value) : QcB W (u.setCell ⟨Y, i, none⟩ v) B D R X c b f := by
  have hg : u.grownBy (u.setCell ⟨Y, i, none⟩ v) (some Y) := grow_setCells u Y i [v]
  refine ⟨h.c.other h1 i _, fun j hj => ?_, by have := hg.size; have := h.dl; omega, h.r.other h3 i _, h.x.other h4 i _, below_set h.below hW i _, h.nb, h.nd, h.nr⟩
  rw [World.cell?_setCell_other _ _ _ _ (by simp only [ne_eq, Addr.mk.injEq]; omega)]; exact h.w j hj
/-- With the answer as it grows. -/
structure QcC (W u : World) (B D R X Y : Nat) (c : Nat → Int) (b : Nat → Bool) (f g : Nat → Int) : Prop where
  q : QcB W u B D R X c b f
  y : Bx4 W u Y g
  n1 : B ≠ Y
  n2 : D ≠ Y
  n3 : R ≠ Y
  n4 : X ≠ Y
theorem QcC.set {W u : World} {B D R X Y : Nat} {c : Nat → Int} {b : Nat → Bool} {f g g' : Nat → Int} (h : QcC W u B D R X Y c b f g) {i : Nat} (hi : i < 4) (z : Int) (hf : ∀ j, j < 4 → g' j = if j = i then z else g j) : QcC W (u.setCell ⟨Y, i, none⟩ (.int .i64 z)) B D R X Y c b f g' :=
  ⟨h.q.other h.n1 h.n2 h.n3 h.n4 h.y.ge i _, h.y.set hi z hf, h.n1, h.n2, h.n3, h.n4⟩
theorem QcC.new {W u : World} {B D R X : Nat} {c : Nat → Int} {b : Nat → Bool} {f : Nat → Int} (h : QcB W u B D R X c b f) (T : TypeId) (g : Nat → Int) (hg : ∀ j, j < 4 → g j = 0) : QcC W (u.alloc (.cells #[.int .i64 0, .int .i64 0, .int .i64 0, .int .i64 0] T)) B D R X u.heap.size c b f g := by
  have b1 : Below u.heap.size u (u.alloc (.cells #[.int .i64 0, .int .i64 0, .int .i64 0, .int .i64 0] T)) := (Below.refl _ _).alloc (Nat.le_refl _) _
  have h1 := h.c.lt
  have h2 := h.dl
  have h3 := h.r.lt
  have h4 := h.x.lt
  exact ⟨h.later b1, Bx4.new h.below.size _ _ _ _ _ _ ⟨hg 0 (by omega), hg 1 (by omega), hg 2 (by omega), hg 3 (by omega)⟩, by omega, by omega, by omega, by omega⟩
/-- The answer is stored. -/
theorem Bx4.store {W u : World} {R : Nat} {f : Nat → Int} (h : Bx4 W u R f) (hb : Below W.heap.size W u) (z0 z1 z2 z3 : Int) :
    ((((u.setCell ⟨R, 0, none⟩ (.int .i64 z0)).setCell ⟨R, 1, none⟩ (.int .i64 z1)).setCell ⟨R, 2, none⟩ (.int .i64 z2)).setCell ⟨R, 3, none⟩ (.int .i64 z3)).cell? ⟨R, 0, none⟩ = some (.int .i64 z0) ∧
    ((((u.setCell ⟨R, 0, none⟩ (.int .i64 z0)).setCell ⟨R, 1, none⟩ (.int .i64 z1)).setCell ⟨R, 2, none⟩ (.int .i64 z2)).setCell ⟨R, 3, none⟩ (.int .i64 z3)).cell? ⟨R, 1, none⟩ = some (.int .i64 z1) ∧
    ((((u.setCell ⟨R, 0, none⟩ (.int .i64 z0)).setCell ⟨R, 1, none⟩ (.int .i64 z1)).setCell ⟨R, 2, none⟩ (.int .i64 z2)).setCell ⟨R, 3, none⟩ (.int .i64 z3)).cell? ⟨R, 2, none⟩ = some (.int .i64 z2) ∧
    ((((u.setCell ⟨R, 0, none⟩ (.int .i64 z0)).setCell ⟨R, 1, none⟩ (.int .i64 z1)).setCell ⟨R, 2, none⟩ (.int .i64 z2)).setCell ⟨R, 3, none⟩ (.int .i64 z3)).cell? ⟨R, 3, none⟩ = some (.int .i64 z3) ∧
    Below W.heap.size W ((((u.setCell ⟨R, 0, none⟩ (.int .i64 z0)).setCell ⟨R, 1, none⟩ (.int .i64 z1)).setCell ⟨R, 2, none⟩ (.int .i64 z2)).setCell ⟨R, 3, none⟩ (.int .i64 z3)) := by
  have s1 := h.set (i := 0) (by omega) z0 (f' := fun j => if j = 0 then z0 else f j) (fun j _ => rfl)
  have s2 := s1.set (i := 1) (by omega) z1 (f' := fun j => if j = 1 then z1 else if j = 0 then z0 else f j) (fun j _ => rfl)
  have s3 := s2.set (i := 2) (by omega) z2 (f' := fun j => if j = 2 then z2 else if j = 1 then z1 else if j = 0 then z0 else f j) (fun j _ => rfl)
  have s4 := s3.set (i := 3) (by omega) z3 (f' := fun j => if j = 3 then z3 else if j = 2 then z2 else if j = 1 then z1 else if j = 0 then z0 else f j) (fun j _ => rfl)
  exact ⟨s4.c 0 (by omega), s4.c 1 (by omega), s4.c 2 (by omega), s4.c 3 (by omega), below_set (below_set (below_set (below_set hb h.ge _ _) h.ge _ _) h.ge _ _) h.ge _ _⟩
/-- What Class answers, as the program finds it. -/
theorem class_is (c : Nat → Int) (b : Nat → Bool) (pick K : Int) (F : Nat → Int) (hF : F = fun j => clampW (c j)) (hK : K = if overL (maskL b F) < 0 then fromZ b (pick % 4).toNat else overL (maskL b F)) :
    (classL c b pick).2 = K ∧ ∀ i, i < 4 → (classL c b pick).1 i = if b i = true ∧ (i : Int) ≠ K then maskL b F i + 1 else 0 := by
  rw [over_best] at hK
  unfold classL
  rw [← hF]
  by_cases ha : anyL b 4 = true
  · rw [if_pos ha]
    have hKp : K = (pickL F b pick : Int) := by
      rw [hK]
      unfold pickL fromZ
      rw [if_pos ha]
      by_cases hb : bestL F b 4 < 0
      · rw [if_pos hb, if_pos hb]
      · rw [if_neg hb, if_neg hb]; omega
    refine ⟨hKp.symm, fun i hi => ?_⟩
    show waitL F b (pickL F b pick) i = _
    unfold waitL maskL
    by_cases hbi : b i = true
    · rw [if_pos hbi]
      by_cases hik : i = pickL F b pick
      · rw [if_pos (.inl hik), if_neg (by rintro ⟨-, h⟩; exact h (by rw [hKp, hik]))]
      · rw [if_neg (by rintro (h | h); (exact hik h); (rw [hbi] at h; cases h)), if_pos ⟨hbi, by rw [hKp]; omega⟩]
    · rw [if_pos (.inr (by simpa using hbi)), if_neg (fun h => hbi h.1)]
  · rw [if_neg ha]
    have hbs : bestL F b 4 < 0 := by
      rcases bestL_is F b 4 with ⟨e, -⟩ | ⟨k, e1, e2, e3, -⟩
      · omega
      · exact absurd (anyL_has b k e2 e3) ha
    have hK1 : K = -1 := by rw [hK, if_pos hbs]; unfold fromZ; rw [if_neg ha]
    refine ⟨hK1.symm, fun i hi => ?_⟩
    rw [if_neg (fun h => ha (anyL_has b i hi h.1))]
end Go.Proofs.Ytelhjdplghpnbaa
