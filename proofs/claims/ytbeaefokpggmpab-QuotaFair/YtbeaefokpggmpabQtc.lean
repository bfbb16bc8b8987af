import Derived.Test.YtbeaefokpggmpabQtb
/-! quota: the document's New, parts, room. -/
namespace Go.Proofs.Ytbeaefokpggmpab
open Go.RowKit
set_option linter.unusedVariables false

structure BkAt (w : World) (g : Nat) (b : Bk) : Prop where
  c0 : w.cell? ⟨g, 0, none⟩ = some (.int .i64 b.num)
  c1 : w.cell? ⟨g, 1, none⟩ = some (.int .i64 b.den)
  c2 : w.cell? ⟨g, 2, none⟩ = some (.int .i64 b.burst)
  c3 : w.cell? ⟨g, 3, none⟩ = some (.int .i64 b.lvl)
  c4 : w.cell? ⟨g, 4, none⟩ = some (.int .i64 b.part)
  c5 : w.cell? ⟨g, 5, none⟩ = some (.int .i64 b.at_)
theorem bk_cell_lt {w : World} {a : Addr} {v : Value} (h : w.cell? a = some v) : a.block < w.heap.size := by
  unfold World.cell? at h
  cases e : w.heap[a.block]? with
  | none => rw [e] at h; simp at h
  | some o => exact (Array.getElem?_eq_some_iff.mp e).1
theorem BkAt.lt {w : World} {g : Nat} {b : Bk} (h : BkAt w g b) : g < w.heap.size := bk_cell_lt h.c0
theorem BkAt.block {w w' : World} {g : Nat} {b : Bk} (h : BkAt w g b) (e : w'.heap[g]? = w.heap[g]?) : BkAt w' g b := by
  have hc : ∀ (i : Nat), w'.cell? ⟨g, i, none⟩ = w.cell? ⟨g, i, none⟩ := fun i => World.cell?_of_block (w := w) e
  exact ⟨(hc 0).trans h.c0, (hc 1).trans h.c1, (hc 2).trans h.c2, (hc 3).trans h.c3, (hc 4).trans h.c4, (hc 5).trans h.c5⟩
theorem BkAt.later {w w' : World} {g : Nat} {b : Bk} (h : BkAt w g b) (k : Below w.heap.size w w') : BkAt w' g b := h.block (k.block _ h.lt)
theorem BkAt.new (w : World) (b : Bk) : BkAt (w.alloc (.cells #[.int .i64 b.num, .int .i64 b.den, .int .i64 b.burst, .int .i64 b.lvl, .int .i64 b.part, .int .i64 b.at_] 35)) w.heap.size b := by
  constructor <;> (rw [World.cell?_alloc_at _ _ _ _ rfl]; rfl)
/-- A bucket in its own box, in a world behind w. -/
structure Box (w w0 : World) (g : Nat) (b : Bk) : Prop where
  at_ : BkAt w0 g b
  bel : Below w.heap.size w w0
  ge : w.heap.size ≤ g
  fr : ∀ j, w0.frozen? ⟨g, j, none⟩ = false
theorem Box.new (w : World) (b : Bk) : Box w (w.alloc (.cells #[.int .i64 b.num, .int .i64 b.den, .int .i64 b.burst, .int .i64 b.lvl, .int .i64 b.part, .int .i64 b.at_] 35)) w.heap.size b :=
  ⟨BkAt.new w b, (Below.refl _ _).alloc (Nat.le_refl _) _, Nat.le_refl _, fun j => World.frozen?_alloc_at _ _ _ _ rfl⟩
theorem Box.later {w w0 w1 : World} {g : Nat} {b : Bk} (h : Box w w0 g b) (k : Below w0.heap.size w0 w1) : Box w w1 g b :=
  ⟨h.at_.later k, h.bel.trans (k.mono h.bel.size), h.ge, fun j => by rw [k.frozen (p := ⟨g, j, none⟩) h.at_.lt]; exact h.fr j⟩
def fullB (num den burst now : Int) : Bk := ⟨num, den, burst, burst, 0, now⟩
def newB (num den burst now : Int) : Bk := @ite Bk (fullB num den burst now).Good (goodDec _) (fullB num den burst now) Bk.zero

abbrev zcells : Array Value := #[.int .i64 0, .int .i64 0, .int .i64 0, .int .i64 0, .int .i64 0, .int .i64 0]
theorem Box.zero (w : World) : Box w (w.alloc (.cells #[.int .i64 0, .int .i64 0, .int .i64 0, .int .i64 0, .int .i64 0, .int .i64 0] 35)) w.heap.size Bk.zero := Box.new w Bk.zero
/-- Two boxes one behind the other. -/
theorem Box.over {w w0 w1 : World} {g : Nat} {b : Bk} (h : Box w0 w1 g b) (k : Below w.heap.size w w0) : Box w w1 g b :=
  ⟨h.at_, k.trans (h.bel.mono k.size), Nat.le_trans k.size h.ge, h.fr⟩
def putBk (w : World) (g : Nat) (b : Bk) : World := ((((((w.setCell ⟨g, 0, none⟩ (.int .i64 b.num)).setCell ⟨g, 1, none⟩ (.int .i64 b.den)).setCell ⟨g, 2, none⟩ (.int .i64 b.burst)).setCell ⟨g, 3, none⟩ (.int .i64 b.lvl)).setCell ⟨g, 4, none⟩ (.int .i64 b.part)).setCell ⟨g, 5, none⟩ (.int .i64 b.at_))
theorem putBk_below {w w' : World} {g : Nat} (b : Bk) (h : Below w.heap.size w w') (hg : w.heap.size ≤ g) : Below w.heap.size w (putBk w' g b) := by
  unfold putBk
  exact (((((h.setCell (p := ⟨g, 0, none⟩) hg _).setCell (p := ⟨g, 1, none⟩) hg _).setCell (p := ⟨g, 2, none⟩) hg _).setCell (p := ⟨g, 3, none⟩) hg _).setCell (p := ⟨g, 4, none⟩) hg _).setCell (p := ⟨g, 5, none⟩) hg _

end Go.Proofs.Ytbeaefokpggmpab
