import Derived.Test.YtbeaefokpggmpaaQtb
/-! quota: the document's New, parts, room. -/
namespace Go.Proofs.Ytbeaefokpggmpaa
open Go.RowKit
set_option linter.unusedVariables false

structure BkAt (w : World) (g : Nat) (b : Bk) : Prop where
  c0 : w.cell? ⟨g, 0, none⟩ = some (.int .i64 b.num)
  c1 : w.cell? ⟨g, 1, none⟩ = some (.int .i64 b.den)
  c2 : w.cell? ⟨g, 2, none⟩ = some (.int .i64 b.burst)
  c3 : w.cell? ⟨g, 3, none⟩ = some (.int .i64 b.lvl)
  c4 : w.cell? ⟨g, 4, none⟩ = some (.int .i64 b.part)
  c5 : w.cell? ⟨g, 5, none⟩ = some (.int .i64 b.at_)
theorem bk_cell_lt {w : World} {a : Addr} {v : Value} (h : w.cell? a = some v) : a.block < w.heap.size := by
  unfold World.cell? at h
  cases e : w.heap[a.block]? with
  | none => rw [e] at h; simp at h
  | some o => exact (Array.getElem?_eq_some_iff.mp e).1
theorem BkAt.lt {w : World} {g : Nat} {b : Bk} (h : BkAt w g b) : g < w.heap.size := bk_cell_lt h.c0
theorem BkAt.block {w w' : World} {g : Nat} {b : Bk} (h : BkAt w g b) (e : w'.heap[g]? = w.heap[g]?) : BkAt w' g b := by
  have hc : ∀ (i : Nat), w'.cell? ⟨g, i, none⟩ = w.cell? ⟨g, i, none⟩ := fun i => World.cell?_of_block (w := w) e
  exact ⟨(hc 0).trans h.c0, (hc 1).trans h.c1, (hc 2).trans h.c2, (hc 3).trans h.c3, (hc 4).trans h.c4, (hc 5).trans h.c5⟩
theorem BkAt.later {w w' : World} {g : Nat} {b : Bk} (h : BkAt w g b) (k : Below w.heap.size w w') : BkAt w' g b := h.block (k.block _ h.lt)
theorem BkAt.new (w : World) (b : Bk) : BkAt (w.alloc (.cells #[.int .i64 b.num, .int .i64 b.den, .int .i64 b.burst, .int .i64 b.lvl, .int .i64 b.part, .int .i64 b.at_] 23)) w.heap.size b := by
  constructor <;> (rw [World.cell?_alloc_at _ _ _ _ rfl]; rfl)
/-- A bucket in its own box, in a world behind w. -/
structure Box (w w0 : World) (g : Nat) (b : Bk) : Prop where
  at_ : BkAt w0 g b
  bel : Below w.heap.size w w0
  ge : w.heap.size ≤ g
  fr : ∀ j, w0.frozen? ⟨g, j, none⟩ = false
theorem Box.new (w : World) (b : Bk) : Box w (w.alloc (.cells #[.int .i64 b.num, .int .i64 b.den, .int .i64 b.burst, .int .i64 b.lvl, .int .i64 b.part, .int .i64 b.at_] 23)) w.heap.size b :=
  ⟨BkAt.new w b, (Below.refl _ _).alloc (Nat.le_refl _) _, Nat.le_refl _, fun j => World.frozen?_alloc_at _ _ _ _ rfl⟩
theorem Box.later {w w0 w1 : World} {g : Nat} {b : Bk} (h : Box w w0 g b) (k : Below w0.heap.size w0 w1) : Box w w1 g b :=
  ⟨h.at_.later k, h.bel.trans (k.mono h.bel.size), h.ge, fun j => by rw [k.frozen (p := ⟨g, j, none⟩) h.at_.lt]; exact h.fr j⟩
theorem hresRnew : Try.f10.results = #[.cell 8 23, .tmp 9] := by kernel_rfl

def fullB (num den burst now : Int) : Bk := ⟨num, den, burst, burst, 0, now⟩
def newB (num den burst now : Int) : Bk := @ite Bk (fullB num den burst now).Good (goodDec _) (fullB num den burst now) Bk.zero

abbrev zcells : Array Value := #[.int .i64 0, .int .i64 0, .int .i64 0, .int .i64 0, .int .i64 0, .int .i64 0]
theorem Box.zero (w : World) : Box w (w.alloc (.cells #[.int .i64 0, .int .i64 0, .int .i64 0, .int .i64 0, .int .i64 0, .int .i64 0] 23)) w.heap.size Bk.zero := Box.new w Bk.zero
/-- Two boxes one behind the other. -/
theorem Box.over {w w0 w1 : World} {g : Nat} {b : Bk} (h : Box w0 w1 g b) (k : Below w.heap.size w w0) : Box w w1 g b :=
  ⟨h.at_, k.trans (h.bel.mono k.size), Nat.le_trans k.size h.ge, h.fr⟩
def putBk (w : World) (g : Nat) (b : Bk) : World := ((((((w.setCell ⟨g, 0, none⟩ (.int .i64 b.num)).setCell ⟨g, 1, none⟩ (.int .i64 b.den)).setCell ⟨g, 2, none⟩ (.int .i64 b.burst)).setCell ⟨g, 3, none⟩ (.int .i64 b.lvl)).setCell ⟨g, 4, none⟩ (.int .i64 b.part)).setCell ⟨g, 5, none⟩ (.int .i64 b.at_))
theorem putBk_below {w w' : World} {g : Nat} (b : Bk) (h : Below w.heap.size w w') (hg : w.heap.size ≤ g) : Below w.heap.size w (putBk w' g b) := by
  unfold putBk
  exact (((((h.setCell (p := ⟨g, 0, none⟩) hg _).setCell (p := ⟨g, 1, none⟩) hg _).setCell (p := ⟨g, 2, none⟩) hg _).setCell (p := ⟨g, 3, none⟩) hg _).setCell (p := ⟨g, 4, none⟩) hg _).setCell (p := ⟨g, 5, none⟩) hg _

theorem rnewOf (num den burst now : Int) (h1 : I64 num) (h2 : I64 den) (h3 : I64 burst) (h4 : I64 now) (w : World) : Calls Try.prog 10 #[.int .i64 num, .int .i64 den, .int .i64 burst, .int .i64 now] w
    fun e w' => e = .returned (.tuple #[(newB num den burst now).v, .int .i64 (chkB (fullB num den burst now))]) ∧ Below w.heap.size w w' := by
  have HK : Hid (fullB num den burst now).Ok := ⟨h1, h2, h3, h3, ⟨by unfold fullB; simp only; omega, by unfold fullB; simp only; omega⟩, h4⟩
  obtain ⟨w0, hw0⟩ : ∃ w0, w.alloc (.cells #[.int .i64 0, .int .i64 0, .int .i64 0, .int .i64 0, .int .i64 0, .int .i64 0] 23) = w0 := ⟨_, rfl⟩
  obtain ⟨w1, hw1⟩ : ∃ w1, w0.alloc (.cells #[.int .i64 num, .int .i64 den, .int .i64 burst, .int .i64 burst, .int .i64 0, .int .i64 now] 23) = w1 := ⟨_, rfl⟩
  have X0 : Box w w0 w.heap.size Bk.zero := by rw [← hw0]; exact Box.zero w
  have X1 : Box w0 w1 w0.heap.size (fullB num den burst now) := by rw [← hw1]; exact Box.new w0 (fullB num den burst now)
  have hsz : w0.heap.size = w.heap.size + 1 := by rw [← hw0]; simp
  have Y0 : Box w w1 w.heap.size Bk.zero := X0.later X1.bel
  have Y1 : Box w w1 (w.heap.size + 1) (fullB num den burst now) := by rw [← hsz]; exact X1.over X0.bel
  by_cases hg : (fullB num den burst now).Good
  · have HC : Hid (chkB (fullB num den burst now) = 0) := chkB_good hg
    have HN : Hid (newB num den burst now = fullB num den burst now) := by unfold Hid newB; rw [if_pos hg]
    have HY0 : Hid (Box w w1 w.heap.size Bk.zero) := Y0
    have HY1 : Hid (Box w w1 (w.heap.size + 1) (fullB num den burst now)) := Y1
    obtain ⟨z0, z1, z2, z3, z4, z5⟩ := Y0.at_
    obtain ⟨c0, c1, c2, c3, c4, c5⟩ := Y1.at_
    simp only [Bk.zero] at z0 z1 z2 z3 z4 z5
    simp only [fullB] at c0 c1 c2 c3 c4 c5
    clear h1 h2 h3 h4 hg X0 X1 Y0 Y1
    go_enter Try.func10, Try.ntmps10
    go_wp2_with fail
    refine (rcheckOf (fullB num den burst now) HK.out _).mono ?_
    rintro x w2 ⟨rfl, hb2⟩
    have HZ0 : Hid (Box w w2 w.heap.size Bk.zero) := HY0.out.later hb2
    have HZ1 : Hid (Box w w2 (w.heap.size + 1) (fullB num den burst now)) := HY1.out.later hb2
    clear z0 z1 z2 z3 z4 z5 c0 c1 c2 c3 c4 c5
    obtain ⟨z0, z1, z2, z3, z4, z5⟩ := HZ0.out.at_
    obtain ⟨c0, c1, c2, c3, c4, c5⟩ := HZ1.out.at_
    simp only [Bk.zero] at z0 z1 z2 z3 z4 z5
    simp only [fullB] at c0 c1 c2 c3 c4 c5
    have f0 := HZ0.out.fr 0
    have f1 := HZ0.out.fr 1
    have f2 := HZ0.out.fr 2
    have f3 := HZ0.out.fr 3
    have f4 := HZ0.out.fr 4
    have f5 := HZ0.out.fr 5
    rw [HC.out]
    go_wp2
    refine bodyPost_ret (v := .tuple #[(fullB num den burst now).v, .int .i64 0]) ?_ rfl ⟨by rw [HN.out, HC.out], putBk_below (fullB num den burst now) HZ0.out.bel (Nat.le_refl _)⟩
    simp only [results, hresRnew, fullB]
    go_simp
  · have HC : Hid (chkB (fullB num den burst now) = 130) := chkB_bad hg
    have HN : Hid (newB num den burst now = Bk.zero) := by unfold Hid newB; rw [if_neg hg]
    have HY0 : Hid (Box w w1 w.heap.size Bk.zero) := Y0
    have HY1 : Hid (Box w w1 (w.heap.size + 1) (fullB num den burst now)) := Y1
    obtain ⟨z0, z1, z2, z3, z4, z5⟩ := Y0.at_
    obtain ⟨c0, c1, c2, c3, c4, c5⟩ := Y1.at_
    simp only [Bk.zero] at z0 z1 z2 z3 z4 z5
    simp only [fullB] at c0 c1 c2 c3 c4 c5
    clear h1 h2 h3 h4 hg X0 X1 Y0 Y1
    go_enter Try.func10, Try.ntmps10
    go_wp2_with fail
    refine (rcheckOf (fullB num den burst now) HK.out _).mono ?_
    rintro x w2 ⟨rfl, hb2⟩
    have HZ0 : Hid (Box w w2 w.heap.size Bk.zero) := HY0.out.later hb2
    have HZ1 : Hid (Box w w2 (w.heap.size + 1) (fullB num den burst now)) := HY1.out.later hb2
    clear z0 z1 z2 z3 z4 z5 c0 c1 c2 c3 c4 c5
    obtain ⟨z0, z1, z2, z3, z4, z5⟩ := HZ0.out.at_
    obtain ⟨c0, c1, c2, c3, c4, c5⟩ := HZ1.out.at_
    simp only [Bk.zero] at z0 z1 z2 z3 z4 z5
    simp only [fullB] at c0 c1 c2 c3 c4 c5
    have f0 := HZ0.out.fr 0
    have f1 := HZ0.out.fr 1
    have f2 := HZ0.out.fr 2
    have f3 := HZ0.out.fr 3
    have f4 := HZ0.out.fr 4
    have f5 := HZ0.out.fr 5
    rw [HC.out]
    go_wp2
    refine bodyPost_ret (v := .tuple #[Bk.zero.v, .int .i64 130]) ?_ rfl ⟨by rw [HN.out, HC.out], putBk_below Bk.zero HZ0.out.bel (Nat.le_refl _)⟩
    simp only [results, hresRnew, Bk.zero]
    go_simp

theorem rpartsOf (b : Bk) (h : b.Good) (w : World) : Calls Try.prog 22 #[b.v] w fun e w' => e = .returned (.int .i64 b.parts) ∧ Below w.heap.size w w' := by
  have hp := h.prod
  have h0 := h.p0
  have h1 := h.p1
  have h2 := h.d1
  have HPT : Hid (b.parts = b.lvl * b.den + b.part) := rfl
  obtain ⟨num, den, burst, lvl, part, at_⟩ := b
  simp only at hp h0 h1 h2
  have hw1 : wrap64 (lvl * den) = lvl * den := by unfold wrap64; omega
  have hw2 : wrap64 (lvl * den + part) = lvl * den + part := by unfold wrap64; omega
  unfold Bk.v
  clear hp h0 h1 h2 h
  go_enter Try.func22, Try.ntmps22
  go_wp2
  go_ret
  exact ⟨rfl, (Below.refl _ _).alloc (Nat.le_refl _) _⟩
theorem rroomOf (b : Bk) (h : b.Good) (w : World) : Calls Try.prog 21 #[b.v] w fun e w' => e = .returned (.int .i64 (b.burst * b.den - b.parts)) ∧ Below w.heap.size w w' := by
  have hp := h.prod
  have h0 := h.p0
  have h1 := h.p1
  have h2 := h.d1
  have HG : Hid b.Good := h
  have hpt : b.parts = b.lvl * b.den + b.part := rfl
  have hv1 : IntKind.i64.wrap (b.burst * b.den) = b.burst * b.den := IntWalk.i64_in _ (by omega)
  have hv2 : IntKind.i64.wrap (b.burst * b.den - b.parts) = b.burst * b.den - b.parts := IntWalk.i64_in _ (by omega)
  clear hp h0 h1 h2 h hpt
  obtain ⟨w0, hw0⟩ : ∃ w0, w.alloc (.cells #[.int .i64 b.num, .int .i64 b.den, .int .i64 b.burst, .int .i64 b.lvl, .int .i64 b.part, .int .i64 b.at_] 23) = w0 := ⟨_, rfl⟩
  have X0 : Box w w0 w.heap.size b := by rw [← hw0]; exact Box.new w b
  have HX0 : Hid (Box w w0 w.heap.size b) := X0
  obtain ⟨c0, c1, c2, c3, c4, c5⟩ := X0.at_
  clear X0
  go_enter Try.func21, Try.ntmps21
  go_wp2_with fail
  go_region_held3 (fun u => u.cell? ⟨w.heap.size, 0, none⟩ = some (.int .i64 b.num) ∧ u.cell? ⟨w.heap.size, 1, none⟩ = some (.int .i64 b.den) ∧ u.cell? ⟨w.heap.size, 2, none⟩ = some (.int .i64 b.burst) ∧ u.cell? ⟨w.heap.size, 3, none⟩ = some (.int .i64 b.lvl) ∧ u.cell? ⟨w.heap.size, 4, none⟩ = some (.int .i64 b.part) ∧ u.cell? ⟨w.heap.size, 5, none⟩ = some (.int .i64 b.at_)) (go_keep) (first
    | (go_at_call 22
       refine (rpartsOf b HG.out _).mono ?_
       rintro e w2 ⟨rfl, hb2⟩
       have HX2 : Hid (Box w w2 w.heap.size b) := HX0.out.later ((Below.drew (Below.refl _ _)).trans hb2)
       rcases HX2.out.at_ with ⟨a0, a1, a2, a3, a4, a5⟩))
  go_wp2
  go_ret
  exact ⟨rfl, HX2.out.bel⟩
end Go.Proofs.Ytbeaefokpggmpaa
