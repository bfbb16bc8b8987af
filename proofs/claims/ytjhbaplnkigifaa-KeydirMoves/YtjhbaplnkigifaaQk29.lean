import Derived.Test.YtjhbaplnkigifaaQk28
/-! keydir: the law of the moves. -/
namespace Go.Proofs.Ytjhbaplnkigifaa
open Go.RowKit Go.Deep Go.ChangeShapes Go.WideShapes Go.ChangeAt Plain
set_option linter.unusedVariables false
set_option linter.unusedSimpArgs false

theorem WS.whole {D O : Nat → Prop} {w : World} {gw B N : Nat} (h : WS D O w gw B N) : Calls Try.prog 8 #[.pointer (some ⟨gw, 0, none⟩)] w fun e w' => e = .returned (.bool true) ∧ Below w.heap.size w w' := by
  obtain ⟨vd, vx, vl, rd, rx, rl, ps, hs, rfl, h1, h2, h3⟩ := h
  exact wholeOf gw vd vx rd rx ps w h1.c0 h1.c1 h1.rowd h1.rowx h1.dw h1.some2.2
theorem WS.stands {D O : Nat → Prop} {w : World} {gw B N : Nat} (h : WS D O w gw B N) : Calls Try.prog 7 #[.pointer (some ⟨gw, 0, none⟩)] w fun e w' => e = .returned (.bool true) ∧ ∃ n, w' = w.drewN n := by
  obtain ⟨vd, vx, vl, rd, rx, rl, ps, hs, rfl, h1, h2, h3⟩ := h
  exact standsOf gw vl hs rl w h1.c2 h1.lists
set_option maxHeartbeats 2000000 in
/-- The law's world at its beginning: seven blocks. -/
theorem initOf {w w1 w2 w3 w4 w5 w6 w7 : World} {t3 t6 t7 : TypeId} (h1 : w.alloc (.cells #[.pointer none] 28) = w1) (h2 : w1.alloc (.cells #[.pointer none] 28) = w2) (h3 : w2.alloc (.cells #[.pointer (some ⟨w.heap.size, 0, none⟩), .pointer (some ⟨w.heap.size + 1, 0, none⟩)] t3) = w3) (h4 : w3.alloc (.cells #[.slice none 0 0] 45) = w4) (h5 : w4.alloc (.cells #[.slice none 0 0] 45) = w5) (h6 : w5.alloc (.cells #[.pointer (some ⟨w.heap.size + 1 + 1 + 1, 0, none⟩), .pointer (some ⟨w.heap.size + 1 + 1 + 1 + 1, 0, none⟩)] t6) = w6) (h7 : w6.alloc (.cells #[.slice (some ⟨w.heap.size + 1 + 1, 0, none⟩) 2 2, .slice (some ⟨w.heap.size + 1 + 1 + 1 + 1 + 1, 0, none⟩) 2 2, .slice none 0 0] t7) = w7) :
    (∃ D O, (∀ g, D g → w.heap.size ≤ g) ∧ WS D O w7 (w.heap.size + 1 + 1 + 1 + 1 + 1 + 1) 0 0) ∧ Below w.heap.size w w7 := by
  have s1 : w1.heap.size = w.heap.size + 1 := by rw [← h1]; exact Array.size_push _
  have b1 : Below w.heap.size w w1 := by rw [← h1]; exact (Below.refl _ _).alloc (Nat.le_refl _) _
  have f1 : ∀ j, w1.frozen? ⟨w.heap.size, j, none⟩ = false := fun j => by rw [← h1]; exact World.frozen?_alloc_new _ _ _ j
  have s2 : w2.heap.size = w1.heap.size + 1 := by rw [← h2]; exact Array.size_push _
  have b2 : Below w1.heap.size w1 w2 := by rw [← h2]; exact (Below.refl _ _).alloc (Nat.le_refl _) _
  have f2 : ∀ j, w2.frozen? ⟨w1.heap.size, j, none⟩ = false := fun j => by rw [← h2]; exact World.frozen?_alloc_new _ _ _ j
  have s3 : w3.heap.size = w2.heap.size + 1 := by rw [← h3]; exact Array.size_push _
  have b3 : Below w2.heap.size w2 w3 := by rw [← h3]; exact (Below.refl _ _).alloc (Nat.le_refl _) _
  have f3 : ∀ j, w3.frozen? ⟨w2.heap.size, j, none⟩ = false := fun j => by rw [← h3]; exact World.frozen?_alloc_new _ _ _ j
  have s4 : w4.heap.size = w3.heap.size + 1 := by rw [← h4]; exact Array.size_push _
  have b4 : Below w3.heap.size w3 w4 := by rw [← h4]; exact (Below.refl _ _).alloc (Nat.le_refl _) _
  have f4 : ∀ j, w4.frozen? ⟨w3.heap.size, j, none⟩ = false := fun j => by rw [← h4]; exact World.frozen?_alloc_new _ _ _ j
  have s5 : w5.heap.size = w4.heap.size + 1 := by rw [← h5]; exact Array.size_push _
  have b5 : Below w4.heap.size w4 w5 := by rw [← h5]; exact (Below.refl _ _).alloc (Nat.le_refl _) _
  have f5 : ∀ j, w5.frozen? ⟨w4.heap.size, j, none⟩ = false := fun j => by rw [← h5]; exact World.frozen?_alloc_new _ _ _ j
  have s6 : w6.heap.size = w5.heap.size + 1 := by rw [← h6]; exact Array.size_push _
  have b6 : Below w5.heap.size w5 w6 := by rw [← h6]; exact (Below.refl _ _).alloc (Nat.le_refl _) _
  have f6 : ∀ j, w6.frozen? ⟨w5.heap.size, j, none⟩ = false := fun j => by rw [← h6]; exact World.frozen?_alloc_new _ _ _ j
  have s7 : w7.heap.size = w6.heap.size + 1 := by rw [← h7]; exact Array.size_push _
  have b7 : Below w6.heap.size w6 w7 := by rw [← h7]; exact (Below.refl _ _).alloc (Nat.le_refl _) _
  have f7 : ∀ j, w7.frozen? ⟨w6.heap.size, j, none⟩ = false := fun j => by rw [← h7]; exact World.frozen?_alloc_new _ _ _ j
  have c10 : w1.cell? ⟨w.heap.size, 0, none⟩ = some (.pointer none) := by rw [← h1]; exact World.cell?_alloc_at _ _ _ _ rfl
  have c20 : w2.cell? ⟨w1.heap.size, 0, none⟩ = some (.pointer none) := by rw [← h2]; exact World.cell?_alloc_at _ _ _ _ rfl
  have c30 : w3.cell? ⟨w2.heap.size, 0, none⟩ = some (.pointer (some ⟨w.heap.size, 0, none⟩)) := by rw [← h3]; exact World.cell?_alloc_at _ _ _ _ rfl
  have c31 : w3.cell? ⟨w2.heap.size, 1, none⟩ = some (.pointer (some ⟨w.heap.size + 1, 0, none⟩)) := by rw [← h3]; exact World.cell?_alloc_at _ _ _ _ rfl
  have c40 : w4.cell? ⟨w3.heap.size, 0, none⟩ = some (.slice none 0 0) := by rw [← h4]; exact World.cell?_alloc_at _ _ _ _ rfl
  have c50 : w5.cell? ⟨w4.heap.size, 0, none⟩ = some (.slice none 0 0) := by rw [← h5]; exact World.cell?_alloc_at _ _ _ _ rfl
  have c60 : w6.cell? ⟨w5.heap.size, 0, none⟩ = some (.pointer (some ⟨w.heap.size + 1 + 1 + 1, 0, none⟩)) := by rw [← h6]; exact World.cell?_alloc_at _ _ _ _ rfl
  have c61 : w6.cell? ⟨w5.heap.size, 1, none⟩ = some (.pointer (some ⟨w.heap.size + 1 + 1 + 1 + 1, 0, none⟩)) := by rw [← h6]; exact World.cell?_alloc_at _ _ _ _ rfl
  have c70 : w7.cell? ⟨w6.heap.size, 0, none⟩ = some (.slice (some ⟨w.heap.size + 1 + 1, 0, none⟩) 2 2) := by rw [← h7]; exact World.cell?_alloc_at _ _ _ _ rfl
  have c71 : w7.cell? ⟨w6.heap.size, 1, none⟩ = some (.slice (some ⟨w.heap.size + 1 + 1 + 1 + 1 + 1, 0, none⟩) 2 2) := by rw [← h7]; exact World.cell?_alloc_at _ _ _ _ rfl
  have c72 : w7.cell? ⟨w6.heap.size, 2, none⟩ = some (.slice none 0 0) := by rw [← h7]; exact World.cell?_alloc_at _ _ _ _ rfl
  have q7 : Below w7.heap.size w7 w7 := Below.refl _ _
  have q6 : Below w6.heap.size w6 w7 := b7.trans (q7.mono b7.size)
  have q5 : Below w5.heap.size w5 w7 := b6.trans (q6.mono b6.size)
  have q4 : Below w4.heap.size w4 w7 := b5.trans (q5.mono b5.size)
  have q3 : Below w3.heap.size w3 w7 := b4.trans (q4.mono b4.size)
  have q2 : Below w2.heap.size w2 w7 := b3.trans (q3.mono b3.size)
  have q1 : Below w1.heap.size w1 w7 := b2.trans (q2.mono b2.size)
  have q0 : Below w.heap.size w w7 := b1.trans (q1.mono b1.size)
  have e1 : w1.heap.size = w.heap.size + 1 := by rw [s1]
  have e2 : w2.heap.size = w.heap.size + 1 + 1 := by rw [s2, e1]
  have e3 : w3.heap.size = w.heap.size + 1 + 1 + 1 := by rw [s3, e2]
  have e4 : w4.heap.size = w.heap.size + 1 + 1 + 1 + 1 := by rw [s4, e3]
  have e5 : w5.heap.size = w.heap.size + 1 + 1 + 1 + 1 + 1 := by rw [s5, e4]
  have e6 : w6.heap.size = w.heap.size + 1 + 1 + 1 + 1 + 1 + 1 := by rw [s6, e5]
  have d10 : w7.cell? ⟨w.heap.size, 0, none⟩ = some (.pointer none) := by have := (q1.cell (p := ⟨w.heap.size, 0, none⟩) (cell_lt c10)).trans c10; exact this
  have g1 : ∀ j, w7.frozen? ⟨w.heap.size, j, none⟩ = false := fun j => by have := (q1.frozen (p := ⟨w.heap.size, j, none⟩) (by have := cell_lt c10; exact this)).trans (f1 j); exact this
  have d20 : w7.cell? ⟨w.heap.size + 1, 0, none⟩ = some (.pointer none) := by have := (q2.cell (p := ⟨w1.heap.size, 0, none⟩) (cell_lt c20)).trans c20; rw [e1] at this; exact this
  have g2 : ∀ j, w7.frozen? ⟨w.heap.size + 1, j, none⟩ = false := fun j => by have := (q2.frozen (p := ⟨w1.heap.size, j, none⟩) (by have := cell_lt c20; exact this)).trans (f2 j); rw [e1] at this; exact this
  have d30 : w7.cell? ⟨w.heap.size + 1 + 1, 0, none⟩ = some (.pointer (some ⟨w.heap.size, 0, none⟩)) := by have := (q3.cell (p := ⟨w2.heap.size, 0, none⟩) (cell_lt c30)).trans c30; rw [e2] at this; exact this
  have d31 : w7.cell? ⟨w.heap.size + 1 + 1, 1, none⟩ = some (.pointer (some ⟨w.heap.size + 1, 0, none⟩)) := by have := (q3.cell (p := ⟨w2.heap.size, 1, none⟩) (cell_lt c31)).trans c31; rw [e2] at this; exact this
  have g3 : ∀ j, w7.frozen? ⟨w.heap.size + 1 + 1, j, none⟩ = false := fun j => by have := (q3.frozen (p := ⟨w2.heap.size, j, none⟩) (by have := cell_lt c30; exact this)).trans (f3 j); rw [e2] at this; exact this
  have d40 : w7.cell? ⟨w.heap.size + 1 + 1 + 1, 0, none⟩ = some (.slice none 0 0) := by have := (q4.cell (p := ⟨w3.heap.size, 0, none⟩) (cell_lt c40)).trans c40; rw [e3] at this; exact this
  have g4 : ∀ j, w7.frozen? ⟨w.heap.size + 1 + 1 + 1, j, none⟩ = false := fun j => by have := (q4.frozen (p := ⟨w3.heap.size, j, none⟩) (by have := cell_lt c40; exact this)).trans (f4 j); rw [e3] at this; exact this
  have d50 : w7.cell? ⟨w.heap.size + 1 + 1 + 1 + 1, 0, none⟩ = some (.slice none 0 0) := by have := (q5.cell (p := ⟨w4.heap.size, 0, none⟩) (cell_lt c50)).trans c50; rw [e4] at this; exact this
  have g5 : ∀ j, w7.frozen? ⟨w.heap.size + 1 + 1 + 1 + 1, j, none⟩ = false := fun j => by have := (q5.frozen (p := ⟨w4.heap.size, j, none⟩) (by have := cell_lt c50; exact this)).trans (f5 j); rw [e4] at this; exact this
  have d60 : w7.cell? ⟨w.heap.size + 1 + 1 + 1 + 1 + 1, 0, none⟩ = some (.pointer (some ⟨w.heap.size + 1 + 1 + 1, 0, none⟩)) := by have := (q6.cell (p := ⟨w5.heap.size, 0, none⟩) (cell_lt c60)).trans c60; rw [e5] at this; exact this
  have d61 : w7.cell? ⟨w.heap.size + 1 + 1 + 1 + 1 + 1, 1, none⟩ = some (.pointer (some ⟨w.heap.size + 1 + 1 + 1 + 1, 0, none⟩)) := by have := (q6.cell (p := ⟨w5.heap.size, 1, none⟩) (cell_lt c61)).trans c61; rw [e5] at this; exact this
  have g6 : ∀ j, w7.frozen? ⟨w.heap.size + 1 + 1 + 1 + 1 + 1, j, none⟩ = false := fun j => by have := (q6.frozen (p := ⟨w5.heap.size, j, none⟩) (by have := cell_lt c60; exact this)).trans (f6 j); rw [e5] at this; exact this
  have d70 : w7.cell? ⟨w.heap.size + 1 + 1 + 1 + 1 + 1 + 1, 0, none⟩ = some (.slice (some ⟨w.heap.size + 1 + 1, 0, none⟩) 2 2) := by have := (q7.cell (p := ⟨w6.heap.size, 0, none⟩) (cell_lt c70)).trans c70; rw [e6] at this; exact this
  have d71 : w7.cell? ⟨w.heap.size + 1 + 1 + 1 + 1 + 1 + 1, 1, none⟩ = some (.slice (some ⟨w.heap.size + 1 + 1 + 1 + 1 + 1, 0, none⟩) 2 2) := by have := (q7.cell (p := ⟨w6.heap.size, 1, none⟩) (cell_lt c71)).trans c71; rw [e6] at this; exact this
  have d72 : w7.cell? ⟨w.heap.size + 1 + 1 + 1 + 1 + 1 + 1, 2, none⟩ = some (.slice none 0 0) := by have := (q7.cell (p := ⟨w6.heap.size, 2, none⟩) (cell_lt c72)).trans c72; rw [e6] at this; exact this
  have g7 : ∀ j, w7.frozen? ⟨w.heap.size + 1 + 1 + 1 + 1 + 1 + 1, j, none⟩ = false := fun j => by have := (q7.frozen (p := ⟨w6.heap.size, j, none⟩) (by have := cell_lt c70; exact this)).trans (f7 j); rw [e6] at this; exact this
  clear h1 h2 h3 h4 h5 h6 h7
  have x4 : XDirAt w7 (w.heap.size + 1 + 1 + 1) vnil [] none := ⟨d40, g4 0, OwnKr.nil _, by simp, Srt.nil, by simp, by simp⟩
  have x5 : XDirAt w7 (w.heap.size + 1 + 1 + 1 + 1) vnil [] none := ⟨d50, g5 0, OwnKr.nil _, by simp, Srt.nil, by simp, by simp⟩
  refine ⟨WdAt.init (n0 := w.heap.size) (gw := w.heap.size + 1 + 1 + 1 + 1 + 1 + 1) (g1 := w.heap.size + 1 + 1) (g2 := w.heap.size + 1 + 1 + 1 + 1 + 1) (a := w.heap.size) (b := w.heap.size + 1) (x := w.heap.size + 1 + 1 + 1) (y := w.heap.size + 1 + 1 + 1 + 1) (fun g hg => by omega) (by omega) (by omega) (by omega) (by omega) (by omega) (by omega) d70 d71 d72 g7 d30 d31 g3 d60 d61 g6 d10 (g1 0) d20 (g2 0) x4 x5, q0⟩
theorem wp_gen {p : Program} {c : Code} {K : Exit → Act → World → Prop} {fr : Act} {w : World} {P : World → Prop} (hP : P w) (h : ∀ u, P u → Code.wp p c K fr u) : Code.wp p c K fr w := h w hP
end Go.Proofs.Ytjhbaplnkigifaa

/-! keydir: the law of the moves: its own loop. -/
namespace Go.Proofs.Ytjhbaplnkigifaa
open Go.RowKit Go.Deep Go.ChangeShapes Go.WideShapes Go.ChangeAt Plain
set_option linter.unusedVariables false
set_option linter.unusedSimpArgs false

theorem getD3 (a b c d : Value) : #[a, b, c].getD 0 d = a := rfl
theorem MvsAt.below {w w' : World} {v : Value} {st : List Mv} (h : MvsAt w v st) (hb : Below w.heap.size w w') : MvsAt w' v st := h.later hb
/-- The state of the law's loop: the world's dirs and lists are new blocks; what was there before is as it was. -/
def LpS (w : World) (gw k : Nat) (wr : World) : Prop := (∃ D O, (∀ g, D g → w.heap.size ≤ g) ∧ WS D O wr gw k k) ∧ Below w.heap.size w wr
theorem LpS.later {w : World} {gw k : Nat} {wr u : World} (h : LpS w gw k wr) (hb : Below wr.heap.size wr u) : LpS w gw k u := by
  obtain ⟨⟨D, O, h1, h2⟩, h3⟩ := h
  exact ⟨⟨D, O, h1, h2.later hb⟩, h3.trans (hb.mono h3.size)⟩
theorem LpS.told (hEro : EroOk) {w : World} {gw k : Nat} {wr : World} (h : LpS w gw k wr) (m : Mv) (hm : m.Ok) (hk : k < 2199023253000) :
    Calls Try.prog 6 #[.pointer (some ⟨gw, 0, none⟩), m.v] wr fun e w' => e = .returned (.bool true) ∧ LpS w gw (k + 1) w' := by
  obtain ⟨⟨D, O, h1, h2⟩, h3⟩ := h
  refine (toldAny hEro m h2 hm hk hk).mono ?_
  rintro e w' ⟨he, D', O', hfr, hw⟩
  have hsz := h3.size
  refine ⟨he, ⟨D', O', fun g hg => ?_, hw⟩, h3.trans ⟨hfr.1.os, hfr.1.tape, hfr.1.output, hfr.1.size, fun g hg => hfr.1.block g (by omega) (fun hd => by have := h1 g (h2.sub g hd); omega)⟩⟩
  rcases hfr.2.2.1 g hg with e | e
  · exact h1 g e
  · omega
theorem LpS.stands {w : World} {gw k : Nat} {wr : World} (h : LpS w gw k wr) : Calls Try.prog 7 #[.pointer (some ⟨gw, 0, none⟩)] wr fun e w' => e = .returned (.bool true) ∧ ∃ n, w' = wr.drewN n := by
  obtain ⟨⟨D, O, h1, h2⟩, h3⟩ := h
  exact h2.stands
theorem LpS.whole {w : World} {gw k : Nat} {wr : World} (h : LpS w gw k wr) : Calls Try.prog 8 #[.pointer (some ⟨gw, 0, none⟩)] wr fun e w' => e = .returned (.bool true) ∧ LpS w gw k w' := by
  obtain ⟨⟨D, O, h1, h2⟩, h3⟩ := h
  exact h2.whole.mono fun e w' ⟨h4, h5⟩ => ⟨h4, LpS.later ⟨⟨D, O, h1, h2⟩, h3⟩ h5⟩
/-- A move of the slice. -/
theorem MvsAt.at {w : World} {a : Option Addr} {n cap : Nat} {st : List Mv} (h : MvsAt w (.slice a n cap) st) {k : Nat} (hk : k < st.length) : ∃ b off, a = some ⟨b, off, none⟩ ∧ (st.getD k Mv.zero).Ok ∧ ∀ i u, (st.getD k Mv.zero).cells[i]? = some u → w.cell? ⟨b, off + k * 11 + i, none⟩ = some u := by
  obtain ⟨a', cap', e, h1, h2, h3⟩ := h
  cases e
  obtain ⟨b, off, e2, h4⟩ := h3 (by rintro rfl; simp at hk)
  refine ⟨b, off, e2, h2 _ ?_, h4 k hk⟩
  rw [List.getD_eq_getElem?_getD, List.getElem?_eq_getElem hk]
  exact List.getElem_mem hk
set_option maxHeartbeats 8000000 in
set_option maxRecDepth 100000 in
theorem movesOf (hEro : EroOk) (v : Value) (st : List Mv) (w : World) (hm : MvsAt w v st) (hU : ∀ u, MvsAt u v st → Calls Try.prog 9 #[v] u fun e w' => e = .returned (.bool true) ∧ Below u.heap.size u w') :
    Calls Try.prog 3 #[v] w fun e w' => e = .returned (.bool true) ∧ Below w.heap.size w w' := by
  have hlen : st.length ≤ 1353245080300 := by obtain ⟨a, cap, rfl, h1, h2, h3⟩ := hm; exact h1
  obtain ⟨a, cap, rfl⟩ : ∃ a cap, v = .slice a st.length cap := by obtain ⟨a, cap, rfl, h1, h2, h3⟩ := hm; exact ⟨a, cap, rfl⟩
  have HM : Hid (MvsAt w (.slice a st.length cap) st) := hm
  have HU : Hid (∀ u, Below w.heap.size w u → Calls Try.prog 9 #[.slice a st.length cap] u fun e w' => e = .returned (.bool true) ∧ Below u.heap.size u w') := fun u hu => hU u (hm.later hu)
  clear hm hU
  go_enter Try.func3, Try.ntmps3
  go_wp2
  refine wp_gen (P := fun u => (∃ D O, (∀ g, D g → w.heap.size ≤ g) ∧ WS D O u (w.heap.size + 1 + 1 + 1 + 1 + 1 + 1) 0 0) ∧ Below w.heap.size w u) (initOf rfl rfl rfl rfl rfl rfl rfl) ?_
  intro w7 H7
  have HL7 : Hid (LpS w (w.heap.size + 1 + 1 + 1 + 1 + 1 + 1) 0 w7) := H7
  clear H7
  generalize w.heap.size + 1 + 1 + 1 + 1 + 1 + 1 = gw at *
  simp only [getD3]
  go_loopw [5] (fun i wr => ∃ k : Nat, k ≤ st.length ∧ i = .int .i64 k ∧ Hid (LpS w gw k wr)) (fun i _ => st.length - (intOf i).toNat)
  case atStart => exact ⟨0, by omega, rfl, HL7⟩
  case round =>
    obtain ⟨k, hk, rfl, HL⟩ := hrel
    by_cases hlt : k < st.length
    · have hki : (k : Int) < (st.length : Int) := by omega
      have HMR : Hid (MvsAt wr (.slice a st.length cap) st) := HM.out.later HL.out.2
      obtain ⟨b, off, rfl, hok, hcs⟩ := HMR.out.at hlt
      generalize st.getD k Mv.zero = m at hok hcs
      have m0 := hcs 0 _ rfl
      rw [Nat.add_zero] at m0
      have m1 := hcs 1 _ rfl
      have m2 := hcs 2 _ rfl
      have m3 := hcs 3 _ rfl
      have m4 := hcs 4 _ rfl
      have m5 := hcs 5 _ rfl
      have m6 := hcs 6 _ rfl
      have m7 := hcs 7 _ rfl
      have m8 := hcs 8 _ rfl
      have m9 := hcs 9 _ rfl
      have m10 := hcs 10 _ rfl
      have HT : Hid (∀ u, Below wr.heap.size wr u → Calls Try.prog 6 #[.pointer (some ⟨gw, 0, none⟩), m.v] u fun e w' => e = .returned (.bool true) ∧ LpS w gw (k + 1) w') := fun u hu => (HL.out.later hu).told hEro m hok (by omega)
      clear hcs
      go_wp2_with fail
      refine (HT.out wr (Below.refl _ _)).mono ?_
      rintro e w3 ⟨rfl, hl3⟩
      have HL3 : Hid (LpS w gw (k + 1) w3) := hl3
      clear hl3 m0 m1 m2 m3 m4 m5 m6 m7 m8 m9 m10 HT hok
      go_wp2_with fail
      refine HL3.out.stands.mono ?_
      rintro e w4 ⟨rfl, n, rfl⟩
      have HL4 : Hid (LpS w gw (k + 1) (w3.drewN n)) := HL3.out.later (below_drewN (Below.refl _ _) n)
      generalize w3.drewN n = w4 at *
      go_wp2
      go_roundw
      case rel => exact ⟨k + 1, by omega, by go_num, HL4⟩
      case measure => simp [intOf]; omega
    · go_wp2_with fail
      refine HL.out.whole.mono ?_
      rintro e w3 ⟨rfl, hl3⟩
      have HB3 : Hid (Below w.heap.size w w3) := hl3.2
      clear hl3
      go_wp2_with fail
      refine (HU.out w3 HB3.out).mono ?_
      rintro e w4 ⟨rfl, hb4⟩
      have HB4 : Hid (Below w.heap.size w w4) := HB3.out.trans (hb4.mono HB3.out.size)
      clear hb4
      go_wp2
      go_ret
      exact ⟨rfl, HB4.out⟩
end Go.Proofs.Ytjhbaplnkigifaa

/-! keydir: lists that nobody writes into till the end. -/
namespace Go.Proofs.Ytjhbaplnkigifaa
open Go.RowKit Plain
set_option linter.unusedVariables false
set_option linter.unusedSimpArgs false

/-- A list that was asked for, and what it should hold. -/
structure Lt where
  v : Value
  u : Value
  st : List Kr
  r : Option Nat
  q : Option Nat
def Lt.zero : Lt := ⟨.slice none 0 0, .slice none 0 0, [], none, none⟩
/-- Late's blocks. -/
def LtB (gl : Nat) (rL rW : Option Nat) (its : List Lt) (g : Nat) : Prop := g = gl ∨ rL = some g ∨ rW = some g ∨ ∃ k, k < its.length ∧ ((its.getD k Lt.zero).r = some g ∨ (its.getD k Lt.zero).q = some g)
/-- Late: its two rows, its lists. -/
structure LtAt (w : World) (gl : Nat) (vL vW : Value) (rL rW : Option Nat) (its : List Lt) : Prop where
  c0 : w.cell? ⟨gl, 0, none⟩ = some vL
  c1 : w.cell? ⟨gl, 1, none⟩ = some vW
  fz : ∀ j, w.frozen? ⟨gl, j, none⟩ = false
  rowL : OwnV w vL (its.map Lt.v) rL
  rowW : OwnV w vW (its.map Lt.u) rW
  eachL : ∀ k, k < its.length → OwnKr w (its.getD k Lt.zero).v (its.getD k Lt.zero).st (its.getD k Lt.zero).r
  eachW : ∀ k, k < its.length → OwnKr w (its.getD k Lt.zero).u (its.getD k Lt.zero).st (its.getD k Lt.zero).q
  ok : ∀ k, k < its.length → (its.getD k Lt.zero).st.length ≤ 2199023254000 ∧ ∀ x ∈ (its.getD k Lt.zero).st, x.Ok
  len : its.length ≤ 2199023254000
  nL : rL ≠ some gl
  nW : rW ≠ some gl
  nLW : ∀ g, rL = some g → rW ≠ some g
  ne : ∀ k, k < its.length → ∀ g, ((its.getD k Lt.zero).r = some g ∨ (its.getD k Lt.zero).q = some g) → g ≠ gl ∧ rL ≠ some g ∧ rW ≠ some g
  ap : ∀ j k, j < its.length → k < its.length → j ≠ k → ∀ g, (its.getD j Lt.zero).r = some g → (its.getD k Lt.zero).r ≠ some g
theorem LtAt.kept {w w' : World} {gl : Nat} {vL vW : Value} {rL rW : Option Nat} {its : List Lt} (h : LtAt w gl vL vW rL rW its) (hs : w.heap.size ≤ w'.heap.size) (hb : ∀ g, LtB gl rL rW its g → w'.heap[g]? = w.heap[g]?) : LtAt w' gl vL vW rL rW its := by
  have hg := hb gl (.inl rfl)
  exact ⟨(World.cell?_of_block (w := w) (a := ⟨gl, 0, none⟩) hg).trans h.c0, (World.cell?_of_block (w := w) (a := ⟨gl, 1, none⟩) hg).trans h.c1, fun j => (World.frozen?_of_block (w := w) (a := ⟨gl, j, none⟩) hg).trans (h.fz j),
    h.rowL.of_block hs (fun g e => hb g (.inr (.inl e))), h.rowW.of_block hs (fun g e => hb g (.inr (.inr (.inl e)))), fun k hk => (h.eachL k hk).of_block hs (fun g e => hb g (.inr (.inr (.inr ⟨k, hk, .inl e⟩)))), fun k hk => (h.eachW k hk).of_block hs (fun g e => hb g (.inr (.inr (.inr ⟨k, hk, .inr e⟩)))),
    h.ok, h.len, h.nL, h.nW, h.nLW, h.ne, h.ap⟩
theorem LtAt.lt {w : World} {gl : Nat} {vL vW : Value} {rL rW : Option Nat} {its : List Lt} (h : LtAt w gl vL vW rL rW its) : ∀ g, LtB gl rL rW its g → g < w.heap.size := fun g hg => by
  rcases hg with e | e | e | ⟨k, hk, e | e⟩
  · rw [e]; exact cell_lt h.c0
  · subst e; exact h.rowL.lt
  · subst e; exact h.rowW.lt
  · exact (h.eachL k hk).lt' g e
  · exact (h.eachW k hk).lt' g e
theorem LtAt.later {w w' : World} {gl : Nat} {vL vW : Value} {rL rW : Option Nat} {its : List Lt} (h : LtAt w gl vL vW rL rW its) (hb : Below w.heap.size w w') : LtAt w' gl vL vW rL rW its :=
  h.kept hb.size (fun g hg => hb.block g (h.lt g hg))
/-- Late's rows alone may turn (its own cell, its two rows). -/
def lateS (gl : Nat) (rL rW : Option Nat) (g : Nat) : Prop := g = gl ∨ rL = some g ∨ rW = some g
theorem lt_lt {its : List Lt} {k : Nat} (x : Lt) (h : k < its.length) : (its ++ [x]).getD k Lt.zero = its.getD k Lt.zero := by
  rw [List.getD_eq_getElem?_getD, List.getD_eq_getElem?_getD, List.getElem?_append_left h]
theorem lt_eq {its : List Lt} (x : Lt) : (its ++ [x]).getD its.length Lt.zero = x := by
  rw [List.getD_eq_getElem?_getD, List.getElem?_append_right (Nat.le_refl _)]
  simp
/-- A list more: behind w two rows came (in u), and then Late's own cell and rows were written. -/
theorem LtAt.push {w u w' : World} {gl : Nat} {vL vW vL' vW' v x : Value} {rL rW rL' rW' r q : Option Nat} {its : List Lt} {st : List Kr} (h : LtAt w gl vL vW rL rW its) (hb : Below w.heap.size w u) (hl : OwnKr u v st r) (hq : OwnKr u x st q) (hrn : ∀ g, r = some g → w.heap.size ≤ g) (hqn : ∀ g, q = some g → w.heap.size ≤ g)
    (hc : Chg (lateS gl rL rW) u w') (c0 : w'.cell? ⟨gl, 0, none⟩ = some vL') (c1 : w'.cell? ⟨gl, 1, none⟩ = some vW') (fz : ∀ j, w'.frozen? ⟨gl, j, none⟩ = false) (hL : OwnV w' vL' (its.map Lt.v ++ [v]) rL') (hW : OwnV w' vW' (its.map Lt.u ++ [x]) rW')
    (nL : rL' = rL ∨ ∀ g, rL' = some g → u.heap.size ≤ g) (nW : rW' = rW ∨ ∀ g, rW' = some g → u.heap.size ≤ g) (nLW : ∀ g, rL' = some g → rW' ≠ some g) (hn : its.length < 2199023254000) (hst : st.length ≤ 2199023254000 ∧ ∀ x ∈ st, x.Ok) :
    LtAt w' gl vL' vW' rL' rW' (its ++ [⟨v, x, st, r, q⟩]) ∧ Chg (lateS gl rL rW) w w' ∧ ∀ g, LtB gl rL' rW' (its ++ [⟨v, x, st, r, q⟩]) g → LtB gl rL rW its g ∨ w.heap.size ≤ g := by
  have hsz := hb.size
  have hsz2 := hc.size
  have hlt := h.lt
  have hgl := hlt gl (.inl rfl)
  have hru := hl.lt'
  have hqu := hq.lt'
  have hsp : ∀ k, k < (its ++ [(⟨v, x, st, r, q⟩ : Lt)]).length → k < its.length ∨ k = its.length := fun k hk => by simp at hk; omega
  have hS : ∀ g, lateS gl rL rW g → g < w.heap.size := fun g hg => hlt g (by
    rcases hg with e | e | e
    · exact .inl e
    · exact .inr (.inl e)
    · exact .inr (.inr (.inl e)))
  have hnS : ∀ k, k < its.length → ∀ g, ((its.getD k Lt.zero).r = some g ∨ (its.getD k Lt.zero).q = some g) → ¬ lateS gl rL rW g := fun k hk g e hs => by
    obtain ⟨h1, h2, h3⟩ := h.ne k hk g e
    rcases hs with q | q | q
    · exact h1 q
    · exact h2 q
    · exact h3 q
  have hbl : ∀ g, g < u.heap.size → ¬ lateS gl rL rW g → w'.heap[g]? = u.heap[g]? := fun g hg hn => hc.block g hg hn
  have hu := h.later hb
  have hLn : ∀ g, rL' = some g → rL = some g ∨ u.heap.size ≤ g := fun g e => nL.imp (fun e2 => by rw [← e2]; exact e) (fun hh => hh g e)
  have hWn : ∀ g, rW' = some g → rW = some g ∨ u.heap.size ≤ g := fun g e => nW.imp (fun e2 => by rw [← e2]; exact e) (fun hh => hh g e)
  refine ⟨⟨c0, c1, fz, by rw [List.map_append]; exact hL, by rw [List.map_append]; exact hW, fun k hk => ?_, fun k hk => ?_, fun k hk => ?_, by simp; omega, fun e => ?_, fun e => ?_, nLW, fun k hk g e => ?_, fun j k hj hk hjk g e1 e2 => ?_⟩, (Chg.ofBelow hb).trans hc, fun g hg => ?_⟩
  · rcases hsp k hk with e | e
    · rw [lt_lt _ e]
      exact (hu.eachL k e).of_block hsz2 (fun g eg => hbl g ((hu.eachL k e).lt' g eg) (hnS k e g (.inl eg)))
    · rw [e, lt_eq]
      exact hl.of_block hsz2 (fun g eg => hbl g (hru g eg) (fun hs => by have := hS g hs; have := hrn g eg; omega))
  · rcases hsp k hk with e | e
    · rw [lt_lt _ e]
      exact (hu.eachW k e).of_block hsz2 (fun g eg => hbl g ((hu.eachW k e).lt' g eg) (hnS k e g (.inr eg)))
    · rw [e, lt_eq]
      exact hq.of_block hsz2 (fun g eg => hbl g (hqu g eg) (fun hs => by have := hS g hs; have := hqn g eg; omega))
  · rcases hsp k hk with e | e
    · rw [lt_lt _ e]; exact h.ok k e
    · rw [e, lt_eq]; exact hst
  · rcases hLn gl e with e2 | e2
    · exact h.nL e2
    · omega
  · rcases hWn gl e with e2 | e2
    · exact h.nW e2
    · omega
  · rcases hsp k hk with e2 | e2
    · rw [lt_lt _ e2] at e
      have hlg := hlt g (.inr (.inr (.inr ⟨k, e2, e⟩)))
      obtain ⟨h1, h2, h3⟩ := h.ne k e2 g e
      refine ⟨h1, fun e3 => ?_, fun e3 => ?_⟩
      · rcases hLn g e3 with e4 | e4
        · exact h2 e4
        · omega
      · rcases hWn g e3 with e4 | e4
        · exact h3 e4
        · omega
    · rw [e2, lt_eq] at e
      have hgn : w.heap.size ≤ g ∧ g < u.heap.size := e.elim (fun e => ⟨hrn g e, hru g e⟩) (fun e => ⟨hqn g e, hqu g e⟩)
      refine ⟨by omega, fun e3 => ?_, fun e3 => ?_⟩
      · rcases hLn g e3 with e4 | e4
        · have := hlt g (.inr (.inl e4)); omega
        · omega
      · rcases hWn g e3 with e4 | e4
        · have := hlt g (.inr (.inr (.inl e4))); omega
        · omega
  · rcases hsp j hj with a1 | a1 <;> rcases hsp k hk with a2 | a2
    · rw [lt_lt _ a1] at e1; rw [lt_lt _ a2] at e2; exact h.ap j k a1 a2 hjk g e1 e2
    · rw [lt_lt _ a1] at e1; rw [a2, lt_eq] at e2
      have := hlt g (.inr (.inr (.inr ⟨j, a1, .inl e1⟩))); have := hrn g e2; omega
    · rw [a1, lt_eq] at e1; rw [lt_lt _ a2] at e2
      have := hlt g (.inr (.inr (.inr ⟨k, a2, .inl e2⟩))); have := hrn g e1; omega
    · exact hjk (by omega)
  · rcases hg with e | e | e | ⟨k, hk, e⟩
    · exact .inl (.inl e)
    · rcases hLn g e with e2 | e2
      · exact .inl (.inr (.inl e2))
      · exact .inr (by omega)
    · rcases hWn g e with e2 | e2
      · exact .inl (.inr (.inr (.inl e2)))
      · exact .inr (by omega)
    · rcases hsp k hk with a | a
      · rw [lt_lt _ a] at e; exact .inl (.inr (.inr (.inr ⟨k, a, e⟩)))
      · rw [a, lt_eq] at e; exact .inr (e.elim (fun e => hrn g e) (fun e => hqn g e))
end Go.Proofs.Ytjhbaplnkigifaa
