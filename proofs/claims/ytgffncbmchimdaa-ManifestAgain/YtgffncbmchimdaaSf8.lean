import Derived.Test.YtgffncbmchimdaaSf7
/-! find, spend. -/
namespace Go.Proofs.Ytgffncbmchimdaa
open Go.RowKit Go.Maps Plain
set_option linter.unusedVariables false
set_option linter.unusedSimpArgs false

/-- The nine cells of a disk. -/
theorem dcells {w : World} {d : Nat} {a0 a1 a2 a3 a4 a5 a6 a7 a8 : Value} (h : w.heap[d]? = some (.cells #[a0, a1, a2, a3, a4, a5, a6, a7, a8] 69)) :
    (w.cell? ⟨d, 0, none⟩ = some a0 ∧ w.cell? ⟨d, 1, none⟩ = some a1 ∧ w.cell? ⟨d, 2, none⟩ = some a2 ∧ w.cell? ⟨d, 3, none⟩ = some a3 ∧ w.cell? ⟨d, 4, none⟩ = some a4 ∧ w.cell? ⟨d, 5, none⟩ = some a5 ∧ w.cell? ⟨d, 6, none⟩ = some a6 ∧ w.cell? ⟨d, 7, none⟩ = some a7 ∧ w.cell? ⟨d, 8, none⟩ = some a8) ∧
    (w.frozen? ⟨d, 0, none⟩ = false ∧ w.frozen? ⟨d, 1, none⟩ = false ∧ w.frozen? ⟨d, 2, none⟩ = false ∧ w.frozen? ⟨d, 3, none⟩ = false ∧ w.frozen? ⟨d, 4, none⟩ = false ∧ w.frozen? ⟨d, 5, none⟩ = false ∧ w.frozen? ⟨d, 6, none⟩ = false ∧ w.frozen? ⟨d, 7, none⟩ = false ∧ w.frozen? ⟨d, 8, none⟩ = false) := by
  simp [World.cell?, World.frozen?, h]
theorem dset {w : World} {d : Nat} {cs : Array Value} (h : w.heap[d]? = some (.cells cs 69)) (i : Nat) (u : Value) : (w.setCell ⟨d, i, none⟩ u).heap[d]? = some (.cells (cs.setIfInBounds i u) 69) := heap_setCell_same w d i _ _ u h

/-- What find answers. -/
def fnd (dead : Bool) (L : Dir) (s : ByteArray) : Value × Int := if dead then (.pointer none, 34) else if nmL s.data.toList then (match look L s.data.toList with
    | some g => (.pointer (some ⟨g, 0, none⟩), 0)
    | none => (.pointer none, 31)) else (.pointer none, 30)
theorem retPI {a b : Value} {x y : Int} (h1 : a = b) (h2 : x = y) : Ending.returned (.tuple #[a, .int .i64 x]) = .returned (.tuple #[b, .int .i64 y]) := by rw [h1, h2]

set_option maxHeartbeats 1000000 in
set_option maxRecDepth 100000 in
theorem findOf (d : Nat) (ms : Option Nat) (L : Dir) (dead : Bool) (s : ByteArray) (hs : s.size ≤ maxLen) (w : World) (h0 : w.cell? ⟨d, 0, none⟩ = some (.map ms)) (h8 : w.cell? ⟨d, 8, none⟩ = some (.bool dead)) (hm : MapO w ms L) :
    Calls Try.prog 31 #[.pointer (some ⟨d, 0, none⟩), .string s] w fun e w' => e = .returned (.tuple #[(fnd dead L s).1, .int .i64 (fnd dead L s).2]) ∧ w' = w.alloc (.cells #[.string s] 9) := by
  have hdl := cell_lt h0
  simp only at hdl
  have HB : Hid (Below w.heap.size w (w.alloc (.cells #[.string s] 9))) := (Below.refl _ _).alloc (Nat.le_refl _) _
  have HR : Hid (Calls Try.prog 29 #[.pointer (some ⟨d, 0, none⟩), .slice (some ⟨w.heap.size, 0, none⟩) 1 1] (w.alloc (.cells #[.string s] 9)) fun e w' => e = .returned (.int .i64 (rdy dead [s])) ∧ w' = w.alloc (.cells #[.string s] 9)) :=
    readyOf d dead [s] _ _ (by rw [HB.out.cell (p := ⟨d, 8, none⟩) hdl]; exact h8) (StrsAt.one w s 9 hs)
  have c0 : (w.alloc (.cells #[.string s] 9)).cell? ⟨d, 0, none⟩ = some (.map ms) := by rw [HB.out.cell (p := ⟨d, 0, none⟩) hdl]; exact h0
  have hlk := lookO (w.alloc (.cells #[.string s] 9)) ms L (hm.of_block (fun b e => HB.out.block b (by subst e; exact hm.lt))) s hs
  clear hm
  cases dead with
  | true =>
    have HE : Hid (rdy true [s] = 34) := rfl
    rw [HE.out] at HR
    go_enter Try.func31, Try.ntmps31
    go_wp2_with fail
    refine HR.out.mono ?_
    rintro e w1 ⟨rfl, rfl⟩
    go_wp2
    go_ret2
    exact ⟨rfl, rfl⟩
  | false =>
    cases hn : nmL s.data.toList with
    | false =>
      have HE : Hid (rdy false [s] = 30) := by unfold Hid rdy nmsB; simp [hn]
      have HF : Hid (fnd false L s = (.pointer none, 30)) := by unfold Hid fnd; rw [hn]; rfl
      rw [HE.out] at HR
      clear hn
      go_enter Try.func31, Try.ntmps31
      go_wp2_with fail
      refine HR.out.mono ?_
      rintro e w1 ⟨rfl, rfl⟩
      go_wp2
      go_ret2
      exact ⟨retPI (by rw [HF.out]; rfl) (by rw [HF.out]), rfl⟩
    | true =>
      have HE : Hid (rdy false [s] = 0) := by unfold Hid rdy nmsB; simp [hn]
      rw [HE.out] at HR
      cases hl : look L s.data.toList with
      | none =>
        have HF : Hid (fnd false L s = (.pointer none, 31)) := by unfold Hid fnd; rw [hn, hl]; rfl
        rw [hl] at hlk
        simp only [ptrO, Option.elim] at hlk
        clear hn hl
        go_enter Try.func31, Try.ntmps31
        go_wp2_with fail
        refine HR.out.mono ?_
        rintro e w1 ⟨rfl, rfl⟩
        go_wp2
        go_ret2
        exact ⟨retPI (by rw [HF.out]; rfl) (by rw [HF.out]), rfl⟩
      | some g =>
        have HF : Hid (fnd false L s = (.pointer (some ⟨g, 0, none⟩), 0)) := by unfold Hid fnd; rw [hn, hl]; rfl
        rw [hl] at hlk
        simp only [ptrO, Option.elim] at hlk
        clear hn hl
        go_enter Try.func31, Try.ntmps31
        go_wp2_with fail
        refine HR.out.mono ?_
        rintro e w1 ⟨rfl, rfl⟩
        go_wp2
        go_ret2
        exact ⟨retPI (by rw [HF.out]; rfl) (by rw [HF.out]), rfl⟩

/-- What spend does. -/
def spd (ops : Int) (fused : Bool) (left : Int) (dead : Bool) : Bool × Int × Int × Bool := if fused && left == 0 then (false, ops, left, true) else (true, ops + 1, if fused then left - 1 else left, dead)

set_option maxHeartbeats 1000000 in
set_option maxRecDepth 100000 in
theorem spendOf (d : Nat) (a0 a1 a2 a3 a4 : Value) (ops left : Int) (fused dead : Bool) (w : World) (h : w.heap[d]? = some (.cells #[a0, a1, a2, a3, a4, .int .i64 ops, .bool fused, .int .i64 left, .bool dead] 69)) (h1 : 0 ≤ ops) (h2 : ops ≤ 4611686018427387904) (h3 : fused = true → 0 ≤ left ∧ left ≤ 9223372036854775807) :
    Calls Try.prog 32 #[.pointer (some ⟨d, 0, none⟩)] w fun e w' => e = .returned (.bool (spd ops fused left dead).1) ∧ w'.heap[d]? = some (.cells #[a0, a1, a2, a3, a4, .int .i64 (spd ops fused left dead).2.1, .bool fused, .int .i64 (spd ops fused left dead).2.2.1, .bool (spd ops fused left dead).2.2.2] 69) ∧ w.grownBy w' (some d) := by
  obtain ⟨⟨c0, c1, c2, c3, c4, c5, c6, c7, c8⟩, ⟨f0, f1, f2, f3, f4, f5, f6, f7, f8⟩⟩ := dcells h
  have HH : Hid (w.heap[d]? = some (.cells #[a0, a1, a2, a3, a4, .int .i64 ops, .bool fused, .int .i64 left, .bool dead] 69)) := h
  clear h
  cases fused with
  | false =>
    have HF : Hid (spd ops false left dead = (true, ops + 1, left, dead)) := rfl
    rw [HF.out]
    have HW : Hid ((w.setCell ⟨d, 5, none⟩ (.int .i64 (ops + 1))).heap[d]? = some (.cells #[a0, a1, a2, a3, a4, .int .i64 (ops + 1), .bool false, .int .i64 left, .bool dead] 69)) := dset HH.out 5 _
    clear h3
    go_enter Try.func32, Try.ntmps32
    go_wp2
    go_ret
    exact ⟨rfl, HW.out, grow_set _ _ _ _⟩
  | true =>
    obtain ⟨h4, h5⟩ := h3 rfl
    by_cases h0 : left = 0
    · subst h0
      have HF : Hid (spd ops true 0 dead = (false, ops, 0, true)) := rfl
      rw [HF.out]
      have HW : Hid ((w.setCell ⟨d, 8, none⟩ (.bool true)).heap[d]? = some (.cells #[a0, a1, a2, a3, a4, .int .i64 ops, .bool true, .int .i64 0, .bool true] 69)) := dset HH.out 8 _
      clear h3
      go_enter Try.func32, Try.ntmps32
      go_wp2
      go_ret
      exact ⟨rfl, HW.out, grow_set _ _ _ _⟩
    · have q0 : (left == 0) = false := beq_eq_false_iff_ne.mpr h0
      have HF : Hid (spd ops true left dead = (true, ops + 1, left - 1, dead)) := by unfold Hid spd; rw [q0]; rfl
      rw [HF.out]
      have HW : Hid (((w.setCell ⟨d, 7, none⟩ (.int .i64 (left - 1))).setCell ⟨d, 5, none⟩ (.int .i64 (ops + 1))).heap[d]? = some (.cells #[a0, a1, a2, a3, a4, .int .i64 (ops + 1), .bool true, .int .i64 (left - 1), .bool dead] 69)) := dset (dset HH.out 7 _) 5 _
      clear h3
      go_enter Try.func32, Try.ntmps32
      go_wp2
      go_ret
      exact ⟨rfl, HW.out, grow_trans (grow_set _ _ _ _) (grow_set _ _ _ _) (.inl rfl)⟩
end Go.Proofs.Ytgffncbmchimdaa
