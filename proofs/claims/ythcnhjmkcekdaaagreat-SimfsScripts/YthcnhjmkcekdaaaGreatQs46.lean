import Derived.Test.YthcnhjmkcekdaaaGreatQs44
import Derived.Test.YthcnhjmkcekdaaaGreatQs45
import Derived.Test.YthcnhjmkcekdaaaGreatQs13
namespace Go.Proofs.YthcnhjmkcekdaaaGreat
open Go.RowKit Go.Maps Plain
set_option linter.unusedVariables false
set_option linter.unusedSimpArgs false
theorem Own.put {w : World} {a : Option Addr} {N c i : Nat} {l : List Nat} {q : Option Nat} (h : Own w (.slice a N c) l q) (hi : i < N) (x : Nat) (hx : x < 256) : ∃ g, a = some ⟨g, 0, none⟩ ∧ q = some g ∧ w.frozen? ⟨g, i, none⟩ = false ∧ (∃ u, w.cell? ⟨g, i, none⟩ = some u) ∧ Own (w.setCell ⟨g, i, none⟩ (.int .u8 (x : Int))) (.slice a N c) (l.set i x) q := by
  have h0 := h
  have hl := h.len2
  obtain ⟨-, ⟨-, e, -⟩ | ⟨g, cap, e1, e2, hg, h1, h2, h3, h4, h5⟩⟩ := h
  · rw [e] at hl; simp at hl; omega
  · simp only [Value.slice.injEq] at e2
    obtain ⟨rfl, _, rfl⟩ := e2
    subst e1
    exact ⟨g, rfl, rfl, h3 i (by omega), Option.isSome_iff_exists.mp (h4 i (by omega)), h0.setG i x (by omega) hx⟩
set_option maxHeartbeats 8000000 in
set_option maxRecDepth 1000000 in
theorem asked8 {W w : World} {gb d gp n : Nat} {k : Dk} {r : Rk} (h : BoAt W gb d gp k r w) (hi : BInv k r n) (hn : n ≤ 2000000000000) (nm to : ByteArray) (at' m : Int) (vb vp : Value) (hs : nm.size ≤ maxLen) (hat : I64 at') (hm : I64 m) :
    Calls Tryz.prog 15 #[.pointer (some ⟨gb, 0, none⟩), stepV 8 nm to at' m vb vp] w fun e w' => e = .returned (.bool true) ∧ Below w.heap.size w w' := by
  obtain ⟨w0, hw0⟩ : ∃ w0, w.alloc (.cells #[.int .i64 8, .string nm, .string to, .int .i64 at', .int .i64 m, vb, vp] 37) = w0 := ⟨_, rfl⟩
  have hb0 : Below w.heap.size w w0 := by rw [← hw0]; exact (Below.refl _ _).alloc (Nat.le_refl _) _
  have hs0 : w0.heap.size = w.heap.size + 1 := by rw [← hw0]; simp
  have hx0 : w0.heap[w.heap.size]? = some (.cells #[.int .i64 8, .string nm, .string to, .int .i64 at', .int .i64 m, vb, vp] 37) := by rw [← hw0]; show (w.heap.push _)[w.heap.size]? = _; simp
  have z0 : w0.cell? ⟨w.heap.size, 0, none⟩ = some (.int .i64 8) := by simp [World.cell?, hx0]
  have z1 : w0.cell? ⟨w.heap.size, 1, none⟩ = some (.string nm) := by simp [World.cell?, hx0]
  have z3 : w0.cell? ⟨w.heap.size, 3, none⟩ = some (.int .i64 at') := by simp [World.cell?, hx0]
  have z4 : w0.cell? ⟨w.heap.size, 4, none⟩ = some (.int .i64 m) := by simp [World.cell?, hx0]
  have z6 : w0.cell? ⟨w.heap.size, 6, none⟩ = some (vp) := by simp [World.cell?, hx0]
  have hbd : Below w0.heap.size w0 w0.drew := ⟨rfl, rfl, rfl, Nat.le_refl _, fun _ _ => rfl⟩
  have HB0 := Hid.mkR hb0
  have HA : Hid (∀ u, Below w0.heap.size w0 u → BoAt W gb d gp k r u ∧ u.cell? ⟨gb, 0, none⟩ = some (.pointer (some ⟨d, 0, none⟩)) ∧ u.cell? ⟨gb, 1, none⟩ = some (.pointer (some ⟨gp, 0, none⟩)) ∧ u.cell? ⟨w.heap.size, 1, none⟩ = some (.string nm) ∧ u.cell? ⟨w.heap.size, 3, none⟩ = some (.int .i64 at') ∧ u.cell? ⟨w.heap.size, 4, none⟩ = some (.int .i64 m) ∧ u.cell? ⟨w.heap.size, 6, none⟩ = some (vp)) := fun u hu => by
    have h1 := (h.later hb0).later hu
    exact ⟨h1, h1.box.1, h1.box.2.1, (hu.cell (cell_lt z1)).trans z1, (hu.cell (cell_lt z3)).trans z3, (hu.cell (cell_lt z4)).trans z4, (hu.cell (cell_lt z6)).trans z6⟩
  obtain ⟨c0, c1, -, -⟩ := (h.later hb0).box
  have hbd' := hi.bd hn
  have HC : Hid (∀ u, Below w0.heap.size w0 u → Calls Tryz.prog 58 #[.pointer (some ⟨d, 0, none⟩), .string nm, .int .i64 at', .int .i64 m] u fun e w' => ∃ a N c q, e = .returned (.tuple #[.slice a N c, .int .i64 (rreE r nm at' m)]) ∧ ByNew u w' (.slice a N c) (rreB r nm at' m) q) := fun u hu => (HA.out u hu).1.read hi nm hs at' m hat hm
  have HRC : Hid (∀ u, Below w0.heap.size w0 u → Calls Tryz.prog 59 #[.pointer (some ⟨gp, 0, none⟩), .string nm, .int .i64 at', .int .i64 m] u fun e w' => ∃ a N c q, e = .returned (.tuple #[.slice a N c, .int .i64 (rreE r nm at' m)]) ∧ ByNew u w' (.slice a N c) (rreB r nm at' m) q) := fun u hu => (HA.out u hu).1.rread hbd' hi.inv nm hs at' m hat hm
  clear h hi hbd' hs hx0 hat hm
  generalize rreE r nm at' m = E at *
  generalize rreB r nm at' m = B at *
  go_enter Tryz.func15, Tryz.ntmps15
  go_wp2_with fail
  refine wp_region_noPanic ?_
  refine Till.start 15 (S := fun u => u.cell? ⟨gb, 0, none⟩ = some (.pointer (some ⟨d, 0, none⟩)) ∧ u.cell? ⟨w.heap.size, 1, none⟩ = some (.string nm) ∧ u.cell? ⟨w.heap.size, 3, none⟩ = some (.int .i64 at') ∧ u.cell? ⟨w.heap.size, 4, none⟩ = some (.int .i64 m)) (by kernel_rfl) ⟨c0, z1, z3, z4⟩ (fun hHeld => ?_)
  refine' Till.take 0 rfl (by kernel_rfl) (by kernel_rfl) (by kernel_rfl) (by kernel_rfl) (fun _ _ _ h => h) (Or.inl ⟨by rfl, ?_⟩) (by assumption) ?_
  rotate_left
  · (intro w hSw; (try dsimp only at hSw); go_simp <;> with_reducible rfl)
  try simp only [Act.put, List.setIfInBounds_toArray, List.set_cons_zero, List.set_cons_succ]
  refine' Till.take 1 rfl (by kernel_rfl) (by kernel_rfl) (by kernel_rfl) (by kernel_rfl) (fun _ _ _ h => h) (Or.inl ⟨by rfl, ?_⟩) (by assumption) ?_
  rotate_left
  · (intro w hSw; (try dsimp only at hSw); go_simp <;> with_reducible rfl)
  try simp only [Act.put, List.setIfInBounds_toArray, List.set_cons_zero, List.set_cons_succ]
  refine' Till.take 2 rfl (by kernel_rfl) (by kernel_rfl) (by kernel_rfl) (by kernel_rfl) (fun _ _ _ h => h) (Or.inl ⟨by rfl, ?_⟩) (by assumption) ?_
  rotate_left
  · (intro w hSw; (try dsimp only at hSw); go_simp <;> with_reducible rfl)
  try simp only [Act.put, List.setIfInBounds_toArray, List.set_cons_zero, List.set_cons_succ]
  refine' Till.take 3 rfl (by kernel_rfl) (by kernel_rfl) (by kernel_rfl) (by kernel_rfl) (fun _ _ _ h => h) (Or.inl ⟨by rfl, ?_⟩) (by assumption) ?_
  rotate_left
  · (intro w hSw; (try dsimp only at hSw); go_simp <;> with_reducible rfl)
  try simp only [Act.put, List.setIfInBounds_toArray, List.set_cons_zero, List.set_cons_succ]
  refine' Till.take 4 rfl (by kernel_rfl) (by kernel_rfl) (by kernel_rfl) (by kernel_rfl) (fun _ _ _ h => h) (Or.inl ⟨by rfl, ?_⟩) (by assumption) ?_
  rotate_left
  · (intro w hSw; (try dsimp only at hSw); go_simp <;> with_reducible rfl)
  try simp only [Act.put, List.setIfInBounds_toArray, List.set_cons_zero, List.set_cons_succ]
  refine' Till.take 5 rfl (by kernel_rfl) (by kernel_rfl) (by kernel_rfl) (by kernel_rfl) (fun _ _ _ h => h) (Or.inl ⟨by rfl, ?_⟩) (by assumption) ?_
  rotate_left
  · (intro w hSw; (try dsimp only at hSw); go_simp <;> with_reducible rfl)
  try simp only [Act.put, List.setIfInBounds_toArray, List.set_cons_zero, List.set_cons_succ]
  refine' Till.take 6 rfl (by kernel_rfl) (by kernel_rfl) (by kernel_rfl) (by kernel_rfl) (fun _ _ _ h => h) (Or.inl ⟨by rfl, ?_⟩) (by assumption) ?_
  rotate_left
  · (intro w hSw; (try dsimp only at hSw); go_simp <;> with_reducible rfl)
  try simp only [Act.put, List.setIfInBounds_toArray, List.set_cons_zero, List.set_cons_succ]
  refine' Till.take 7 rfl (by kernel_rfl) (by kernel_rfl) (by kernel_rfl) (by kernel_rfl) (fun _ _ _ h => h) (Or.inl ⟨by rfl, ?_⟩) (by assumption) ?_
  rotate_left
  · (intro w hSw; (try dsimp only at hSw); go_simp <;> with_reducible rfl)
  try simp only [Act.put, List.setIfInBounds_toArray, List.set_cons_zero, List.set_cons_succ]
  refine' Till.take 8 rfl (by kernel_rfl) (by kernel_rfl) (by kernel_rfl) (by kernel_rfl) (fun _ _ _ h => h) (Or.inl ⟨by rfl, ?_⟩) (by assumption) ?_
  rotate_left
  · (intro w hSw; (try dsimp only at hSw); go_simp <;> with_reducible rfl)
  try simp only [Act.put, List.setIfInBounds_toArray, List.set_cons_zero, List.set_cons_succ]
  refine' Till.take 9 rfl (by kernel_rfl) (by kernel_rfl) (by kernel_rfl) (by kernel_rfl) (fun _ _ _ h => h) (Or.inl ⟨by rfl, ?_⟩) (by assumption) ?_
  rotate_left
  · (intro w hSw; (try dsimp only at hSw); go_simp <;> with_reducible rfl)
  try simp only [Act.put, List.setIfInBounds_toArray, List.set_cons_zero, List.set_cons_succ]
  refine Till.one 10 (by kernel_rfl) rfl (fun K hK => ?_)
  go_simp
  go_at_call 58
  refine (HC.out _ hbd).mono ?_
  rintro e w2 ⟨a2, N2, C2, q2, rfl, hn2⟩
  have hbw2 : Below w0.heap.size w0 w2 := hbd.trans (hn2.below.mono hbd.size)
  obtain ⟨-, y0, y1, y2, y3, y4, -⟩ := HA.out _ hbw2
  have HN2 := Hid.mkR hn2
  clear hn2
  refine hK.out _ _ ⟨y0, y2, y3, y4⟩ (fun hHeld => ?_)
  clear hK K
  try simp only [Act.put, List.setIfInBounds_toArray, List.set_cons_zero, List.set_cons_succ]
  refine Till.one 11 (by kernel_rfl) rfl (fun K hK => ?_)
  go_simp
  refine hK.out _ _ hHeld (fun hHeld => ?_)
  clear hK K
  try simp only [Act.put, List.setIfInBounds_toArray, List.set_cons_zero, List.set_cons_succ]
  refine' Till.take 12 rfl (by kernel_rfl) (by kernel_rfl) (by kernel_rfl) (by kernel_rfl) (fun _ _ _ h => h) (Or.inl ⟨by rfl, ?_⟩) (by assumption) ?_
  rotate_left
  · (intro w hSw; (try dsimp only at hSw); go_simp <;> with_reducible rfl)
  try simp only [Act.put, List.setIfInBounds_toArray, List.set_cons_zero, List.set_cons_succ]
  refine' Till.take 13 rfl (by kernel_rfl) (by kernel_rfl) (by kernel_rfl) (by kernel_rfl) (fun _ _ _ h => h) (Or.inl ⟨by rfl, ?_⟩) (by assumption) ?_
  rotate_left
  · (intro w hSw; (try dsimp only at hSw); go_simp <;> with_reducible rfl)
  try simp only [Act.put, List.setIfInBounds_toArray, List.set_cons_zero, List.set_cons_succ]
  refine Till.one 14 (by kernel_rfl) rfl (fun K hK => ?_)
  go_simp
  refine hK.out _ _ hHeld (fun hHeld => ?_)
  clear hK K
  try simp only [Act.put, List.setIfInBounds_toArray, List.set_cons_zero, List.set_cons_succ]
  refine Till.last (by kernel_rfl) (by kernel_rfl) rfl (fun K hK => ?_)
  go_simp
  refine hK.out _ _ ?_
  clear hK K
  try simp only [Act.put, List.setIfInBounds_toArray, List.set_cons_zero, List.set_cons_succ]
  refine NoPanic.normal ?_
  clear hHeld
  clear hHeld
  clear hHeld
  clear hHeld
  clear HC z0 z1 z3 z4 z6 c0 c1
  have hbd2 : Below w0.heap.size w0 w2.drew := ⟨hbw2.os, hbw2.tape, hbw2.output, hbw2.size, hbw2.block⟩
  have hbe2 : Below w2.heap.size w2 w2.drew := ⟨rfl, rfl, rfl, Nat.le_refl _, fun _ _ => rfl⟩
  go_wp2_with fail
  refine wp_region_noPanic ?_
  refine Till.start 15 (S := fun u => u.cell? ⟨gb, 1, none⟩ = some (.pointer (some ⟨gp, 0, none⟩)) ∧ u.cell? ⟨w.heap.size, 1, none⟩ = some (.string nm) ∧ u.cell? ⟨w.heap.size, 3, none⟩ = some (.int .i64 at') ∧ u.cell? ⟨w.heap.size, 4, none⟩ = some (.int .i64 m)) (by kernel_rfl) ⟨y1, y2, y3, y4⟩ (fun hHeld => ?_)
  refine' Till.take 0 rfl (by kernel_rfl) (by kernel_rfl) (by kernel_rfl) (by kernel_rfl) (fun _ _ _ h => h) (Or.inl ⟨by rfl, ?_⟩) (by assumption) ?_
  rotate_left
  · (intro w hSw; (try dsimp only at hSw); go_simp <;> with_reducible rfl)
  try simp only [Act.put, List.setIfInBounds_toArray, List.set_cons_zero, List.set_cons_succ]
  refine' Till.take 1 rfl (by kernel_rfl) (by kernel_rfl) (by kernel_rfl) (by kernel_rfl) (fun _ _ _ h => h) (Or.inl ⟨by rfl, ?_⟩) (by assumption) ?_
  rotate_left
  · (intro w hSw; (try dsimp only at hSw); go_simp <;> with_reducible rfl)
  try simp only [Act.put, List.setIfInBounds_toArray, List.set_cons_zero, List.set_cons_succ]
  refine' Till.take 2 rfl (by kernel_rfl) (by kernel_rfl) (by kernel_rfl) (by kernel_rfl) (fun _ _ _ h => h) (Or.inl ⟨by rfl, ?_⟩) (by assumption) ?_
  rotate_left
  · (intro w hSw; (try dsimp only at hSw); go_simp <;> with_reducible rfl)
  try simp only [Act.put, List.setIfInBounds_toArray, List.set_cons_zero, List.set_cons_succ]
  refine' Till.take 3 rfl (by kernel_rfl) (by kernel_rfl) (by kernel_rfl) (by kernel_rfl) (fun _ _ _ h => h) (Or.inl ⟨by rfl, ?_⟩) (by assumption) ?_
  rotate_left
  · (intro w hSw; (try dsimp only at hSw); go_simp <;> with_reducible rfl)
  try simp only [Act.put, List.setIfInBounds_toArray, List.set_cons_zero, List.set_cons_succ]
  refine' Till.take 4 rfl (by kernel_rfl) (by kernel_rfl) (by kernel_rfl) (by kernel_rfl) (fun _ _ _ h => h) (Or.inl ⟨by rfl, ?_⟩) (by assumption) ?_
  rotate_left
  · (intro w hSw; (try dsimp only at hSw); go_simp <;> with_reducible rfl)
  try simp only [Act.put, List.setIfInBounds_toArray, List.set_cons_zero, List.set_cons_succ]
  refine' Till.take 5 rfl (by kernel_rfl) (by kernel_rfl) (by kernel_rfl) (by kernel_rfl) (fun _ _ _ h => h) (Or.inl ⟨by rfl, ?_⟩) (by assumption) ?_
  rotate_left
  · (intro w hSw; (try dsimp only at hSw); go_simp <;> with_reducible rfl)
  try simp only [Act.put, List.setIfInBounds_toArray, List.set_cons_zero, List.set_cons_succ]
  refine' Till.take 6 rfl (by kernel_rfl) (by kernel_rfl) (by kernel_rfl) (by kernel_rfl) (fun _ _ _ h => h) (Or.inl ⟨by rfl, ?_⟩) (by assumption) ?_
  rotate_left
  · (intro w hSw; (try dsimp only at hSw); go_simp <;> with_reducible rfl)
  try simp only [Act.put, List.setIfInBounds_toArray, List.set_cons_zero, List.set_cons_succ]
  refine' Till.take 7 rfl (by kernel_rfl) (by kernel_rfl) (by kernel_rfl) (by kernel_rfl) (fun _ _ _ h => h) (Or.inl ⟨by rfl, ?_⟩) (by assumption) ?_
  rotate_left
  · (intro w hSw; (try dsimp only at hSw); go_simp <;> with_reducible rfl)
  try simp only [Act.put, List.setIfInBounds_toArray, List.set_cons_zero, List.set_cons_succ]
  refine' Till.take 8 rfl (by kernel_rfl) (by kernel_rfl) (by kernel_rfl) (by kernel_rfl) (fun _ _ _ h => h) (Or.inl ⟨by rfl, ?_⟩) (by assumption) ?_
  rotate_left
  · (intro w hSw; (try dsimp only at hSw); go_simp <;> with_reducible rfl)
  try simp only [Act.put, List.setIfInBounds_toArray, List.set_cons_zero, List.set_cons_succ]
  refine' Till.take 9 rfl (by kernel_rfl) (by kernel_rfl) (by kernel_rfl) (by kernel_rfl) (fun _ _ _ h => h) (Or.inl ⟨by rfl, ?_⟩) (by assumption) ?_
  rotate_left
  · (intro w hSw; (try dsimp only at hSw); go_simp <;> with_reducible rfl)
  try simp only [Act.put, List.setIfInBounds_toArray, List.set_cons_zero, List.set_cons_succ]
  refine Till.one 10 (by kernel_rfl) rfl (fun K hK => ?_)
  go_simp
  go_at_call 59
  refine (HRC.out _ hbd2).mono ?_
  rintro e w3 ⟨a3, N3, C3, q3, rfl, hn3⟩
  have hbw3 : Below w0.heap.size w0 w3 := hbd2.trans (hn3.below.mono hbd2.size)
  have hbe3 : Below w2.heap.size w2 w3 := hbe2.trans (hn3.below.mono hbe2.size)
  obtain ⟨-, x0, x1, x2, x3, x4, -⟩ := HA.out _ hbw3
  have HN3 := Hid.mkR hn3
  clear hn3
  refine hK.out _ _ ⟨x1, x2, x3, x4⟩ (fun hHeld => ?_)
  clear hK K
  try simp only [Act.put, List.setIfInBounds_toArray, List.set_cons_zero, List.set_cons_succ]
  refine Till.one 11 (by kernel_rfl) rfl (fun K hK => ?_)
  go_simp
  refine hK.out _ _ hHeld (fun hHeld => ?_)
  clear hK K
  try simp only [Act.put, List.setIfInBounds_toArray, List.set_cons_zero, List.set_cons_succ]
  refine' Till.take 12 rfl (by kernel_rfl) (by kernel_rfl) (by kernel_rfl) (by kernel_rfl) (fun _ _ _ h => h) (Or.inl ⟨by rfl, ?_⟩) (by assumption) ?_
  rotate_left
  · (intro w hSw; (try dsimp only at hSw); go_simp <;> with_reducible rfl)
  try simp only [Act.put, List.setIfInBounds_toArray, List.set_cons_zero, List.set_cons_succ]
  refine' Till.take 13 rfl (by kernel_rfl) (by kernel_rfl) (by kernel_rfl) (by kernel_rfl) (fun _ _ _ h => h) (Or.inl ⟨by rfl, ?_⟩) (by assumption) ?_
  rotate_left
  · (intro w hSw; (try dsimp only at hSw); go_simp <;> with_reducible rfl)
  try simp only [Act.put, List.setIfInBounds_toArray, List.set_cons_zero, List.set_cons_succ]
  refine Till.one 14 (by kernel_rfl) rfl (fun K hK => ?_)
  go_simp
  refine hK.out _ _ hHeld (fun hHeld => ?_)
  clear hK K
  try simp only [Act.put, List.setIfInBounds_toArray, List.set_cons_zero, List.set_cons_succ]
  refine Till.last (by kernel_rfl) (by kernel_rfl) rfl (fun K hK => ?_)
  go_simp
  refine hK.out _ _ ?_
  clear hK K
  try simp only [Act.put, List.setIfInBounds_toArray, List.set_cons_zero, List.set_cons_succ]
  refine NoPanic.normal ?_
  clear hHeld
  clear hHeld
  clear hHeld
  clear hHeld
  have HSM : Hid (Calls Tryz.prog 39 #[.slice a2 N2 C2, .slice a3 N3 C3] w3 fun e w' => e = .returned (.bool true) ∧ Below w3.heap.size w3 w') := by
    refine (sameB _ _ B B w3 (HN2.out.later hbe3).row.bytes HN3.out.row.bytes).mono ?_
    rintro e w' ⟨rfl, hb⟩
    exact ⟨by simp, hb⟩
  have HB3 := Hid.mkR hbw3
  have HE3 := Hid.mkR hbe3
  obtain ⟨hq1, hq2, hq3⟩ := HN2.out.row.len2
  unfold maxLen at hq3
  clear HRC HA y0 y1 y2 y3 y4 x0 x1 x2 x3 x4 hbw2 hbw3 hbd2 hbe2 hbe3 HN3 hq1
  have hzz : decide (E = E) = true := by simp
  go_wp2_with fail
  refine HSM.out.mono ?_
  rintro e w4 ⟨rfl, hb4⟩
  have HB4 : Hid (Below w0.heap.size w0 w4) := HB3.out.trans (hb4.mono HB3.out.size)
  have H0 : Hid (∃ l, Own w4 (.slice a2 N2 C2) l q2 ∧ Below w.heap.size w w4) := ⟨B, ((HN2.out.later HE3.out).later hb4).row, HB0.out.trans (HB4.out.mono HB0.out.size)⟩
  have HQ : Hid (∀ g, q2 = some g → w.heap.size ≤ g) := fun g e => by have := HN2.out.new g e; have : w0.drew.heap.size = w0.heap.size := rfl; omega
  clear HSM hb4 HB4 HE3 HB3 HN2
  go_wp2_with fail
  go_loopg [10] N2 (fun gk s10 wx => ∃ (i : Nat), i + gk = N2 ∧ s10 = .int .i64 i ∧ Hid (∃ l, Own wx (.slice a2 N2 C2) l q2 ∧ Below w.heap.size w wx))
  case atStart => exact ⟨0, by omega, rfl, H0.out⟩
  case round =>
    obtain ⟨i, hig, rfl, HV⟩ := hrel
    obtain ⟨l, ho, hbl⟩ := HV.out
    cases gk with
    | zero =>
      have hmi : N2 = i := by omega
      subst hmi
      have HF := Hid.mkR hbl
      clear ho hbl HV H0
      go_wp2
      go_ret
      exact ⟨rfl, HF.out⟩
    | succ gk1 =>
      obtain ⟨g, rfl, rfl, hfz, ⟨u, hu⟩, hs'⟩ := ho.put (i := i) (by omega) 78 (by omega)
      have HN : Hid (∃ l, Own (wr.setCell ⟨g, i, none⟩ (.int .u8 78)) (.slice (some ⟨g, 0, none⟩) N2 C2) l (some g) ∧ Below w.heap.size w (wr.setCell ⟨g, i, none⟩ (.int .u8 78))) := ⟨_, hs', hbl.grown (grow_set wr g i _) hbl.size (fun g' e => by simp at e; subst e; exact HQ.out _ rfl)⟩
      clear hs' ho hbl HV H0
      go_wp2
      go_roundg gk1
      case measure => omega
      case rel => exact ⟨i + 1, by omega, by go_num, HN.out⟩
end Go.Proofs.YthcnhjmkcekdaaaGreat

namespace Go.Proofs.YthcnhjmkcekdaaaGreat
open Go.RowKit Go.Maps Plain
set_option linter.unusedVariables false
set_option linter.unusedSimpArgs false
theorem OwnV.putS {w : World} {a : Option Addr} {N c i : Nat} {vs : List Value} {q : Option Nat} (h : OwnV w (.slice a N c) vs q) (hi : i < N) (x : Value) : ∃ g, a = some ⟨g, 0, none⟩ ∧ q = some g ∧ w.frozen? ⟨g, i, none⟩ = false ∧ (∃ u, w.cell? ⟨g, i, none⟩ = some u) ∧ OwnV (w.setCell ⟨g, i, none⟩ x) (.slice a N c) (vs.set i x) q := by
  obtain ⟨e, rfl, -⟩ | ⟨g, cap, rfl, e2, hg, h1, h2, h3, h4, h5⟩ := h
  · simp only [Value.slice.injEq] at e; omega
  · simp only [Value.slice.injEq] at e2
    obtain ⟨rfl, rfl, rfl⟩ := e2
    refine ⟨g, rfl, rfl, h3 i (by omega), Option.isSome_iff_exists.mp (h4 i (by omega)), .inr ⟨g, c, rfl, by rw [List.length_set], by simpa using hg, by rw [List.length_set]; exact h1, h2, fun j hj => ?_, fun j hj => ?_, fun j hj => ?_⟩⟩
    · rw [World.frozen?_setCell]; exact h3 j hj
    · obtain ⟨u, hu⟩ := Option.isSome_iff_exists.mp (h4 j hj)
      obtain ⟨u', hu'⟩ := cell?_setCell_some (p := ⟨g, i, none⟩) (x := x) hu
      rw [hu']; rfl
    · rw [List.length_set] at hj
      by_cases e : j = i
      · subst e
        obtain ⟨u, hu⟩ := Option.isSome_iff_exists.mp (h4 j (by omega))
        rw [World.cell?_setCell_same _ _ _ hu]
        simp [hj]
      · rw [World.cell?_setCell_other _ _ _ _ (by simp only [ne_eq, Addr.mk.injEq]; omega), h5 j hj]
        simp [Ne.symm e]
theorem OwnV.len3 {w : World} {a : Option Addr} {N c : Nat} {vs : List Value} {q : Option Nat} (h : OwnV w (.slice a N c) vs q) : N ≤ c ∧ c ≤ maxLen := by
  obtain ⟨e, rfl, -⟩ | ⟨g, cap, rfl, e2, hg, h1, h2, h3, h4, h5⟩ := h
  · simp only [Value.slice.injEq] at e; omega
  · simp only [Value.slice.injEq] at e2
    obtain ⟨rfl, rfl, rfl⟩ := e2
    exact ⟨h1, h2⟩
set_option maxHeartbeats 8000000 in
set_option maxRecDepth 1000000 in
theorem asked10 {W w : World} {gb d gp n : Nat} {k : Dk} {r : Rk} (h : BoAt W gb d gp k r w) (hi : BInv k r n) (hn : n ≤ 2000000000000) (nm to : ByteArray) (at' m : Int) (vb vp : Value) :
    Calls Tryz.prog 15 #[.pointer (some ⟨gb, 0, none⟩), stepV 10 nm to at' m vb vp] w fun e w' => e = .returned (.bool true) ∧ Below w.heap.size w w' := by
  obtain ⟨w0, hw0⟩ : ∃ w0, w.alloc (.cells #[.int .i64 10, .string nm, .string to, .int .i64 at', .int .i64 m, vb, vp] 37) = w0 := ⟨_, rfl⟩
  have hb0 : Below w.heap.size w w0 := by rw [← hw0]; exact (Below.refl _ _).alloc (Nat.le_refl _) _
  have hs0 : w0.heap.size = w.heap.size + 1 := by rw [← hw0]; simp
  have hx0 : w0.heap[w.heap.size]? = some (.cells #[.int .i64 10, .string nm, .string to, .int .i64 at', .int .i64 m, vb, vp] 37) := by rw [← hw0]; show (w.heap.push _)[w.heap.size]? = _; simp
  have z0 : w0.cell? ⟨w.heap.size, 0, none⟩ = some (.int .i64 10) := by simp [World.cell?, hx0]
  have z1 : w0.cell? ⟨w.heap.size, 1, none⟩ = some (.string nm) := by simp [World.cell?, hx0]
  have z3 : w0.cell? ⟨w.heap.size, 3, none⟩ = some (.int .i64 at') := by simp [World.cell?, hx0]
  have z4 : w0.cell? ⟨w.heap.size, 4, none⟩ = some (.int .i64 m) := by simp [World.cell?, hx0]
  have z6 : w0.cell? ⟨w.heap.size, 6, none⟩ = some (vp) := by simp [World.cell?, hx0]
  have hbd : Below w0.heap.size w0 w0.drew := ⟨rfl, rfl, rfl, Nat.le_refl _, fun _ _ => rfl⟩
  have HB0 := Hid.mkR hb0
  have HA : Hid (∀ u, Below w0.heap.size w0 u → BoAt W gb d gp k r u ∧ u.cell? ⟨gb, 0, none⟩ = some (.pointer (some ⟨d, 0, none⟩)) ∧ u.cell? ⟨gb, 1, none⟩ = some (.pointer (some ⟨gp, 0, none⟩)) ∧ u.cell? ⟨w.heap.size, 1, none⟩ = some (.string nm) ∧ u.cell? ⟨w.heap.size, 3, none⟩ = some (.int .i64 at') ∧ u.cell? ⟨w.heap.size, 4, none⟩ = some (.int .i64 m) ∧ u.cell? ⟨w.heap.size, 6, none⟩ = some (vp)) := fun u hu => by
    have h1 := (h.later hb0).later hu
    exact ⟨h1, h1.box.1, h1.box.2.1, (hu.cell (cell_lt z1)).trans z1, (hu.cell (cell_lt z3)).trans z3, (hu.cell (cell_lt z4)).trans z4, (hu.cell (cell_lt z6)).trans z6⟩
  obtain ⟨c0, c1, -, -⟩ := (h.later hb0).box
  have hbd' := hi.bd hn
  have HC : Hid (∀ u, Below w0.heap.size w0 u → Calls Tryz.prog 62 #[.pointer (some ⟨d, 0, none⟩)] u fun e w' => ∃ a N c q, e = .returned (.tuple #[.slice a N c, .int .i64 (if r.off = true then 34 else 0)]) ∧ TxNew u w' (.slice a N c) (if r.off = true then [] else r.ps.last.map (·.1)) q) := fun u hu => (HA.out u hu).1.list hi
  have HRC : Hid (∀ u, Below w0.heap.size w0 u → Calls Tryz.prog 63 #[.pointer (some ⟨gp, 0, none⟩)] u fun e w' => ∃ a N c q, e = .returned (.tuple #[.slice a N c, .int .i64 (if r.off = true then 34 else 0)]) ∧ TxNew u w' (.slice a N c) (if r.off = true then [] else r.ps.last.map (·.1)) q) := fun u hu => (HA.out u hu).1.rlist hbd'
  clear h hi hbd' hx0
  generalize (if r.off = true then (34 : Int) else 0) = E at *
  generalize (if r.off = true then [] else r.ps.last.map (·.1)) = B at *
  go_enter Tryz.func15, Tryz.ntmps15
  go_wp2_with fail
  refine (HC.out _ (Below.refl _ _)).mono ?_
  rintro e w2 ⟨a2, N2, C2, q2, rfl, hn2⟩
  have hbw2 : Below w0.heap.size w0 w2 := hn2.below
  obtain ⟨-, y0, y1, y2, y3, y4, -⟩ := HA.out _ hbw2
  have HN2 := Hid.mkR hn2
  clear hn2 HC z0 z1 z3 z4 z6 c0 c1
  go_wp2_with fail
  refine (HRC.out _ hbw2).mono ?_
  rintro e w3 ⟨a3, N3, C3, q3, rfl, hn3⟩
  have hbw3 : Below w0.heap.size w0 w3 := hbw2.trans (hn3.below.mono hbw2.size)
  have hbe3 : Below w2.heap.size w2 w3 := hn3.below
  have HN3 := Hid.mkR hn3
  clear hn3
  have HSM := Hid.mkR (sameTextsEq _ _ B w3 (TxR.of (HN2.out.later hbe3).row) (TxR.of HN3.out.row))
  have HB3 := Hid.mkR hbw3
  have HE3 := Hid.mkR hbe3
  obtain ⟨hq2, hq3⟩ := HN2.out.row.len3
  unfold maxLen at hq3
  clear HRC HA y0 y1 y2 y3 y4 hbw2 hbw3 hbe3 HN3
  have hzz : decide (E = E) = true := by simp
  go_wp2_with fail
  refine HSM.out.mono ?_
  rintro e w4 ⟨rfl, hb4⟩
  have HB4 : Hid (Below w0.heap.size w0 w4) := HB3.out.trans (hb4.mono HB3.out.size)
  have H0 : Hid (∃ vs, OwnV w4 (.slice a2 N2 C2) vs q2 ∧ Below w.heap.size w w4) := ⟨_, ((HN2.out.later HE3.out).later hb4).row, HB0.out.trans (HB4.out.mono HB0.out.size)⟩
  have HQ : Hid (∀ g, q2 = some g → w.heap.size ≤ g) := fun g e => by have := HN2.out.new g e; omega
  clear HSM hb4 HB4 HE3 HB3 HN2
  go_wp2_with fail
  go_loopg [20] N2 (fun gk s20 wx => ∃ (i : Nat), i + gk = N2 ∧ s20 = .int .i64 i ∧ Hid (∃ vs, OwnV wx (.slice a2 N2 C2) vs q2 ∧ Below w.heap.size w wx))
  case atStart => exact ⟨0, by omega, rfl, H0.out⟩
  case round =>
    obtain ⟨i, hig, rfl, HV⟩ := hrel
    obtain ⟨l, ho, hbl⟩ := HV.out
    cases gk with
    | zero =>
      have hmi : N2 = i := by omega
      subst hmi
      have HF := Hid.mkR hbl
      clear ho hbl HV H0
      go_wp2
      go_ret
      exact ⟨rfl, HF.out⟩
    | succ gk1 =>
      obtain ⟨g, rfl, rfl, hfz, ⟨u, hu⟩, -⟩ := ho.putS (i := i) (by omega) (.string ByteArray.empty)
      have HN : Hid (∀ s : ByteArray, ∃ vs, OwnV (wr.setCell ⟨g, i, none⟩ (.string s)) (.slice (some ⟨g, 0, none⟩) N2 C2) vs (some g) ∧ Below w.heap.size w (wr.setCell ⟨g, i, none⟩ (.string s))) := fun s => by
        obtain ⟨g', e1, e2, -, -, hs'⟩ := ho.putS (i := i) (by omega) (.string s)
        simp only [Option.some.injEq] at e2
        subst e2
        exact ⟨_, hs', hbl.grown (grow_set wr g i _) hbl.size (fun g' e => by simp at e; subst e; exact HQ.out _ rfl)⟩
      clear ho hbl HV H0
      go_wp2
      go_roundg gk1
      case measure => omega
      case rel => exact ⟨i + 1, by omega, by go_num, HN.out _⟩
end Go.Proofs.YthcnhjmkcekdaaaGreat

namespace Go.Proofs.YthcnhjmkcekdaaaGreat
open Go.RowKit Go.Maps Plain
set_option linter.unusedVariables false
set_option linter.unusedSimpArgs false
theorem Gn.base {W wx : World} {a : Option Addr} {m c : Nat} {ts : List Fi} {r : Option Nat} {blk : Nat → Option Nat} {P : Nat → Prop} {o : Nat} (h : Gn W wx (.slice a m c) ts r blk P o) : ∃ b, 0 < m → a = some ⟨b, 0, none⟩ ∧ r = some b := by
  obtain ⟨e, -, -⟩ := h.len
  by_cases h0 : 0 < ts.length
  · obtain ⟨b, e1, e2, -⟩ := h.at (i := 0) h0
    exact ⟨b, fun _ => ⟨e1, e2⟩⟩
  · exact ⟨0, fun h => by omega⟩
set_option maxHeartbeats 40000000 in
set_option maxRecDepth 1000000 in
theorem goneOf (w0 w : World) (a : Option Addr) (m c : Nat) (im : List (Nm × List Nat)) (base : Nat) (h : ImgAt w0 (.slice a m c) im base) (hs : w0.heap.size ≤ w.heap.size) (hb : ∀ x, base ≤ x → x < w0.heap.size → w.heap[x]? = w0.heap[x]?) (hm : im.length ≤ 65536) (hsz : ∀ p ∈ im, p.2.length ≤ 1073741824) :
    Calls Tryz.prog 65 #[.slice a m c] w fun e w' => (∃ z, e = .returned (.int .i64 z)) ∧ Chg (fun g => base ≤ g ∧ g < w0.heap.size) w w' := by
  obtain ⟨ts0, r, blk, hG, htl⟩ := h.gn hs hb hsz
  generalize (fun g => base ≤ g ∧ g < w0.heap.size) = P at *
  obtain ⟨hl1, hl2, hl3⟩ := hG.len
  obtain ⟨b, hab⟩ := hG.base
  have HA : Hid (0 < m → a = some ⟨b, 0, none⟩ ∧ r = some b) := hab
  have HG0 : Hid (∃ ts, Gn w w (.slice a m c) ts r blk P 0 ∧ ts.length = m) := ⟨ts0, hG, hl1.symm⟩
  have hlm : m ≤ 65536 := by omega
  unfold maxLen at hl3
  clear h hG htl hab hl1 hm hsz hb hs
  go_enter Tryz.func65, Tryz.ntmps65
  go_wp2
  go_loopg [3] m (fun gk s3 wx => ∃ (i : Nat), i + gk = m ∧ s3 = .int .i64 i ∧ Hid (∃ ts, Gn w wx (.slice a m c) ts r blk P i ∧ ts.length = m))
  case atStart => exact ⟨0, by omega, rfl, HG0.out⟩
  case round =>
    obtain ⟨i, hi, rfl, HV⟩ := hrel
    cases gk with
    | succ gk1 =>
      have him : i < m := by omega
      obtain ⟨rfl, rfl⟩ := HA.out (by omega)
      obtain ⟨ts, hG, hts⟩ := HV.out
      obtain ⟨ad, nd, cd, ld, hd, hown, hld, hnd⟩ := hG.own i (Nat.le_refl _) (by omega)
      obtain ⟨-, hq2, hq3⟩ := hown.len2
      unfold maxLen at hq3
      have HH : Hid (Gn w wr (.slice (some ⟨b, 0, none⟩) m c) ts (some b) blk P i) := hG
      have HCELL : Hid (∀ wx o, Gn w wx (.slice (some ⟨b, 0, none⟩) m c) ts (some b) blk P o → wx.cell? ⟨b, i * 2 + 1, none⟩ = some (.slice ad nd cd)) := fun wx o hx => by
        obtain ⟨b', e1, e2, q0, q1, q2⟩ := hx.at (i := i) (by omega)
        simp only [Option.some.injEq] at e2
        subst e2
        rw [q1, hd]
      have hcell := HCELL.out _ _ hG
      have HD : Hid ((ts.getD i Fi.none).data = .slice ad nd cd ∧ ts.length = m) := ⟨hd, hts⟩
      clear hG hd hown hld HV hts
      go_wp2
      go_loopg [4] nd (fun g2 s4 wx => ∃ (k : Nat), k + g2 = nd ∧ s4 = .int .i64 k ∧ Hid (Gn w wx (.slice (some ⟨b, 0, none⟩) m c) ts (some b) blk P i))
      case atStart => exact ⟨0, by omega, rfl, HH.out⟩
      case round =>
        obtain ⟨k, hk, rfl, HK⟩ := hrel
        have hcell := HCELL.out _ _ HK.out
        cases gk with
        | succ g3 =>
          obtain ⟨g, rfl, hfz, ⟨u, hu⟩, hs'⟩ := HK.out.write (i := i) (k := k) (c := 79) (by have := HD.out.2; omega) (Nat.le_refl _) HD.out.1 (by omega) (by omega)
          have HN : Hid (Gn w (wr.setCell ⟨g, k, none⟩ (.int .u8 79)) (.slice (some ⟨b, 0, none⟩) m c) ts (some b) blk P i) := hs'
          clear hs' HK
          go_wp2
          go_roundg g3
          case measure => omega
          case rel => exact ⟨k + 1, by omega, by go_num, HN.out⟩
        | zero =>
          have hknd : nd = k := by omega
          subst hknd
          obtain ⟨ad2, nd2, cd2, l2, hd2, hown2, -, -⟩ := HK.out.own i (Nat.le_refl _) (by have := HD.out.2; omega)
          rw [HD.out.1] at hd2
          simp only [Value.slice.injEq] at hd2
          obtain ⟨rfl, rfl, rfl⟩ := hd2
          have H0 : Hid (∃ r7 l7, Own wr (.slice ad nd cd) l7 r7 ∧ (∀ g, r7 = some g → (P g ∨ w.heap.size ≤ g) ∧ (some b ≠ some g) ∧ ∀ j, i + 1 ≤ j → j < ts.length → blk j ≠ some g) ∧ Gn w wr (.slice (some ⟨b, 0, none⟩) m c) ts (some b) blk P (i + 1)) := ⟨blk i, l2, hown2, fun g e => ⟨(HK.out.bb i g e).1, (HK.out.bb i g e).2, fun j hj _ e2 => by have := HK.out.apart j i g e2 e; omega⟩, HK.out.off (by omega)⟩
          clear hown2 HK HH
          go_wp2
          go_loopg [5, 6] 64 (fun g2 s5 s6 wx => ∃ (k : Nat) (a7 : Option Addr) (n7 c7 : Nat), k + g2 = 64 ∧ s6 = .int .i64 k ∧ s5 = .slice a7 n7 c7 ∧ n7 = nd + k ∧ Hid (∃ r7 l7, Own wx (.slice a7 n7 c7) l7 r7 ∧ (∀ g, r7 = some g → (P g ∨ w.heap.size ≤ g) ∧ (some b ≠ some g) ∧ ∀ j, i + 1 ≤ j → j < ts.length → blk j ≠ some g) ∧ Gn w wx (.slice (some ⟨b, 0, none⟩) m c) ts (some b) blk P (i + 1)))
          case atStart => exact ⟨0, ad, nd, cd, by omega, rfl, rfl, by omega, H0.out⟩
          case round =>
            obtain ⟨k2, a7, n7, c7, hk2, rfl, rfl, hn7, HX⟩ := hrel
            cases gk with
            | zero =>
              obtain ⟨r7, l7, -, -, hG7⟩ := HX.out
              obtain ⟨b', e1, e2, q0, q1, q2⟩ := hG7.at (i := i) (by have := HD.out.2; omega)
              simp only [Option.some.injEq] at e2
              subst e2
              have HN : Hid (∀ s : ByteArray, ∃ ts, Gn w (wr.setCell ⟨b, i * 2, none⟩ (.string s)) (.slice (some ⟨b, 0, none⟩) m c) ts (some b) blk P (i + 1) ∧ ts.length = m) := fun s => ⟨_, hG7.name (by have := HD.out.2; omega) s, by rw [List.length_set]; exact HD.out.2⟩
              clear hG7 HX H0 e1 q1
              go_wp2
              go_roundg gk1
              case measure => omega
              case rel => exact ⟨i + 1, by omega, by go_num, HN.out _⟩
            | succ g3 =>
              obtain ⟨r7, l7, ho, hr7, hG7⟩ := HX.out
              have HO : Hid (Own wr (.slice a7 n7 c7) l7 r7) := ho
              have HR7 : Hid (∀ g, r7 = some g → (P g ∨ w.heap.size ≤ g) ∧ (some b ≠ some g) ∧ ∀ j, i + 1 ≤ j → j < ts.length → blk j ≠ some g) := hr7
              have HSA : Hid (Gn w wr (.slice (some ⟨b, 0, none⟩) m c) ts (some b) blk P (i + 1)) := hG7
              have hl7 : l7.length = nd + k2 := by have := ho.len2.1; omega
              have HSR : Hid (Src Tryz.prog 1 34 (.slice (some ⟨wr.heap.size, 0, none⟩) 1 1) [80].length (cellsOf [80]) (wr.alloc (.cells #[.int .u8 80] 5))) := src_one wr 80 34 5 Tryz.underlying34
              clear ho hr7 hG7 HX
              go_wp2_with (at_builtin; refine wpList_append_row _ rfl _ _ 34 34 rfl Tryz.underlying34 _ _ l7 [80] r7 rfl rfl ?hOwn ?hByte ?hSrc ?hLen ?_)
              case hOwn => exact HO.out.later ((Below.refl _ _).alloc (Nat.le_refl _) _)
              case hByte => intro x hx; simp at hx; omega
              case hSrc => exact HSR.out
              case hLen => simp; omega
              intro v4 w4 r4 ho4 hg4 hr4 hn4
              obtain ⟨a4, n4, c4, rfl⟩ := isSliceO ho4
              have hbA : Below wr.heap.size wr (wr.alloc (.cells #[.int .u8 80] 5)) := (Below.refl _ _).alloc (Nat.le_refl _) _
              have hszA : (wr.alloc (.cells #[.int .u8 80] 5)).heap.size = wr.heap.size + 1 := by simp
              have hn4' : n4 = nd + (k2 + 1) := by have := ho4.len2.1; simp at this; omega
              have HN : Hid (∃ r7 l7, Own w4 (.slice a4 n4 c4) l7 r7 ∧ (∀ g, r7 = some g → (P g ∨ w.heap.size ≤ g) ∧ (some b ≠ some g) ∧ ∀ j, i + 1 ≤ j → j < ts.length → blk j ≠ some g) ∧ Gn w w4 (.slice (some ⟨b, 0, none⟩) m c) ts (some b) blk P (i + 1)) := by
                refine ⟨r4, _, ho4, fun g e => ?_, (HSA.out.later hbA).grown hg4 HR7.out⟩
                rcases hr4 with h | h
                · exact HR7.out g (by rw [← h]; exact e)
                · rw [h] at e
                  simp at e
                  have h1 := HSA.out.chg.size
                  refine ⟨.inr (by omega), fun e2 => ?_, fun j hj hjt e2 => ?_⟩
                  · have := HSA.out.row.lt; simp at e2; omega
                  · obtain ⟨_, _, _, _, _, ow, _, _⟩ := HSA.out.own j hj hjt
                    rw [e2] at ow
                    obtain ⟨-, h0 | ⟨g', cap', e5, e6, hg, -⟩⟩ := ow
                    · simp at h0
                    · simp at e5; omega
              clear ho4 hg4 hr4 hn4 HSR HO HR7 HSA hbA hszA
              go_wp2
              go_roundg g3
              case measure => omega
              case rel => exact ⟨k2 + 1, _, _, _, by omega, by go_num, rfl, hn4', HN.out⟩
    | zero =>
      have hmi : m = i := by omega
      subst hmi
      obtain ⟨ts, hG, hts⟩ := HV.out
      have H0 : Hid (∃ ts r7, OwnI wr (.slice a m c) ts r7 ∧ ts.length = m + 0 ∧ (∀ g, r7 = some g → P g ∨ w.heap.size ≤ g) ∧ Chg P w wr) := ⟨ts, r, hG.row, hts, hG.rb, hG.chg⟩
      clear hG hts HV HA HG0
      go_wp2
      go_loopg [7, 8] 64 (fun g2 s7 s8 wx => ∃ (k : Nat) (a7 : Option Addr) (n7 c7 : Nat), k + g2 = 64 ∧ s8 = .int .i64 k ∧ s7 = .slice a7 n7 c7 ∧ Hid (∃ ts r7, OwnI wx (.slice a7 n7 c7) ts r7 ∧ ts.length = m + k ∧ (∀ g, r7 = some g → P g ∨ w.heap.size ≤ g) ∧ Chg P w wx))
      case atStart => exact ⟨0, a, m, c, by omega, rfl, rfl, H0.out⟩
      case round =>
        obtain ⟨k2, a7, n7, c7, hk2, rfl, rfl, HX⟩ := hrel
        cases gk with
        | zero =>
          obtain ⟨ts, r7, -, -, -, hbel⟩ := HX.out
          have HF : Hid (Chg P w wr) := hbel
          clear hbel HX
          go_wp2
          go_ret
          exact ⟨⟨_, rfl⟩, HF.out⟩
        | succ g3 =>
          obtain ⟨ts, r7, ho, htl, hr7, hbel⟩ := HX.out
          have HO : Hid (OwnI wr (.slice a7 n7 c7) ts r7) := ho
          have HR7 : Hid (∀ g, r7 = some g → P g ∨ w.heap.size ≤ g) := hr7
          have HBL : Hid (Chg P w wr) := hbel
          have htl2 : ts.length ≤ 70000 := by omega
          have HTL : Hid (ts.length = m + k2) := htl
          clear ho hr7 hbel HX htl
          go_wp2_with (at_builtin; refine wpList_append_files _ rfl _ _ rfl _ _ ts [⟨⟨#[109, 111, 114, 101]⟩, .slice none 0 0⟩] r7 rfl rfl ?hOwn ?hSrc ?hLen (.inr (Nat.succ_pos _)) ?_)
          case hOwn => exact HO.out.later ((Below.refl _ _).alloc (Nat.le_refl _) _)
          case hSrc => exact src_file wr _ none 0 0
          case hLen => simp; omega
          intro v4 w4 g4 ho4 hg4 hr4
          have hv4 : ∃ a4 N4 c4, v4 = .slice a4 N4 c4 := ho4.shape.elim fun a4 h => h.elim fun c4 h2 => ⟨a4, _, c4, h2.1⟩
          obtain ⟨a4, N4, c4, rfl⟩ := hv4
          have HN : Hid (∃ ts r7, OwnI w4 (.slice a4 N4 c4) ts r7 ∧ ts.length = m + (k2 + 1) ∧ (∀ g, r7 = some g → P g ∨ w.heap.size ≤ g) ∧ Chg P w w4) := by
            have h1 := HBL.out.size
            refine ⟨_, _, ho4, by have := HTL.out; simp; omega, fun g e => ?_, ?_⟩
            · simp only [Option.some.injEq] at e
              subst e
              rcases hr4 with h | h
              · exact HR7.out _ h.symm
              · exact .inr (by first | omega | (simp at h; omega))
            · exact (HBL.out.more ((Below.refl _ _).alloc (Nat.le_refl _) _)).grown hg4 HR7.out
          clear ho4 hg4 hr4 HO HR7 HBL HTL
          go_wp2
          go_roundg g3
          case measure => omega
          case rel => exact ⟨k2 + 1, _, _, _, by omega, by go_num, rfl, HN.out⟩
end Go.Proofs.YthcnhjmkcekdaaaGreat
