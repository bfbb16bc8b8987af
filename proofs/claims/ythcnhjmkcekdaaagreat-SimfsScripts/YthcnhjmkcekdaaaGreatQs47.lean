import Derived.Test.YthcnhjmkcekdaaaGreatQs44
import Derived.Test.YthcnhjmkcekdaaaGreatQs46
namespace Go.Proofs.YthcnhjmkcekdaaaGreat
open Go.RowKit Go.Maps Plain
set_option linter.unusedVariables false
set_option linter.unusedSimpArgs false
theorem chgB {B : Nat} {w u u' : World} {P : Nat → Prop} (h : Below B w u) (hB : B ≤ w.heap.size) (hc : Chg P u u') (hP : ∀ x, P x → B ≤ x) : Below B w u' :=
  h.trans (hc.below (by have := h.size; omega) hP)
/-- An image that two others' being written over leaves alone. -/
theorem ImgAt.past {u a b c : World} {v : Value} {im : List (Nm × List Nat)} {lo : Nat} {P Q : Nat → Prop} (h : ImgAt u v im lo) (hb : Below u.heap.size u a) (h1 : Chg P a b) (h2 : Chg Q b c) (hP : ∀ x, lo ≤ x → ¬ P x) (hQ : ∀ x, lo ≤ x → ¬ Q x) : ImgAt c v im lo :=
  h.hold (Nat.le_trans hb.size (Nat.le_trans h1.size h2.size)) (fun x h3 h4 => (h2.block x (Nat.lt_of_lt_of_le h4 (Nat.le_trans hb.size h1.size)) (hQ x h3)).trans ((h1.block x (Nat.lt_of_lt_of_le h4 hb.size) (hP x h3)).trans (hb.block x h4)))
theorem BInv.imL {k : Dk} {r : Rk} {n : Nat} (h : BInv k r n) (hb : r.Bd) : (imK k).length ≤ 65536 ∧ ∀ p ∈ imK k, p.2.length ≤ 1073741824 := by
  obtain ⟨-, -, -, -, e5, -⟩ := h.facts
  refine ⟨imK_len h.dok, fun p hp => ?_⟩
  rw [← e5] at hp
  unfold rimL at hp
  obtain ⟨x, hx, rfl⟩ := List.mem_map.mp hp
  exact (h.inv.fo _ (hb.ok.ref hx).1).sz _
set_option maxHeartbeats 16000000 in
set_option maxRecDepth 1000000 in
theorem asked13 {W w : World} {gb d gp n : Nat} {k : Dk} {r : Rk} (h : BoAt W gb d gp k r w) (hi : BInv k r n) (hn : n ≤ 2000000000000) (nm to : ByteArray) (at' m : Int) (hdi : DInv r) (vb : Value) {pa : Option Addr} {pn pc : Nat} {ps : List Int} (hps : ∀ w', Below W.heap.size W w' → PicksAt w' (.slice pa pn pc) ps) (hpo : ∀ C, W.heap.size ≤ C → PicksOff C (.slice pa pn pc)) :
    Calls Tryz.prog 15 #[.pointer (some ⟨gb, 0, none⟩), stepV 13 nm to at' m vb (.slice pa pn pc)] w fun e w' => e = .returned (.bool true) ∧ Below w.heap.size w w' := by
  obtain ⟨w0, hw0⟩ : ∃ w0, w.alloc (.cells #[.int .i64 13, .string nm, .string to, .int .i64 at', .int .i64 m, vb, .slice pa pn pc] 37) = w0 := ⟨_, rfl⟩
  have hb0 : Below w.heap.size w w0 := by rw [← hw0]; exact (Below.refl _ _).alloc (Nat.le_refl _) _
  have hs0 : w0.heap.size = w.heap.size + 1 := by rw [← hw0]; simp
  have hx0 : w0.heap[w.heap.size]? = some (.cells #[.int .i64 13, .string nm, .string to, .int .i64 at', .int .i64 m, vb, .slice pa pn pc] 37) := by rw [← hw0]; show (w.heap.push _)[w.heap.size]? = _; simp
  have z0 : w0.cell? ⟨w.heap.size, 0, none⟩ = some (.int .i64 13) := by simp [World.cell?, hx0]
  have z1 : w0.cell? ⟨w.heap.size, 1, none⟩ = some (.string nm) := by simp [World.cell?, hx0]
  have z3 : w0.cell? ⟨w.heap.size, 3, none⟩ = some (.int .i64 at') := by simp [World.cell?, hx0]
  have z4 : w0.cell? ⟨w.heap.size, 4, none⟩ = some (.int .i64 m) := by simp [World.cell?, hx0]
  have z6 : w0.cell? ⟨w.heap.size, 6, none⟩ = some (.slice pa pn pc) := by simp [World.cell?, hx0]
  have hbd : Below w0.heap.size w0 w0.drew := ⟨rfl, rfl, rfl, Nat.le_refl _, fun _ _ => rfl⟩
  have HB0 := Hid.mkR hb0
  have HA : Hid (∀ u, Below w0.heap.size w0 u → BoAt W gb d gp k r u ∧ u.cell? ⟨gb, 0, none⟩ = some (.pointer (some ⟨d, 0, none⟩)) ∧ u.cell? ⟨gb, 1, none⟩ = some (.pointer (some ⟨gp, 0, none⟩)) ∧ u.cell? ⟨w.heap.size, 1, none⟩ = some (.string nm) ∧ u.cell? ⟨w.heap.size, 3, none⟩ = some (.int .i64 at') ∧ u.cell? ⟨w.heap.size, 4, none⟩ = some (.int .i64 m) ∧ u.cell? ⟨w.heap.size, 6, none⟩ = some (.slice pa pn pc)) := fun u hu => by
    have h1 := (h.later hb0).later hu
    exact ⟨h1, h1.box.1, h1.box.2.1, (hu.cell (cell_lt z1)).trans z1, (hu.cell (cell_lt z3)).trans z3, (hu.cell (cell_lt z4)).trans z4, (hu.cell (cell_lt z6)).trans z6⟩
  obtain ⟨c0, c1, -, -⟩ := (h.later hb0).box
  have hbd' := hi.bd hn
  have HC : Hid (∀ u, Below w0.heap.size w0 u → Calls Tryz.prog 20 #[.pointer (some ⟨d, 0, none⟩), .slice pa pn pc] u fun e w' => ∃ a l c, e = .returned (.slice a l c) ∧ ImgAt w' (.slice a l c) (crR r.ps ps) u.heap.size ∧ Below u.heap.size u w') := fun u hu => (HA.out u hu).1.crash hi hn (hps u (HA.out u hu).1.below) (hpo _ (HA.out u hu).1.below.size)
  have HRC : Hid (∀ u, Below w0.heap.size w0 u → Calls Tryz.prog 21 #[.pointer (some ⟨gp, 0, none⟩), .slice pa pn pc] u fun e w' => ∃ a l c, e = .returned (.slice a l c) ∧ ImgAt w' (.slice a l c) (crR r.ps ps) u.heap.size ∧ Below u.heap.size u w') := fun u hu => (HA.out u hu).1.rcrash hi hn (hps u (HA.out u hu).1.below) (hpo _ (HA.out u hu).1.below.size)
  have HC0 : Hid (∀ u, Below w0.heap.size w0 u → Calls Tryz.prog 20 #[.pointer (some ⟨d, 0, none⟩), .slice none 0 0] u fun e w' => ∃ a l c, e = .returned (.slice a l c) ∧ ImgAt w' (.slice a l c) (crR r.ps []) u.heap.size ∧ Below u.heap.size u w') := fun u hu => (HA.out u hu).1.crash hi hn (ps := []) ⟨none, 0, rfl, by simp, by simp, by simp, by simp⟩ (fun b off n c e => by cases e)
  have HRC0 : Hid (∀ u, Below w0.heap.size w0 u → Calls Tryz.prog 21 #[.pointer (some ⟨gp, 0, none⟩), .slice none 0 0] u fun e w' => ∃ a l c, e = .returned (.slice a l c) ∧ ImgAt w' (.slice a l c) (crR r.ps []) u.heap.size ∧ Below u.heap.size u w') := fun u hu => (HA.out u hu).1.rcrash hi hn (ps := []) ⟨none, 0, rfl, by simp, by simp, by simp, by simp⟩ (fun b off n c e => by cases e)
  have HI : Hid (∀ u, Below w0.heap.size w0 u → Calls Tryz.prog 30 #[.pointer (some ⟨d, 0, none⟩)] u fun e w' => ∃ a l c, e = .returned (.slice a l c) ∧ ImgAt w' (.slice a l c) (imK k) u.heap.size ∧ Below u.heap.size u w') := fun u hu => (HA.out u hu).1.image hi.dok
  have HRI : Hid (∀ u, Below w0.heap.size w0 u → Calls Tryz.prog 31 #[.pointer (some ⟨gp, 0, none⟩)] u fun e w' => ∃ a l c, e = .returned (.slice a l c) ∧ ImgAt w' (.slice a l c) (imK k) u.heap.size ∧ Below u.heap.size u w') := fun u hu => by
    have := (HA.out u hu).1.rimage hbd' hi.inv
    rw [hi.facts.2.2.2.2.1] at this
    exact this
  have HL1 : Hid ((crR r.ps ps).length ≤ 65536 ∧ ∀ p ∈ crR r.ps ps, p.2.length ≤ 1073741824) := ⟨(crash_ok hdi hi.asc hi.inv hbd' ps).1.few, hi.inv.crash hbd' ps⟩
  have HL2 := Hid.mkR (hi.imL hbd')
  clear h hi hbd' hx0 hps hpo hdi
  generalize crR r.ps ps = im1 at *
  generalize crR r.ps [] = im3 at *
  generalize imK k = im2 at *
  have HS0 := Hid.mkR hs0
  go_enter Tryz.func15, Tryz.ntmps15
  go_wp2_with fail
  refine wp_region_noPanic ?_
  refine Till.start 7 (S := fun u => u.cell? ⟨gb, 0, none⟩ = some (.pointer (some ⟨d, 0, none⟩)) ∧ u.cell? ⟨w.heap.size, 6, none⟩ = some (.slice pa pn pc)) (by kernel_rfl) ⟨c0, z6⟩ (fun hHeld => ?_)
  refine' Till.take 0 rfl (by kernel_rfl) (by kernel_rfl) (by kernel_rfl) (by kernel_rfl) (fun _ _ _ h => h) (Or.inl ⟨by rfl, ?_⟩) (by assumption) ?_
  rotate_left
  · (intro w hSw; (try dsimp only at hSw); go_simp <;> with_reducible rfl)
  try simp only [Act.put, List.setIfInBounds_toArray, List.set_cons_zero, List.set_cons_succ]
  refine' Till.take 1 rfl (by kernel_rfl) (by kernel_rfl) (by kernel_rfl) (by kernel_rfl) (fun _ _ _ h => h) (Or.inl ⟨by rfl, ?_⟩) (by assumption) ?_
  rotate_left
  · (intro w hSw; (try dsimp only at hSw); go_simp <;> with_reducible rfl)
  try simp only [Act.put, List.setIfInBounds_toArray, List.set_cons_zero, List.set_cons_succ]
  refine' Till.take 2 rfl (by kernel_rfl) (by kernel_rfl) (by kernel_rfl) (by kernel_rfl) (fun _ _ _ h => h) (Or.inl ⟨by rfl, ?_⟩) (by assumption) ?_
  rotate_left
  · (intro w hSw; (try dsimp only at hSw); go_simp <;> with_reducible rfl)
  try simp only [Act.put, List.setIfInBounds_toArray, List.set_cons_zero, List.set_cons_succ]
  refine' Till.take 3 rfl (by kernel_rfl) (by kernel_rfl) (by kernel_rfl) (by kernel_rfl) (fun _ _ _ h => h) (Or.inl ⟨by rfl, ?_⟩) (by assumption) ?_
  rotate_left
  · (intro w hSw; (try dsimp only at hSw); go_simp <;> with_reducible rfl)
  try simp only [Act.put, List.setIfInBounds_toArray, List.set_cons_zero, List.set_cons_succ]
  refine' Till.take 4 rfl (by kernel_rfl) (by kernel_rfl) (by kernel_rfl) (by kernel_rfl) (fun _ _ _ h => h) (Or.inl ⟨by rfl, ?_⟩) (by assumption) ?_
  rotate_left
  · (intro w hSw; (try dsimp only at hSw); go_simp <;> with_reducible rfl)
  try simp only [Act.put, List.setIfInBounds_toArray, List.set_cons_zero, List.set_cons_succ]
  refine' Till.take 5 rfl (by kernel_rfl) (by kernel_rfl) (by kernel_rfl) (by kernel_rfl) (fun _ _ _ h => h) (Or.inl ⟨by rfl, ?_⟩) (by assumption) ?_
  rotate_left
  · (intro w hSw; (try dsimp only at hSw); go_simp <;> with_reducible rfl)
  try simp only [Act.put, List.setIfInBounds_toArray, List.set_cons_zero, List.set_cons_succ]
  refine Till.one 6 (by kernel_rfl) rfl (fun K hK => ?_)
  go_simp
  go_at_call 20
  refine (HC.out _ hbd).mono ?_
  rintro e w1 ⟨a1, l1, cc1, rfl, hm1, hb1⟩
  have hbw1 : Below w0.heap.size w0 w1 := hbd.trans (hb1.mono hbd.size)
  obtain ⟨-, y0, y1, -, -, -, y6⟩ := HA.out _ hbw1
  refine hK.out _ _ ⟨y0, y6⟩ (fun hHeld => ?_)
  clear hK K
  try simp only [Act.put, List.setIfInBounds_toArray, List.set_cons_zero, List.set_cons_succ]
  refine Till.last (by kernel_rfl) (by kernel_rfl) rfl (fun K hK => ?_)
  go_simp
  refine hK.out _ _ ?_
  clear hK K
  try simp only [Act.put, List.setIfInBounds_toArray, List.set_cons_zero, List.set_cons_succ]
  refine NoPanic.normal ?_
  clear hHeld
  clear hHeld
  clear z0 z1 z3 z4 z6 c0 c1 y1
  go_wp2_with fail
  refine (HI.out _ hbw1).mono ?_
  rintro e w2 ⟨a2, l2, cc2, rfl, hm2, hb2⟩
  have hbw2 : Below w0.heap.size w0 w2 := hbw1.trans (hb2.mono hbw1.size)
  clear y0 y6
  obtain ⟨-, y0, -, -, -, -, y6⟩ := HA.out _ hbw2
  go_wp2_with fail
  refine (HC0.out _ hbw2).mono ?_
  rintro e w3 ⟨a3, l3, cc3, rfl, hm3, hb3⟩
  have hbw3 : Below w0.heap.size w0 w3 := hbw2.trans (hb3.mono hbw2.size)
  clear y0 y6
  obtain ⟨-, y0, -, -, -, -, y6⟩ := HA.out _ hbw3
  have hbd4 : Below w0.heap.size w0 w3.drew := ⟨hbw3.os, hbw3.tape, hbw3.output, hbw3.size, hbw3.block⟩
  go_wp2_with fail
  refine wp_region_noPanic ?_
  refine Till.start 7 (S := fun u => u.cell? ⟨gb, 0, none⟩ = some (.pointer (some ⟨d, 0, none⟩)) ∧ u.cell? ⟨w.heap.size, 6, none⟩ = some (.slice pa pn pc)) (by kernel_rfl) ⟨y0, y6⟩ (fun hHeld => ?_)
  refine' Till.take 0 rfl (by kernel_rfl) (by kernel_rfl) (by kernel_rfl) (by kernel_rfl) (fun _ _ _ h => h) (Or.inl ⟨by rfl, ?_⟩) (by assumption) ?_
  rotate_left
  · (intro w hSw; (try dsimp only at hSw); go_simp <;> with_reducible rfl)
  try simp only [Act.put, List.setIfInBounds_toArray, List.set_cons_zero, List.set_cons_succ]
  refine' Till.take 1 rfl (by kernel_rfl) (by kernel_rfl) (by kernel_rfl) (by kernel_rfl) (fun _ _ _ h => h) (Or.inl ⟨by rfl, ?_⟩) (by assumption) ?_
  rotate_left
  · (intro w hSw; (try dsimp only at hSw); go_simp <;> with_reducible rfl)
  try simp only [Act.put, List.setIfInBounds_toArray, List.set_cons_zero, List.set_cons_succ]
  refine' Till.take 2 rfl (by kernel_rfl) (by kernel_rfl) (by kernel_rfl) (by kernel_rfl) (fun _ _ _ h => h) (Or.inl ⟨by rfl, ?_⟩) (by assumption) ?_
  rotate_left
  · (intro w hSw; (try dsimp only at hSw); go_simp <;> with_reducible rfl)
  try simp only [Act.put, List.setIfInBounds_toArray, List.set_cons_zero, List.set_cons_succ]
  refine' Till.take 3 rfl (by kernel_rfl) (by kernel_rfl) (by kernel_rfl) (by kernel_rfl) (fun _ _ _ h => h) (Or.inl ⟨by rfl, ?_⟩) (by assumption) ?_
  rotate_left
  · (intro w hSw; (try dsimp only at hSw); go_simp <;> with_reducible rfl)
  try simp only [Act.put, List.setIfInBounds_toArray, List.set_cons_zero, List.set_cons_succ]
  refine' Till.take 4 rfl (by kernel_rfl) (by kernel_rfl) (by kernel_rfl) (by kernel_rfl) (fun _ _ _ h => h) (Or.inl ⟨by rfl, ?_⟩) (by assumption) ?_
  rotate_left
  · (intro w hSw; (try dsimp only at hSw); go_simp <;> with_reducible rfl)
  try simp only [Act.put, List.setIfInBounds_toArray, List.set_cons_zero, List.set_cons_succ]
  refine' Till.take 5 rfl (by kernel_rfl) (by kernel_rfl) (by kernel_rfl) (by kernel_rfl) (fun _ _ _ h => h) (Or.inl ⟨by rfl, ?_⟩) (by assumption) ?_
  rotate_left
  · (intro w hSw; (try dsimp only at hSw); go_simp <;> with_reducible rfl)
  try simp only [Act.put, List.setIfInBounds_toArray, List.set_cons_zero, List.set_cons_succ]
  refine Till.one 6 (by kernel_rfl) rfl (fun K hK => ?_)
  go_simp
  go_at_call 20
  refine (HC.out _ hbd4).mono ?_
  rintro e w4 ⟨a4, l4, cc4, rfl, hm4, hb4⟩
  have hbw4 : Below w0.heap.size w0 w4 := hbd4.trans (hb4.mono hbd4.size)
  clear y0 y6
  obtain ⟨-, y0, -, -, -, -, y6⟩ := HA.out _ hbw4
  refine hK.out _ _ ⟨y0, y6⟩ (fun hHeld => ?_)
  clear hK K
  try simp only [Act.put, List.setIfInBounds_toArray, List.set_cons_zero, List.set_cons_succ]
  refine Till.last (by kernel_rfl) (by kernel_rfl) rfl (fun K hK => ?_)
  go_simp
  refine hK.out _ _ ?_
  clear hK K
  try simp only [Act.put, List.setIfInBounds_toArray, List.set_cons_zero, List.set_cons_succ]
  refine NoPanic.normal ?_
  clear hHeld
  clear hHeld
  go_wp2_with fail
  refine (HI.out _ hbw4).mono ?_
  rintro e w5 ⟨a5, l5, cc5, rfl, hm5, hb5⟩
  have hbw5 : Below w0.heap.size w0 w5 := hbw4.trans (hb5.mono hbw4.size)
  clear y0 y6
  obtain ⟨-, -, y0, -, -, -, y6⟩ := HA.out _ hbw5
  have hbd6 : Below w0.heap.size w0 w5.drew := ⟨hbw5.os, hbw5.tape, hbw5.output, hbw5.size, hbw5.block⟩
  go_wp2_with fail
  refine wp_region_noPanic ?_
  refine Till.start 7 (S := fun u => u.cell? ⟨gb, 1, none⟩ = some (.pointer (some ⟨gp, 0, none⟩)) ∧ u.cell? ⟨w.heap.size, 6, none⟩ = some (.slice pa pn pc)) (by kernel_rfl) ⟨y0, y6⟩ (fun hHeld => ?_)
  refine' Till.take 0 rfl (by kernel_rfl) (by kernel_rfl) (by kernel_rfl) (by kernel_rfl) (fun _ _ _ h => h) (Or.inl ⟨by rfl, ?_⟩) (by assumption) ?_
  rotate_left
  · (intro w hSw; (try dsimp only at hSw); go_simp <;> with_reducible rfl)
  try simp only [Act.put, List.setIfInBounds_toArray, List.set_cons_zero, List.set_cons_succ]
  refine' Till.take 1 rfl (by kernel_rfl) (by kernel_rfl) (by kernel_rfl) (by kernel_rfl) (fun _ _ _ h => h) (Or.inl ⟨by rfl, ?_⟩) (by assumption) ?_
  rotate_left
  · (intro w hSw; (try dsimp only at hSw); go_simp <;> with_reducible rfl)
  try simp only [Act.put, List.setIfInBounds_toArray, List.set_cons_zero, List.set_cons_succ]
  refine' Till.take 2 rfl (by kernel_rfl) (by kernel_rfl) (by kernel_rfl) (by kernel_rfl) (fun _ _ _ h => h) (Or.inl ⟨by rfl, ?_⟩) (by assumption) ?_
  rotate_left
  · (intro w hSw; (try dsimp only at hSw); go_simp <;> with_reducible rfl)
  try simp only [Act.put, List.setIfInBounds_toArray, List.set_cons_zero, List.set_cons_succ]
  refine' Till.take 3 rfl (by kernel_rfl) (by kernel_rfl) (by kernel_rfl) (by kernel_rfl) (fun _ _ _ h => h) (Or.inl ⟨by rfl, ?_⟩) (by assumption) ?_
  rotate_left
  · (intro w hSw; (try dsimp only at hSw); go_simp <;> with_reducible rfl)
  try simp only [Act.put, List.setIfInBounds_toArray, List.set_cons_zero, List.set_cons_succ]
  refine' Till.take 4 rfl (by kernel_rfl) (by kernel_rfl) (by kernel_rfl) (by kernel_rfl) (fun _ _ _ h => h) (Or.inl ⟨by rfl, ?_⟩) (by assumption) ?_
  rotate_left
  · (intro w hSw; (try dsimp only at hSw); go_simp <;> with_reducible rfl)
  try simp only [Act.put, List.setIfInBounds_toArray, List.set_cons_zero, List.set_cons_succ]
  refine' Till.take 5 rfl (by kernel_rfl) (by kernel_rfl) (by kernel_rfl) (by kernel_rfl) (fun _ _ _ h => h) (Or.inl ⟨by rfl, ?_⟩) (by assumption) ?_
  rotate_left
  · (intro w hSw; (try dsimp only at hSw); go_simp <;> with_reducible rfl)
  try simp only [Act.put, List.setIfInBounds_toArray, List.set_cons_zero, List.set_cons_succ]
  refine Till.one 6 (by kernel_rfl) rfl (fun K hK => ?_)
  go_simp
  go_at_call 21
  refine (HRC.out _ hbd6).mono ?_
  rintro e w6 ⟨a6, l6, cc6, rfl, hm6, hb6⟩
  have hbw6 : Below w0.heap.size w0 w6 := hbd6.trans (hb6.mono hbd6.size)
  clear y0 y6
  obtain ⟨-, -, y0, -, -, -, y6⟩ := HA.out _ hbw6
  refine hK.out _ _ ⟨y0, y6⟩ (fun hHeld => ?_)
  clear hK K
  try simp only [Act.put, List.setIfInBounds_toArray, List.set_cons_zero, List.set_cons_succ]
  refine Till.last (by kernel_rfl) (by kernel_rfl) rfl (fun K hK => ?_)
  go_simp
  refine hK.out _ _ ?_
  clear hK K
  try simp only [Act.put, List.setIfInBounds_toArray, List.set_cons_zero, List.set_cons_succ]
  refine NoPanic.normal ?_
  clear hHeld
  clear hHeld
  go_wp2_with fail
  refine (HRI.out _ hbw6).mono ?_
  rintro e w7 ⟨a7, l7, cc7, rfl, hm7, hb7⟩
  have hbw7 : Below w0.heap.size w0 w7 := hbw6.trans (hb7.mono hbw6.size)
  clear y0 y6
  obtain ⟨-, -, y0, -, -, -, y6⟩ := HA.out _ hbw7
  go_wp2_with fail
  refine (HRC0.out _ hbw7).mono ?_
  rintro e w8 ⟨a8, l8, cc8, rfl, hm8, hb8⟩
  have hbw8 : Below w0.heap.size w0 w8 := hbw7.trans (hb8.mono hbw7.size)
  clear y0 y6
  obtain ⟨-, -, y0, -, -, -, y6⟩ := HA.out _ hbw8
  clear y0 y6 HC HRC HC0 HRC0 HRI hbd hbd4 hbd6
  have e56 : w5.drew.heap.size = w5.heap.size := rfl
  have e34 : w3.drew.heap.size = w3.heap.size := rfl
  have e01 : w0.drew.heap.size = w0.heap.size := rfl
  have k78 : Below w7.heap.size w7 w8 := hb8
  have k68 : Below w6.heap.size w6 w8 := hb7.trans (k78.mono hb7.size)
  have k56 : Below w5.heap.size w5 w6 := ⟨hb6.os, hb6.tape, hb6.output, hb6.size, hb6.block⟩
  have k58 : Below w5.heap.size w5 w8 := k56.trans (k68.mono k56.size)
  have k48 : Below w4.heap.size w4 w8 := hb5.trans (k58.mono hb5.size)
  have k34 : Below w3.heap.size w3 w4 := ⟨hb4.os, hb4.tape, hb4.output, hb4.size, hb4.block⟩
  have k38 : Below w3.heap.size w3 w8 := k34.trans (k48.mono k34.size)
  have k28 : Below w2.heap.size w2 w8 := hb3.trans (k38.mono hb3.size)
  have k18 : Below w1.heap.size w1 w8 := hb2.trans (k28.mono hb2.size)
  have s01 : w0.heap.size ≤ w1.heap.size := hbw1.size
  have s12 := hb2.size
  have s23 := hb3.size
  have s34 := k34.size
  have s45 := hb5.size
  have s56 := k56.size
  have s67 := hb7.size
  have s78 := hb8.size
  rw [e01] at hm1
  rw [e34] at hm4
  rw [e56] at hm6
  have HM1 := Hid.mkR hm1
  have HM2 := Hid.mkR hm2
  have HM3 := Hid.mkR hm3
  have HM4 := Hid.mkR hm4
  have HM5 := Hid.mkR hm5
  have HM6 := Hid.mkR hm6
  have HM7 := Hid.mkR hm7
  have HM8 := Hid.mkR hm8
  have HK : Hid (∀ u, Below w8.heap.size w8 u → Below w1.heap.size w1 u ∧ Below w2.heap.size w2 u ∧ Below w3.heap.size w3 u ∧ Below w4.heap.size w4 u ∧ Below w5.heap.size w5 u ∧ Below w6.heap.size w6 u ∧ Below w7.heap.size w7 u ∧ Below w0.heap.size w0 u) := fun u hu => ⟨k18.trans (hu.mono k18.size), k28.trans (hu.mono k28.size), k38.trans (hu.mono k38.size), k48.trans (hu.mono k48.size), k58.trans (hu.mono k58.size), k68.trans (hu.mono k68.size), k78.trans (hu.mono k78.size), hbw8.trans (hu.mono hbw8.size)⟩
  have HIM : Hid (∀ u, Below w8.heap.size w8 u → ImR u (.slice a1 l1 cc1) im1 ∧ ImR u (.slice a2 l2 cc2) im2 ∧ ImR u (.slice a3 l3 cc3) im3 ∧ ImR u (.slice a4 l4 cc4) im1 ∧ ImR u (.slice a5 l5 cc5) im2 ∧ ImR u (.slice a6 l6 cc6) im1 ∧ ImR u (.slice a7 l7 cc7) im2 ∧ ImR u (.slice a8 l8 cc8) im3) := fun u hu => by
    obtain ⟨t1, t2, t3, t4, t5, t6, t7, -⟩ := HK.out u hu
    exact ⟨(HM1.out.later t1).read, (HM2.out.later t2).read, (HM3.out.later t3).read, (HM4.out.later t4).read, (HM5.out.later t5).read, (HM6.out.later t6).read, (HM7.out.later t7).read, (HM8.out.later hu).read⟩
  have b8 : Below w8.heap.size w8 w8 := Below.refl _ _
  clear hm1 hm2 hm3 hm4 hm5 hm6 hm7 hm8 hb1 hb2 hb3 hb4 hb5 hb6 hb7 hb8 k78 k68 k56 k58 k48 k34 k38 k28 k18 hbw1 hbw2 hbw3 hbw4 hbw5 hbw6 hbw7 hbw8 e01 e34 e56
  have HSI := Hid.mkR (sameImageEq _ _ im1 w8 (HIM.out _ b8).1 (HIM.out _ b8).2.2.2.2.2.1)
  go_wp2_with fail
  refine HSI.out.mono ?_
  rintro e w9 ⟨rfl, hb9⟩
  have b9 : Below w8.heap.size w8 w9 := b8.trans (hb9.mono b8.size)
  clear HSI hb9
  have HSI := Hid.mkR (sameImageEq _ _ im1 w9 (HIM.out _ b9).2.2.2.1 (HIM.out _ b9).2.2.2.2.2.1)
  go_wp2_with fail
  refine HSI.out.mono ?_
  rintro e w10 ⟨rfl, hb10⟩
  have b10 : Below w8.heap.size w8 w10 := b9.trans (hb10.mono b9.size)
  clear HSI hb10
  have HSI := Hid.mkR (sameImageEq _ _ im2 w10 (HIM.out _ b10).2.1 (HIM.out _ b10).2.2.2.2.2.2.1)
  go_wp2_with fail
  refine HSI.out.mono ?_
  rintro e w11 ⟨rfl, hb11⟩
  have b11 : Below w8.heap.size w8 w11 := b10.trans (hb11.mono b10.size)
  clear HSI hb11
  have HSI := Hid.mkR (sameImageEq _ _ im2 w11 (HIM.out _ b11).2.2.2.2.1 (HIM.out _ b11).2.2.2.2.2.2.1)
  go_wp2_with fail
  refine HSI.out.mono ?_
  rintro e w12 ⟨rfl, hb12⟩
  have b12 : Below w8.heap.size w8 w12 := b11.trans (hb12.mono b11.size)
  clear HSI hb12
  have HSI := Hid.mkR (sameImageEq _ _ im3 w12 (HIM.out _ b12).2.2.1 (HIM.out _ b12).2.2.2.2.2.2.2)
  go_wp2_with fail
  refine HSI.out.mono ?_
  rintro e w13 ⟨rfl, hb13⟩
  have b13 : Below w8.heap.size w8 w13 := b12.trans (hb13.mono b12.size)
  clear HSI hb13
  have q13 := HK.out _ b13
  have HG1 := Hid.mkR (goneOf w1 w13 a1 l1 cc1 im1 w0.heap.size HM1.out q13.1.size (fun x h1 h2 => q13.1.block x h2) HL1.out.1 HL1.out.2)
  have HQ13 := Hid.mkR q13
  clear q13 b8 b9 b10 b11 b12 HIM
  go_wp2_with fail
  refine HG1.out.mono ?_
  rintro e w14 ⟨⟨zz, rfl⟩, hc14⟩
  have HG2 := Hid.mkR (goneOf w2 w14 a2 l2 cc2 im2 w1.heap.size HM2.out (Nat.le_trans HQ13.out.2.1.size hc14.size) (fun x h1 h2 => (hc14.block x (Nat.lt_of_lt_of_le h2 HQ13.out.2.1.size) (by intro e; have := e.2; omega)).trans (HQ13.out.2.1.block x h2)) HL2.out.1 HL2.out.2)
  have HC14 := Hid.mkR hc14
  clear hc14 HG1
  go_wp2_with fail
  refine HG2.out.mono ?_
  rintro e w15 ⟨⟨zz2, rfl⟩, hc15⟩
  have HB15 : Hid (Below w0.heap.size w0 w15) := chgB (chgB HQ13.out.2.2.2.2.2.2.2 (Nat.le_refl _) HC14.out (fun x e => e.1)) (Nat.le_refl _) hc15 (fun x e => by have := e.1; omega)
  have g3 := HM3.out.past HQ13.out.2.2.1 HC14.out hc15 (fun x h1 e => by have := e.2; omega) (fun x h1 e => by have := e.2; omega)
  have g4 := HM4.out.past HQ13.out.2.2.2.1 HC14.out hc15 (fun x h1 e => by have := e.2; omega) (fun x h1 e => by have := e.2; omega)
  have g5 := HM5.out.past HQ13.out.2.2.2.2.1 HC14.out hc15 (fun x h1 e => by have := e.2; omega) (fun x h1 e => by have := e.2; omega)
  have g6 := HM6.out.past HQ13.out.2.2.2.2.2.1 HC14.out hc15 (fun x h1 e => by have := e.2; omega) (fun x h1 e => by have := e.2; omega)
  have g7 := HM7.out.past HQ13.out.2.2.2.2.2.2.1 HC14.out hc15 (fun x h1 e => by have := e.2; omega) (fun x h1 e => by have := e.2; omega)
  have g8 := HM8.out.past b13 HC14.out hc15 (fun x h1 e => by have := e.2; omega) (fun x h1 e => by have := e.2; omega)
  have HIM : Hid (∀ u, Below w15.heap.size w15 u → ImR u (.slice a3 l3 cc3) im3 ∧ ImR u (.slice a4 l4 cc4) im1 ∧ ImR u (.slice a5 l5 cc5) im2 ∧ ImR u (.slice a6 l6 cc6) im1 ∧ ImR u (.slice a7 l7 cc7) im2 ∧ ImR u (.slice a8 l8 cc8) im3 ∧ Below w0.heap.size w0 u) := fun u hu => ⟨(g3.later hu).read, (g4.later hu).read, (g5.later hu).read, (g6.later hu).read, (g7.later hu).read, (g8.later hu).read, HB15.out.trans (hu.mono HB15.out.size)⟩
  have b15 : Below w15.heap.size w15 w15 := Below.refl _ _
  clear g3 g4 g5 g6 g7 g8 hc15 HC14 HG2 HM1 HM2 HM3 HM4 HM5 HM6 HM7 HM8 HK HQ13 b13 HL1 HL2 s01 s12 s23 s34 s45 s56 s67 s78
  obtain ⟨-, y0, -⟩ := HA.out _ HB15.out
  have HSI := Hid.mkR (sameImageEq _ _ im1 w15 (HIM.out _ b15).2.1 (HIM.out _ b15).2.2.2.1)
  go_wp2_with fail
  refine HSI.out.mono ?_
  rintro e w16 ⟨rfl, hb16⟩
  have b16 : Below w15.heap.size w15 w16 := b15.trans (hb16.mono b15.size)
  clear HSI hb16 y0
  obtain ⟨-, y0, -⟩ := HA.out _ (HIM.out _ b16).2.2.2.2.2.2
  have HSI := Hid.mkR (sameImageEq _ _ im2 w16 (HIM.out _ b16).2.2.1 (HIM.out _ b16).2.2.2.2.1)
  go_wp2_with fail
  refine HSI.out.mono ?_
  rintro e w17 ⟨rfl, hb17⟩
  have b17 : Below w15.heap.size w15 w17 := b16.trans (hb17.mono b16.size)
  clear HSI hb17 y0
  obtain ⟨-, y0, -⟩ := HA.out _ (HIM.out _ b17).2.2.2.2.2.2
  have HSI := Hid.mkR (sameImageEq _ _ im3 w17 (HIM.out _ b17).1 (HIM.out _ b17).2.2.2.2.2.1)
  go_wp2_with fail
  refine HSI.out.mono ?_
  rintro e w18 ⟨rfl, hb18⟩
  have b18 : Below w15.heap.size w15 w18 := b17.trans (hb18.mono b17.size)
  clear HSI hb18 y0
  obtain ⟨-, y0, -⟩ := HA.out _ (HIM.out _ b18).2.2.2.2.2.2
  go_wp2_with fail
  refine (HI.out _ (HIM.out _ b18).2.2.2.2.2.2).mono ?_
  rintro e w19 ⟨a9, l9, cc9, rfl, hm9, hb19⟩
  have b19 : Below w15.heap.size w15 w19 := b18.trans (hb19.mono b18.size)
  have HSI := Hid.mkR (sameImageEq _ _ im2 w19 hm9.read (HIM.out _ b19).2.2.2.2.1)
  clear hm9 hb19 y0
  go_wp2_with fail
  refine HSI.out.mono ?_
  rintro e w20 ⟨rfl, hb20⟩
  have HF : Hid (Below w.heap.size w w20) := HB0.out.trans ((HIM.out _ (b19.trans (hb20.mono b19.size))).2.2.2.2.2.2.mono HB0.out.size)
  clear HSI hb20 HIM HA HI HB15
  go_wp2
  go_ret
  exact ⟨by first | rfl | simp, HF.out⟩
end Go.Proofs.YthcnhjmkcekdaaaGreat
