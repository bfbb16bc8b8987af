import Derived.Test.YthcnhjmkcekdaaaGreatQs43
import Derived.Test.YthcnhjmkcekdaaaGreatQs41
import Derived.Test.YthcnhjmkcekdaaaGreatQs29
namespace Go.Proofs.YthcnhjmkcekdaaaGreat
open Go.RowKit Go.Maps Plain
set_option linter.unusedVariables false
set_option linter.unusedSimpArgs false
set_option maxHeartbeats 8000000 in
set_option maxRecDepth 1000000 in
theorem stepNone {W w : World} {gb d gp n : Nat} {k : Dk} {r : Rk} (h : BoAt W gb d gp k r w) (hi : BInv k r n) (hdi : DInv r) (kd : Int) (hkd : kd < 1 ∨ 14 < kd) (nm to : ByteArray) (at' m : Int) (vb vp : Value) (hm : I64 m) :
    Calls Tryz.prog 7 #[.pointer (some ⟨gb, 0, none⟩), stepV kd nm to at' m vb vp] w fun e w' => e = .returned (.bool true) ∧ BoI W gb n w' := by
  obtain ⟨w0, hw0⟩ : ∃ w0, w.alloc (.cells #[.int .i64 kd, .string nm, .string to, .int .i64 at', .int .i64 m, vb, vp] 37) = w0 := ⟨_, rfl⟩
  have hb0 : Below w.heap.size w w0 := by rw [← hw0]; exact (Below.refl _ _).alloc (Nat.le_refl _) _
  have hs0 : w0.heap.size = w.heap.size + 1 := by rw [← hw0]; simp
  have hx0 : w0.heap[w.heap.size]? = some (.cells #[.int .i64 kd, .string nm, .string to, .int .i64 at', .int .i64 m, vb, vp] 37) := by rw [← hw0]; show (w.heap.push _)[w.heap.size]? = _; simp
  have HSB : Hid (∀ u : World, u.heap[w.heap.size]? = some (.cells #[.int .i64 kd, .string nm, .string to, .int .i64 at', .int .i64 m, vb, vp] 37) → u.cell? ⟨w.heap.size, 0, none⟩ = some (.int .i64 kd) ∧ u.cell? ⟨w.heap.size, 4, none⟩ = some (.int .i64 m)) := fun u hu => by simp [World.cell?, hu]
  obtain ⟨z0, z4⟩ := HSB.out _ hx0
  obtain ⟨c0, c1, -, -⟩ := (h.later hb0).box
  have hbd : Below w.heap.size w w0.drew := ⟨hb0.os, hb0.tape, hb0.output, hb0.size, hb0.block⟩
  have HF : Hid (BoI W gb n w0) := ⟨d, gp, k, r, h.later hb0, hi, hdi⟩
  have n1 : ¬ kd = 1 := by omega
  have n2 : ¬ kd = 2 := by omega
  have n3 : ¬ kd = 3 := by omega
  have n4 : ¬ kd = 4 := by omega
  have n5 : ¬ kd = 5 := by omega
  have n6 : ¬ kd = 6 := by omega
  have n7 : ¬ kd = 7 := by omega
  have n8 : ¬ kd = 8 := by omega
  have n9 : ¬ kd = 9 := by omega
  have n10 : ¬ kd = 10 := by omega
  have n11 : ¬ kd = 11 := by omega
  have n12 : ¬ kd = 12 := by omega
  have n13 : ¬ kd = 13 := by omega
  have n14 : ¬ kd = 14 := by omega
  clear h hi hdi hkd
  go_enter Tryz.func7, Tryz.ntmps7
  go_wp2
  go_ret
  exact ⟨rfl, HF.out⟩
end Go.Proofs.YthcnhjmkcekdaaaGreat

namespace Go.Proofs.YthcnhjmkcekdaaaGreat
open Go.RowKit Go.Maps Plain
set_option linter.unusedVariables false
set_option linter.unusedSimpArgs false
theorem BoAt.crash {W w : World} {gb d gp n : Nat} {k : Dk} {r : Rk} (h : BoAt W gb d gp k r w) (hi : BInv k r n) (hn : n ≤ 2000000000000) {a : Option Addr} {m c : Nat} {ps : List Int} (hps : PicksAt w (.slice a m c) ps) (hpo : PicksOff w.heap.size (.slice a m c)) : Calls Tryz.prog 20 #[.pointer (some ⟨d, 0, none⟩), .slice a m c] w fun e w' => ∃ a l c, e = .returned (.slice a l c) ∧ ImgAt w' (.slice a l c) (crR r.ps ps) w.heap.size ∧ Below w.heap.size w w' := by
  obtain ⟨T, h1, -⟩ := h.disk
  rw [hi.crash hn ps]
  exact crashP h1 hi.dok hi.past hn hps hpo
theorem BoAt.rcrash {W w : World} {gb d gp n : Nat} {k : Dk} {r : Rk} (h : BoAt W gb d gp k r w) (hi : BInv k r n) (hn : n ≤ 2000000000000) {a : Option Addr} {m c : Nat} {ps : List Int} (hps : PicksAt w (.slice a m c) ps) (hpo : PicksOff w.heap.size (.slice a m c)) : Calls Tryz.prog 21 #[.pointer (some ⟨gp, 0, none⟩), .slice a m c] w fun e w' => ∃ a l c, e = .returned (.slice a l c) ∧ ImgAt w' (.slice a l c) (crR r.ps ps) w.heap.size ∧ Below w.heap.size w w' := by
  obtain ⟨T, ⟨B, blk, vF, vD, xs, dv, sv, tv, h1, -⟩, -⟩ := h.doc
  exact rcrashOf h1 (hi.bd hn).ok hps hpo (fun f hf i => (hi.inv.fo f hf).gw i) (fun f hf i => by have := (hi.inv.fo f hf).sz i; omega)
/-- Both disks are others: the box is set. -/
theorem BoAt.set {W w wa wb w1 w2 : World} {gb d gp d' gp' : Nat} {k k' : Dk} {r r' : Rk} (h : BoAt W gb d gp k r w) (hba : Below w.heap.size w wa) (hD : Dsk wa d' k' wb) (hbb : Below wa.heap.size wa wb) (hR : RdNew wb gp' r' w1) (e2 : (w1.setCell ⟨gb, 0, none⟩ (.pointer (some ⟨d', 0, none⟩))).setCell ⟨gb, 1, none⟩ (.pointer (some ⟨gp', 0, none⟩)) = w2) : BoAt W gb d' gp' k' r' w2 := by
  obtain ⟨h0, hx, hg, -⟩ := h
  obtain ⟨hD1, S, hD2, hD3⟩ := hD
  obtain ⟨hR1, hR2⟩ := hR
  have hgl := (Array.getElem?_eq_some_iff.mp hx).1
  have s0 := h0.size
  have s1 := hba.size
  have s2 := hbb.size
  have s3 := hR2.size
  have hb1 : Below w.heap.size w w1 := hba.trans ((hbb.trans (hR2.mono s2)).mono s1)
  have hx1 : w1.heap[gb]? = some (.cells #[.pointer (some ⟨d, 0, none⟩), .pointer (some ⟨gp, 0, none⟩)] 32) := (hb1.block gb hgl).trans hx
  have g1 := grow_set w1 gb 0 (.pointer (some ⟨d', 0, none⟩))
  have x1 := heap_setCell_same w1 gb 0 _ _ (.pointer (some ⟨d', 0, none⟩)) hx1
  generalize w1.setCell ⟨gb, 0, none⟩ (.pointer (some ⟨d', 0, none⟩)) = u at *
  have g2 := grow_set u gb 1 (.pointer (some ⟨gp', 0, none⟩))
  have x2 := heap_setCell_same u gb 1 _ _ (.pointer (some ⟨gp', 0, none⟩)) x1
  rw [e2] at g2 x2
  have hsz := Nat.le_trans g1.size g2.size
  have hbl : ∀ x, x < w1.heap.size → x ≠ gb → w2.heap[x]? = w1.heap[x]? := fun x hx hne => (g2.block x (Nat.lt_of_lt_of_le hx g1.size) (fun e => hne (Option.some.inj e))).trans (g1.block x hx (fun e => hne (Option.some.inj e)))
  obtain ⟨B, blk, vF, vD, xs, dv, sv, tv, hM, hT⟩ := hR1
  have hSw : ∀ x, S x → wa.heap.size ≤ x ∧ x < wb.heap.size := fun x hx => ⟨hD3 x hx, hD2.rng x hx⟩
  have hTw : ∀ x, rdT gp' B blk x → wb.heap.size ≤ x ∧ x < w1.heap.size := fun x hx => ⟨hT x hx, hM.lt x hx⟩
  have h01 : Below W.heap.size W w1 := h0.trans (hb1.mono s0)
  refine ⟨⟨g2.os.trans (g1.os.trans h01.os), g2.tape.trans (g1.tape.trans h01.tape), g2.output.trans (g1.output.trans h01.output), by have := h01.size; omega, fun x hx => (hbl x (by have := h01.size; omega) (by omega)).trans (h01.block x hx)⟩, ?_, hg, S, rdT gp' B blk, ?_, ⟨B, blk, vF, vD, xs, dv, sv, tv, hM.kept hsz (fun x hx => hbl x (hTw x hx).2 (by have := (hTw x hx).1; omega)), fun x e => e⟩, fun x hx => ⟨fun e => ?_, ?_, ?_⟩, fun x hx => ⟨?_, ?_, ?_⟩⟩
  · rw [x2]; rfl
  · have hc : Chg (fun x => x = gb) wb w2 := ⟨g2.os.trans (g1.os.trans hR2.os), g2.tape.trans (g1.tape.trans hR2.tape), g2.output.trans (g1.output.trans hR2.output), by omega, fun x hx hne => (hbl x (by omega) hne).trans (hR2.block x hx)⟩
    exact hD2.apart hc (fun x hx e => by have := (hSw x hx).1; omega)
  · have := (hSw x hx).2; have := (hTw x e).1; omega
  · have := (hSw x hx).1; omega
  · have := (hSw x hx).1; omega
  · have := (hTw x hx).1; omega
  · have := (hTw x hx).2; omega
  · have := (hTw x hx).1; omega
end Go.Proofs.YthcnhjmkcekdaaaGreat

namespace Go.Proofs.YthcnhjmkcekdaaaGreat
open Go.RowKit Go.Maps Plain
set_option linter.unusedVariables false
set_option linter.unusedSimpArgs false
set_option maxHeartbeats 8000000 in
set_option maxRecDepth 1000000 in
theorem stepReborn {W w : World} {gb d gp n : Nat} {k : Dk} {r : Rk} (h : BoAt W gb d gp k r w) (hi : BInv k r n) (hdi : DInv r) (hn : n ≤ 2000000000000) (hn0 : 65536 ≤ n) (nm to : ByteArray) (at' m : Int) (vb : Value) {pa : Option Addr} {pn pc : Nat} {ps : List Int} (hps : ∀ w', Below W.heap.size W w' → PicksAt w' (.slice pa pn pc) ps) (hpo : ∀ C, W.heap.size ≤ C → PicksOff C (.slice pa pn pc)) :
    Calls Tryz.prog 7 #[.pointer (some ⟨gb, 0, none⟩), stepV 14 nm to at' m vb (.slice pa pn pc)] w fun e w' => e = .returned (.bool true) ∧ BoI W gb n w' := by
  obtain ⟨w0, hw0⟩ : ∃ w0, w.alloc (.cells #[.int .i64 14, .string nm, .string to, .int .i64 at', .int .i64 m, vb, .slice pa pn pc] 37) = w0 := ⟨_, rfl⟩
  have hb0 : Below w.heap.size w w0 := by rw [← hw0]; exact (Below.refl _ _).alloc (Nat.le_refl _) _
  have hs0 : w0.heap.size = w.heap.size + 1 := by rw [← hw0]; simp
  have hx0 : w0.heap[w.heap.size]? = some (.cells #[.int .i64 14, .string nm, .string to, .int .i64 at', .int .i64 m, vb, .slice pa pn pc] 37) := by rw [← hw0]; show (w.heap.push _)[w.heap.size]? = _; simp
  have z0 : w0.cell? ⟨w.heap.size, 0, none⟩ = some (.int .i64 14) := by simp [World.cell?, hx0]
  have z6 : w0.cell? ⟨w.heap.size, 6, none⟩ = some (.slice pa pn pc) := by simp [World.cell?, hx0]
  have hbd : Below w0.heap.size w0 w0.drew := ⟨rfl, rfl, rfl, Nat.le_refl _, fun _ _ => rfl⟩
  have HA : Hid (∀ u, Below w0.heap.size w0 u → BoAt W gb d gp k r u ∧ u.cell? ⟨gb, 0, none⟩ = some (.pointer (some ⟨d, 0, none⟩)) ∧ u.cell? ⟨gb, 1, none⟩ = some (.pointer (some ⟨gp, 0, none⟩)) ∧ u.frozen? ⟨gb, 0, none⟩ = false ∧ u.frozen? ⟨gb, 1, none⟩ = false ∧ u.cell? ⟨w.heap.size, 6, none⟩ = some (.slice pa pn pc)) := fun u hu => by
    have h1 := (h.later hb0).later hu
    exact ⟨h1, h1.box.1, h1.box.2.1, h1.box.2.2.1, h1.box.2.2.2, (hu.cell (cell_lt z6)).trans z6⟩
  obtain ⟨c0, c1, -, -⟩ := (h.later hb0).box
  have hbd' := hi.bd hn
  obtain ⟨hok, hpw⟩ := crash_ok hdi hi.asc hi.inv hbd' ps
  have HOK := Hid.mkR hok
  have HPW := Hid.mkR hpw
  have HLN := Hid.mkR (hi.inv.crash hbd' ps)
  have HQ : Hid (qB r.most = true) := by unfold Hid; have := hbd'.most; simp [qB]; omega
  have HC : Hid (∀ u, Below w0.heap.size w0 u → Calls Tryz.prog 20 #[.pointer (some ⟨d, 0, none⟩), .slice pa pn pc] u fun e w' => ∃ a l c, e = .returned (.slice a l c) ∧ ImgAt w' (.slice a l c) (crR r.ps ps) u.heap.size ∧ Below u.heap.size u w') := fun u hu => (HA.out u hu).1.crash hi hn (hps u (HA.out u hu).1.below) (hpo _ (HA.out u hu).1.below.size)
  have HRC : Hid (∀ u, Below w0.heap.size w0 u → Calls Tryz.prog 21 #[.pointer (some ⟨gp, 0, none⟩), .slice pa pn pc] u fun e w' => ∃ a l c, e = .returned (.slice a l c) ∧ ImgAt w' (.slice a l c) (crR r.ps ps) u.heap.size ∧ Below u.heap.size u w') := fun u hu => (HA.out u hu).1.rcrash hi hn (hps u (HA.out u hu).1.below) (hpo _ (HA.out u hu).1.below.size)
  have HH := Hid.mkR h
  clear h hi hdi hok hpw hbd'
  generalize crR r.ps ps = im at *
  go_enter Tryz.func7, Tryz.ntmps7
  go_wp2_with fail
  refine wp_region_noPanic ?_
  refine Till.start 7 (S := fun u => u.cell? ⟨gb, 0, none⟩ = some (.pointer (some ⟨d, 0, none⟩)) ∧ u.cell? ⟨w.heap.size, 6, none⟩ = some (.slice pa pn pc)) (by kernel_rfl) ⟨c0, z6⟩ (fun hHeld => ?_)
  refine' Till.take 0 rfl (by kernel_rfl) (by kernel_rfl) (by kernel_rfl) (by kernel_rfl) (fun _ _ _ h => h) (Or.inl ⟨by rfl, ?_⟩) (by assumption) ?_
  rotate_left
  · (intro w hSw; (try dsimp only at hSw); go_simp <;> with_reducible rfl)
  try simp only [Act.put, List.setIfInBounds_toArray, List.set_cons_zero, List.set_cons_succ]
  refine' Till.take 1 rfl (by kernel_rfl) (by kernel_rfl) (by kernel_rfl) (by kernel_rfl) (fun _ _ _ h => h) (Or.inl ⟨by rfl, ?_⟩) (by assumption) ?_
  rotate_left
  · (intro w hSw; (try dsimp only at hSw); go_simp <;> with_reducible rfl)
  try simp only [Act.put, List.setIfInBounds_toArray, List.set_cons_zero, List.set_cons_succ]
  refine' Till.take 2 rfl (by kernel_rfl) (by kernel_rfl) (by kernel_rfl) (by kernel_rfl) (fun _ _ _ h => h) (Or.inl ⟨by rfl, ?_⟩) (by assumption) ?_
  rotate_left
  · (intro w hSw; (try dsimp only at hSw); go_simp <;> with_reducible rfl)
  try simp only [Act.put, List.setIfInBounds_toArray, List.set_cons_zero, List.set_cons_succ]
  refine' Till.take 3 rfl (by kernel_rfl) (by kernel_rfl) (by kernel_rfl) (by kernel_rfl) (fun _ _ _ h => h) (Or.inl ⟨by rfl, ?_⟩) (by assumption) ?_
  rotate_left
  · (intro w hSw; (try dsimp only at hSw); go_simp <;> with_reducible rfl)
  try simp only [Act.put, List.setIfInBounds_toArray, List.set_cons_zero, List.set_cons_succ]
  refine' Till.take 4 rfl (by kernel_rfl) (by kernel_rfl) (by kernel_rfl) (by kernel_rfl) (fun _ _ _ h => h) (Or.inl ⟨by rfl, ?_⟩) (by assumption) ?_
  rotate_left
  · (intro w hSw; (try dsimp only at hSw); go_simp <;> with_reducible rfl)
  try simp only [Act.put, List.setIfInBounds_toArray, List.set_cons_zero, List.set_cons_succ]
  refine' Till.take 5 rfl (by kernel_rfl) (by kernel_rfl) (by kernel_rfl) (by kernel_rfl) (fun _ _ _ h => h) (Or.inl ⟨by rfl, ?_⟩) (by assumption) ?_
  rotate_left
  · (intro w hSw; (try dsimp only at hSw); go_simp <;> with_reducible rfl)
  try simp only [Act.put, List.setIfInBounds_toArray, List.set_cons_zero, List.set_cons_succ]
  refine Till.one 6 (by kernel_rfl) rfl (fun K hK => ?_)
  go_simp
  go_at_call 20
  refine (HC.out _ hbd).mono ?_
  rintro e w2 ⟨ax, lx, cx, rfl, hmx, hb2⟩
  have hbw2 : Below w0.heap.size w0 w2 := hbd.trans (hb2.mono hbd.size)
  obtain ⟨-, y0, y1, -, -, y6⟩ := HA.out _ hbw2
  refine hK.out _ _ ⟨y0, y6⟩ (fun hHeld => ?_)
  clear hK K
  try simp only [Act.put, List.setIfInBounds_toArray, List.set_cons_zero, List.set_cons_succ]
  refine Till.last (by kernel_rfl) (by kernel_rfl) rfl (fun K hK => ?_)
  go_simp
  refine hK.out _ _ ?_
  clear hK K
  try simp only [Act.put, List.setIfInBounds_toArray, List.set_cons_zero, List.set_cons_succ]
  refine NoPanic.normal ?_
  clear hHeld
  clear hHeld
  clear HC z0 z6 c0 c1
  have hbd2 : Below w0.heap.size w0 w2.drew := ⟨hbw2.os, hbw2.tape, hbw2.output, hbw2.size, hbw2.block⟩
  have hbe2 : Below w2.heap.size w2 w2.drew := ⟨rfl, rfl, rfl, Nat.le_refl _, fun _ _ => rfl⟩
  go_wp2_with fail
  refine wp_region_noPanic ?_
  refine Till.start 7 (S := fun u => u.cell? ⟨gb, 1, none⟩ = some (.pointer (some ⟨gp, 0, none⟩)) ∧ u.cell? ⟨w.heap.size, 6, none⟩ = some (.slice pa pn pc)) (by kernel_rfl) ⟨y1, y6⟩ (fun hHeld => ?_)
  refine' Till.take 0 rfl (by kernel_rfl) (by kernel_rfl) (by kernel_rfl) (by kernel_rfl) (fun _ _ _ h => h) (Or.inl ⟨by rfl, ?_⟩) (by assumption) ?_
  rotate_left
  · (intro w hSw; (try dsimp only at hSw); go_simp <;> with_reducible rfl)
  try simp only [Act.put, List.setIfInBounds_toArray, List.set_cons_zero, List.set_cons_succ]
  refine' Till.take 1 rfl (by kernel_rfl) (by kernel_rfl) (by kernel_rfl) (by kernel_rfl) (fun _ _ _ h => h) (Or.inl ⟨by rfl, ?_⟩) (by assumption) ?_
  rotate_left
  · (intro w hSw; (try dsimp only at hSw); go_simp <;> with_reducible rfl)
  try simp only [Act.put, List.setIfInBounds_toArray, List.set_cons_zero, List.set_cons_succ]
  refine' Till.take 2 rfl (by kernel_rfl) (by kernel_rfl) (by kernel_rfl) (by kernel_rfl) (fun _ _ _ h => h) (Or.inl ⟨by rfl, ?_⟩) (by assumption) ?_
  rotate_left
  · (intro w hSw; (try dsimp only at hSw); go_simp <;> with_reducible rfl)
  try simp only [Act.put, List.setIfInBounds_toArray, List.set_cons_zero, List.set_cons_succ]
  refine' Till.take 3 rfl (by kernel_rfl) (by kernel_rfl) (by kernel_rfl) (by kernel_rfl) (fun _ _ _ h => h) (Or.inl ⟨by rfl, ?_⟩) (by assumption) ?_
  rotate_left
  · (intro w hSw; (try dsimp only at hSw); go_simp <;> with_reducible rfl)
  try simp only [Act.put, List.setIfInBounds_toArray, List.set_cons_zero, List.set_cons_succ]
  refine' Till.take 4 rfl (by kernel_rfl) (by kernel_rfl) (by kernel_rfl) (by kernel_rfl) (fun _ _ _ h => h) (Or.inl ⟨by rfl, ?_⟩) (by assumption) ?_
  rotate_left
  · (intro w hSw; (try dsimp only at hSw); go_simp <;> with_reducible rfl)
  try simp only [Act.put, List.setIfInBounds_toArray, List.set_cons_zero, List.set_cons_succ]
  refine' Till.take 5 rfl (by kernel_rfl) (by kernel_rfl) (by kernel_rfl) (by kernel_rfl) (fun _ _ _ h => h) (Or.inl ⟨by rfl, ?_⟩) (by assumption) ?_
  rotate_left
  · (intro w hSw; (try dsimp only at hSw); go_simp <;> with_reducible rfl)
  try simp only [Act.put, List.setIfInBounds_toArray, List.set_cons_zero, List.set_cons_succ]
  refine Till.one 6 (by kernel_rfl) rfl (fun K hK => ?_)
  go_simp
  go_at_call 21
  refine (HRC.out _ hbd2).mono ?_
  rintro e w3 ⟨ay, ly, cy, rfl, hmy, hb3⟩
  have hbw3 : Below w0.heap.size w0 w3 := hbd2.trans (hb3.mono hbd2.size)
  have hbe3 : Below w2.heap.size w2 w3 := hbe2.trans (hb3.mono hbe2.size)
  obtain ⟨-, x0, x1, -, -, x6⟩ := HA.out _ hbw3
  refine hK.out _ _ ⟨x1, x6⟩ (fun hHeld => ?_)
  clear hK K
  try simp only [Act.put, List.setIfInBounds_toArray, List.set_cons_zero, List.set_cons_succ]
  refine Till.last (by kernel_rfl) (by kernel_rfl) rfl (fun K hK => ?_)
  go_simp
  refine hK.out _ _ ?_
  clear hK K
  try simp only [Act.put, List.setIfInBounds_toArray, List.set_cons_zero, List.set_cons_succ]
  refine NoPanic.normal ?_
  clear hHeld
  clear hHeld
  have hmx3 := hmx.later hbe3
  have HSI := Hid.mkR (sameImageEq _ _ im w3 hmx3.read hmy.read)
  clear HRC y0 y1 y6 hbe2 hbd2 hb2 hb3 hmx
  go_wp2_with fail
  refine HSI.out.mono ?_
  rintro e w4 ⟨rfl, hb4⟩
  have hbw4 : Below w0.heap.size w0 w4 := hbw3.trans (hb4.mono hbw3.size)
  obtain ⟨hA4, x0, x1, -, -, -⟩ := HA.out _ hbw4
  have HRQ := Hid.mkR hA4.rquota
  have HLD := Hid.mkR (loadIm r.most HQ.out _ im w4 (hmx3.later hb4).read HOK.out)
  have hmy4 := hmy.later hb4
  clear HSI hmx3 hmy hA4
  go_wp2_with fail
  refine HRQ.out.mono ?_
  rintro e w' ⟨rfl, rfl⟩
  go_wp2_with fail
  refine HLD.out.mono ?_
  rintro e w5 ⟨xs, k5, d5, hxs, hld, rfl, hdk⟩
  have hb5 := hdk.1
  have hbw5 : Below w0.heap.size w0 w5 := hbw4.trans (hb5.mono hbw4.size)
  obtain ⟨hA5, v0, v1, -, -, -⟩ := HA.out _ hbw5
  have HRQ5 := Hid.mkR hA5.rquota
  have HRL := Hid.mkR (rloadIm r.most HQ.out _ im w5 (hmy4.later hb5).read HOK.out (fun p hp => by have := HLN.out p hp; omega))
  clear HRQ HLD hA5 hmy4 x0 x1
  go_wp2_with fail
  refine HRQ5.out.mono ?_
  rintro e w'' ⟨rfl, rfl⟩
  go_wp2_with fail
  refine HRL.out.mono ?_
  rintro e w6 ⟨gp6, rfl, hrn⟩
  have hbw6 : Below w0.heap.size w0 w6 := hbw5.trans (hrn.2.mono hbw5.size)
  obtain ⟨-, u0, u1, f0, f1, -⟩ := HA.out _ hbw6
  have HF : Hid (BoI W gb n ((w6.setCell ⟨gb, 0, none⟩ (.pointer (some ⟨d5, 0, none⟩))).setCell ⟨gb, 1, none⟩ (.pointer (some ⟨gp6, 0, none⟩)))) := ⟨d5, gp6, _, _, HH.out.set (hb0.trans (hbw4.mono hb0.size)) hdk hb5 hrn rfl, BInv.born hld hxs HPW.out HOK.out.few HLN.out hn0, DInv.born HOK.out.few HOK.out.names⟩
  have hx6 := heap_setCell_same w6 gb 0 _ _ (.pointer (some ⟨d5, 0, none⟩)) (HA.out _ hbw6).1.2.1
  have u1' : (w6.setCell ⟨gb, 0, none⟩ (.pointer (some ⟨d5, 0, none⟩))).cell? ⟨gb, 1, none⟩ = some (.pointer (some ⟨gp, 0, none⟩)) := by simp [World.cell?, hx6]
  clear hx6
  clear HRQ5 HRL v0 v1 hdk hld hxs hrn
  go_wp2
  go_ret
  exact ⟨rfl, HF.out⟩
end Go.Proofs.YthcnhjmkcekdaaaGreat

namespace Go.Proofs.YthcnhjmkcekdaaaGreat
open Go.RowKit Go.Maps Plain
set_option linter.unusedVariables false
set_option linter.unusedSimpArgs false
set_option maxHeartbeats 2000000 in
set_option maxRecDepth 1000000 in
theorem sizeB {S : Nat → Prop} {w w1 : World} {d n : Nat} {k : Dk} (h : St S w d k w1) (hk : k.Ok n) (s : ByteArray) (hs : s.size ≤ maxLen) : Calls Tryz.prog 60 #[.pointer (some ⟨d, 0, none⟩), .string s] w1 fun e w' => e = .returned (.tuple #[.int .i64 ((szK k s).1 : Int), .int .i64 (szK k s).2]) ∧ Below w1.heap.size w1 w' := by
  have HS : Hid (St S w d k (w1.alloc (.cells #[.string s] 9))) := h.below ((Below.refl _ _).alloc (Nat.le_refl _) _)
  have HFD : Hid (Calls Tryz.prog 79 #[.pointer (some ⟨d, 0, none⟩), .string s] w1 fun e w' => e = .returned (.tuple #[(fnd k.dead k.L s).1, .int .i64 (fnd k.dead k.L s).2]) ∧ w' = w1.alloc (.cells #[.string s] 9)) := findSt h s hs
  have HBW : Hid (Below w1.heap.size w1 (w1.alloc (.cells #[.string s] 9))) := (Below.refl _ _).alloc (Nat.le_refl _) _
  obtain ⟨W1, hW1⟩ : ∃ W1, w1.alloc (.cells #[.string s] 9) = W1 := ⟨_, rfl⟩
  rw [hW1] at HFD HS HBW
  clear hW1 h
  by_cases h0 : (fnd k.dead k.L s).2 = 0
  · obtain ⟨G, hl, hfe⟩ := fnd_ok h0
    rw [hfe] at HFD
    obtain ⟨fa, fc, g0, g1, g2, _⟩ := HS.out.fcell (hk.refs _ (look_mem hl))
    have HE : Hid (szK k s = ((k.file G).seen.length, 0)) := by unfold Hid szK sizeK; rw [if_pos h0, hl]; rfl
    generalize (k.file G).seen.length = N at g0 g1 HE
    clear hk h0 hl hfe
    go_enter Tryz.func60, Tryz.ntmps60
    go_wp2_with fail
    refine HFD.out.mono ?_
    rintro e w2 ⟨rfl, rfl⟩
    go_wp2
    go_ret2
    exact ⟨by rw [HE.out]; rfl, HBW.out⟩
  · have HE : Hid (szK k s = (0, (fnd k.dead k.L s).2)) := by unfold Hid szK; rw [if_neg h0]
    rw [HE.out]
    have hp := fnd_bad h0
    rw [hp] at HFD
    obtain ⟨z, hz⟩ : ∃ z, (fnd k.dead k.L s).2 = z := ⟨_, rfl⟩
    rw [hz] at HFD h0 ⊢
    have hne : (z != 0) = true := by simpa using h0
    have hne2 : (z == 0) = false := beq_eq_false_iff_ne.mpr h0
    clear hz hp h0 hk HE
    go_enter Tryz.func60, Tryz.ntmps60
    go_wp2_with fail
    refine HFD.out.mono ?_
    rintro e w2 ⟨rfl, rfl⟩
    go_wp2
    go_ret2
    exact ⟨rfl, HBW.out⟩
theorem BInv.szE {k : Dk} {r : Rk} {n : Nat} (h : BInv k r n) (nm : ByteArray) : rszE r nm = (Go.Proofs.YthcnhjmkcekdaaaGreat.fnd k.dead k.L nm).2 := by
  obtain ⟨-, -, e3, -, -, -⟩ := h.facts
  unfold rszE
  rw [e3]
  by_cases hd : k.dead = true
  · rw [if_pos hd, fnd_off hd nm]
  · have hd2 : k.dead = false := by simpa using hd
    rw [if_neg hd, h.fnd hd2 nm]
    rfl
theorem BInv.szN {k : Dk} {r : Rk} {n : Nat} (h : BInv k r n) (nm : ByteArray) : rszN r nm = if (Go.Proofs.YthcnhjmkcekdaaaGreat.fnd k.dead k.L nm).2 = 0 then sizeK k nm else 0 := by
  obtain ⟨ν, hr⟩ := h.rl
  unfold rszN
  rw [h.szE nm]
  by_cases h0 : (Go.Proofs.YthcnhjmkcekdaaaGreat.fnd k.dead k.L nm).2 = 0
  · rw [if_pos h0, if_pos h0]
    obtain ⟨G, hl, -⟩ := fnd_ok h0
    exact (hr.size h.dok hl).symm
  · rw [if_neg h0, if_neg h0]
theorem BoAt.size {W w : World} {gb d gp n : Nat} {k : Dk} {r : Rk} (h : BoAt W gb d gp k r w) (hi : BInv k r n) (nm : ByteArray) (hs : nm.size ≤ maxLen) : Calls Tryz.prog 60 #[.pointer (some ⟨d, 0, none⟩), .string nm] w fun e w' => e = .returned (.tuple #[.int .i64 (rszN r nm : Int), .int .i64 (rszE r nm)]) ∧ Below w.heap.size w w' := by
  obtain ⟨T, ⟨h1, S, h2, h3⟩, -⟩ := h.disk
  have e1 : (szK k nm).1 = rszN r nm := by rw [hi.szN nm]; unfold szK; split <;> rfl
  have e2 : (szK k nm).2 = rszE r nm := by
    rw [hi.szE nm]; unfold szK
    split
    · rename_i h0; rw [h0]
    · rfl
  rw [← e1, ← e2]
  exact sizeB (St.start h2) hi.dok.ok nm hs
theorem BoAt.rsize {W w : World} {gb d gp n : Nat} {k : Dk} {r : Rk} (h : BoAt W gb d gp k r w) (hb : r.Bd) (nm : ByteArray) (hs : nm.size ≤ maxLen) : Calls Tryz.prog 61 #[.pointer (some ⟨gp, 0, none⟩), .string nm] w fun e w' => e = .returned (.tuple #[.int .i64 (rszN r nm : Int), .int .i64 (rszE r nm)]) ∧ Below w.heap.size w w' := by
  obtain ⟨T, ⟨B, blk, vF, vD, xs, dv, sv, tv, h1, -⟩, -⟩ := h.doc
  refine (rsizeOf h1 hb.ok nm hs).mono ?_
  rintro e w' ⟨rfl, m, rfl⟩
  exact ⟨rfl, below_drewN (Below.refl _ _) m⟩
theorem BoAt.read {W w : World} {gb d gp n : Nat} {k : Dk} {r : Rk} (h : BoAt W gb d gp k r w) (hi : BInv k r n) (nm : ByteArray) (hs : nm.size ≤ maxLen) (x y : Int) (hx : I64 x) (hy : I64 y) : Calls Tryz.prog 58 #[.pointer (some ⟨d, 0, none⟩), .string nm, .int .i64 x, .int .i64 y] w fun e w' => ∃ a N c q, e = .returned (.tuple #[.slice a N c, .int .i64 (rreE r nm x y)]) ∧ ByNew w w' (.slice a N c) (rreB r nm x y) q := by
  obtain ⟨T, ⟨h1, S, h2, h3⟩, -⟩ := h.disk
  obtain ⟨ν, hr⟩ := hi.rl
  by_cases h0 : (Go.Proofs.YthcnhjmkcekdaaaGreat.fnd k.dead k.L nm).2 = 0
  · have hE : rszE r nm = 0 := by rw [hi.szE nm]; exact h0
    have hN : rszN r nm = sizeK k nm := by rw [hi.szN nm, if_pos h0]
    by_cases hxx : x < 0 ∨ (sizeK k nm : Int) < x ∨ y < 0
    · have e1 : rreE r nm x y = 3 := by unfold rreE; rw [if_pos hE, hN, if_pos hxx]
      have e2 : rreB r nm x y = [] := by unfold rreB; rw [e1, if_neg (by decide)]
      rw [e1, e2]
      refine (readA (St.start h2) hi.dok.ok nm hs x y h0 hxx).mono ?_
      rintro e w' ⟨rfl, hb⟩
      exact ⟨_, _, _, _, rfl, Own.nil _, by simp, hb⟩
    · have e1 : rreE r nm x y = 0 := by unfold rreE; rw [if_pos hE, hN, if_neg hxx]
      obtain ⟨G, hl, -⟩ := fnd_ok h0
      have e2 : rreB r nm x y = rdB k nm x.toNat y.toNat := by unfold rreB; rw [if_pos e1, hr.read hi.dok hl]
      obtain ⟨A, rfl⟩ : ∃ A : Nat, x = A := ⟨x.toNat, by omega⟩
      obtain ⟨M, rfl⟩ : ∃ M : Nat, y = M := ⟨y.toNat, by omega⟩
      rw [e1, e2]
      refine (readOk (St.start h2) hi.dok.ok nm hs A M (by have := hy.2; omega) h0 (by omega)).mono ?_
      rintro e w' ⟨a, N, c, q, rfl, g1, g2, g3, -⟩
      exact ⟨_, _, _, _, rfl, g1, g2, g3⟩
  · have hE : rszE r nm ≠ 0 := by rw [hi.szE nm]; exact h0
    have e1 : rreE r nm x y = (Go.Proofs.YthcnhjmkcekdaaaGreat.fnd k.dead k.L nm).2 := by unfold rreE; rw [if_neg hE]; exact hi.szE nm
    have e2 : rreB r nm x y = [] := by unfold rreB; rw [e1, if_neg h0]
    rw [e1, e2]
    refine (readE (St.start h2) nm hs x y h0).mono ?_
    rintro e w' ⟨rfl, hb⟩
    exact ⟨_, _, _, _, rfl, Own.nil _, by simp, hb⟩
theorem BoAt.rread {W w : World} {gb d gp n : Nat} {k : Dk} {r : Rk} (h : BoAt W gb d gp k r w) (hb : r.Bd) (hi : RInv r n) (nm : ByteArray) (hs : nm.size ≤ maxLen) (x y : Int) (hx : I64 x) (hy : I64 y) : Calls Tryz.prog 59 #[.pointer (some ⟨gp, 0, none⟩), .string nm, .int .i64 x, .int .i64 y] w fun e w' => ∃ a N c q, e = .returned (.tuple #[.slice a N c, .int .i64 (rreE r nm x y)]) ∧ ByNew w w' (.slice a N c) (rreB r nm x y) q := by
  obtain ⟨T, ⟨B, blk, vF, vD, xs, dv, sv, tv, h1, -⟩, -⟩ := h.doc
  exact rreadOf h1 hb.ok nm hs x y hx hy (fun f hf => by have : (r.ps.now f).length ≤ 1073741824 := (hi.fo f hf).sz _; omega)
theorem BoAt.list {W w : World} {gb d gp n : Nat} {k : Dk} {r : Rk} (h : BoAt W gb d gp k r w) (hi : BInv k r n) : Calls Tryz.prog 62 #[.pointer (some ⟨d, 0, none⟩)] w fun e w' => ∃ a N c q, e = .returned (.tuple #[.slice a N c, .int .i64 (if r.off = true then 34 else 0)]) ∧ TxNew w w' (.slice a N c) (if r.off = true then [] else r.ps.last.map (·.1)) q := by
  obtain ⟨T, ⟨h1, S, h2, h3⟩, -⟩ := h.disk
  obtain ⟨-, -, e3, -, -, e6⟩ := hi.facts
  by_cases hd : k.dead = true
  · have hr : r.off = true := by rw [e3]; exact hd
    rw [if_pos hr, if_pos hr]
    refine (listDead (St.start h2) hd).mono ?_
    rintro e w' ⟨rfl, rfl⟩
    exact ⟨_, _, _, _, rfl, OwnV.nil _, by simp, Below.refl _ _⟩
  · have hr : ¬ r.off = true := by rw [e3]; exact hd
    rw [if_neg hr, if_neg hr, e6]
    refine (listLive (St.start h2) (by simpa using hd) (by have := hi.dok.few; omega)).mono ?_
    rintro e w' ⟨v, rfl, a, c, q, rfl, g1, g2, g3, g4, g5⟩
    exact ⟨_, _, _, _, rfl, g3, g4, g5⟩
theorem BoAt.rlist {W w : World} {gb d gp : Nat} {k : Dk} {r : Rk} (h : BoAt W gb d gp k r w) (hb : r.Bd) : Calls Tryz.prog 63 #[.pointer (some ⟨gp, 0, none⟩)] w fun e w' => ∃ a N c q, e = .returned (.tuple #[.slice a N c, .int .i64 (if r.off = true then 34 else 0)]) ∧ TxNew w w' (.slice a N c) (if r.off = true then [] else r.ps.last.map (·.1)) q := by
  obtain ⟨T, ⟨B, blk, vF, vD, xs, dv, sv, tv, h1, -⟩, -⟩ := h.doc
  exact rlistOf h1 hb.ok
end Go.Proofs.YthcnhjmkcekdaaaGreat
