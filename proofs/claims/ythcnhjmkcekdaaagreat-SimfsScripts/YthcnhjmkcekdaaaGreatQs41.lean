import Derived.Test.YthcnhjmkcekdaaaGreatQs40
import Derived.BigQuiet
import Derived.Test.YthcnhjmkcekdaaaGreatQs22
namespace Go.Proofs.YthcnhjmkcekdaaaGreat
open Go.RowKit Go.Maps Plain
set_option linter.unusedVariables false
set_option linter.unusedSimpArgs false
theorem BoAt.drewN {W w : World} {gb d gp : Nat} {k : Dk} {r : Rk} (h : BoAt W gb d gp k r w) (n : Nat) : BoAt W gb d gp k r (w.drewN n) := h.later (below_drewN (Below.refl _ _) n)
theorem BoAt.used {W w : World} {gb d gp : Nat} {k : Dk} {r : Rk} (h : BoAt W gb d gp k r w) : Calls Tryz.prog 23 #[.pointer (some ⟨d, 0, none⟩)] w fun e w' => e = .returned (.int .i64 k.used) ∧ w' = w := by
  obtain ⟨T, h1, -⟩ := h.disk
  exact usedP h1
theorem BoAt.quota {W w : World} {gb d gp : Nat} {k : Dk} {r : Rk} (h : BoAt W gb d gp k r w) : Calls Tryz.prog 25 #[.pointer (some ⟨d, 0, none⟩)] w fun e w' => e = .returned (.int .i64 k.quota) ∧ w' = w := by
  obtain ⟨T, h1, -⟩ := h.disk
  exact quotaP h1
theorem BoAt.dead {W w : World} {gb d gp : Nat} {k : Dk} {r : Rk} (h : BoAt W gb d gp k r w) : Calls Tryz.prog 26 #[.pointer (some ⟨d, 0, none⟩)] w fun e w' => e = .returned (.bool k.dead) ∧ w' = w := by
  obtain ⟨T, h1, -⟩ := h.disk
  exact deadP h1
theorem BoAt.ops {W w : World} {gb d gp : Nat} {k : Dk} {r : Rk} (h : BoAt W gb d gp k r w) : Calls Tryz.prog 28 #[.pointer (some ⟨d, 0, none⟩)] w fun e w' => e = .returned (.int .i64 k.ops) ∧ w' = w := by
  obtain ⟨T, h1, -⟩ := h.disk
  exact opsP h1
theorem BoAt.rused {W w : World} {gb d gp : Nat} {k : Dk} {r : Rk} (h : BoAt W gb d gp k r w) (hb : r.Bd) : Calls Tryz.prog 24 #[.pointer (some ⟨gp, 0, none⟩)] w fun e w' => e = .returned (.int .i64 (usedN r.ps r.ps.last : Int)) ∧ ∃ n, w' = w.drewN n := by
  obtain ⟨T, ⟨B, blk, vF, vD, xs, dv, sv, tv, h1, -⟩, -⟩ := h.doc
  exact rusedOf h1 hb.ok (by have := hb.used; omega)
theorem BoAt.rquota {W w : World} {gb d gp : Nat} {k : Dk} {r : Rk} (h : BoAt W gb d gp k r w) : Calls Tryz.prog 22 #[.pointer (some ⟨gp, 0, none⟩)] w fun e w' => e = .returned (.int .i64 r.most) ∧ w' = w := by
  obtain ⟨T, h1, -⟩ := h.doc
  exact rquotaOf h1
theorem BoAt.rdead {W w : World} {gb d gp : Nat} {k : Dk} {r : Rk} (h : BoAt W gb d gp k r w) : Calls Tryz.prog 27 #[.pointer (some ⟨gp, 0, none⟩)] w fun e w' => e = .returned (.bool r.off) ∧ w' = w := by
  obtain ⟨T, h1, -⟩ := h.doc
  exact rdeadOf h1
theorem BoAt.rops {W w : World} {gb d gp : Nat} {k : Dk} {r : Rk} (h : BoAt W gb d gp k r w) : Calls Tryz.prog 29 #[.pointer (some ⟨gp, 0, none⟩)] w fun e w' => e = .returned (.int .i64 r.done) ∧ w' = w := by
  obtain ⟨T, h1, -⟩ := h.doc
  exact ropsOf h1
theorem BoAt.image {W w : World} {gb d gp n : Nat} {k : Dk} {r : Rk} (h : BoAt W gb d gp k r w) (hk : k.Dok n) : Calls Tryz.prog 30 #[.pointer (some ⟨d, 0, none⟩)] w fun e w' => ∃ a l c, e = .returned (.slice a l c) ∧ ImgAt w' (.slice a l c) (imK k) w.heap.size ∧ Below w.heap.size w w' := by
  obtain ⟨T, h1, -⟩ := h.disk
  refine (imageP h1 hk).mono ?_
  rintro e w' ⟨a, l, c, rfl, h2, -, h3⟩
  exact ⟨a, l, c, rfl, h2, h3⟩
theorem BoAt.rimage {W w : World} {gb d gp n : Nat} {k : Dk} {r : Rk} (h : BoAt W gb d gp k r w) (hb : r.Bd) (hi : RInv r n) : Calls Tryz.prog 31 #[.pointer (some ⟨gp, 0, none⟩)] w fun e w' => ∃ a l c, e = .returned (.slice a l c) ∧ ImgAt w' (.slice a l c) (rimL r.ps r.ps.last) w.heap.size ∧ Below w.heap.size w w' := by
  obtain ⟨T, ⟨B, blk, vF, vD, xs, dv, sv, tv, h1, -⟩, -⟩ := h.doc
  refine (rimageOf h1 hb.ok (fun f hf => by have : (r.ps.now f).length ≤ 1073741824 := (hi.fo f hf).sz _; omega)).mono ?_
  rintro e w' ⟨a, l, c, rfl, ts, rr, bl, h2, h3⟩
  exact ⟨a, l, c, rfl, ⟨ts, rr, bl, h2⟩, h3⟩
set_option maxHeartbeats 8000000 in
set_option maxRecDepth 1000000 in
theorem factsOf {W w : World} {gb d gp n : Nat} {k : Dk} {r : Rk} (h : BoAt W gb d gp k r w) (hi : BInv k r n) (hn : n ≤ 2000000000000) : Calls Tryz.prog 8 #[.pointer (some ⟨gb, 0, none⟩)] w fun e w' => e = .returned (.bool true) ∧ Below w.heap.size w w' := by
  have hb := hi.bd hn
  obtain ⟨e1, e2, e3, e4, e5, -⟩ := hi.facts
  have HU := Hid.mkR (fun m => (h.drewN m).used)
  have HQ := Hid.mkR (fun m => (h.drewN m).quota)
  have HE := Hid.mkR (fun m => (h.drewN m).dead)
  have HO := Hid.mkR (fun m => (h.drewN m).ops)
  have HRU := Hid.mkR (fun m => (h.drewN m).rused hb)
  have HRQ := Hid.mkR (fun m => (h.drewN m).rquota)
  have HRE := Hid.mkR (fun m => (h.drewN m).rdead)
  have HRO := Hid.mkR (fun m => (h.drewN m).rops)
  rw [e1] at HRU
  rw [e2] at HRQ
  rw [e3] at HRE
  rw [e4] at HRO
  have HB := Hid.mkR h
  have HI : Hid (∀ u, Below w.heap.size w u → Calls Tryz.prog 30 #[.pointer (some ⟨d, 0, none⟩)] u fun e w' => ∃ a l c, e = .returned (.slice a l c) ∧ ImgAt w' (.slice a l c) (imK k) u.heap.size ∧ Below u.heap.size u w') := fun u hu => (h.later hu).image hi.dok
  have HRI : Hid (∀ u, Below w.heap.size w u → Calls Tryz.prog 31 #[.pointer (some ⟨gp, 0, none⟩)] u fun e w' => ∃ a l c, e = .returned (.slice a l c) ∧ ImgAt w' (.slice a l c) (imK k) u.heap.size ∧ Below u.heap.size u w') := fun u hu => by
    have := (h.later hu).rimage hb hi.inv
    rw [e5] at this
    exact this
  obtain ⟨c0, c1, -, -⟩ := h.box
  clear e1 e2 e3 e4 e5 hb hi h
  generalize k.used = zu at *
  generalize k.quota = zq at *
  generalize k.dead = zd at *
  generalize k.ops = zo at *
  generalize imK k = im at *
  have hu0 : decide (zu ≠ zu) = false := by simp
  have hq0 : decide (zq ≠ zq) = false := by simp
  have hd0 : decide (zd ≠ zd) = false := by simp
  have ho0 : decide (zo ≠ zo) = false := by simp
  go_enter Tryz.func8, Tryz.ntmps8
  go_wp2_with fail
  go_quiet (first
    | (go_at_call 23; exact Calls.quiet_of_same (HU.out _))
    | (go_at_call 25; exact Calls.quiet_of_same (HQ.out _))
    | (go_at_call 26; exact Calls.quiet_of_same (HE.out _))
    | (go_at_call 28; exact Calls.quiet_of_same (HO.out _))
    | (go_at_call 24; exact Calls.quiet_of (HRU.out _))
    | (go_at_call 22; exact Calls.quiet_of_same (HRQ.out _))
    | (go_at_call 27; exact Calls.quiet_of_same (HRE.out _))
    | (go_at_call 29; exact Calls.quiet_of_same (HRO.out _)))
  have k0 : (w.drewN nq).cell? ⟨gb, 0, none⟩ = some (.pointer (some ⟨d, 0, none⟩)) := c0
  have k1 : (w.drewN nq).cell? ⟨gb, 1, none⟩ = some (.pointer (some ⟨gp, 0, none⟩)) := c1
  have hb1 : Below w.heap.size w (w.drewN nq) := below_drewN (Below.refl _ _) nq
  clear HU HQ HE HO HRU HRQ HRE HRO HB
  generalize w.drewN nq = w1 at *
  have hbd : Below w.heap.size w w1.drew := ⟨hb1.os, hb1.tape, hb1.output, hb1.size, hb1.block⟩
  have HCL : Hid (∀ u, Below w.heap.size w u → u.cell? ⟨gb, 0, none⟩ = some (.pointer (some ⟨d, 0, none⟩)) ∧ u.cell? ⟨gb, 1, none⟩ = some (.pointer (some ⟨gp, 0, none⟩))) := fun u hu => ⟨(hu.cell (cell_lt c0)).trans c0, (hu.cell (cell_lt c1)).trans c1⟩
  clear c0 c1
  go_wp2_with fail
  refine wp_region_noPanic ?_
  refine Till.start 11 (S := fun u => u.cell? ⟨gb, 0, none⟩ = some (.pointer (some ⟨d, 0, none⟩)) ∧ u.cell? ⟨gb, 1, none⟩ = some (.pointer (some ⟨gp, 0, none⟩))) (by kernel_rfl) ⟨k0, k1⟩ (fun hHeld => ?_)
  refine' Till.take 0 rfl (by kernel_rfl) (by kernel_rfl) (by kernel_rfl) (by kernel_rfl) (fun _ _ _ h => h) (Or.inl ⟨by rfl, ?_⟩) (by assumption) ?_
  rotate_left
  · (intro w hSw; (try dsimp only at hSw); go_simp <;> with_reducible rfl)
  try simp only [Act.put, List.setIfInBounds_toArray, List.set_cons_zero, List.set_cons_succ]
  refine' Till.take 1 rfl (by kernel_rfl) (by kernel_rfl) (by kernel_rfl) (by kernel_rfl) (fun _ _ _ h => h) (Or.inl ⟨by rfl, ?_⟩) (by assumption) ?_
  rotate_left
  · (intro w hSw; (try dsimp only at hSw); go_simp <;> with_reducible rfl)
  try simp only [Act.put, List.setIfInBounds_toArray, List.set_cons_zero, List.set_cons_succ]
  refine' Till.take 2 rfl (by kernel_rfl) (by kernel_rfl) (by kernel_rfl) (by kernel_rfl) (fun _ _ _ h => h) (Or.inl ⟨by rfl, ?_⟩) (by assumption) ?_
  rotate_left
  · (intro w hSw; (try dsimp only at hSw); go_simp <;> with_reducible rfl)
  try simp only [Act.put, List.setIfInBounds_toArray, List.set_cons_zero, List.set_cons_succ]
  refine' Till.take 3 rfl (by kernel_rfl) (by kernel_rfl) (by kernel_rfl) (by kernel_rfl) (fun _ _ _ h => h) (Or.inl ⟨by rfl, ?_⟩) (by assumption) ?_
  rotate_left
  · (intro w hSw; (try dsimp only at hSw); go_simp <;> with_reducible rfl)
  try simp only [Act.put, List.setIfInBounds_toArray, List.set_cons_zero, List.set_cons_succ]
  refine' Till.take 5 rfl (by kernel_rfl) (by kernel_rfl) (by kernel_rfl) (by kernel_rfl) (fun _ _ _ h => h) (Or.inl ⟨by rfl, ?_⟩) (by assumption) ?_
  rotate_left
  · (intro w hSw; (try dsimp only at hSw); go_simp <;> with_reducible rfl)
  try simp only [Act.put, List.setIfInBounds_toArray, List.set_cons_zero, List.set_cons_succ]
  refine' Till.take 6 rfl (by kernel_rfl) (by kernel_rfl) (by kernel_rfl) (by kernel_rfl) (fun _ _ _ h => h) (Or.inl ⟨by rfl, ?_⟩) (by assumption) ?_
  rotate_left
  · (intro w hSw; (try dsimp only at hSw); go_simp <;> with_reducible rfl)
  try simp only [Act.put, List.setIfInBounds_toArray, List.set_cons_zero, List.set_cons_succ]
  refine' Till.take 7 rfl (by kernel_rfl) (by kernel_rfl) (by kernel_rfl) (by kernel_rfl) (fun _ _ _ h => h) (Or.inl ⟨by rfl, ?_⟩) (by assumption) ?_
  rotate_left
  · (intro w hSw; (try dsimp only at hSw); go_simp <;> with_reducible rfl)
  try simp only [Act.put, List.setIfInBounds_toArray, List.set_cons_zero, List.set_cons_succ]
  refine' Till.take 8 rfl (by kernel_rfl) (by kernel_rfl) (by kernel_rfl) (by kernel_rfl) (fun _ _ _ h => h) (Or.inl ⟨by rfl, ?_⟩) (by assumption) ?_
  rotate_left
  · (intro w hSw; (try dsimp only at hSw); go_simp <;> with_reducible rfl)
  try simp only [Act.put, List.setIfInBounds_toArray, List.set_cons_zero, List.set_cons_succ]
  refine Till.one 4 (by kernel_rfl) rfl (fun K hK => ?_)
  go_simp
  go_at_call 30
  refine (HI.out _ hbd).mono ?_
  rintro e w2 ⟨aA, lA, cA, rfl, hmA, hbA⟩
  have hbwA : Below w.heap.size w w2 := hbd.trans (hbA.mono hbd.size)
  refine hK.out _ _ (HCL.out _ hbwA) (fun hHeld => ?_)
  clear hK K
  try simp only [Act.put, List.setIfInBounds_toArray, List.set_cons_zero, List.set_cons_succ]
  refine Till.one 9 (by kernel_rfl) rfl (fun K hK => ?_)
  go_simp
  go_at_call 31
  refine (HRI.out _ hbwA).mono ?_
  rintro e w3 ⟨aB, lB, cB, rfl, hmB, hbB⟩
  have hbwB : Below w.heap.size w w3 := hbwA.trans (hbB.mono hbwA.size)
  refine hK.out _ _ (HCL.out _ hbwB) (fun hHeld => ?_)
  clear hK K
  try simp only [Act.put, List.setIfInBounds_toArray, List.set_cons_zero, List.set_cons_succ]
  refine Till.one 10 (by kernel_rfl) rfl (fun K hK => ?_)
  go_simp
  go_at_call 12
  refine (sameImageEq _ _ im w3 (hmA.later hbB).read hmB.read).mono ?_
  rintro e w4 ⟨rfl, hb4⟩
  have hbw4 : Below w.heap.size w w4 := hbwB.trans (hb4.mono hbwB.size)
  refine hK.out _ _ (HCL.out _ hbw4) (fun hHeld => ?_)
  clear hK K
  try simp only [Act.put, List.setIfInBounds_toArray, List.set_cons_zero, List.set_cons_succ]
  refine Till.last (by kernel_rfl) (by kernel_rfl) rfl (fun K hK => ?_)
  go_simp
  refine hK.out _ _ ?_
  clear hK K
  try simp only [Act.put, List.setIfInBounds_toArray, List.set_cons_zero, List.set_cons_succ]
  refine NoPanic.normal ?_
  go_wp2
  go_ret
  exact ⟨rfl, hbw4⟩
end Go.Proofs.YthcnhjmkcekdaaaGreat

namespace Go.Proofs.YthcnhjmkcekdaaaGreat
open Go.RowKit Go.Maps Plain
set_option linter.unusedVariables false
set_option linter.unusedSimpArgs false
/-- Both, apart from the blocks of X. -/
def BoX (W : World) (gb d gp : Nat) (k : Dk) (r : Rk) (X : Nat → Prop) (w : World) : Prop := Below W.heap.size W w ∧ w.heap[gb]? = some (.cells #[.pointer (some ⟨d, 0, none⟩), .pointer (some ⟨gp, 0, none⟩)] 32) ∧ W.heap.size ≤ gb ∧ (∀ x, X x → x < w.heap.size) ∧ ∃ S T, DiskAt w d k S ∧ RdAt w gp r T ∧ (∀ x, S x → ¬ T x ∧ x ≠ gb ∧ W.heap.size ≤ x ∧ ¬ X x) ∧ ∀ x, T x → W.heap.size ≤ x ∧ x < w.heap.size ∧ x ≠ gb ∧ ¬ X x
theorem BoX.at {W w : World} {gb d gp : Nat} {k : Dk} {r : Rk} {X : Nat → Prop} (h : BoX W gb d gp k r X w) : BoAt W gb d gp k r w := by
  obtain ⟨h0, hx, hg, hX, S, T, h1, h2, h3, h4⟩ := h
  exact ⟨h0, hx, hg, S, T, h1, h2, fun x hx => ⟨(h3 x hx).1, (h3 x hx).2.1, (h3 x hx).2.2.1⟩, fun x hx => ⟨(h4 x hx).1, (h4 x hx).2.1, (h4 x hx).2.2.1⟩⟩
theorem BoAt.x {W w0 w : World} {gb d gp : Nat} {k : Dk} {r : Rk} (h : BoAt W gb d gp k r w0) (hb : Below w0.heap.size w0 w) : BoX W gb d gp k r (fun x => w0.heap.size ≤ x ∧ x < w.heap.size) w := by
  obtain ⟨h0, hx, hg, S, T, h1, h2, h3, h4⟩ := h
  have hgl := (Array.getElem?_eq_some_iff.mp hx).1
  exact ⟨h0.trans (hb.mono h0.size), (hb.block gb hgl).trans hx, hg, fun x hx => hx.2, S, T, h1.later hb, h2.frame hb.size (fun x hx => hb.block x (h4 x hx).2.1), fun x hx => ⟨(h3 x hx).1, (h3 x hx).2.1, (h3 x hx).2.2, fun e => by have := h1.rng x hx; have := e.1; omega⟩, fun x hx => ⟨(h4 x hx).1, Nat.lt_of_lt_of_le (h4 x hx).2.1 hb.size, (h4 x hx).2.2, fun e => by have := (h4 x hx).2.1; have := e.1; omega⟩⟩
theorem BoX.later {W w w' : World} {gb d gp : Nat} {k : Dk} {r : Rk} {X : Nat → Prop} (h : BoX W gb d gp k r X w) (hb : Below w.heap.size w w') : BoX W gb d gp k r X w' := by
  obtain ⟨h0, hx, hg, hX, S, T, h1, h2, h3, h4⟩ := h
  have hgl := (Array.getElem?_eq_some_iff.mp hx).1
  exact ⟨h0.trans (hb.mono h0.size), (hb.block gb hgl).trans hx, hg, fun x hx => Nat.lt_of_lt_of_le (hX x hx) hb.size, S, T, h1.later hb, h2.frame hb.size (fun x hx => hb.block x (h4 x hx).2.1), h3, fun x hx => ⟨(h4 x hx).1, Nat.lt_of_lt_of_le (h4 x hx).2.1 hb.size, (h4 x hx).2.2⟩⟩
theorem BoX.disk {W w : World} {gb d gp : Nat} {k : Dk} {r : Rk} {X : Nat → Prop} (h : BoX W gb d gp k r X w) : ∃ P, DskP P w d k w ∧ (∀ x, x < W.heap.size → P x) ∧ (∀ x, X x → P x) ∧ ∀ (k' : Dk) (w' : World), DskP P w d k' w' → BoX W gb d gp k' r X w' := by
  obtain ⟨h0, hx, hg, hX, S, T, h1, h2, h3, h4⟩ := h
  have hs := h0.size
  have hgl := (Array.getElem?_eq_some_iff.mp hx).1
  refine ⟨fun x => boP W gb T x ∨ X x, ⟨Keep.refl (fun x hx => ?_), S, h1, fun x hx hp => ?_⟩, fun x hx => .inl (.inl hx), fun x a => .inr a, fun k' w' hk => ?_⟩
  · rcases hx with (e | e | e) | e
    · omega
    · exact (h4 x e).2.1
    · omega
    · exact hX x e
  · rcases hp with (e | e | e) | e
    · have := (h3 x hx).2.2.1; omega
    · exact (h3 x hx).1 e
    · exact (h3 x hx).2.1 e
    · exact (h3 x hx).2.2.2 e
  · obtain ⟨g1, S', g2, g3⟩ := hk
    refine ⟨⟨g1.os.trans h0.os, g1.tape.trans h0.tape, g1.output.trans h0.output, Nat.le_trans hs g1.size, fun x hx => (g1.block x (.inl (.inl hx))).trans (h0.block x hx)⟩, (g1.block gb (.inl (.inr (.inr rfl)))).trans hx, hg, fun x hx => Nat.lt_of_lt_of_le (hX x hx) g1.size, S', T, g2, h2.frame g1.size (fun x hx => g1.block x (.inl (.inr (.inl hx)))), fun x hx => ⟨fun ht => g3 x hx (.inl (.inr (.inl ht))), fun e => g3 x hx (.inl (.inr (.inr e))), ?_, fun e => g3 x hx (.inr e)⟩, fun x hx => ⟨(h4 x hx).1, Nat.lt_of_lt_of_le (h4 x hx).2.1 g1.size, (h4 x hx).2.2⟩⟩
    exact Nat.le_of_not_lt fun e => g3 x hx (.inl (.inl e))
theorem BoX.doc {W w : World} {gb d gp : Nat} {k : Dk} {r : Rk} {X : Nat → Prop} (h : BoX W gb d gp k r X w) : ∃ T, RdAt w gp r T ∧ (∀ x, T x → W.heap.size ≤ x ∧ ¬ X x) ∧ (∀ x, X x → x < w.heap.size) ∧ ∀ (r' : Rk) (w' : World), RtP gp r' T w w' → BoX W gb d gp k r' X w' := by
  obtain ⟨h0, hx, hg, hX, S, T, h1, h2, h3, h4⟩ := h
  have hs := h0.size
  have hgl := (Array.getElem?_eq_some_iff.mp hx).1
  refine ⟨T, h2, fun x hx => ⟨(h4 x hx).1, (h4 x hx).2.2.2⟩, hX, fun p' w' hk => ?_⟩
  obtain ⟨g1, g2⟩ := hk
  have hs2 := g2.size
  have hsl : ∀ x, S x → x < w.heap.size := h1.rng
  refine ⟨⟨g2.os.trans h0.os, g2.tape.trans h0.tape, g2.output.trans h0.output, by omega, fun x hx => (g2.block x (by omega) (fun e => by have := (h4 x e).1; omega)).trans (h0.block x hx)⟩, (g2.block gb hgl (fun e => (h4 gb e).2.2.1 rfl)).trans hx, hg, fun x hx => Nat.lt_of_lt_of_le (hX x hx) hs2, S, Ext T w w', h1.apart g2 (fun x hx => (h3 x hx).1), g1, fun x hx => ⟨fun ht => ?_, (h3 x hx).2⟩, fun x hx => ?_⟩
  · rcases ht with e | e
    · exact (h3 x hx).1 e
    · have := hsl x hx; have := e.1; omega
  · rcases hx with e | e
    · exact ⟨(h4 x e).1, by have := (h4 x e).2.1; omega, (h4 x e).2.2⟩
    · exact ⟨by have := e.1; omega, e.2, by have := e.1; omega, fun e2 => by have := hX x e2; have := e.1; omega⟩
theorem BoX.change {W w : World} {gb d gp n : Nat} {k : Dk} {r : Rk} {X : Nat → Prop} (h : BoX W gb d gp k r X w) (hi : BInv k r n) (hn : n ≤ 2000000000000) (kd : Int) (nm to : ByteArray) (at' m : Int) (vb vp : Value) (l : List Nat) (hk1 : 1 ≤ kd) (hk7 : kd ≤ 7) (hs : nm.size ≤ maxLen) (ht : to.size ≤ maxLen) (hm : I64 m) (hw : ∀ w', Below W.heap.size W w' → BytesAt w' vb l) (hl : l.length ≤ 140737488351232) :
    Calls Tryz.prog 13 #[.pointer (some ⟨d, 0, none⟩), .agg #[.int .i64 kd, .string nm, .string to, .int .i64 at', .int .i64 m, vb, vp]] w fun e w2 => ∃ G, ¬ k.live G ∧ e = .returned (.tuple #[.int .i64 (chK k kd nm to m l G).1, .bool true]) ∧ BoX W gb d gp (chK k kd nm to m l G).2 r X w2 ∧ ∀ x, X x → w2.heap[x]? = w.heap[x]? := by
  obtain ⟨P, hD, hP1, hP2, hback⟩ := h.disk
  have h0 := h.1
  refine (changeAllP kd nm to at' m vb vp l hk1 hk7 hD hs ht hm (fun w' hk => ?_) hl hi.dok hi.sum.uok (by omega)).mono ?_
  · exact hw w' ⟨hk.os.trans h0.os, hk.tape.trans h0.tape, hk.output.trans h0.output, Nat.le_trans h0.size hk.size, fun x hx => (hk.block x (hP1 x hx)).trans (h0.block x hx)⟩
  rintro e w2 ⟨G, hGs, rfl, hD2⟩
  refine ⟨G, fun hl => ?_, rfl, hback _ w2 hD2, fun x a => hD2.1.block x (hP2 x a)⟩
  have := hD.liveLt hl
  omega
theorem BoX.rdo {W w : World} {gb d gp : Nat} {k : Dk} {r : Rk} {X : Nat → Prop} (h : BoX W gb d gp k r X w) (hb : r.Bd) (kd : Int) (nm to : ByteArray) (at' m : Int) (ab : Option Addr) (cb : Nat) (l : List Nat) (hk1 : 1 ≤ kd) (hk7 : kd ≤ 7) (hs : nm.size ≤ maxLen) (ht : to.size ≤ maxLen) (hm : I64 m) (hw : ∀ w', Below W.heap.size W w' → BytesAt w' (.slice ab l.length cb) l) (hl : l.length ≤ 140737488351232) :
    Calls Tryz.prog 14 #[.pointer (some ⟨gp, 0, none⟩), actV kd nm to at' m (.slice ab l.length cb)] w fun e w2 => e = .returned (.int .i64 (doR r kd nm to m l).1) ∧ BoX W gb d gp k (doR r kd nm to m l).2 X w2 ∧ ∀ x, X x → w2.heap[x]? = w.heap[x]? := by
  obtain ⟨T, ⟨B, blk, vF, vD, xs, dv, sv, tv, hM, hT⟩, hTX, hX, hback⟩ := h.doc
  have h0 := h.1
  refine (doAll hM hb nm to at' m kd ab cb l ⟨hk1, hk7⟩ hs ht hm (by omega) (fun u hu => hw u ?_)).mono ?_
  · exact ⟨hu.os.trans h0.os, hu.tape.trans h0.tape, hu.output.trans h0.output, Nat.le_trans h0.size hu.size, fun x hx => (hu.block x (by have := h0.size; omega) (fun e => by have := (hTX x (hT x e)).1; omega)).trans (h0.block x hx)⟩
  rintro e w2 ⟨rfl, ⟨B', blk', vF', vD', xs', dv', sv', tv', hR2, hT2⟩, hC2⟩
  refine ⟨rfl, hback _ w2 ⟨⟨B', blk', vF', vD', xs', dv', sv', tv', hR2, fun g e => (hT2 g e).imp (hT g) id⟩, hC2.mono (fun g e => hT g e)⟩, fun x hx => hC2.block x (hX x hx) (fun e => (hTX x (hT x e)).2 hx)⟩
end Go.Proofs.YthcnhjmkcekdaaaGreat
