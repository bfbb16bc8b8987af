import Derived.Test.YthcnhjmkcekdaaaGreatQs42
namespace Go.Proofs.YthcnhjmkcekdaaaGreat
open Go.RowKit Go.Maps Plain
set_option linter.unusedVariables false
set_option linter.unusedSimpArgs false
theorem BoX.setq {W w : World} {gb d gp : Nat} {k : Dk} {r : Rk} {X : Nat → Prop} (h : BoX W gb d gp k r X w) (q : Int) (hq : I64 q) : Calls Tryz.prog 16 #[.pointer (some ⟨d, 0, none⟩), .int .i64 q] w fun e w2 => e = .returned (.int .i64 (if qB q = true then 0 else 3)) ∧ BoX W gb d gp (if qB q = true then k.quotas q else k) r X w2 ∧ ∀ x, X x → w2.heap[x]? = w.heap[x]? := by
  obtain ⟨P, hD, hP1, hP2, hback⟩ := h.disk
  refine (setqP hD q hq).mono ?_
  rintro e w2 (⟨a1, rfl, a3⟩ | ⟨a1, rfl, a3⟩)
  · rw [a1]; exact ⟨rfl, hback _ _ a3, fun x hx => a3.1.block x (hP2 x hx)⟩
  · rw [a1]; exact ⟨rfl, hback _ _ a3, fun x hx => a3.1.block x (hP2 x hx)⟩
theorem BoX.rsetq {W w : World} {gb d gp : Nat} {k : Dk} {r : Rk} {X : Nat → Prop} (h : BoX W gb d gp k r X w) (q : Int) (hq : I64 q) : Calls Tryz.prog 17 #[.pointer (some ⟨gp, 0, none⟩), .int .i64 q] w fun e w2 => e = .returned (.int .i64 (if qB q = true then 0 else 3)) ∧ BoX W gb d gp k (if qB q = true then r.quotas q else r) X w2 ∧ ∀ x, X x → w2.heap[x]? = w.heap[x]? := by
  obtain ⟨T, hR, hTX, hX, hback⟩ := h.doc
  refine (rsetqOf hR q hq).mono ?_
  rintro e w2 (⟨a1, rfl, a3⟩ | ⟨a1, rfl, rfl⟩)
  · rw [a1]; exact ⟨rfl, hback _ _ a3, fun x hx => a3.2.block x (hX x hx) (fun e => (hTX x e).2 hx)⟩
  · rw [a1]; exact ⟨rfl, h, fun x hx => rfl⟩
theorem BoX.fuse {W w : World} {gb d gp : Nat} {k : Dk} {r : Rk} {X : Nat → Prop} (h : BoX W gb d gp k r X w) (q : Int) (hq : I64 q) : Calls Tryz.prog 18 #[.pointer (some ⟨d, 0, none⟩), .int .i64 q] w fun e w2 => e = .returned (.tuple #[]) ∧ BoX W gb d gp (fuseK k q) r X w2 ∧ ∀ x, X x → w2.heap[x]? = w.heap[x]? := by
  obtain ⟨P, hD, hP1, hP2, hback⟩ := h.disk
  refine (fuseP hD q hq).mono ?_
  rintro e w2 ⟨rfl, a3⟩
  exact ⟨rfl, hback _ _ a3, fun x hx => a3.1.block x (hP2 x hx)⟩
theorem BoX.rfuse {W w : World} {gb d gp : Nat} {k : Dk} {r : Rk} {X : Nat → Prop} (h : BoX W gb d gp k r X w) (q : Int) (hq : I64 q) : Calls Tryz.prog 19 #[.pointer (some ⟨gp, 0, none⟩), .int .i64 q] w fun e w2 => e = .returned (.tuple #[]) ∧ BoX W gb d gp k (r.fuses q) X w2 ∧ ∀ x, X x → w2.heap[x]? = w.heap[x]? := by
  obtain ⟨T, hR, hTX, hX, hback⟩ := h.doc
  refine (rfuseOf hR q hq).mono ?_
  rintro e w2 ⟨rfl, a3⟩
  exact ⟨rfl, hback _ _ a3, fun x hx => a3.2.block x (hX x hx) (fun e => (hTX x e).2 hx)⟩
set_option maxHeartbeats 8000000 in
set_option maxRecDepth 1000000 in
theorem stepFuse {W w : World} {gb d gp n : Nat} {k : Dk} {r : Rk} (h : BoAt W gb d gp k r w) (hi : BInv k r n) (hdi : DInv r) (nm to : ByteArray) (at' m : Int) (vb vp : Value) (hm : I64 m) :
    Calls Tryz.prog 7 #[.pointer (some ⟨gb, 0, none⟩), stepV 12 nm to at' m vb vp] w fun e w' => e = .returned (.bool true) ∧ BoI W gb n w' := by
  obtain ⟨w0, hw0⟩ : ∃ w0, w.alloc (.cells #[.int .i64 12, .string nm, .string to, .int .i64 at', .int .i64 m, vb, vp] 37) = w0 := ⟨_, rfl⟩
  have hb0 : Below w.heap.size w w0 := by rw [← hw0]; exact (Below.refl _ _).alloc (Nat.le_refl _) _
  have hs0 : w0.heap.size = w.heap.size + 1 := by rw [← hw0]; simp
  have hx0 : w0.heap[w.heap.size]? = some (.cells #[.int .i64 12, .string nm, .string to, .int .i64 at', .int .i64 m, vb, vp] 37) := by rw [← hw0]; show (w.heap.push _)[w.heap.size]? = _; simp
  have HSB : Hid (∀ u : World, u.heap[w.heap.size]? = some (.cells #[.int .i64 12, .string nm, .string to, .int .i64 at', .int .i64 m, vb, vp] 37) → u.cell? ⟨w.heap.size, 0, none⟩ = some (.int .i64 12) ∧ u.cell? ⟨w.heap.size, 4, none⟩ = some (.int .i64 m)) := fun u hu => by simp [World.cell?, hu]
  obtain ⟨z0, z4⟩ := HSB.out _ hx0
  obtain ⟨c0, c1, -, -⟩ := (h.later hb0).box
  have hbd : Below w.heap.size w w0.drew := ⟨hb0.os, hb0.tape, hb0.output, hb0.size, hb0.block⟩
  have HC := Hid.mkR ((h.x hbd).fuse m hm)
  have HBI := Hid.mkR (hi.fuse hm)
  have HDI := Hid.mkR (hdi.fuse m)
  clear h hi hdi
  go_enter Tryz.func7, Tryz.ntmps7
  go_wp2_with fail
  refine wp_region_noPanic ?_
  refine Till.start 6 (S := fun u => u.cell? ⟨gb, 0, none⟩ = some (.pointer (some ⟨d, 0, none⟩)) ∧ u.cell? ⟨w.heap.size, 4, none⟩ = some (.int .i64 m)) (by kernel_rfl) ⟨c0, z4⟩ (fun hHeld => ?_)
  refine' Till.take 0 rfl (by kernel_rfl) (by kernel_rfl) (by kernel_rfl) (by kernel_rfl) (fun _ _ _ h => h) (Or.inl ⟨by rfl, ?_⟩) (by assumption) ?_
  rotate_left
  · (intro w hSw; (try dsimp only at hSw); go_simp <;> with_reducible rfl)
  try simp only [Act.put, List.setIfInBounds_toArray, List.set_cons_zero, List.set_cons_succ]
  refine' Till.take 1 rfl (by kernel_rfl) (by kernel_rfl) (by kernel_rfl) (by kernel_rfl) (fun _ _ _ h => h) (Or.inl ⟨by rfl, ?_⟩) (by assumption) ?_
  rotate_left
  · (intro w hSw; (try dsimp only at hSw); go_simp <;> with_reducible rfl)
  try simp only [Act.put, List.setIfInBounds_toArray, List.set_cons_zero, List.set_cons_succ]
  refine' Till.take 2 rfl (by kernel_rfl) (by kernel_rfl) (by kernel_rfl) (by kernel_rfl) (fun _ _ _ h => h) (Or.inl ⟨by rfl, ?_⟩) (by assumption) ?_
  rotate_left
  · (intro w hSw; (try dsimp only at hSw); go_simp <;> with_reducible rfl)
  try simp only [Act.put, List.setIfInBounds_toArray, List.set_cons_zero, List.set_cons_succ]
  refine' Till.take 3 rfl (by kernel_rfl) (by kernel_rfl) (by kernel_rfl) (by kernel_rfl) (fun _ _ _ h => h) (Or.inl ⟨by rfl, ?_⟩) (by assumption) ?_
  rotate_left
  · (intro w hSw; (try dsimp only at hSw); go_simp <;> with_reducible rfl)
  try simp only [Act.put, List.setIfInBounds_toArray, List.set_cons_zero, List.set_cons_succ]
  refine' Till.take 4 rfl (by kernel_rfl) (by kernel_rfl) (by kernel_rfl) (by kernel_rfl) (fun _ _ _ h => h) (Or.inl ⟨by rfl, ?_⟩) (by assumption) ?_
  rotate_left
  · (intro w hSw; (try dsimp only at hSw); go_simp <;> with_reducible rfl)
  try simp only [Act.put, List.setIfInBounds_toArray, List.set_cons_zero, List.set_cons_succ]
  refine' Till.take 5 rfl (by kernel_rfl) (by kernel_rfl) (by kernel_rfl) (by kernel_rfl) (fun _ _ _ h => h) (Or.inl ⟨by rfl, ?_⟩) (by assumption) ?_
  rotate_left
  · (intro w hSw; (try dsimp only at hSw); go_simp <;> with_reducible rfl)
  try simp only [Act.put, List.setIfInBounds_toArray, List.set_cons_zero, List.set_cons_succ]
  refine Till.last (by kernel_rfl) (by kernel_rfl) rfl (fun K hK => ?_)
  go_simp
  go_at_call 18
  refine HC.out.mono ?_
  rintro e w2 ⟨rfl, hB2, hk2⟩
  have hx2 := (hk2 w.heap.size ⟨Nat.le_refl _, by show _ < w0.heap.size; omega⟩).trans hx0
  obtain ⟨y0, y4⟩ := HSB.out _ hx2
  obtain ⟨q0, q1, -, -⟩ := hB2.at.box
  have hbd2 : Below w2.heap.size w2 w2.drew := ⟨rfl, rfl, rfl, Nat.le_refl _, fun _ _ => rfl⟩
  have HR := Hid.mkR ((hB2.later hbd2).rfuse m hm)
  refine hK.out _ _ ?_
  clear hK K
  try simp only [Act.put, List.setIfInBounds_toArray, List.set_cons_zero, List.set_cons_succ]
  refine NoPanic.normal ?_
  go_wp2_with fail
  refine wp_region_noPanic ?_
  refine Till.start 6 (S := fun u => u.cell? ⟨gb, 1, none⟩ = some (.pointer (some ⟨gp, 0, none⟩)) ∧ u.cell? ⟨w.heap.size, 4, none⟩ = some (.int .i64 m)) (by kernel_rfl) ⟨q1, y4⟩ (fun hHeld => ?_)
  refine' Till.take 0 rfl (by kernel_rfl) (by kernel_rfl) (by kernel_rfl) (by kernel_rfl) (fun _ _ _ h => h) (Or.inl ⟨by rfl, ?_⟩) (by assumption) ?_
  rotate_left
  · (intro w hSw; (try dsimp only at hSw); go_simp <;> with_reducible rfl)
  try simp only [Act.put, List.setIfInBounds_toArray, List.set_cons_zero, List.set_cons_succ]
  refine' Till.take 1 rfl (by kernel_rfl) (by kernel_rfl) (by kernel_rfl) (by kernel_rfl) (fun _ _ _ h => h) (Or.inl ⟨by rfl, ?_⟩) (by assumption) ?_
  rotate_left
  · (intro w hSw; (try dsimp only at hSw); go_simp <;> with_reducible rfl)
  try simp only [Act.put, List.setIfInBounds_toArray, List.set_cons_zero, List.set_cons_succ]
  refine' Till.take 2 rfl (by kernel_rfl) (by kernel_rfl) (by kernel_rfl) (by kernel_rfl) (fun _ _ _ h => h) (Or.inl ⟨by rfl, ?_⟩) (by assumption) ?_
  rotate_left
  · (intro w hSw; (try dsimp only at hSw); go_simp <;> with_reducible rfl)
  try simp only [Act.put, List.setIfInBounds_toArray, List.set_cons_zero, List.set_cons_succ]
  refine' Till.take 3 rfl (by kernel_rfl) (by kernel_rfl) (by kernel_rfl) (by kernel_rfl) (fun _ _ _ h => h) (Or.inl ⟨by rfl, ?_⟩) (by assumption) ?_
  rotate_left
  · (intro w hSw; (try dsimp only at hSw); go_simp <;> with_reducible rfl)
  try simp only [Act.put, List.setIfInBounds_toArray, List.set_cons_zero, List.set_cons_succ]
  refine' Till.take 4 rfl (by kernel_rfl) (by kernel_rfl) (by kernel_rfl) (by kernel_rfl) (fun _ _ _ h => h) (Or.inl ⟨by rfl, ?_⟩) (by assumption) ?_
  rotate_left
  · (intro w hSw; (try dsimp only at hSw); go_simp <;> with_reducible rfl)
  try simp only [Act.put, List.setIfInBounds_toArray, List.set_cons_zero, List.set_cons_succ]
  refine' Till.take 5 rfl (by kernel_rfl) (by kernel_rfl) (by kernel_rfl) (by kernel_rfl) (fun _ _ _ h => h) (Or.inl ⟨by rfl, ?_⟩) (by assumption) ?_
  rotate_left
  · (intro w hSw; (try dsimp only at hSw); go_simp <;> with_reducible rfl)
  try simp only [Act.put, List.setIfInBounds_toArray, List.set_cons_zero, List.set_cons_succ]
  refine Till.last (by kernel_rfl) (by kernel_rfl) rfl (fun K hK => ?_)
  go_simp
  go_at_call 19
  refine HR.out.mono ?_
  rintro e w3 ⟨rfl, hB3, hk3⟩
  have HF : Hid (BoI W gb n w3) := ⟨d, gp, _, _, hB3.at, HBI.out, HDI.out⟩
  have p1 := hB3.at.box.2.1
  have hx3 := (hk3 w.heap.size ⟨Nat.le_refl _, by show _ < w0.heap.size; omega⟩).trans hx2
  obtain ⟨x0, x4⟩ := HSB.out _ hx3
  refine hK.out _ _ ?_
  clear hK K
  try simp only [Act.put, List.setIfInBounds_toArray, List.set_cons_zero, List.set_cons_succ]
  refine NoPanic.normal ?_
  go_wp2
  go_ret
  exact ⟨rfl, HF.out⟩
set_option maxHeartbeats 8000000 in
set_option maxRecDepth 1000000 in
theorem stepQuota {W w : World} {gb d gp n : Nat} {k : Dk} {r : Rk} (h : BoAt W gb d gp k r w) (hi : BInv k r n) (hdi : DInv r) (nm to : ByteArray) (at' m : Int) (vb vp : Value) (hm : I64 m) :
    Calls Tryz.prog 7 #[.pointer (some ⟨gb, 0, none⟩), stepV 11 nm to at' m vb vp] w fun e w' => e = .returned (.bool true) ∧ BoI W gb n w' := by
  obtain ⟨w0, hw0⟩ : ∃ w0, w.alloc (.cells #[.int .i64 11, .string nm, .string to, .int .i64 at', .int .i64 m, vb, vp] 37) = w0 := ⟨_, rfl⟩
  have hb0 : Below w.heap.size w w0 := by rw [← hw0]; exact (Below.refl _ _).alloc (Nat.le_refl _) _
  have hs0 : w0.heap.size = w.heap.size + 1 := by rw [← hw0]; simp
  have hx0 : w0.heap[w.heap.size]? = some (.cells #[.int .i64 11, .string nm, .string to, .int .i64 at', .int .i64 m, vb, vp] 37) := by rw [← hw0]; show (w.heap.push _)[w.heap.size]? = _; simp
  have HSB : Hid (∀ u : World, u.heap[w.heap.size]? = some (.cells #[.int .i64 11, .string nm, .string to, .int .i64 at', .int .i64 m, vb, vp] 37) → u.cell? ⟨w.heap.size, 0, none⟩ = some (.int .i64 11) ∧ u.cell? ⟨w.heap.size, 4, none⟩ = some (.int .i64 m)) := fun u hu => by simp [World.cell?, hu]
  obtain ⟨z0, z4⟩ := HSB.out _ hx0
  obtain ⟨c0, c1, -, -⟩ := (h.later hb0).box
  have hbd : Below w.heap.size w w0.drew := ⟨hb0.os, hb0.tape, hb0.output, hb0.size, hb0.block⟩
  obtain ⟨z, hz⟩ : ∃ z : Int, (if qB m = true then (0 : Int) else 3) = z := ⟨_, rfl⟩
  have HC := Hid.mkR ((h.x hbd).setq m hm)
  rw [hz] at HC
  have HZ := Hid.mkR hz
  clear hz
  have HBI : Hid (BInv (if qB m = true then k.quotas m else k) (if qB m = true then r.quotas m else r) n ∧ DInv (if qB m = true then r.quotas m else r)) := by
    unfold Hid
    cases e : qB m with
    | true => rw [if_pos rfl, if_pos rfl]; exact ⟨hi.quotas e, hdi⟩
    | false => rw [if_neg (by simp), if_neg (by simp)]; exact ⟨hi, hdi⟩
  clear h hi hdi
  go_enter Tryz.func7, Tryz.ntmps7
  go_wp2_with fail
  refine wp_region_noPanic ?_
  refine Till.start 7 (S := fun u => u.cell? ⟨gb, 0, none⟩ = some (.pointer (some ⟨d, 0, none⟩)) ∧ u.cell? ⟨w.heap.size, 4, none⟩ = some (.int .i64 m)) (by kernel_rfl) ⟨c0, z4⟩ (fun hHeld => ?_)
  refine' Till.take 0 rfl (by kernel_rfl) (by kernel_rfl) (by kernel_rfl) (by kernel_rfl) (fun _ _ _ h => h) (Or.inl ⟨by rfl, ?_⟩) (by assumption) ?_
  rotate_left
  · (intro w hSw; (try dsimp only at hSw); go_simp <;> with_reducible rfl)
  try simp only [Act.put, List.setIfInBounds_toArray, List.set_cons_zero, List.set_cons_succ]
  refine' Till.take 1 rfl (by kernel_rfl) (by kernel_rfl) (by kernel_rfl) (by kernel_rfl) (fun _ _ _ h => h) (Or.inl ⟨by rfl, ?_⟩) (by assumption) ?_
  rotate_left
  · (intro w hSw; (try dsimp only at hSw); go_simp <;> with_reducible rfl)
  try simp only [Act.put, List.setIfInBounds_toArray, List.set_cons_zero, List.set_cons_succ]
  refine' Till.take 2 rfl (by kernel_rfl) (by kernel_rfl) (by kernel_rfl) (by kernel_rfl) (fun _ _ _ h => h) (Or.inl ⟨by rfl, ?_⟩) (by assumption) ?_
  rotate_left
  · (intro w hSw; (try dsimp only at hSw); go_simp <;> with_reducible rfl)
  try simp only [Act.put, List.setIfInBounds_toArray, List.set_cons_zero, List.set_cons_succ]
  refine' Till.take 3 rfl (by kernel_rfl) (by kernel_rfl) (by kernel_rfl) (by kernel_rfl) (fun _ _ _ h => h) (Or.inl ⟨by rfl, ?_⟩) (by assumption) ?_
  rotate_left
  · (intro w hSw; (try dsimp only at hSw); go_simp <;> with_reducible rfl)
  try simp only [Act.put, List.setIfInBounds_toArray, List.set_cons_zero, List.set_cons_succ]
  refine' Till.take 4 rfl (by kernel_rfl) (by kernel_rfl) (by kernel_rfl) (by kernel_rfl) (fun _ _ _ h => h) (Or.inl ⟨by rfl, ?_⟩) (by assumption) ?_
  rotate_left
  · (intro w hSw; (try dsimp only at hSw); go_simp <;> with_reducible rfl)
  try simp only [Act.put, List.setIfInBounds_toArray, List.set_cons_zero, List.set_cons_succ]
  refine' Till.take 5 rfl (by kernel_rfl) (by kernel_rfl) (by kernel_rfl) (by kernel_rfl) (fun _ _ _ h => h) (Or.inl ⟨by rfl, ?_⟩) (by assumption) ?_
  rotate_left
  · (intro w hSw; (try dsimp only at hSw); go_simp <;> with_reducible rfl)
  try simp only [Act.put, List.setIfInBounds_toArray, List.set_cons_zero, List.set_cons_succ]
  refine Till.one 6 (by kernel_rfl) rfl (fun K hK => ?_)
  go_simp
  go_at_call 16
  refine HC.out.mono ?_
  rintro e w2 ⟨rfl, hB2, hk2⟩
  have hx2 := (hk2 w.heap.size ⟨Nat.le_refl _, by show _ < w0.heap.size; omega⟩).trans hx0
  obtain ⟨y0, y4⟩ := HSB.out _ hx2
  obtain ⟨q0, q1, -, -⟩ := hB2.at.box
  have hbd2 : Below w2.heap.size w2 w2.drew := ⟨rfl, rfl, rfl, Nat.le_refl _, fun _ _ => rfl⟩
  have HR := Hid.mkR ((hB2.later hbd2).rsetq m hm)
  rw [HZ.out] at HR
  refine hK.out _ _ ⟨q0, y4⟩ (fun hHeld => ?_)
  clear hK K
  try simp only [Act.put, List.setIfInBounds_toArray, List.set_cons_zero, List.set_cons_succ]
  refine Till.last (by kernel_rfl) (by kernel_rfl) rfl (fun K hK => ?_)
  go_simp
  refine hK.out _ _ ?_
  clear hK K
  try simp only [Act.put, List.setIfInBounds_toArray, List.set_cons_zero, List.set_cons_succ]
  refine NoPanic.normal ?_
  go_wp2_with fail
  refine wp_region_noPanic ?_
  refine Till.start 7 (S := fun u => u.cell? ⟨gb, 1, none⟩ = some (.pointer (some ⟨gp, 0, none⟩)) ∧ u.cell? ⟨w.heap.size, 4, none⟩ = some (.int .i64 m)) (by kernel_rfl) ⟨q1, y4⟩ (fun hHeld => ?_)
  refine' Till.take 0 rfl (by kernel_rfl) (by kernel_rfl) (by kernel_rfl) (by kernel_rfl) (fun _ _ _ h => h) (Or.inl ⟨by rfl, ?_⟩) (by assumption) ?_
  rotate_left
  · (intro w hSw; (try dsimp only at hSw); go_simp <;> with_reducible rfl)
  try simp only [Act.put, List.setIfInBounds_toArray, List.set_cons_zero, List.set_cons_succ]
  refine' Till.take 1 rfl (by kernel_rfl) (by kernel_rfl) (by kernel_rfl) (by kernel_rfl) (fun _ _ _ h => h) (Or.inl ⟨by rfl, ?_⟩) (by assumption) ?_
  rotate_left
  · (intro w hSw; (try dsimp only at hSw); go_simp <;> with_reducible rfl)
  try simp only [Act.put, List.setIfInBounds_toArray, List.set_cons_zero, List.set_cons_succ]
  refine' Till.take 2 rfl (by kernel_rfl) (by kernel_rfl) (by kernel_rfl) (by kernel_rfl) (fun _ _ _ h => h) (Or.inl ⟨by rfl, ?_⟩) (by assumption) ?_
  rotate_left
  · (intro w hSw; (try dsimp only at hSw); go_simp <;> with_reducible rfl)
  try simp only [Act.put, List.setIfInBounds_toArray, List.set_cons_zero, List.set_cons_succ]
  refine' Till.take 3 rfl (by kernel_rfl) (by kernel_rfl) (by kernel_rfl) (by kernel_rfl) (fun _ _ _ h => h) (Or.inl ⟨by rfl, ?_⟩) (by assumption) ?_
  rotate_left
  · (intro w hSw; (try dsimp only at hSw); go_simp <;> with_reducible rfl)
  try simp only [Act.put, List.setIfInBounds_toArray, List.set_cons_zero, List.set_cons_succ]
  refine' Till.take 4 rfl (by kernel_rfl) (by kernel_rfl) (by kernel_rfl) (by kernel_rfl) (fun _ _ _ h => h) (Or.inl ⟨by rfl, ?_⟩) (by assumption) ?_
  rotate_left
  · (intro w hSw; (try dsimp only at hSw); go_simp <;> with_reducible rfl)
  try simp only [Act.put, List.setIfInBounds_toArray, List.set_cons_zero, List.set_cons_succ]
  refine' Till.take 5 rfl (by kernel_rfl) (by kernel_rfl) (by kernel_rfl) (by kernel_rfl) (fun _ _ _ h => h) (Or.inl ⟨by rfl, ?_⟩) (by assumption) ?_
  rotate_left
  · (intro w hSw; (try dsimp only at hSw); go_simp <;> with_reducible rfl)
  try simp only [Act.put, List.setIfInBounds_toArray, List.set_cons_zero, List.set_cons_succ]
  refine Till.one 6 (by kernel_rfl) rfl (fun K hK => ?_)
  go_simp
  go_at_call 17
  refine HR.out.mono ?_
  rintro e w3 ⟨rfl, hB3, hk3⟩
  have HF : Hid (BoI W gb n w3) := ⟨d, gp, _, _, hB3.at, HBI.out.1, HBI.out.2⟩
  have p1 := hB3.at.box.2.1
  have hx3 := (hk3 w.heap.size ⟨Nat.le_refl _, by show _ < w0.heap.size; omega⟩).trans hx2
  obtain ⟨x0, x4⟩ := HSB.out _ hx3
  refine hK.out _ _ ⟨p1, x4⟩ (fun hHeld => ?_)
  clear hK K
  try simp only [Act.put, List.setIfInBounds_toArray, List.set_cons_zero, List.set_cons_succ]
  refine Till.last (by kernel_rfl) (by kernel_rfl) rfl (fun K hK => ?_)
  go_simp
  refine hK.out _ _ ?_
  clear hK K
  try simp only [Act.put, List.setIfInBounds_toArray, List.set_cons_zero, List.set_cons_succ]
  refine NoPanic.normal ?_
  have hzz : decide (z = z) = true := by simp
  go_wp2
  go_ret
  exact ⟨rfl, HF.out⟩
end Go.Proofs.YthcnhjmkcekdaaaGreat
