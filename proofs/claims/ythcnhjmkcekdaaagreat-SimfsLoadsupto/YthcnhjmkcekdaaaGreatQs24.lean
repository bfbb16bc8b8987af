import Derived.Test.YthcnhjmkcekdaaaGreatQs23
import Derived.Test.YthcnhjmkcekdaaaGreatQs20
namespace Go.Proofs.YthcnhjmkcekdaaaGreat
open Go.RowKit Go.Maps Plain
set_option linter.unusedVariables false
set_option linter.unusedSimpArgs false
set_option maxHeartbeats 8000000 in
set_option maxRecDepth 100000 in
theorem changeR {w w1 : World} {gp : Nat} {k : Rk} {B : Nat → Prop} {blk : Nat → Option Nat} {vF vD : Value} {xs : List Ino} {dv : List Value} {sv tv : Nat → List Value} {f nb cb : Nat} {ab : Option Addr} {bs : List Nat} {r6 : Option Nat} {m : Int} {T : Nat → Prop} (h : RdM w gp k B blk vF vD xs dv sv tv) (hT : ∀ g, rdT gp B blk g → T g) (hf : f < k.ps.files.length)
    (hb : Below w.heap.size w w1) (hrow : Own w1 (.slice ab nb cb) bs r6) (hnew : ∀ g, r6 = some g → w.heap.size ≤ g) (hm : I64 m) (h1 : 1 ≤ (k.ps.files.getD f []).length) (hfl : k.ps.files.length ≤ 2199023255000) (hsl : (k.ps.files.getD f []).length < 2199023255000) (htl : (k.ps.grown.getD f []).length < 2199023255000) :
    Calls Tryz.prog 56 #[.pointer (some ⟨gp, 0, none⟩), .int .i64 f, .slice ab nb cb, .int .i64 m] w1 fun e w' => e = .returned (.tuple #[]) ∧ RtP gp ⟨⟨k.ps.files.set f (k.ps.files.getD f [] ++ [bs]), k.ps.grown.set f (k.ps.grown.getD f [] ++ [m]), k.ps.dirs⟩, k.most, k.left, k.off, k.done⟩ T w w' := by
  have hfx : f < xs.length := by rw [h.fl]; exact hf
  obtain ⟨gF, capF, gi, cF, a, c, r, e1, hrF, c0, hri, -, -, -, -, e9⟩ := (h.later hb).state hf (j := 0) (by omega)
  have hS1 := (h.later hb).S f hfx
  rw [e9] at hS1
  have hslv := h.sl f hfx
  have k0 := (rcells (h.later hb).cells).1.1
  rw [e1] at k0
  have hfi : (f : Int) < (k.ps.files.length : Int) := by omega
  have hf0 : (0 : Int) ≤ (f : Int) := by omega
  have hgFl := h.blt 0 gF hrF
  have hgpl := h.gpl
  have hs1 := hb.size
  obtain ⟨tx, htx, hy0, hy1, hy2⟩ := info_parts Tryz.infoB
  obtain ⟨ti, hti, hi0, hi1, hi2⟩ := info_parts Tryz.infoINT
  have HEND := Hid.mkR (fun (w7 : World) (v7 : Value) (g7 : Nat) (o : Obj) q1 q2 q3 => h.storeS (v7 := v7) (w7 := w7) (g7 := g7) hT hfx hrF hb hrow hnew o q1 q2 q3)
  have HH := Hid.mkR h
  obtain ⟨u1, hu1⟩ : ∃ u1, w1.drew.alloc (.cells #[.slice ab nb cb] 34) = u1 := ⟨_, rfl⟩
  have hbu : Below w1.heap.size w1 u1 := by rw [← hu1]; exact (Below.drew (Below.refl _ _)).alloc (Nat.le_refl _) _
  have k0u := (hbu.cell (p := ⟨gp, 0, none⟩) (by show gp < w1.heap.size; omega)).trans k0
  have c0u := (hbu.cell (p := ⟨gF, f * 2, none⟩) (by show gF < w1.heap.size; omega)).trans c0
  have HSU : Hid (OwnV u1 (.slice (some ⟨gi, 0, none⟩) (k.ps.files.getD f []).length cF) (sv f) (blk (2 * f + 2))) := hS1.of_block hbu.size (fun g e => hbu.block g (by have := h.blt _ g e; omega))
  have HSRC : Hid (Src Tryz.prog 1 81 (.slice (some ⟨w1.heap.size, 0, none⟩) 1 1) 1 [.slice ab nb cb] u1) := by rw [← hu1]; exact src_val w1.drew _ rfl _ 34 _ Tryz.underlying81
  have HTL := Hid.mkR htl
  have HST : Hid ((xs.getD f Ino.zero).st = .slice (some ⟨gi, 0, none⟩) (k.ps.files.getD f []).length cF) := e9
  clear hbu hS1 hrow hnew htl e9
  have hm1 := hm.1
  have hm2 := hm.2
  generalize (k.ps.files.getD f []).length = M at *
  go_enter Tryz.func56, Tryz.ntmps56
  go_wp2_with fail
  refine wp_region_noPanic ?_
  refine Till.start 18 (S := fun u => u.cell? ⟨gp, 0, none⟩ = some (.slice (some ⟨gF, 0, none⟩) k.ps.files.length capF) ∧ u.cell? ⟨gF, f * 2, none⟩ = some (.slice (some ⟨gi, 0, none⟩) M cF)) (by kernel_rfl) ⟨k0, c0⟩ (fun hHeld => ?_)
  refine' Till.take 0 rfl (by kernel_rfl) (by kernel_rfl) (by kernel_rfl) (by kernel_rfl) (fun _ _ _ h => h) (Or.inl ⟨by rfl, ?_⟩) (by assumption) ?_
  rotate_left
  · (intro w hSw; (try dsimp only at hSw); go_simp <;> with_reducible rfl)
  try simp only [Act.put, List.setIfInBounds_toArray, List.set_cons_zero, List.set_cons_succ]
  refine' Till.take 1 rfl (by kernel_rfl) (by kernel_rfl) (by kernel_rfl) (by kernel_rfl) (fun _ _ _ h => h) (Or.inl ⟨by rfl, ?_⟩) (by assumption) ?_
  rotate_left
  · (intro w hSw; (try dsimp only at hSw); go_simp <;> with_reducible rfl)
  try simp only [Act.put, List.setIfInBounds_toArray, List.set_cons_zero, List.set_cons_succ]
  refine' Till.take 2 rfl (by kernel_rfl) (by kernel_rfl) (by kernel_rfl) (by kernel_rfl) (fun _ _ _ h => h) (Or.inl ⟨by rfl, ?_⟩) (by assumption) ?_
  rotate_left
  · (intro w hSw; (try dsimp only at hSw); go_simp <;> with_reducible rfl)
  try simp only [Act.put, List.setIfInBounds_toArray, List.set_cons_zero, List.set_cons_succ]
  refine' Till.take 3 rfl (by kernel_rfl) (by kernel_rfl) (by kernel_rfl) (by kernel_rfl) (fun _ _ _ h => h) (Or.inl ⟨by rfl, ?_⟩) (by assumption) ?_
  rotate_left
  · (intro w hSw; (try dsimp only at hSw); go_simp <;> with_reducible rfl)
  try simp only [Act.put, List.setIfInBounds_toArray, List.set_cons_zero, List.set_cons_succ]
  refine' Till.take 4 rfl (by kernel_rfl) (by kernel_rfl) (by kernel_rfl) (by kernel_rfl) (fun _ _ _ h => h) (Or.inl ⟨by rfl, ?_⟩) (by assumption) ?_
  rotate_left
  · (intro w hSw; (try dsimp only at hSw); go_simp <;> with_reducible rfl)
  try simp only [Act.put, List.setIfInBounds_toArray, List.set_cons_zero, List.set_cons_succ]
  refine' Till.take 5 rfl (by kernel_rfl) (by kernel_rfl) (by kernel_rfl) (by kernel_rfl) (fun _ _ _ h => h) (Or.inl ⟨by rfl, ?_⟩) (by assumption) ?_
  rotate_left
  · (intro w hSw; (try dsimp only at hSw); go_simp <;> with_reducible rfl)
  try simp only [Act.put, List.setIfInBounds_toArray, List.set_cons_zero, List.set_cons_succ]
  refine' Till.take 6 rfl (by kernel_rfl) (by kernel_rfl) (by kernel_rfl) (by kernel_rfl) (fun _ _ _ h => h) (Or.inl ⟨by rfl, ?_⟩) (by assumption) ?_
  rotate_left
  · (intro w hSw; (try dsimp only at hSw); go_simp <;> with_reducible rfl)
  try simp only [Act.put, List.setIfInBounds_toArray, List.set_cons_zero, List.set_cons_succ]
  refine' Till.take 7 rfl (by kernel_rfl) (by kernel_rfl) (by kernel_rfl) (by kernel_rfl) (fun _ _ _ h => h) (Or.inl ⟨by rfl, ?_⟩) (by assumption) ?_
  rotate_left
  · (intro w hSw; (try dsimp only at hSw); go_simp <;> with_reducible rfl)
  try simp only [Act.put, List.setIfInBounds_toArray, List.set_cons_zero, List.set_cons_succ]
  refine' Till.take 8 rfl (by kernel_rfl) (by kernel_rfl) (by kernel_rfl) (by kernel_rfl) (fun _ _ _ h => h) (Or.inl ⟨by rfl, ?_⟩) (by assumption) ?_
  rotate_left
  · (intro w hSw; (try dsimp only at hSw); go_simp <;> with_reducible rfl)
  try simp only [Act.put, List.setIfInBounds_toArray, List.set_cons_zero, List.set_cons_succ]
  refine' Till.take 9 rfl (by kernel_rfl) (by kernel_rfl) (by kernel_rfl) (by kernel_rfl) (fun _ _ _ h => h) (Or.inl ⟨by rfl, ?_⟩) (by assumption) ?_
  rotate_left
  · (intro w hSw; (try dsimp only at hSw); go_simp <;> with_reducible rfl)
  try simp only [Act.put, List.setIfInBounds_toArray, List.set_cons_zero, List.set_cons_succ]
  refine' Till.take 10 rfl (by kernel_rfl) (by kernel_rfl) (by kernel_rfl) (by kernel_rfl) (fun _ _ _ h => h) (Or.inl ⟨by rfl, ?_⟩) (by assumption) ?_
  rotate_left
  · (intro w hSw; (try dsimp only at hSw); go_simp <;> with_reducible rfl)
  try simp only [Act.put, List.setIfInBounds_toArray, List.set_cons_zero, List.set_cons_succ]
  refine' Till.take 11 rfl (by kernel_rfl) (by kernel_rfl) (by kernel_rfl) (by kernel_rfl) (fun _ _ _ h => h) (Or.inl ⟨by rfl, ?_⟩) (by assumption) ?_
  rotate_left
  · (intro w hSw; (try dsimp only at hSw); go_simp <;> with_reducible rfl)
  try simp only [Act.put, List.setIfInBounds_toArray, List.set_cons_zero, List.set_cons_succ]
  refine' Till.take 12 rfl (by kernel_rfl) (by kernel_rfl) (by kernel_rfl) (by kernel_rfl) (fun _ _ _ h => h) (Or.inl ⟨by rfl, ?_⟩) (by assumption) ?_
  rotate_left
  · (intro w hSw; (try dsimp only at hSw); go_simp <;> with_reducible rfl)
  try simp only [Act.put, List.setIfInBounds_toArray, List.set_cons_zero, List.set_cons_succ]
  refine' Till.take 13 rfl (by kernel_rfl) (by kernel_rfl) (by kernel_rfl) (by kernel_rfl) (fun _ _ _ h => h) (Or.inl ⟨by rfl, ?_⟩) (by assumption) ?_
  rotate_left
  · (intro w hSw; (try dsimp only at hSw); go_simp <;> with_reducible rfl)
  try simp only [Act.put, List.setIfInBounds_toArray, List.set_cons_zero, List.set_cons_succ]
  refine Till.one 14 (by kernel_rfl) rfl (fun K hK => ?_)
  go_simp
  refine hK.out _ _ ?_ (fun hHeld => ?_)
  · exact ⟨k0u, c0u⟩
  clear hK K
  try simp only [Act.put, List.setIfInBounds_toArray, List.set_cons_zero, List.set_cons_succ]
  refine Till.one 15 (by kernel_rfl) rfl (fun K hK => ?_)
  refine step_append_val2 rfl (.tmp 20) (.tmp 22) 81 34 tx (.slice none 0 0) Tryz.underlying81 htx hy0 rfl hy1 (by rw [hy2]; decide) rfl (.slice (some ⟨gi, 0, none⟩) M cF) (.slice (some ⟨w1.heap.size, 0, none⟩) 1 1) (.slice ab nb cb) (sv f) (blk (2 * f + 2)) (by first | rfl | simp [Act.eval, Act.put]) (by first | rfl | simp [Act.eval, Act.put]) HSU.out HSRC.out (by rw [hslv]; omega) ?_
  intro v7 w7 g7 ho7 hg7 hr7
  have hv7 : ∃ a7 N7 c7, v7 = .slice a7 N7 c7 := ho7.shape.elim fun a7 h => h.elim fun c7 h2 => ⟨a7, _, c7, h2.1⟩
  rcases hv7 with ⟨a7, N7, c7, rfl⟩
  have hgd : (w1.alloc (.cells #[.slice ab nb cb] 34)).grownBy w7 (blk (2 * f + 2)) := by
    have := hg7
    rw [← hu1] at this
    exact ⟨this.os, this.tape, this.output, this.size, this.block⟩
  have hsu : u1.heap.size = (w1.alloc (.cells #[.slice ab nb cb] 34)).heap.size := by rw [← hu1]; rfl
  rcases HEND.out w7 (.slice a7 N7 c7) g7 _ ho7 hgd (by rw [← hsu]; exact hr7) with ⟨hE7, hc7⟩
  have q1 : w7.heap[gp]? = w.heap[gp]? := hc7.block gp hgpl (fun e => (HH.out.me _ gp e).1 rfl)
  have q2 : w7.heap[gF]? = w.heap[gF]? := hc7.block gF hgFl (fun e => by have := HH.out.sep _ _ gF e hrF; omega)
  have k0w : w7.cell? ⟨gp, 0, none⟩ = some (.slice (some ⟨gF, 0, none⟩) k.ps.files.length capF) := by rw [← e1]; exact (World.cell?_of_block (w := w) (a := ⟨gp, 0, none⟩) q1).trans (rcells HH.out.cells).1.1
  obtain ⟨gF', cap', e1', -, c0', -, fz', -⟩ := HH.out.F.full hfx
  cases hrF.symm.trans e1'
  rw [HST.out] at c0'
  have c0w : w7.cell? ⟨gF, f * 2, none⟩ = some (.slice (some ⟨gi, 0, none⟩) M cF) := (World.cell?_of_block (w := w) (a := ⟨gF, f * 2, none⟩) q2).trans c0'
  have fzw : w7.frozen? ⟨gF, f * 2, none⟩ = false := (World.frozen?_of_block (w := w) (a := ⟨gF, f * 2, none⟩) q2).trans fz'
  have HE7 := Hid.mkR hE7
  clear hE7 hc7 ho7 hg7 hr7 hgd hsu q1 q2 c0' fz'
  refine hK.out _ _ ?_ (fun hHeld => ?_)
  · exact ⟨k0w, c0w⟩
  clear hK K
  try simp only [Act.put, List.setIfInBounds_toArray, List.set_cons_zero, List.set_cons_succ]
  refine' Till.take 16 rfl (by kernel_rfl) (by kernel_rfl) (by kernel_rfl) (by kernel_rfl) (fun _ _ _ h => h) (Or.inl ⟨by rfl, ?_⟩) (by assumption) ?_
  rotate_left
  · (intro w hSw; (try dsimp only at hSw); go_simp <;> with_reducible rfl)
  try simp only [Act.put, List.setIfInBounds_toArray, List.set_cons_zero, List.set_cons_succ]
  refine' Till.take 17 rfl (by kernel_rfl) (by kernel_rfl) (by kernel_rfl) (by kernel_rfl) (fun _ _ _ h => h) (Or.inl ⟨by rfl, ?_⟩) (by assumption) ?_
  rotate_left
  · (intro w hSw; (try dsimp only at hSw); go_simp <;> with_reducible rfl)
  try simp only [Act.put, List.setIfInBounds_toArray, List.set_cons_zero, List.set_cons_succ]
  refine Till.last (by kernel_rfl) (by kernel_rfl) rfl (fun K hK => ?_)
  go_simp
  refine hK.out _ _ ?_
  clear hK K
  try simp only [Act.put, List.setIfInBounds_toArray, List.set_cons_zero, List.set_cons_succ]
  refine NoPanic.normal ?_
  have HFST := Hid.mkR HE7.out
  have hC8 := HE7.out.2
  obtain ⟨⟨B2, blk2, vF2, vD2, xs2, dv2, sv2, tv2, h2, hT2⟩, -⟩ := HE7.out
  have HC8 := Hid.mkR hC8
  have HH2 := Hid.mkR h2
  generalize w7.setCell ⟨gF, f * 2, none⟩ (.slice a7 N7 c7) = w8 at *
  have hfl2 : k.ps.files.length = xs2.length := by rw [h2.fl]; show _ = (k.ps.files.set f _).length; rw [List.length_set]
  have hf2 : f < xs2.length := by rw [← hfl2]; exact hf
  obtain ⟨gF2, capF2, hrF2, e2, d0, d1, z0, z1⟩ := h2.F.full hf2
  have hM2 := h2.G f hf2
  obtain ⟨aM, cM, e3, -, -⟩ := hM2.shape
  have htl2 : (tv2 f).length < 2199023255000 := by rw [h2.tl f hf2]; exact HTL.out
  rw [e3] at hM2 d1
  have k2 := (rcells h2.cells).1.1
  rw [e2] at k2
  have hfi2 : (f : Int) < (xs2.length : Int) := by omega
  have hgF2l := h2.blt 0 gF2 hrF2
  have hgp2l := h2.gpl
  have HEND2 := Hid.mkR (fun (w7 : World) (v7 : Value) (g7 : Nat) (o : Obj) q1 q2 q3 => h2.storeM (v7 := v7) (w7 := w7) (g7 := g7) (m := m) hT2 hf2 hrF2 (Below.refl _ _) rfl hm o q1 q2 q3)
  obtain ⟨u2, hu2⟩ : ∃ u2, w8.drew.alloc (.cells #[.int .i64 m] 3) = u2 := ⟨_, rfl⟩
  have hbu2 : Below w8.heap.size w8 u2 := by rw [← hu2]; exact (Below.drew (Below.refl _ _)).alloc (Nat.le_refl _) _
  have k2u := (hbu2.cell (p := ⟨gp, 0, none⟩) hgp2l).trans k2
  have d1u := (hbu2.cell (p := ⟨gF2, f * 2 + 1, none⟩) hgF2l).trans d1
  have HSU2 : Hid (OwnV u2 (.slice aM (tv2 f).length cM) (tv2 f) (blk2 (2 * f + 3))) := hM2.of_block hbu2.size (fun g e => hbu2.block g (h2.blt _ g e))
  have HSRC2 : Hid (Src Tryz.prog 1 35 (.slice (some ⟨w8.heap.size, 0, none⟩) 1 1) 1 [.int .i64 m] u2) := by rw [← hu2]; exact src_val w8.drew _ rfl _ 3 _ Tryz.underlying35
  have HMO := Hid.mkR e3
  have HE2 := Hid.mkR e2
  clear hbu2 hM2 e3 e2 h2 hT2 hC8 HE7 k0w c0w fzw k0 c0 k0u c0u HEND HSU HSRC HH hHeld
  generalize hML : (tv2 f).length = M2 at *
  have HML := Hid.mkR hML
  clear hML
  go_wp2_with fail
  refine wp_region_noPanic ?_
  refine Till.start 18 (S := fun u => u.cell? ⟨gp, 0, none⟩ = some (.slice (some ⟨gF2, 0, none⟩) xs2.length capF2) ∧ u.cell? ⟨gF2, f * 2 + 1, none⟩ = some (.slice aM M2 cM)) (by kernel_rfl) ⟨k2, d1⟩ (fun hHeld => ?_)
  refine' Till.take 0 rfl (by kernel_rfl) (by kernel_rfl) (by kernel_rfl) (by kernel_rfl) (fun _ _ _ h => h) (Or.inl ⟨by rfl, ?_⟩) (by assumption) ?_
  rotate_left
  · (intro w hSw; (try dsimp only at hSw); go_simp <;> with_reducible rfl)
  try simp only [Act.put, List.setIfInBounds_toArray, List.set_cons_zero, List.set_cons_succ]
  refine' Till.take 1 rfl (by kernel_rfl) (by kernel_rfl) (by kernel_rfl) (by kernel_rfl) (fun _ _ _ h => h) (Or.inl ⟨by rfl, ?_⟩) (by assumption) ?_
  rotate_left
  · (intro w hSw; (try dsimp only at hSw); go_simp <;> with_reducible rfl)
  try simp only [Act.put, List.setIfInBounds_toArray, List.set_cons_zero, List.set_cons_succ]
  refine' Till.take 2 rfl (by kernel_rfl) (by kernel_rfl) (by kernel_rfl) (by kernel_rfl) (fun _ _ _ h => h) (Or.inl ⟨by rfl, ?_⟩) (by assumption) ?_
  rotate_left
  · (intro w hSw; (try dsimp only at hSw); go_simp <;> with_reducible rfl)
  try simp only [Act.put, List.setIfInBounds_toArray, List.set_cons_zero, List.set_cons_succ]
  refine' Till.take 3 rfl (by kernel_rfl) (by kernel_rfl) (by kernel_rfl) (by kernel_rfl) (fun _ _ _ h => h) (Or.inl ⟨by rfl, ?_⟩) (by assumption) ?_
  rotate_left
  · (intro w hSw; (try dsimp only at hSw); go_simp <;> with_reducible rfl)
  try simp only [Act.put, List.setIfInBounds_toArray, List.set_cons_zero, List.set_cons_succ]
  refine' Till.take 4 rfl (by kernel_rfl) (by kernel_rfl) (by kernel_rfl) (by kernel_rfl) (fun _ _ _ h => h) (Or.inl ⟨by rfl, ?_⟩) (by assumption) ?_
  rotate_left
  · (intro w hSw; (try dsimp only at hSw); go_simp <;> with_reducible rfl)
  try simp only [Act.put, List.setIfInBounds_toArray, List.set_cons_zero, List.set_cons_succ]
  refine' Till.take 5 rfl (by kernel_rfl) (by kernel_rfl) (by kernel_rfl) (by kernel_rfl) (fun _ _ _ h => h) (Or.inl ⟨by rfl, ?_⟩) (by assumption) ?_
  rotate_left
  · (intro w hSw; (try dsimp only at hSw); go_simp <;> with_reducible rfl)
  try simp only [Act.put, List.setIfInBounds_toArray, List.set_cons_zero, List.set_cons_succ]
  refine' Till.take 6 rfl (by kernel_rfl) (by kernel_rfl) (by kernel_rfl) (by kernel_rfl) (fun _ _ _ h => h) (Or.inl ⟨by rfl, ?_⟩) (by assumption) ?_
  rotate_left
  · (intro w hSw; (try dsimp only at hSw); go_simp <;> with_reducible rfl)
  try simp only [Act.put, List.setIfInBounds_toArray, List.set_cons_zero, List.set_cons_succ]
  refine' Till.take 7 rfl (by kernel_rfl) (by kernel_rfl) (by kernel_rfl) (by kernel_rfl) (fun _ _ _ h => h) (Or.inl ⟨by rfl, ?_⟩) (by assumption) ?_
  rotate_left
  · (intro w hSw; (try dsimp only at hSw); go_simp <;> with_reducible rfl)
  try simp only [Act.put, List.setIfInBounds_toArray, List.set_cons_zero, List.set_cons_succ]
  refine' Till.take 8 rfl (by kernel_rfl) (by kernel_rfl) (by kernel_rfl) (by kernel_rfl) (fun _ _ _ h => h) (Or.inl ⟨by rfl, ?_⟩) (by assumption) ?_
  rotate_left
  · (intro w hSw; (try dsimp only at hSw); go_simp <;> with_reducible rfl)
  try simp only [Act.put, List.setIfInBounds_toArray, List.set_cons_zero, List.set_cons_succ]
  refine' Till.take 9 rfl (by kernel_rfl) (by kernel_rfl) (by kernel_rfl) (by kernel_rfl) (fun _ _ _ h => h) (Or.inl ⟨by rfl, ?_⟩) (by assumption) ?_
  rotate_left
  · (intro w hSw; (try dsimp only at hSw); go_simp <;> with_reducible rfl)
  try simp only [Act.put, List.setIfInBounds_toArray, List.set_cons_zero, List.set_cons_succ]
  refine' Till.take 10 rfl (by kernel_rfl) (by kernel_rfl) (by kernel_rfl) (by kernel_rfl) (fun _ _ _ h => h) (Or.inl ⟨by rfl, ?_⟩) (by assumption) ?_
  rotate_left
  · (intro w hSw; (try dsimp only at hSw); go_simp <;> with_reducible rfl)
  try simp only [Act.put, List.setIfInBounds_toArray, List.set_cons_zero, List.set_cons_succ]
  refine' Till.take 11 rfl (by kernel_rfl) (by kernel_rfl) (by kernel_rfl) (by kernel_rfl) (fun _ _ _ h => h) (Or.inl ⟨by rfl, ?_⟩) (by assumption) ?_
  rotate_left
  · (intro w hSw; (try dsimp only at hSw); go_simp <;> with_reducible rfl)
  try simp only [Act.put, List.setIfInBounds_toArray, List.set_cons_zero, List.set_cons_succ]
  refine' Till.take 12 rfl (by kernel_rfl) (by kernel_rfl) (by kernel_rfl) (by kernel_rfl) (fun _ _ _ h => h) (Or.inl ⟨by rfl, ?_⟩) (by assumption) ?_
  rotate_left
  · (intro w hSw; (try dsimp only at hSw); go_simp <;> with_reducible rfl)
  try simp only [Act.put, List.setIfInBounds_toArray, List.set_cons_zero, List.set_cons_succ]
  refine' Till.take 13 rfl (by kernel_rfl) (by kernel_rfl) (by kernel_rfl) (by kernel_rfl) (fun _ _ _ h => h) (Or.inl ⟨by rfl, ?_⟩) (by assumption) ?_
  rotate_left
  · (intro w hSw; (try dsimp only at hSw); go_simp <;> with_reducible rfl)
  try simp only [Act.put, List.setIfInBounds_toArray, List.set_cons_zero, List.set_cons_succ]
  refine Till.one 14 (by kernel_rfl) rfl (fun K hK => ?_)
  go_simp
  refine hK.out _ _ ?_ (fun hHeld => ?_)
  · exact ⟨k2u, d1u⟩
  clear hK K
  try simp only [Act.put, List.setIfInBounds_toArray, List.set_cons_zero, List.set_cons_succ]
  refine Till.one 15 (by kernel_rfl) rfl (fun K hK => ?_)
  refine step_append_val2 rfl (.tmp 38) (.tmp 40) 35 3 ti (.int .i64 0) Tryz.underlying35 hti hi0 rfl hi1 (by rw [hi2]; decide) rfl (.slice aM M2 cM) (.slice (some ⟨w8.heap.size, 0, none⟩) 1 1) (.int .i64 m) (tv2 f) (blk2 (2 * f + 3)) (by first | rfl | simp [Act.eval, Act.put]) (by first | rfl | simp [Act.eval, Act.put]) HSU2.out HSRC2.out (by have : (tv2 f).length = M2 := HML.out; omega) ?_
  intro v9 w9 g9 ho9 hg9 hr9
  have hv9 : ∃ a7 N7 c7, v9 = .slice a7 N7 c7 := ho9.shape.elim fun a7 h => h.elim fun c7 h2 => ⟨a7, _, c7, h2.1⟩
  rcases hv9 with ⟨a9, N9, c9, rfl⟩
  have hgd : (w8.alloc (.cells #[.int .i64 m] 3)).grownBy w9 (blk2 (2 * f + 3)) := by
    have := hg9
    rw [← hu2] at this
    exact ⟨this.os, this.tape, this.output, this.size, this.block⟩
  have hsu : u2.heap.size = (w8.alloc (.cells #[.int .i64 m] 3)).heap.size := by rw [← hu2]; rfl
  rcases HEND2.out w9 (.slice a9 N9 c9) g9 _ ho9 hgd (by rw [← hsu]; exact hr9) with ⟨hE9, hc9⟩
  have q1 : w9.heap[gp]? = w8.heap[gp]? := hc9.block gp hgp2l (fun e => (HH2.out.me _ gp e).1 rfl)
  have q2 : w9.heap[gF2]? = w8.heap[gF2]? := hc9.block gF2 hgF2l (fun e => by have := HH2.out.sep _ _ gF2 e hrF2; omega)
  have k2w : w9.cell? ⟨gp, 0, none⟩ = some (.slice (some ⟨gF2, 0, none⟩) xs2.length capF2) := by rw [← HE2.out]; exact (World.cell?_of_block (w := w8) (a := ⟨gp, 0, none⟩) q1).trans (rcells HH2.out.cells).1.1
  have d1w : w9.cell? ⟨gF2, f * 2 + 1, none⟩ = some (.slice aM M2 cM) := (World.cell?_of_block (w := w8) (a := ⟨gF2, f * 2 + 1, none⟩) q2).trans d1
  have fzw : w9.frozen? ⟨gF2, f * 2 + 1, none⟩ = false := (World.frozen?_of_block (w := w8) (a := ⟨gF2, f * 2 + 1, none⟩) q2).trans z1
  have HE9 := Hid.mkR hE9
  clear hE9 hc9 ho9 hg9 hr9 hgd hsu q1 q2
  refine hK.out _ _ ?_ (fun hHeld => ?_)
  · exact ⟨k2w, d1w⟩
  clear hK K
  try simp only [Act.put, List.setIfInBounds_toArray, List.set_cons_zero, List.set_cons_succ]
  refine' Till.take 16 rfl (by kernel_rfl) (by kernel_rfl) (by kernel_rfl) (by kernel_rfl) (fun _ _ _ h => h) (Or.inl ⟨by rfl, ?_⟩) (by assumption) ?_
  rotate_left
  · (intro w hSw; (try dsimp only at hSw); go_simp <;> with_reducible rfl)
  try simp only [Act.put, List.setIfInBounds_toArray, List.set_cons_zero, List.set_cons_succ]
  refine' Till.take 17 rfl (by kernel_rfl) (by kernel_rfl) (by kernel_rfl) (by kernel_rfl) (fun _ _ _ h => h) (Or.inl ⟨by rfl, ?_⟩) (by assumption) ?_
  rotate_left
  · (intro w hSw; (try dsimp only at hSw); go_simp <;> with_reducible rfl)
  try simp only [Act.put, List.setIfInBounds_toArray, List.set_cons_zero, List.set_cons_succ]
  refine Till.last (by kernel_rfl) (by kernel_rfl) rfl (fun K hK => ?_)
  go_simp
  refine hK.out _ _ ?_
  clear hK K
  try simp only [Act.put, List.setIfInBounds_toArray, List.set_cons_zero, List.set_cons_succ]
  refine NoPanic.normal ?_
  have HFIN : Hid (RtP gp ⟨⟨k.ps.files.set f (k.ps.files.getD f [] ++ [bs]), k.ps.grown.set f (k.ps.grown.getD f [] ++ [m]), k.ps.dirs⟩, k.most, k.left, k.off, k.done⟩ T w (w9.setCell ⟨gF2, f * 2 + 1, none⟩ (.slice a9 N9 c9))) := RtP.trans (k := ⟨⟨k.ps.files.set f (k.ps.files.getD f [] ++ [bs]), k.ps.grown, k.ps.dirs⟩, k.most, k.left, k.off, k.done⟩) HFST.out HE9.out
  clear HE9
  go_wp2
  go_end0
  exact ⟨rfl, HFIN.out⟩
end Go.Proofs.YthcnhjmkcekdaaaGreat

namespace Go.Proofs.YthcnhjmkcekdaaaGreat
open Go.RowKit Go.Maps Plain
set_option linter.unusedVariables false
set_option linter.unusedSimpArgs false
/-- What is kept is in order: the files that names lead to are there. -/
structure Ps.Ok (p : Ps) : Prop where
  fl : p.files.length ≤ 2199023255000
  dl : p.dirs.length ≤ 2199023255000
  nl : ∀ j, j < p.dirs.length → (p.dirs.getD j []).length ≤ 2199023255000
  ref : ∀ j, j < p.dirs.length → ∀ x ∈ p.dirs.getD j [], x.2 < p.files.length
  len : p.grown.length = p.files.length
  gl : ∀ f, f < p.files.length → (p.grown.getD f []).length = (p.files.getD f []).length ∧ (p.files.getD f []).length ≤ 2199023255000
  one : ∀ f, f < p.files.length → 1 ≤ (p.files.getD f []).length
end Go.Proofs.YthcnhjmkcekdaaaGreat

namespace Go.Proofs.YthcnhjmkcekdaaaGreat
open Go.RowKit Go.Maps Plain
set_option linter.unusedVariables false
set_option linter.unusedSimpArgs false
theorem RdM.drewN {w : World} {gp : Nat} {k : Rk} {B : Nat → Prop} {blk : Nat → Option Nat} {vF vD : Value} {xs : List Ino} {dv : List Value} {sv tv : Nat → List Value} (h : RdM w gp k B blk vF vD xs dv sv tv) (n : Nat) : RdM (w.drewN n) gp k B blk vF vD xs dv sv tv := h.later (below_drewN (Below.refl _ _) n)
/-- What is kept is in order. -/
structure Rk.Ok (k : Rk) : Prop where
  ps : k.ps.Ok
  d1 : 1 ≤ k.ps.dirs.length
theorem Rk.Ok.see {k : Rk} (h : k.Ok) : k.ps.last.length ≤ 2199023255000 := h.ps.nl _ (by have := h.d1; omega)
theorem Rk.Ok.ref {k : Rk} (h : k.Ok) {x : Nm × Nat} (hx : x ∈ k.ps.last) : x.2 < k.ps.files.length ∧ 1 ≤ (k.ps.files.getD x.2 []).length ∧ (k.ps.files.getD x.2 []).length ≤ 2199023255000 := by
  have := h.ps.ref _ (by have := h.d1; omega) x hx
  exact ⟨this, h.ps.one _ this, (h.ps.gl _ this).2⟩
def usedN (p : Ps) (l : List (Nm × Nat)) : Nat := (l.map fun x => (p.now x.2).length).sum
theorem usedN_take (p : Ps) (l : List (Nm × Nat)) {k : Nat} (h : k < l.length) : usedN p (l.take (k + 1)) = usedN p (l.take k) + (p.now (l.getD k ([], 0)).2).length := by
  unfold usedN
  rw [take_getD ([], 0) h, List.map_append, List.sum_append]
  simp
theorem usedN_le (p : Ps) (l : List (Nm × Nat)) (k : Nat) : usedN p (l.take k) ≤ usedN p l := by
  unfold usedN
  have := congrArg (fun z => (z.map fun x : Nm × Nat => (p.now x.2).length).sum) (List.take_append_drop k l)
  simp only [List.map_append, List.sum_append] at this
  omega
/-- What bytes answers. -/
theorem bytesG {w : World} {gp : Nat} {k : Rk} {B : Nat → Prop} {blk : Nat → Option Nat} {vF vD : Value} {xs : List Ino} {dv : List Value} {sv tv : Nat → List Value} (h : RdM w gp k B blk vF vD xs dv sv tv) {f : Nat} (hf : f < k.ps.files.length) (h1 : 1 ≤ (k.ps.files.getD f []).length) (hfl : k.ps.files.length ≤ 4398046511103) (hsl : (k.ps.files.getD f []).length ≤ 4398046511103) :
    ∃ a c r, Own w (.slice a (k.ps.now f).length c) (k.ps.now f) r ∧ (∀ g, r = some g → B g) ∧ (∀ n, Calls Tryz.prog 55 #[.pointer (some ⟨gp, 0, none⟩), .int .i64 f] (w.drewN n) fun e w' => e = .returned (.slice a (k.ps.now f).length c) ∧ ∃ m, w' = w.drewN m) ∧ (sv f).getD ((k.ps.files.getD f []).length - 1) undef = .slice a (k.ps.now f).length c := by
  obtain ⟨gF, capF, gi, cF, a, c, r, -, -, -, -, -, e, ho, hr, -⟩ := h.state hf (j := (k.ps.files.getD f []).length - 1) (by omega)
  refine ⟨a, c, r, ho, hr, fun n => ?_, e⟩
  refine (bytesOf (h.drewN n) hf h1 hfl hsl).mono ?_
  rintro e2 w' ⟨rfl, m, rfl⟩
  exact ⟨by rw [e]; rfl, n + m, by rw [World.drewN_drewN]⟩
set_option maxHeartbeats 4000000 in
set_option maxRecDepth 100000 in
theorem rusedOf {w : World} {gp : Nat} {k : Rk} {B : Nat → Prop} {blk : Nat → Option Nat} {vF vD : Value} {xs : List Ino} {dv : List Value} {sv tv : Nat → List Value} (h : RdM w gp k B blk vF vD xs dv sv tv) (hk : k.Ok) (hs : usedN k.ps k.ps.last ≤ 4611686018427387904) :
    Calls Tryz.prog 24 #[.pointer (some ⟨gp, 0, none⟩)] w fun e w' => e = .returned (.int .i64 (usedN k.ps k.ps.last : Int)) ∧ ∃ n, w' = w.drewN n := by
  have hdl := hk.ps.dl
  have HSE := Hid.mkR (seenOf h hk.d1 (by omega))
  obtain ⟨a, c, r, e, hrow, -⟩ := h.see hk.d1
  rw [e] at HSE
  have HR : Hid (OwnNw w (.slice a k.ps.last.length c) (k.ps.last.map nwOf) r) := hrow
  have HB := Hid.mkR (fun (x : Nm × Nat) (hx : x ∈ k.ps.last) => bytesG h (hk.ref hx).1 (hk.ref hx).2.1 (by have := hk.ps.fl; omega) (by have := (hk.ref hx).2.2; omega))
  have hll := hk.see
  have HLE := Hid.mkR (usedN_le k.ps k.ps.last)
  have HST := Hid.mkR (fun (n : Nat) (hn : n < k.ps.last.length) => usedN_take k.ps k.ps.last hn)
  clear hrow h e hk
  generalize hU : usedN k.ps k.ps.last = U at *
  generalize k.ps.last = l at *
  go_enter Tryz.func24, Tryz.ntmps24
  go_wp2_with fail
  refine HSE.out.mono ?_
  rintro e w' ⟨rfl, nq, rfl⟩
  clear HSE
  go_wp2
  go_loopw [3, 5] (fun n i wr => ∃ (j m : Nat), j ≤ l.length ∧ i = .int .i64 j ∧ n = .int .i64 m ∧ m ≤ U ∧ Hid (m = usedN k.ps (l.take j)) ∧ Hid (∃ n, wr = w.drewN n)) (fun _ i _ => l.length - (intOf i).toNat)
  case atStart => exact ⟨0, 0, by omega, rfl, rfl, by omega, by unfold Hid usedN; simp, ⟨_, rfl⟩⟩
  case round =>
    obtain ⟨j, m, hj, rfl, rfl, hm, HM, HD⟩ := hrel
    by_cases hlt : j < l.length
    · obtain ⟨n, hn⟩ := HD.out
      have hji : (j : Int) < (l.length : Int) := by omega
      obtain ⟨g, rfl, rfl, d0, d1⟩ := row_nw (HR.out.later (below_drewN (Below.refl _ _) n)) hlt
      rw [← hn] at d0 d1
      have hmem : l.getD j ([], 0) ∈ l := by rw [List.getD_eq_getElem?_getD, List.getElem?_eq_getElem hlt]; exact List.getElem_mem hlt
      obtain ⟨ab, cb, rb, -, -, hcall, -⟩ := HB.out _ hmem
      have HST1 := Hid.mkR (HST.out j hlt)
      have HC := Hid.mkR (hcall n)
      rw [← hn] at HC
      have hN : m + (k.ps.now (l.getD j ([], 0)).2).length ≤ U := by
        have h1 := HST1.out
        have h2 := HLE.out (j + 1)
        have h3 := HM.out
        omega
      have HM2 : Hid (m + (k.ps.now (l.getD j ([], 0)).2).length = usedN k.ps (l.take (j + 1))) := by
        have h1 := HST1.out
        have h3 := HM.out
        show _ = _
        omega
      clear hn hcall HST1 hmem
      generalize (k.ps.now (l.getD j ([], 0)).2).length = N at *
      generalize l.getD j ([], 0) = x at *
      go_wp2_with fail
      refine HC.out.mono ?_
      rintro e w2 ⟨rfl, m2, rfl⟩
      clear HC
      go_wp2
      go_roundw
      case rel => exact ⟨j + 1, m + N, by omega, by go_num, by go_num, hN, HM2, ⟨_, rfl⟩⟩
      case measure => simp [intOf]; omega
    · have hje : j = l.length := by omega
      have HF : Hid (m = U) := by
        have := HM.out
        rw [hje, List.take_length] at this
        show m = U
        omega
      have HD2 := Hid.mkR HD.out
      clear HM
      go_wp2
      go_ret
      exact ⟨by rw [← HF.out]; try rfl, HD2.out⟩
end Go.Proofs.YthcnhjmkcekdaaaGreat
