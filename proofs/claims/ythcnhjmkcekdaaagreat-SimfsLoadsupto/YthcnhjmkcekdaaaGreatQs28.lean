import Derived.Test.YthcnhjmkcekdaaaGreatQs27
import Derived.Test.YthcnhjmkcekdaaaGreatQs15
namespace Go.Proofs.YthcnhjmkcekdaaaGreat
open Go.RowKit Go.Maps Plain
set_option linter.unusedVariables false
set_option linter.unusedSimpArgs false
theorem src_ino (W : World) (a1 a2 : Option Addr) (n1 c1 n2 c2 : Nat) : Src Tryz.prog 2 49 (.slice (some ⟨W.heap.size, 0, none⟩) 1 1) [(⟨.slice a1 n1 c1, .slice a2 n2 c2⟩ : Ino)].length (inocells [⟨.slice a1 n1 c1, .slice a2 n2 c2⟩]) (W.alloc (.cells #[.slice a1 n1 c1, .slice a2 n2 c2] 83)) :=
  Src.ofSlice _ Tryz.underlying49 _ 1 1 _ (by rfl) (fun j u hj => by
    rw [WideShapes.add_plain, World.cell?_alloc_at _ _ _ _ rfl, Nat.zero_add]
    rw [← hj]; simp [inocells, Ino.cells]) (fun u hu => by
    simp [inocells, Ino.cells] at hu
    rcases hu with rfl | rfl <;> rfl)
/-- A file more, in memory. -/
theorem RdM.newF {w u1 u2 u3 w7 : World} {gp : Nat} {k : Rk} {B : Nat → Prop} {blk : Nat → Option Nat} {vF vD v7 : Value} {xs : List Ino} {dv : List Value} {sv tv : Nat → List Value} {T : Nat → Prop} {g7 : Nat} {o : Obj} {t1 t2 : TypeId} (h : RdM w gp k B blk vF vD xs dv sv tv) (hT : ∀ g, rdT gp B blk g → T g)
    (e1 : w.alloc (.cells #[.slice none 0 0] t1) = u1) (e2 : u1.alloc (.cells #[.int .i64 (-1)] t2) = u2) (e3 : u2.alloc o = u3) (ho7 : OwnIno w7 v7 (xs ++ [⟨.slice (some ⟨w.heap.size, 0, none⟩) 1 1, .slice (some ⟨w.heap.size + 1, 0, none⟩) 1 1⟩]) (some g7)) (hg7 : u3.grownBy w7 (blk 0)) (hr7 : some g7 = blk 0 ∨ g7 = u3.heap.size) :
    RtP gp ⟨⟨k.ps.files ++ [[[]]], k.ps.grown ++ [[-1]], k.ps.dirs⟩, k.most, k.left, k.off, k.done⟩ T w (w7.setCell ⟨gp, 0, none⟩ v7) ∧ w7.cell? ⟨gp, 0, none⟩ = some vF ∧ w7.frozen? ⟨gp, 0, none⟩ = false ∧ ∃ B' blk' xs' dv' sv' tv', RdM (w7.setCell ⟨gp, 0, none⟩ v7) gp ⟨⟨k.ps.files ++ [[[]]], k.ps.grown ++ [[-1]], k.ps.dirs⟩, k.most, k.left, k.off, k.done⟩ B' blk' v7 vD xs' dv' sv' tv' ∧ (∀ g, rdT gp B' blk' g → rdT gp B blk g ∨ w.heap.size ≤ g) ∧ Chg (fun g => g = gp ∨ blk 0 = some g) w (w7.setCell ⟨gp, 0, none⟩ v7) ∧ xs'.length = xs.length + 1 := by
  have hgpl := h.gpl
  have hb1 : Below w.heap.size w u1 := by rw [← e1]; exact (Below.refl _ _).alloc (Nat.le_refl _) _
  have ho1 : OwnV u1 (.slice (some ⟨w.heap.size, 0, none⟩) 1 1) [.slice none 0 0] (some w.heap.size) := by rw [← e1]; exact OwnV.one w _ t1
  have hs1 : u1.heap.size = w.heap.size + 1 := by rw [← e1]; simp
  have hb2 : Below u1.heap.size u1 u2 := by rw [← e2]; exact (Below.refl _ _).alloc (Nat.le_refl _) _
  have ho2 : OwnV u2 (.slice (some ⟨w.heap.size + 1, 0, none⟩) 1 1) [.int .i64 (-1)] (some (w.heap.size + 1)) := by rw [← e2, ← hs1]; exact OwnV.one u1 _ t2
  have hs2 : u2.heap.size = u1.heap.size + 1 := by rw [← e2]; simp
  have hb3 : Below u2.heap.size u2 u3 := by rw [← e3]; exact (Below.refl _ _).alloc (Nat.le_refl _) _
  have hs3 : u3.heap.size = u2.heap.size + 1 := by rw [← e3]; simp
  have hb : Below w.heap.size w u3 := hb1.trans ((hb2.trans (hb3.mono hb2.size)).mono hb1.size)
  have hs7 := hg7.size
  have hlt := h.blt
  have hu : Chg (fun g => blk 0 = some g) w w7 := (Chg.ofBelow hb).grown hg7 (fun g e => .inl e)
  have hgp7 : w7.heap[gp]? = w.heap[gp]? := hu.block gp hgpl (fun e => (h.me 0 gp e).1 rfl)
  obtain ⟨⟨c0, -⟩, f0, -⟩ := rcells (hgp7.trans h.cells)
  have hgs := grow_set w7 gp 0 v7
  have hsz : (w7.setCell ⟨gp, 0, none⟩ v7).heap.size = w7.heap.size := setCells_size gp [v7] 0 w7
  have hc8 : Chg (fun g => g = gp ∨ blk 0 = some g) w (w7.setCell ⟨gp, 0, none⟩ v7) := (hu.mono (fun g e => .inr e)).grown hgs (fun g e => .inl (.inl (by cases e; rfl)))
  have hg7c : g7 < w.heap.size ∨ g7 = w.heap.size + 3 := by
    rcases hr7 with e | e
    · exact .inl (hlt 0 g7 e.symm)
    · exact .inr (by omega)
  have hkeep : ∀ g, g < u3.heap.size → w.heap.size ≤ g → (w7.setCell ⟨gp, 0, none⟩ v7).heap[g]? = u3.heap[g]? := fun g hg hge => (hgs.block g (by omega) (fun e => by have := Option.some.inj e; omega)).trans (hg7.block g hg (fun e => by have := hlt 0 g e.symm; omega))
  have hg7gp : g7 ≠ gp := fun e => by
    rcases hr7 with e3 | e3
    · exact (h.me 0 g7 e3.symm).1 e
    · omega
  have hQ := (h.push (y := ⟨.slice (some ⟨w.heap.size, 0, none⟩) 1 1, .slice (some ⟨w.heap.size + 1, 0, none⟩) 1 1⟩) (us := [.slice none 0 0]) (zs := [.int .i64 (-1)]) (r' := some g7) (q := some w.heap.size) (p := some (w.heap.size + 1)) (ys := [[]]) (is := [-1]) (B' := B) hc8 (rset (hgp7.trans h.cells) 0 v7) (ho7.of_block hgs.size (fun g e => hgs.block g (by cases e; exact ho7.lt) (fun e2 => by cases e; exact hg7gp (Option.some.inj e2)))) (hr7.elim (fun e => .inl e) (fun e => .inr fun g e2 => by cases e2; omega)) (ho1.of_block (by omega) (fun g e => (hkeep g (by cases e; omega) (by cases e; omega)).trans ((hb3.block g (by cases e; omega)).trans (hb2.block g (by cases e; omega))))) (fun g e => by cases e; exact ⟨Nat.le_refl _, fun e2 => by have := Option.some.inj e2; omega⟩) (ho2.of_block (by omega) (fun g e => (hkeep g (by cases e; omega) (by cases e; omega)).trans (hb3.block g (by cases e; omega)))) (fun g e => by cases e; exact ⟨by omega, fun e2 => by have := Option.some.inj e2; omega⟩) (fun g e e2 => by cases e; have := Option.some.inj e2; omega) rfl rfl (NewB.refl h.b hc8.size) (fun j hj => by
    have : j = 0 := by simpa using hj
    subst this
    exact ⟨none, Own.nil _, by simp⟩) (fun j hj => by
    have : j = 0 := by simpa using hj
    subst this
    exact ⟨rfl, (by unfold I64; decide : I64 (-1))⟩) (fun g hge e hB => by have := h.b g hB; omega))
  have hcl : ∀ i g, (if i = 0 then some g7 else if i = 2 * xs.length + 2 then some w.heap.size else if i = 2 * xs.length + 3 then some (w.heap.size + 1) else blk i) = some g → (∃ j, blk j = some g) ∨ w.heap.size ≤ g := fun i g e => by
    by_cases e0 : i = 0
    · rw [if_pos e0] at e
      cases e
      rcases hr7 with e3 | e3
      · exact .inl ⟨0, e3.symm⟩
      · exact .inr (by omega)
    · rw [if_neg e0] at e
      by_cases e1 : i = 2 * xs.length + 2
      · rw [if_pos e1] at e; cases e; exact .inr (Nat.le_refl _)
      · rw [if_neg e1] at e
        by_cases e2 : i = 2 * xs.length + 3
        · rw [if_pos e2] at e; cases e; exact .inr (by omega)
        · rw [if_neg e2] at e; exact .inl ⟨i, e⟩
  refine ⟨hQ.to (hc8.mono (fun g e => ?_)) (hT gp (.inl rfl)) (fun i g e => (hcl i g e).imp (fun e2 => hT g (.inr (.inl e2))) id) (fun g e => .inl (hT g (.inr (.inr e)))), c0, f0, _, _, _, _, _, _, hQ, fun g e => ?_, hc8, by simp⟩
  · rcases e with e | e
    · rw [e]; exact hT gp (.inl rfl)
    · exact hT g (.inr (.inl ⟨0, e⟩))
  · rcases e with e | ⟨i, e⟩ | e
    · exact .inl (.inl e)
    · exact (hcl i g e).imp (fun e2 => .inr (.inl e2)) id
    · exact .inl (.inr (.inr e))
set_option maxHeartbeats 8000000 in
set_option maxRecDepth 1000000 in
theorem do1 {w : World} {gp : Nat} {k : Rk} {B : Nat → Prop} {blk : Nat → Option Nat} {vF vD : Value} {xs : List Ino} {dv : List Value} {sv tv : Nat → List Value} (h : RdM w gp k B blk vF vD xs dv sv tv) (hk : k.Ok) (nm to : ByteArray) (at' m : Int) (vb : Value) (hdl : k.ps.dirs.length < 2199023255000) (hfl : k.ps.files.length < 2199023255000) (hoff : k.off = false) (hl : I64 k.left) (hd0 : 0 ≤ k.done) (hd : k.done ≤ 4611686018427387904) (hcan : k.can = true) (hrf : ∀ u, RdM u gp k B blk vF vD xs dv sv tv → Calls Tryz.prog 49 #[.pointer (some ⟨gp, 0, none⟩), actV 1 nm to at' m (vb)] u fun e w' => e = .returned (.int .i64 0) ∧ Below u.heap.size u w') :
    Calls Tryz.prog 14 #[.pointer (some ⟨gp, 0, none⟩), actV 1 nm to at' m (vb)] w fun e w' => e = .returned (.int .i64 0) ∧ RtP gp (rdo1 k.spent nm) (rdT gp B blk) w w' := by
  obtain ⟨w0, hw0⟩ : ∃ w0, w.alloc (.cells #[.int .i64 1, .string nm, .string to, .int .i64 at', .int .i64 m, vb] 56) = w0 := ⟨_, rfl⟩
  have hb0 : Below w.heap.size w w0 := by rw [← hw0]; exact (Below.refl _ _).alloc (Nat.le_refl _) _
  have hs0 : w.heap.size < w0.heap.size := by rw [← hw0]; simp
  have HB0 := Hid.mkR hb0
  have HS0 : Hid (SbAt w0 w.heap.size (actC 1 nm to at' m (vb))) := by rw [← hw0]; exact SbAt.new w _ _
  have c4 := (rcells (h.later hb0).cells).1.2.2.2.2.1
  rw [hoff] at c4
  have HRF := Hid.mkR (hrf w0 (h.later hb0))
  have HBU : Hid (∀ w1, Below w0.heap.size w0 w1 → Calls Tryz.prog 50 #[.pointer (some ⟨gp, 0, none⟩)] w1 fun e w2 => e = .returned (.bool (!k.can)) ∧ RtP gp k.spent (rdT gp B blk) w w2 ∧ SbAt w2 w.heap.size (actC 1 nm to at' m (vb)) ∧ RdAt w2 gp k.spent (fun g => Ext (rdT gp B blk) w w2 g ∧ g ≠ w.heap.size)) := fun w1 hb1 => by
    have hb01 : Below w.heap.size w w1 := HB0.out.trans (hb1.mono HB0.out.size)
    refine (rburnsOf (T := (rdT gp B blk)) ⟨B, blk, vF, vD, xs, dv, sv, tv, h.later hb01, fun g e => e⟩ hl hd0 hd).mono ?_
    rintro e w2 ⟨rfl, h2⟩
    refine ⟨rfl, RtP.below hb01 h2 h.lt, (HS0.out.later hb1).of_block (h2.2.block _ (by have := hb1.size; omega) (fun e => by have := h.lt _ e; omega)), ?_⟩
    obtain ⟨⟨B3, blk3, vF3, vD3, xs3, dv3, sv3, tv3, a1, a2⟩, -⟩ := h2
    refine ⟨B3, blk3, vF3, vD3, xs3, dv3, sv3, tv3, a1, fun g e => ?_⟩
    have hz1 := hb1.size
    rcases a2 g e with e2 | e2
    · exact ⟨.inl e2, by have := h.lt _ e2; omega⟩
    · exact ⟨.inr ⟨by omega, e2.2⟩, by omega⟩
  have HAL : Hid (∀ w1, Below w0.heap.size w0 w1 → RtP gp k (rdT gp B blk) w w1) := fun w1 hb1 => (RtP.start ⟨B, blk, vF, vD, xs, dv, sv, tv, h, fun g e => e⟩).later (HB0.out.trans (hb1.mono HB0.out.size))
  have z0 := HS0.out 0 _ rfl
  have z1 := HS0.out 1 _ rfl
  have z2 := HS0.out 2 _ rfl
  have z3 := HS0.out 3 _ rfl
  have z4 := HS0.out 4 _ rfl
  have z5 := HS0.out 5 _ rfl
  have hps := Rk.spent_ps k
  have hk1 : k.spent.Ok := ⟨by rw [hps]; exact hk.ps, by rw [hps]; exact hk.d1⟩
  have hdl1 : k.spent.ps.dirs.length < 2199023255000 := by rw [hps]; exact hdl
  have hfl1 : k.spent.ps.files.length < 2199023255000 := by rw [hps]; exact hfl
  clear hps
  generalize k.spent = k1 at *
  clear h hb0 hrf
  go_enter Tryz.func14, Tryz.ntmps14
  go_wp2_with fail
  refine HRF.out.mono ?_
  rintro e w1 ⟨rfl, hb1⟩
  clear z0 z1 z2 z3 z4 z5 c4
  have HBU1 := Hid.mkR (HBU.out w1 hb1)
  rw [hcan] at HBU1
  clear HRF HBU HAL hb1
  go_wp2_with fail
  refine HBU1.out.mono ?_
  rintro e w2 ⟨rfl, hR2, hS2, hN2⟩
  have hC2 := hR2.2
  obtain ⟨B2, blk2, vF2, vD2, xs2, dv2, sv2, tv2, h2, hT2⟩ := hN2
  have HFD := Hid.mkR (findR h2 hk1.d1 nm hk1.see (by have := hk1.ps.dl; omega))
  have HD2 : Hid (DoAt (rdT gp B blk) w gp (actC 1 nm to at' m (vb)) k1 w2 B2 blk2 vF2 vD2 xs2 dv2 sv2 tv2) := ⟨h2, fun g e => (hT2 g e).1, hC2, hS2, fun g e => (hT2 g e).2⟩
  have z0 := HD2.out.s 0 _ rfl
  have z1 := HD2.out.s 1 _ rfl
  clear h2 hT2 hC2 hS2 hR2 HBU1
  go_wp2_with fail
  refine HFD.out.mono ?_
  rintro e w3 ⟨rfl, nf, rfl⟩
  have HD3 := Hid.mkR (HD2.out.drew nf)
  clear HFD HD2 z0 z1
  generalize w2.drewN nf = w3 at *
  have z0 := HD3.out.s 0 _ rfl
  have z1 := HD3.out.s 1 _ rfl
  generalize leadL k1.ps.last nm.data.toList = LD at *
  obtain ⟨u1, hu1⟩ : ∃ u1, w3.alloc (.cells #[.slice none 0 0] 34) = u1 := ⟨_, rfl⟩
  obtain ⟨u2, hu2⟩ : ∃ u2, u1.alloc (.cells #[.int .i64 (-1)] 3) = u2 := ⟨_, rfl⟩
  obtain ⟨u3, hu3⟩ : ∃ u3, u2.alloc (.cells #[.slice (some ⟨w3.heap.size, 0, none⟩) 1 1, .slice (some ⟨w3.heap.size + 1, 0, none⟩) 1 1] 83) = u3 := ⟨_, rfl⟩
  have hs1 : u1.heap.size = w3.heap.size + 1 := by rw [← hu1]; simp
  have hs2 : u2.heap.size = w3.heap.size + 2 := by rw [← hu2]; simp [hs1]
  have hb3 : Below w3.heap.size w3 u3 := by rw [← hu3, ← hu2, ← hu1]; exact (((Below.refl _ _).alloc (Nat.le_refl _) _).alloc (by simp) _).alloc (by simp; omega) _
  have k0 := (rcells HD3.out.r.cells).1.1
  obtain ⟨aF0, cF0, eF0, -, -⟩ := HD3.out.r.F.shape
  rw [eF0] at k0
  have HO3 : Hid (OwnIno u3 (.slice aF0 xs2.length cF0) xs2 (blk2 0)) := by rw [← eF0]; exact (HD3.out.r.later hb3).F
  have HSI : Hid (Src Tryz.prog 2 49 (.slice (some ⟨u2.heap.size, 0, none⟩) 1 1) [(⟨.slice (some ⟨w3.heap.size, 0, none⟩) 1 1, .slice (some ⟨w3.heap.size + 1, 0, none⟩) 1 1⟩ : Ino)].length (inocells [⟨.slice (some ⟨w3.heap.size, 0, none⟩) 1 1, .slice (some ⟨w3.heap.size + 1, 0, none⟩) 1 1⟩]) u3) := by rw [← hu3]; exact src_ino u2 _ _ 1 1 1 1
  have hxl : xs2.length = k1.ps.files.length := HD3.out.r.fl
  have HXL := Hid.mkR hxl
  have HF0 := Hid.mkR eF0
  have hxb : xs2.length < 2199023255000 := by omega
  clear hxl eF0
  rw [hs2] at HSI
  have HEND : Hid (∀ (w7 : World) (v7 : Value) (g7 : Nat), OwnIno w7 v7 (xs2 ++ [⟨.slice (some ⟨w3.heap.size, 0, none⟩) 1 1, .slice (some ⟨w3.heap.size + 1, 0, none⟩) 1 1⟩]) (some g7) → u3.grownBy w7 (blk2 0) → (some g7 = blk2 0 ∨ g7 = u3.heap.size) → (w7.cell? ⟨gp, 0, none⟩ = some (.slice aF0 xs2.length cF0) ∧ w7.frozen? ⟨gp, 0, none⟩ = false) ∧ ∃ B' blk' xs' dv' sv' tv', DoAt (rdT gp B blk) w gp (actC 1 nm to at' m vb) ⟨⟨k1.ps.files ++ [[[]]], k1.ps.grown ++ [[-1]], k1.ps.dirs⟩, k1.most, k1.left, k1.off, k1.done⟩ (w7.setCell ⟨gp, 0, none⟩ v7) B' blk' v7 vD2 xs' dv' sv' tv' ∧ xs'.length = xs2.length + 1) := fun w7 v7 g7 q1 q2 q3 => by
    obtain ⟨a1, a2, a3, B', blk', xs', dv', sv', tv', a4, a5, a6, a7⟩ := HD3.out.r.newF HD3.out.t hu1 hu2 hu3 q1 q2 q3
    rw [HF0.out] at a2
    have hbx := HD3.out.n
    have hbxl : w.heap.size < w3.heap.size := cell_lt (HD3.out.s 0 _ rfl)
    refine ⟨⟨a2, a3⟩, B', blk', xs', dv', sv', tv', ⟨a4, fun g e => ?_, (HD3.out.fin a1).2, HD3.out.s.of_block (a6.block _ hbxl (fun e => e.elim (fun e2 => hbx gp (.inl rfl) e2.symm) (fun e2 => hbx _ (.inr (.inl ⟨0, e2⟩)) rfl))), fun g e => (a5 g e).elim (hbx g) (fun e2 => by omega)⟩, a7⟩
    have hlt8 := a4.lt g e
    have hsz := HD3.out.c.size
    rcases a5 g e with e2 | e2
    · exact (HD3.out.t g e2).imp id (fun e3 => ⟨e3.1, hlt8⟩)
    · exact .inr ⟨by omega, hlt8⟩
  clear hb3
  go_wp2_with (at_builtin; refine wpList_append_ino _ rfl _ _ rfl _ _ xs2 [⟨.slice (some ⟨w3.heap.size, 0, none⟩) 1 1, .slice (some ⟨w3.heap.size + 1, 0, none⟩) 1 1⟩] (blk2 0) rfl rfl ?hOwn ?hSrc ?hLen (.inr (Nat.succ_pos _)) ?_)
  case hOwn => exact HO3.out
  case hSrc => first | exact HSI.out | (rw [hs2]; exact HSI.out)
  case hLen => simp; omega
  intro v7 w7 g7 ho7 hg7 hr7
  have hv7 : ∃ a4 c4, v7 = .slice a4 (xs2.length + 1) c4 := ho7.shape.elim fun a4 h => h.elim fun c4 h2 => ⟨a4, c4, by rw [h2.1]; simp⟩
  obtain ⟨a7, c7, rfl⟩ := hv7
  obtain ⟨⟨e7, f7⟩, B3, blk3, xs3, dv3, sv3, tv3, hD8, hx3⟩ := HEND.out w7 _ g7 ho7 hg7 hr7
  have HD8 := Hid.mkR hD8
  clear ho7 hg7 hr7 HEND HO3 HSI HD3 HF0 z0 z1 k0 hD8 hx3
  obtain ⟨w8, hw8⟩ : ∃ w8, w7.setCell ⟨gp, 0, none⟩ (.slice a7 (xs2.length + 1) c7) = w8 := ⟨_, rfl⟩
  rw [hw8] at HD8
  have z0 := HD8.out.s 0 _ rfl
  have z1 := HD8.out.s 1 _ rfl
  have k0 := (rcells HD8.out.r.cells).1.1
  obtain ⟨aL, cL, rL, eL, hrowL, hrB⟩ := HD8.out.r.see hk1.d1
  have HSE : Hid (∀ x, Calls Tryz.prog 53 #[.pointer (some ⟨gp, 0, none⟩)] (w8.drewN x) fun e w' => e = .returned (.slice aL k1.ps.last.length cL) ∧ ∃ n, w' = w8.drewN n) := fun x => by
    have := seenOf (HD8.out.r.drewN x) hk1.d1 (by have := hk1.ps.dl; show k1.ps.dirs.length ≤ _; omega)
    have eL' : dv3.getD (k1.ps.dirs.length - 1) undef = .slice aL k1.ps.last.length cL := eL
    refine this.mono ?_
    rintro e w' ⟨rfl, n, rfl⟩
    exact ⟨by rw [← eL'], x + n, by rw [World.drewN_drewN]⟩
  have HWI : Hid (∀ n, Calls Tryz.prog 52 #[.slice aL k1.ps.last.length cL, .agg #[.string nm, .int .i64 (xs2.length : Int)]] (w8.drewN n) fun e w' => ∃ a N c r, e = .returned (.slice a N c) ∧ NwNew (w8.drewN n) w' (.slice a N c) ((withL k1.ps.last (nm.data.toList, k1.ps.files.length)).map nwOf) r) := fun n => by
    have := withOf (w := w8.drewN n) (l := k1.ps.last) (a := aL) (c := cL) (r := rL) (OwnNw.later hrowL (below_drewN (Below.refl _ _) n)) (nm.data.toList, k1.ps.files.length) hk1.see
    rw [show str (nm.data.toList, k1.ps.files.length).1 = nm from str_data nm, ← HXL.out] at this
    rw [← HXL.out]
    exact this
  clear hrowL hrB eL
  have hwr : IntKind.i64.wrap (xs2.length : Int) = (xs2.length : Int) := IntWalk.i64_in _ (by omega)
  have hwr2 : (xs2.length : Int) + 1 - 1 = (xs2.length : Int) := by omega
  go_wp2_with fail
  refine wp_region_noPanic ?_
  refine Till.start 12 (S := fun u => u.cell? ⟨w.heap.size, 1, none⟩ = some (.string nm) ∧ u.cell? ⟨gp, 0, none⟩ = some (.slice a7 (xs2.length + 1) c7)) (by kernel_rfl) ⟨z1, k0⟩ (fun hHeld => ?_)
  refine' Till.take 0 rfl (by kernel_rfl) (by kernel_rfl) (by kernel_rfl) (by kernel_rfl) (fun _ _ _ h => h) (Or.inl ⟨by rfl, ?_⟩) (by assumption) ?_
  rotate_left
  · (intro w hSw; (try dsimp only at hSw); go_simp <;> with_reducible rfl)
  try simp only [Act.put, List.setIfInBounds_toArray, List.set_cons_zero, List.set_cons_succ]
  refine' Till.take 2 rfl (by kernel_rfl) (by kernel_rfl) (by kernel_rfl) (by kernel_rfl) (fun _ _ _ h => h) (Or.inl ⟨by rfl, ?_⟩) (by assumption) ?_
  rotate_left
  · (intro w hSw; (try dsimp only at hSw); go_simp <;> with_reducible rfl)
  try simp only [Act.put, List.setIfInBounds_toArray, List.set_cons_zero, List.set_cons_succ]
  refine' Till.take 3 rfl (by kernel_rfl) (by kernel_rfl) (by kernel_rfl) (by kernel_rfl) (fun _ _ _ h => h) (Or.inl ⟨by rfl, ?_⟩) (by assumption) ?_
  rotate_left
  · (intro w hSw; (try dsimp only at hSw); go_simp <;> with_reducible rfl)
  try simp only [Act.put, List.setIfInBounds_toArray, List.set_cons_zero, List.set_cons_succ]
  refine' Till.take 4 rfl (by kernel_rfl) (by kernel_rfl) (by kernel_rfl) (by kernel_rfl) (fun _ _ _ h => h) (Or.inl ⟨by rfl, ?_⟩) (by assumption) ?_
  rotate_left
  · (intro w hSw; (try dsimp only at hSw); go_simp <;> with_reducible rfl)
  try simp only [Act.put, List.setIfInBounds_toArray, List.set_cons_zero, List.set_cons_succ]
  refine' Till.take 5 rfl (by kernel_rfl) (by kernel_rfl) (by kernel_rfl) (by kernel_rfl) (fun _ _ _ h => h) (Or.inl ⟨by rfl, ?_⟩) (by assumption) ?_
  rotate_left
  · (intro w hSw; (try dsimp only at hSw); go_simp <;> with_reducible rfl)
  try simp only [Act.put, List.setIfInBounds_toArray, List.set_cons_zero, List.set_cons_succ]
  refine' Till.take 6 rfl (by kernel_rfl) (by kernel_rfl) (by kernel_rfl) (by kernel_rfl) (fun _ _ _ h => h) (Or.inl ⟨by rfl, ?_⟩) (by assumption) ?_
  rotate_left
  · (intro w hSw; (try dsimp only at hSw); go_simp <;> with_reducible rfl)
  try simp only [Act.put, List.setIfInBounds_toArray, List.set_cons_zero, List.set_cons_succ]
  refine' Till.take 7 rfl (by kernel_rfl) (by kernel_rfl) (by kernel_rfl) (by kernel_rfl) (fun _ _ _ h => h) (Or.inl ⟨by rfl, ?_⟩) (by assumption) ?_
  rotate_left
  · (intro w hSw; (try dsimp only at hSw); go_simp <;> with_reducible rfl)
  try simp only [Act.put, List.setIfInBounds_toArray, List.set_cons_zero, List.set_cons_succ]
  refine' Till.take 8 rfl (by kernel_rfl) (by kernel_rfl) (by kernel_rfl) (by kernel_rfl) (fun _ _ _ h => h) (Or.inl ⟨by rfl, ?_⟩) (by assumption) ?_
  rotate_left
  · (intro w hSw; (try dsimp only at hSw); go_simp <;> with_reducible rfl)
  try simp only [Act.put, List.setIfInBounds_toArray, List.set_cons_zero, List.set_cons_succ]
  refine' Till.take 9 rfl (by kernel_rfl) (by kernel_rfl) (by kernel_rfl) (by kernel_rfl) (fun _ _ _ h => h) (Or.inl ⟨by rfl, ?_⟩) (by assumption) ?_
  rotate_left
  · (intro w hSw; (try dsimp only at hSw); go_simp <;> with_reducible rfl)
  try simp only [Act.put, List.setIfInBounds_toArray, List.set_cons_zero, List.set_cons_succ]
  refine' Till.take 10 rfl (by kernel_rfl) (by kernel_rfl) (by kernel_rfl) (by kernel_rfl) (fun _ _ _ h => h) (Or.inl ⟨by rfl, ?_⟩) (by assumption) ?_
  rotate_left
  · (intro w hSw; (try dsimp only at hSw); go_simp <;> with_reducible rfl)
  try simp only [Act.put, List.setIfInBounds_toArray, List.set_cons_zero, List.set_cons_succ]
  refine Till.one 1 (by kernel_rfl) rfl (fun K hK => ?_)
  go_simp
  go_at_call 53
  refine (HSE.out 1).mono ?_
  rintro e w9 ⟨rfl, n9, rfl⟩
  have x1 : (w8.drewN n9).cell? ⟨w.heap.size, 1, none⟩ = some (.string nm) := z1
  have x0 : (w8.drewN n9).cell? ⟨gp, 0, none⟩ = some (.slice a7 (xs2.length + 1) c7) := k0
  have HD9 := Hid.mkR (HD8.out.drew n9)
  have HW9 := Hid.mkR (HWI.out n9)
  clear HSE HD8 HWI
  generalize w8.drewN n9 = w9 at *
  refine hK.out _ _ ?_ (fun hHeld => ?_)
  · exact ⟨x1, x0⟩
  clear hK K
  try simp only [Act.put, List.setIfInBounds_toArray, List.set_cons_zero, List.set_cons_succ]
  refine Till.one 11 (by kernel_rfl) rfl (fun K hK => ?_)
  go_simp
  go_at_call 52
  refine HW9.out.mono ?_
  rintro e w10 ⟨a10, N10, c10, r10, rfl, hn10⟩
  have y1 := (hn10.below.cell (p := ⟨w.heap.size, 1, none⟩) (cell_lt x1)).trans x1
  have y0 := (hn10.below.cell (p := ⟨gp, 0, none⟩) (cell_lt x0)).trans x0
  have HN10 := Hid.mkR hn10
  clear hn10 HW9
  refine hK.out _ _ ?_ (fun hHeld => ?_)
  · exact ⟨y1, y0⟩
  clear hK K
  try simp only [Act.put, List.setIfInBounds_toArray, List.set_cons_zero, List.set_cons_succ]
  refine Till.last (by kernel_rfl) (by kernel_rfl) rfl (fun K hK => ?_)
  go_simp
  refine hK.out _ _ ?_
  clear hK K
  try simp only [Act.put, List.setIfInBounds_toArray, List.set_cons_zero, List.set_cons_succ]
  refine NoPanic.normal ?_
  have HTU := Hid.mkR (turnOf HD9.out.r HD9.out.t HN10.out hdl1)
  go_wp2_with fail
  refine HTU.out.mono ?_
  rintro e w11 ⟨rfl, hR11⟩
  have HE : Hid (RtP gp (rdo1 k1 nm) (rdT gp B blk) w w11) := HD9.out.fin hR11
  clear HTU hR11 HD9 HN10 x1 x0 y1 y0 z0 z1 k0 hHeld
  go_wp2
  go_ret
  exact ⟨rfl, HE.out⟩
end Go.Proofs.YthcnhjmkcekdaaaGreat

namespace Go.Proofs.YthcnhjmkcekdaaaGreat
open Go.RowKit Go.Maps Plain
set_option linter.unusedVariables false
set_option linter.unusedSimpArgs false
def rszE (k : Rk) (nm : ByteArray) : Int := if k.off = true then 34 else if nmL nm.data.toList = true then (if leadL k.ps.last nm.data.toList < 0 then 31 else 0) else 30
def rszN (k : Rk) (nm : ByteArray) : Nat := if rszE k nm = 0 then (k.ps.now (leadL k.ps.last nm.data.toList).toNat).length else 0
set_option maxHeartbeats 4000000 in
set_option maxRecDepth 100000 in
theorem rsizeOf {w : World} {gp : Nat} {k : Rk} {B : Nat → Prop} {blk : Nat → Option Nat} {vF vD : Value} {xs : List Ino} {dv : List Value} {sv tv : Nat → List Value} (h : RdM w gp k B blk vF vD xs dv sv tv) (hk : k.Ok) (nm : ByteArray) (hnm : nm.size ≤ maxLen) :
    Calls Tryz.prog 61 #[.pointer (some ⟨gp, 0, none⟩), .string nm] w fun e w' => e = .returned (.tuple #[.int .i64 (rszN k nm : Int), .int .i64 (rszE k nm)]) ∧ ∃ n, w' = w.drewN n := by
  have c4 := (rcells h.cells).1.2.2.2.2.1
  have HNM := Hid.mkR (fun u => rnameF nm u hnm)
  have HFD := Hid.mkR (findR h hk.d1 nm hk.see (by have := hk.ps.dl; omega))
  cases hoff : k.off with
  | true =>
    rw [hoff] at c4
    have hE : rszE k nm = 34 := by unfold rszE; rw [if_pos hoff]
    have hN : rszN k nm = 0 := by unfold rszN; rw [if_neg (by rw [hE]; decide)]
    rw [hE, hN]
    clear h hE hN hoff
    go_enter Tryz.func61, Tryz.ntmps61
    go_wp2
    go_ret2
    exact ⟨rfl, 0, rfl⟩
  | false =>
    rw [hoff] at c4
    cases hn : nmL nm.data.toList with
    | false =>
      rw [hn] at HNM
      have hE : rszE k nm = 30 := by unfold rszE; rw [if_neg (by rw [hoff]; simp), if_neg (by rw [hn]; simp)]
      have hN : rszN k nm = 0 := by unfold rszN; rw [if_neg (by rw [hE]; decide)]
      rw [hE, hN]
      clear h hE hN hoff hn
      go_enter Tryz.func61, Tryz.ntmps61
      go_wp2_with fail
      refine (HNM.out _).mono ?_
      rintro e w1 ⟨rfl, rfl⟩
      go_wp2
      go_ret2
      exact ⟨rfl, 0, rfl⟩
    | true =>
      rw [hn] at HNM
      by_cases hl : leadL k.ps.last nm.data.toList < 0
      · have hl1 := lead_neg _ _ hl
        have hE : rszE k nm = 31 := by unfold rszE; rw [if_neg (by rw [hoff]; simp), if_pos hn, if_pos hl]
        have hN : rszN k nm = 0 := by unfold rszN; rw [if_neg (by rw [hE]; decide)]
        rw [hE, hN]
        rw [hl1] at HFD
        clear h hE hN hoff hn hl hl1
        go_enter Tryz.func61, Tryz.ntmps61
        go_wp2_with fail
        refine (HNM.out _).mono ?_
        rintro e w1 ⟨rfl, rfl⟩
        go_wp2_with fail
        refine HFD.out.mono ?_
        rintro e w2 ⟨rfl, n2, rfl⟩
        go_wp2
        go_ret2
        exact ⟨rfl, n2, rfl⟩
      · obtain ⟨hr1, hr2, hr3⟩ := lead_ref hk (s := nm.data.toList) (by omega)
        have hE : rszE k nm = 0 := by unfold rszE; rw [if_neg (by rw [hoff]; simp), if_pos hn, if_neg hl]
        have hN : rszN k nm = (k.ps.now (leadL k.ps.last nm.data.toList).toNat).length := by unfold rszN; rw [if_pos hE]
        rw [hE, hN]
        obtain ⟨f, hLf⟩ : ∃ f : Nat, leadL k.ps.last nm.data.toList = (f : Int) := ⟨_, (Int.toNat_of_nonneg (by omega)).symm⟩
        rw [hLf, Int.toNat_natCast] at hr1 hr2 hr3 ⊢
        rw [hLf] at HFD
        have hf0 : ¬ (f : Int) < 0 := by omega
        obtain ⟨aB, cB, rB, -, -, hB, -⟩ := bytesG h hr1 hr2 (by have := hk.ps.fl; omega) (by omega)
        have HBY := Hid.mkR (fun n => hB n)
        clear h hE hN hoff hn hl hLf hB
        generalize (k.ps.now f).length = LN at *
        go_enter Tryz.func61, Tryz.ntmps61
        go_wp2_with fail
        refine (HNM.out _).mono ?_
        rintro e w1 ⟨rfl, rfl⟩
        go_wp2_with fail
        refine HFD.out.mono ?_
        rintro e w2 ⟨rfl, n2, rfl⟩
        go_wp2_with fail
        refine (HBY.out n2).mono ?_
        rintro e w3 ⟨rfl, n3, rfl⟩
        go_wp2
        go_ret2
        exact ⟨rfl, n3, rfl⟩
/-- What Read answers. -/
def rreE (k : Rk) (nm : ByteArray) (at' n : Int) : Int := if rszE k nm = 0 then (if at' < 0 ∨ (rszN k nm : Int) < at' ∨ n < 0 then 3 else 0) else rszE k nm
def rreB (k : Rk) (nm : ByteArray) (at' n : Int) : List Nat := if rreE k nm at' n = 0 then ((k.ps.now (leadL k.ps.last nm.data.toList).toNat).drop at'.toNat).take n.toNat else []
theorem Own.part {w : World} {a : Option Addr} {n c : Nat} {l : List Nat} {r : Option Nat} (h : Own w (.slice a n c) l r) : l.length = n ∧ n ≤ c ∧ c ≤ maxLen ∧ (l ≠ [] → ∃ g, a = some ⟨g, 0, none⟩) := by
  rcases h.2 with ⟨e, rfl, -⟩ | ⟨g, cap, -, e, hg, h1, h2, -⟩
  · injection e with e1 e2 e3
    subst e1 e2 e3
    exact ⟨rfl, Nat.le_refl _, by unfold maxLen; omega, fun hh => absurd rfl hh⟩
  · injection e with e1 e2 e3
    subst e1 e2 e3
    exact ⟨rfl, h1, h2, fun _ => ⟨g, rfl⟩⟩
end Go.Proofs.YthcnhjmkcekdaaaGreat

namespace Go.Proofs.YthcnhjmkcekdaaaGreat
open Go.RowKit Go.Maps Plain
set_option linter.unusedVariables false
set_option linter.unusedSimpArgs false
/-- What Read leaves. -/
def RreP (k : Rk) (nm : ByteArray) (at' n : Int) (w : World) (e : Ending) (w' : World) : Prop := ∃ a N c r, e = .returned (.tuple #[.slice a N c, .int .i64 (rreE k nm at' n)]) ∧ ByNew w w' (.slice a N c) (rreB k nm at' n) r
theorem ByNew.nil (w : World) : ByNew w w (.slice none 0 0) [] none := ⟨Own.nil _, by simp, Below.refl _ _⟩
set_option maxHeartbeats 4000000 in
set_option maxRecDepth 1000000 in
theorem rreadOf {w : World} {gp : Nat} {k : Rk} {B : Nat → Prop} {blk : Nat → Option Nat} {vF vD : Value} {xs : List Ino} {dv : List Value} {sv tv : Nat → List Value} (h : RdM w gp k B blk vF vD xs dv sv tv) (hk : k.Ok) (nm : ByteArray) (hnm : nm.size ≤ maxLen) (at' n : Int) (hat : I64 at') (hn : I64 n) (hlen : ∀ f, f < k.ps.files.length → (k.ps.now f).length ≤ 70368744177664) :
    Calls Tryz.prog 59 #[.pointer (some ⟨gp, 0, none⟩), .string nm, .int .i64 at', .int .i64 n] w (RreP k nm at' n w) := by
  obtain ⟨hat1, hat2⟩ := hat
  obtain ⟨hn1, hn2⟩ := hn
  have HSZ := Hid.mkR (rsizeOf h hk nm hnm)
  by_cases hE : rszE k nm = 0
  · by_cases hbad : at' < 0 ∨ (rszN k nm : Int) < at' ∨ n < 0
    · have HR : Hid (rreE k nm at' n = 3 ∧ rreB k nm at' n = []) := by
        have e1 : rreE k nm at' n = 3 := by unfold rreE; rw [if_pos hE, if_pos hbad]
        exact ⟨e1, by unfold rreB; rw [e1]; rfl⟩
      have HFIN : Hid (∀ m, RreP k nm at' n w (.returned (.tuple #[.slice none 0 0, .int .i64 3])) (w.drewN m)) := fun m => ⟨none, 0, 0, none, by rw [HR.out.1], by rw [HR.out.2]; exact (ByNew.nil w).later (below_drewN (Below.refl _ _) m)⟩
      rw [hE] at HSZ
      clear h hE HR
      generalize rszN k nm = LN at *
      rcases hbad with hb | hb | hb
      · go_enter Tryz.func59, Tryz.ntmps59
        go_wp2_with fail
        refine HSZ.out.mono ?_
        rintro e w1 ⟨rfl, n1, rfl⟩
        go_wp2
        go_ret2
        exact HFIN.out n1
      · by_cases ha : at' < 0
        · go_enter Tryz.func59, Tryz.ntmps59
          go_wp2_with fail
          refine HSZ.out.mono ?_
          rintro e w1 ⟨rfl, n1, rfl⟩
          go_wp2
          go_ret2
          exact HFIN.out n1
        · go_enter Tryz.func59, Tryz.ntmps59
          go_wp2_with fail
          refine HSZ.out.mono ?_
          rintro e w1 ⟨rfl, n1, rfl⟩
          go_wp2
          go_ret2
          exact HFIN.out n1
      · by_cases ha : at' < 0
        · go_enter Tryz.func59, Tryz.ntmps59
          go_wp2_with fail
          refine HSZ.out.mono ?_
          rintro e w1 ⟨rfl, n1, rfl⟩
          go_wp2
          go_ret2
          exact HFIN.out n1
        · by_cases hc : (LN : Int) < at'
          · go_enter Tryz.func59, Tryz.ntmps59
            go_wp2_with fail
            refine HSZ.out.mono ?_
            rintro e w1 ⟨rfl, n1, rfl⟩
            go_wp2
            go_ret2
            exact HFIN.out n1
          · go_enter Tryz.func59, Tryz.ntmps59
            go_wp2_with fail
            refine HSZ.out.mono ?_
            rintro e w1 ⟨rfl, n1, rfl⟩
            go_wp2
            go_ret2
            exact HFIN.out n1
    · have hE2 : rreE k nm at' n = 0 := by unfold rreE; rw [if_pos hE, if_neg hbad]
      have hl0 : ¬ leadL k.ps.last nm.data.toList < 0 := by
        intro hl
        unfold rszE at hE
        split at hE
        · simp at hE
        · split at hE
          · first | omega | (rw [if_pos hl] at hE; omega)
          · simp at hE
      obtain ⟨hr1, hr2, hr3⟩ := lead_ref hk (s := nm.data.toList) (by omega)
      have hN : rszN k nm = (k.ps.now (leadL k.ps.last nm.data.toList).toNat).length := by unfold rszN; rw [if_pos hE]
      have hB0 : rreB k nm at' n = ((k.ps.now (leadL k.ps.last nm.data.toList).toNat).drop at'.toNat).take n.toNat := by unfold rreB; rw [if_pos hE2]
      obtain ⟨f, hLf⟩ : ∃ f : Nat, leadL k.ps.last nm.data.toList = (f : Int) := ⟨_, (Int.toNat_of_nonneg (by omega)).symm⟩
      rw [hLf, Int.toNat_natCast] at hr1 hr2 hr3 hN hB0
      have HFD0 := findR h hk.d1 nm hk.see (by have := hk.ps.dl; omega)
      have HFD : Hid (∀ m, Calls Tryz.prog 51 #[.pointer (some ⟨gp, 0, none⟩), .string nm] (w.drewN m) fun e w' => e = .returned (.int .i64 (f : Int)) ∧ ∃ n, w' = w.drewN n) := fun m => by
        have := findR (h.drewN m) hk.d1 nm hk.see (by have := hk.ps.dl; omega)
        rw [hLf] at this
        refine this.mono ?_
        rintro e w' ⟨rfl, n, rfl⟩
        exact ⟨rfl, m + n, by rw [World.drewN_drewN]⟩
      obtain ⟨aB, cB, rB, hoB, -, hBy, -⟩ := bytesG h hr1 hr2 (by have := hk.ps.fl; omega) (by omega)
      have HBY := Hid.mkR (fun n => hBy n)
      rw [hE, hN] at HSZ
      rw [hN] at hbad
      obtain ⟨A, rfl⟩ : ∃ A : Nat, at' = (A : Int) := ⟨at'.toNat, by omega⟩
      obtain ⟨M, rfl⟩ : ∃ M : Nat, n = (M : Int) := ⟨n.toNat, by omega⟩
      rw [Int.toNat_natCast, Int.toNat_natCast] at hB0
      have hA : A ≤ (k.ps.now f).length := by omega
      have hlf := hlen f hr1
      have HFIN : Hid (∀ (v : Value) (m : Nat), (BytesAt w v ((k.ps.now f).drop A |>.take M)) → ∀ a N c, v = .slice a N c → Calls Tryz.prog 38 #[v] (w.drewN m) fun e w' => ∃ a N c, e = .returned (.slice a N c) ∧ RreP k nm (A : Int) (M : Int) w (.returned (.tuple #[.slice a N c, .int .i64 0])) w') := fun v m hv a N c e => by
        subst e
        refine (copiedR (hv.later (below_drewN (Below.refl _ _) m)) (by rw [List.length_take, List.length_drop]; omega)).mono ?_
        rintro e w' ⟨a, N, c, r, rfl, hn⟩
        exact ⟨a, N, c, rfl, a, N, c, r, by rw [hE2], by rw [hB0]; exact hn.back (below_drewN (Below.refl _ _) m)⟩
      have HOB := Hid.mkR hoB
      have hp := hoB.part
      obtain ⟨hp1, hp2, hp3, hp4⟩ := hp
      unfold maxLen at hp3
      clear h hE hE2 hl0 hN hB0 hLf HFD0 hBy hoB hlen hbad
      have hAn : ¬ ((A : Int) < 0) := by omega
      have hMn : ¬ ((M : Int) < 0) := by omega
      by_cases hend : A = cB
      · have hLA : (k.ps.now f).length = A := by omega
        have HC : Hid (∀ m, Calls Tryz.prog 38 #[.slice aB 0 0] (w.drewN m) fun e w' => ∃ a N c, e = .returned (.slice a N c) ∧ RreP k nm (A : Int) (M : Int) w (.returned (.tuple #[.slice a N c, .int .i64 0])) w') := fun m => HFIN.out _ m (by
          rw [List.drop_of_length_le (by omega), List.take_nil]
          exact ⟨aB, 0, rfl, by simp, by unfold maxLen; omega, by simp, by simp⟩) _ _ _ rfl
        subst hend
        rw [hLA] at HSZ HBY hp1 hp2 hA hlf
        clear hp1 hp2 HFIN HOB hLA
        have hva : aB = none ∨ ∃ x, aB = some x := by cases aB <;> simp
        rcases hva with rfl | ⟨x, rfl⟩
        all_goals
          go_enter Tryz.func59, Tryz.ntmps59
          go_wp2_with fail
          refine HSZ.out.mono ?_
          rintro e w1 ⟨rfl, n1, rfl⟩
          go_wp2_with fail
          refine (HFD.out n1).mono ?_
          rintro e w2 ⟨rfl, n2, rfl⟩
          go_wp2_with fail
          refine (HBY.out n2).mono ?_
          rintro e w3 ⟨rfl, n3, rfl⟩
          go_wp2_with fail
          refine (HC.out n3).mono ?_
          rintro e w4 ⟨a4, N4, c4, rfl, hq⟩
          have HP := Hid.mkR hq
          clear hq
          go_wp2
          go_ret2
          exact HP.out
      · have hlt : A < cB := by omega
        obtain ⟨g, rfl⟩ : ∃ g, aB = some ⟨g, 0, none⟩ := by
          rcases HOB.out.2 with ⟨e, -, -⟩ | ⟨g, cap, -, e, -⟩
          · injection e with e1 e2 e3; omega
          · injection e with e1 e2 e3; exact ⟨g, e1⟩
        have HC : Hid (∀ m m', m' = min M ((k.ps.now f).length - A) → Calls Tryz.prog 38 #[.slice (some ⟨g, A, none⟩) m' (cB - A)] (w.drewN m) fun e w' => ∃ a N c, e = .returned (.slice a N c) ∧ RreP k nm (A : Int) (M : Int) w (.returned (.tuple #[.slice a N c, .int .i64 0])) w') := fun m m' hm => HFIN.out _ m (own_part HOB.out hA m' hm) _ _ _ rfl
        obtain ⟨R, hR⟩ : ∃ R, (k.ps.now f).length = A + R := ⟨(k.ps.now f).length - A, by omega⟩
        rw [hR] at HC HSZ HBY hp1 hp2 hA hlf
        rw [Nat.add_sub_cancel_left] at HC
        clear hp1 HFIN HOB hR
        by_cases hMR : M < R
        · have HC2 := Hid.mkR (fun m => HC.out m M (by omega))
          clear HC
          have hMR2 : (M : Int) < (R : Int) := by omega
          go_enter Tryz.func59, Tryz.ntmps59
          go_wp2_with fail
          refine HSZ.out.mono ?_
          rintro e w1 ⟨rfl, n1, rfl⟩
          go_wp2_with fail
          refine (HFD.out n1).mono ?_
          rintro e w2 ⟨rfl, n2, rfl⟩
          go_wp2_with fail
          refine (HBY.out n2).mono ?_
          rintro e w3 ⟨rfl, n3, rfl⟩
          go_wp2_with fail
          refine (HC2.out n3).mono ?_
          rintro e w4 ⟨a4, N4, c4, rfl, hq⟩
          have HP := Hid.mkR hq
          clear hq
          go_wp2
          go_ret2
          exact HP.out
        · have HC2 := Hid.mkR (fun m => HC.out m R (by omega))
          clear HC
          have hMR2 : ¬ (M : Int) < (R : Int) := by omega
          go_enter Tryz.func59, Tryz.ntmps59
          go_wp2_with fail
          refine HSZ.out.mono ?_
          rintro e w1 ⟨rfl, n1, rfl⟩
          go_wp2_with fail
          refine (HFD.out n1).mono ?_
          rintro e w2 ⟨rfl, n2, rfl⟩
          go_wp2_with fail
          refine (HBY.out n2).mono ?_
          rintro e w3 ⟨rfl, n3, rfl⟩
          go_wp2_with fail
          refine (HC2.out n3).mono ?_
          rintro e w4 ⟨a4, N4, c4, rfl, hq⟩
          have HP := Hid.mkR hq
          clear hq
          go_wp2
          go_ret2
          exact HP.out
  · have HR : Hid (rreE k nm at' n = rszE k nm ∧ rreB k nm at' n = []) := by
      have e1 : rreE k nm at' n = rszE k nm := by unfold rreE; rw [if_neg hE]
      exact ⟨e1, by unfold rreB; rw [e1, if_neg hE]⟩
    have hN : rszN k nm = 0 := by unfold rszN; rw [if_neg hE]
    rw [hN] at HSZ
    have HFIN : Hid (∀ m, RreP k nm at' n w (.returned (.tuple #[.slice none 0 0, .int .i64 (rszE k nm)])) (w.drewN m)) := fun m => ⟨none, 0, 0, none, by rw [HR.out.1], by rw [HR.out.2]; exact (ByNew.nil w).later (below_drewN (Below.refl _ _) m)⟩
    have hEb : (rszE k nm != 0) = true := by simpa using hE
    clear h hE HR hN
    generalize rszE k nm = E at *
    go_enter Tryz.func59, Tryz.ntmps59
    go_wp2_with fail
    refine HSZ.out.mono ?_
    rintro e w1 ⟨rfl, n1, rfl⟩
    go_wp2
    go_ret2
    exact HFIN.out n1
end Go.Proofs.YthcnhjmkcekdaaaGreat
