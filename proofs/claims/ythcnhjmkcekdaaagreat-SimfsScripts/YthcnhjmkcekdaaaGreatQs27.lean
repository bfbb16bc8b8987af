import Derived.Test.YthcnhjmkcekdaaaGreatQs26
import Derived.Test.YthcnhjmkcekdaaaGreatQs22
namespace Go.Proofs.YthcnhjmkcekdaaaGreat
open Go.RowKit Go.Maps Plain
set_option linter.unusedVariables false
set_option linter.unusedSimpArgs false
set_option maxHeartbeats 8000000 in
set_option maxRecDepth 1000000 in
theorem do7 {w : World} {gp : Nat} {k : Rk} {B : Nat → Prop} {blk : Nat → Option Nat} {vF vD : Value} {xs : List Ino} {dv : List Value} {sv tv : Nat → List Value} (h : RdM w gp k B blk vF vD xs dv sv tv) (hk : k.Ok) (nm to : ByteArray) (at' m : Int) (vb : Value) (hdl : k.ps.dirs.length < 2199023255000) (hoff : k.off = false) (hl : I64 k.left) (hd0 : 0 ≤ k.done) (hd : k.done ≤ 4611686018427387904) (hcan : k.can = true) (hrf : ∀ u, RdM u gp k B blk vF vD xs dv sv tv → Calls Tryz.prog 49 #[.pointer (some ⟨gp, 0, none⟩), actV 7 nm to at' m (vb)] u fun e w' => e = .returned (.int .i64 0) ∧ Below u.heap.size u w') :
    Calls Tryz.prog 14 #[.pointer (some ⟨gp, 0, none⟩), actV 7 nm to at' m (vb)] w fun e w' => e = .returned (.int .i64 0) ∧ RtP gp (rdo7 k.spent nm) (rdT gp B blk) w w' := by
  obtain ⟨w0, hw0⟩ : ∃ w0, w.alloc (.cells #[.int .i64 7, .string nm, .string to, .int .i64 at', .int .i64 m, vb] 56) = w0 := ⟨_, rfl⟩
  have hb0 : Below w.heap.size w w0 := by rw [← hw0]; exact (Below.refl _ _).alloc (Nat.le_refl _) _
  have hs0 : w.heap.size < w0.heap.size := by rw [← hw0]; simp
  have HB0 := Hid.mkR hb0
  have HS0 : Hid (SbAt w0 w.heap.size (actC 7 nm to at' m (vb))) := by rw [← hw0]; exact SbAt.new w _ _
  have c4 := (rcells (h.later hb0).cells).1.2.2.2.2.1
  rw [hoff] at c4
  have HRF := Hid.mkR (hrf w0 (h.later hb0))
  have HBU : Hid (∀ w1, Below w0.heap.size w0 w1 → Calls Tryz.prog 50 #[.pointer (some ⟨gp, 0, none⟩)] w1 fun e w2 => e = .returned (.bool (!k.can)) ∧ RtP gp k.spent (rdT gp B blk) w w2 ∧ SbAt w2 w.heap.size (actC 7 nm to at' m (vb)) ∧ RdAt w2 gp k.spent (fun g => Ext (rdT gp B blk) w w2 g ∧ g ≠ w.heap.size)) := fun w1 hb1 => by
    have hb01 : Below w.heap.size w w1 := HB0.out.trans (hb1.mono HB0.out.size)
    refine (rburnsOf (T := (rdT gp B blk)) ⟨B, blk, vF, vD, xs, dv, sv, tv, h.later hb01, fun g e => e⟩ hl hd0 hd).mono ?_
    rintro e w2 ⟨rfl, h2⟩
    refine ⟨rfl, RtP.below hb01 h2 h.lt, (HS0.out.later hb1).of_block (h2.2.block _ (by have := hb1.size; omega) (fun e => by have := h.lt _ e; omega)), ?_⟩
    obtain ⟨⟨B3, blk3, vF3, vD3, xs3, dv3, sv3, tv3, a1, a2⟩, -⟩ := h2
    refine ⟨B3, blk3, vF3, vD3, xs3, dv3, sv3, tv3, a1, fun g e => ?_⟩
    have hz1 := hb1.size
    rcases a2 g e with e2 | e2
    · exact ⟨.inl e2, by have := h.lt _ e2; omega⟩
    · exact ⟨.inr ⟨by omega, e2.2⟩, by omega⟩
  have HAL : Hid (∀ w1, Below w0.heap.size w0 w1 → RtP gp k (rdT gp B blk) w w1) := fun w1 hb1 => (RtP.start ⟨B, blk, vF, vD, xs, dv, sv, tv, h, fun g e => e⟩).later (HB0.out.trans (hb1.mono HB0.out.size))
  have z0 := HS0.out 0 _ rfl
  have z1 := HS0.out 1 _ rfl
  have z2 := HS0.out 2 _ rfl
  have z3 := HS0.out 3 _ rfl
  have z4 := HS0.out 4 _ rfl
  have z5 := HS0.out 5 _ rfl
  have hps := Rk.spent_ps k
  have hk1 : k.spent.Ok := ⟨by rw [hps]; exact hk.ps, by rw [hps]; exact hk.d1⟩
  have hdl1 : k.spent.ps.dirs.length < 2199023255000 := by rw [hps]; exact hdl
  clear hps
  generalize k.spent = k1 at *
  clear h hb0 hrf
  go_enter Tryz.func14, Tryz.ntmps14
  go_wp2_with fail
  refine HRF.out.mono ?_
  rintro e w1 ⟨rfl, hb1⟩
  clear z0 z1 z2 z3 z4 z5 c4
  have HBU1 := Hid.mkR (HBU.out w1 hb1)
  rw [hcan] at HBU1
  clear HRF HBU HAL hb1
  go_wp2_with fail
  refine HBU1.out.mono ?_
  rintro e w2 ⟨rfl, hR2, hS2, hN2⟩
  have hC2 := hR2.2
  obtain ⟨B2, blk2, vF2, vD2, xs2, dv2, sv2, tv2, h2, hT2⟩ := hN2
  have HFD := Hid.mkR (findR h2 hk1.d1 nm hk1.see (by have := hk1.ps.dl; omega))
  have HD2 : Hid (DoAt (rdT gp B blk) w gp (actC 7 nm to at' m (vb)) k1 w2 B2 blk2 vF2 vD2 xs2 dv2 sv2 tv2) := ⟨h2, fun g e => (hT2 g e).1, hC2, hS2, fun g e => (hT2 g e).2⟩
  have z0 := HD2.out.s 0 _ rfl
  have z1 := HD2.out.s 1 _ rfl
  clear h2 hT2 hC2 hS2 hR2 HBU1
  go_wp2_with fail
  refine HFD.out.mono ?_
  rintro e w3 ⟨rfl, nf, rfl⟩
  have HD3 := Hid.mkR (HD2.out.drew nf)
  clear HFD HD2 z0 z1
  generalize w2.drewN nf = w3 at *
  have z0 := HD3.out.s 0 _ rfl
  have z1 := HD3.out.s 1 _ rfl
  obtain ⟨aL, cL, rL, eL, hrowL, hrB⟩ := HD3.out.r.see hk1.d1
  have HSE : Hid (∀ x, Calls Tryz.prog 53 #[.pointer (some ⟨gp, 0, none⟩)] (w3.drewN x) fun e w' => e = .returned (.slice aL k1.ps.last.length cL) ∧ ∃ n, w' = w3.drewN n) := fun x => by
    have := seenOf (HD3.out.r.drewN x) hk1.d1 (by have := hk1.ps.dl; omega)
    rw [eL] at this
    refine this.mono ?_
    rintro e w' ⟨rfl, n, rfl⟩
    exact ⟨rfl, x + n, by rw [World.drewN_drewN]⟩
  have HROW := Hid.mkR hrowL
  clear hrowL hrB eL
  generalize leadL k1.ps.last nm.data.toList = LD at *
  go_wp2_with fail
  refine wp_region_noPanic ?_
  refine Till.start 5 (S := fun u => u.cell? ⟨w.heap.size, 1, none⟩ = some (.string nm)) (by kernel_rfl) z1 (fun hHeld => ?_)
  refine' Till.take 0 rfl (by kernel_rfl) (by kernel_rfl) (by kernel_rfl) (by kernel_rfl) (fun _ _ _ h => h) (Or.inl ⟨by rfl, ?_⟩) (by assumption) ?_
  rotate_left
  · (intro w hSw; (try dsimp only at hSw); go_simp <;> with_reducible rfl)
  try simp only [Act.put, List.setIfInBounds_toArray, List.set_cons_zero, List.set_cons_succ]
  refine' Till.take 2 rfl (by kernel_rfl) (by kernel_rfl) (by kernel_rfl) (by kernel_rfl) (fun _ _ _ h => h) (Or.inl ⟨by rfl, ?_⟩) (by assumption) ?_
  rotate_left
  · (intro w hSw; (try dsimp only at hSw); go_simp <;> with_reducible rfl)
  try simp only [Act.put, List.setIfInBounds_toArray, List.set_cons_zero, List.set_cons_succ]
  refine' Till.take 3 rfl (by kernel_rfl) (by kernel_rfl) (by kernel_rfl) (by kernel_rfl) (fun _ _ _ h => h) (Or.inl ⟨by rfl, ?_⟩) (by assumption) ?_
  rotate_left
  · (intro w hSw; (try dsimp only at hSw); go_simp <;> with_reducible rfl)
  try simp only [Act.put, List.setIfInBounds_toArray, List.set_cons_zero, List.set_cons_succ]
  refine Till.one 1 (by kernel_rfl) rfl (fun K hK => ?_)
  go_simp
  go_at_call 53
  refine (HSE.out 1).mono ?_
  rintro e w4 ⟨rfl, n4, rfl⟩
  have x1 : (w3.drewN n4).cell? ⟨w.heap.size, 1, none⟩ = some (.string nm) := z1
  have HD4 := Hid.mkR (HD3.out.drew n4)
  have HL4 := Hid.mkR (HROW.out.later (below_drewN (Below.refl _ _) n4))
  clear HSE HD3 HROW
  generalize w3.drewN n4 = w4 at *
  refine hK.out _ _ ?_ (fun hHeld => ?_)
  · exact x1
  clear hK K
  try simp only [Act.put, List.setIfInBounds_toArray, List.set_cons_zero, List.set_cons_succ]
  refine Till.one 4 (by kernel_rfl) rfl (fun K hK => ?_)
  go_simp
  go_at_call 57
  refine (withoutOf HL4.out nm hk1.see).mono ?_
  rintro e w5 ⟨a5, N5, c5, r5, rfl, hn5⟩
  have x2 := (hn5.below.cell (p := ⟨w.heap.size, 1, none⟩) (cell_lt x1)).trans x1
  have HN5 := Hid.mkR hn5
  clear hn5 HL4
  refine hK.out _ _ ?_ (fun hHeld => ?_)
  · exact x2
  clear hK K
  try simp only [Act.put, List.setIfInBounds_toArray, List.set_cons_zero, List.set_cons_succ]
  refine Till.last (by kernel_rfl) (by kernel_rfl) rfl (fun K hK => ?_)
  go_simp
  refine hK.out _ _ ?_
  clear hK K
  try simp only [Act.put, List.setIfInBounds_toArray, List.set_cons_zero, List.set_cons_succ]
  refine NoPanic.normal ?_
  have HTU := Hid.mkR (turnOf HD4.out.r HD4.out.t HN5.out hdl1)
  go_wp2_with fail
  refine HTU.out.mono ?_
  rintro e w6 ⟨rfl, hR6⟩
  have HE := Hid.mkR (HD4.out.fin hR6)
  clear HTU hR6 HD4 HN5 x1 x2 z0 z1 hHeld
  go_wp2
  go_ret
  exact ⟨rfl, HE.out⟩
theorem str_data (s : ByteArray) : str s.data.toList = s := by
  cases s; rfl
set_option maxHeartbeats 8000000 in
set_option maxRecDepth 1000000 in
theorem do6 {w : World} {gp : Nat} {k : Rk} {B : Nat → Prop} {blk : Nat → Option Nat} {vF vD : Value} {xs : List Ino} {dv : List Value} {sv tv : Nat → List Value} (h : RdM w gp k B blk vF vD xs dv sv tv) (hk : k.Ok) (nm to : ByteArray) (at' m : Int) (vb : Value) (f : Nat) (hf : leadL k.ps.last nm.data.toList = (f : Int)) (hfl : f < k.ps.files.length) (hdl : k.ps.dirs.length < 2199023255000) (hoff : k.off = false) (hl : I64 k.left) (hd0 : 0 ≤ k.done) (hd : k.done ≤ 4611686018427387904) (hcan : k.can = true) (hrf : ∀ u, RdM u gp k B blk vF vD xs dv sv tv → Calls Tryz.prog 49 #[.pointer (some ⟨gp, 0, none⟩), actV 6 nm to at' m (vb)] u fun e w' => e = .returned (.int .i64 0) ∧ Below u.heap.size u w') :
    Calls Tryz.prog 14 #[.pointer (some ⟨gp, 0, none⟩), actV 6 nm to at' m (vb)] w fun e w' => e = .returned (.int .i64 0) ∧ RtP gp (rdo6 k.spent nm to f) (rdT gp B blk) w w' := by
  obtain ⟨w0, hw0⟩ : ∃ w0, w.alloc (.cells #[.int .i64 6, .string nm, .string to, .int .i64 at', .int .i64 m, vb] 56) = w0 := ⟨_, rfl⟩
  have hb0 : Below w.heap.size w w0 := by rw [← hw0]; exact (Below.refl _ _).alloc (Nat.le_refl _) _
  have hs0 : w.heap.size < w0.heap.size := by rw [← hw0]; simp
  have HB0 := Hid.mkR hb0
  have HS0 : Hid (SbAt w0 w.heap.size (actC 6 nm to at' m (vb))) := by rw [← hw0]; exact SbAt.new w _ _
  have c4 := (rcells (h.later hb0).cells).1.2.2.2.2.1
  rw [hoff] at c4
  have HRF := Hid.mkR (hrf w0 (h.later hb0))
  have HBU : Hid (∀ w1, Below w0.heap.size w0 w1 → Calls Tryz.prog 50 #[.pointer (some ⟨gp, 0, none⟩)] w1 fun e w2 => e = .returned (.bool (!k.can)) ∧ RtP gp k.spent (rdT gp B blk) w w2 ∧ SbAt w2 w.heap.size (actC 6 nm to at' m (vb)) ∧ RdAt w2 gp k.spent (fun g => Ext (rdT gp B blk) w w2 g ∧ g ≠ w.heap.size)) := fun w1 hb1 => by
    have hb01 : Below w.heap.size w w1 := HB0.out.trans (hb1.mono HB0.out.size)
    refine (rburnsOf (T := (rdT gp B blk)) ⟨B, blk, vF, vD, xs, dv, sv, tv, h.later hb01, fun g e => e⟩ hl hd0 hd).mono ?_
    rintro e w2 ⟨rfl, h2⟩
    refine ⟨rfl, RtP.below hb01 h2 h.lt, (HS0.out.later hb1).of_block (h2.2.block _ (by have := hb1.size; omega) (fun e => by have := h.lt _ e; omega)), ?_⟩
    obtain ⟨⟨B3, blk3, vF3, vD3, xs3, dv3, sv3, tv3, a1, a2⟩, -⟩ := h2
    refine ⟨B3, blk3, vF3, vD3, xs3, dv3, sv3, tv3, a1, fun g e => ?_⟩
    have hz1 := hb1.size
    rcases a2 g e with e2 | e2
    · exact ⟨.inl e2, by have := h.lt _ e2; omega⟩
    · exact ⟨.inr ⟨by omega, e2.2⟩, by omega⟩
  have HAL : Hid (∀ w1, Below w0.heap.size w0 w1 → RtP gp k (rdT gp B blk) w w1) := fun w1 hb1 => (RtP.start ⟨B, blk, vF, vD, xs, dv, sv, tv, h, fun g e => e⟩).later (HB0.out.trans (hb1.mono HB0.out.size))
  have z0 := HS0.out 0 _ rfl
  have z1 := HS0.out 1 _ rfl
  have z2 := HS0.out 2 _ rfl
  have z3 := HS0.out 3 _ rfl
  have z4 := HS0.out 4 _ rfl
  have z5 := HS0.out 5 _ rfl
  have hps := Rk.spent_ps k
  have hk1 : k.spent.Ok := ⟨by rw [hps]; exact hk.ps, by rw [hps]; exact hk.d1⟩
  have hLf : leadL k.spent.ps.last nm.data.toList = (f : Int) := by rw [hps]; exact hf
  have hf1 : f < k.spent.ps.files.length := by rw [hps]; exact hfl
  have hLf' := Hid.mkR hLf
  have hdl1 : k.spent.ps.dirs.length < 2199023255000 := by rw [hps]; exact hdl
  clear hps
  generalize k.spent = k1 at *
  clear h hb0 hrf
  go_enter Tryz.func14, Tryz.ntmps14
  go_wp2_with fail
  refine HRF.out.mono ?_
  rintro e w1 ⟨rfl, hb1⟩
  clear z0 z1 z2 z3 z4 z5 c4
  have HBU1 := Hid.mkR (HBU.out w1 hb1)
  rw [hcan] at HBU1
  clear HRF HBU HAL hb1
  go_wp2_with fail
  refine HBU1.out.mono ?_
  rintro e w2 ⟨rfl, hR2, hS2, hN2⟩
  have hC2 := hR2.2
  obtain ⟨B2, blk2, vF2, vD2, xs2, dv2, sv2, tv2, h2, hT2⟩ := hN2
  have HFD := Hid.mkR (findR h2 hk1.d1 nm hk1.see (by have := hk1.ps.dl; omega))
  rw [hLf] at HFD
  clear hLf
  have HD2 : Hid (DoAt (rdT gp B blk) w gp (actC 6 nm to at' m (vb)) k1 w2 B2 blk2 vF2 vD2 xs2 dv2 sv2 tv2) := ⟨h2, fun g e => (hT2 g e).1, hC2, hS2, fun g e => (hT2 g e).2⟩
  have z0 := HD2.out.s 0 _ rfl
  have z1 := HD2.out.s 1 _ rfl
  have z2 := HD2.out.s 2 _ rfl
  clear h2 hT2 hC2 hS2 hR2 HBU1
  go_wp2_with fail
  refine HFD.out.mono ?_
  rintro e w3 ⟨rfl, nf, rfl⟩
  have HD3 := Hid.mkR (HD2.out.drew nf)
  clear HFD HD2 z0 z1 z2
  generalize w2.drewN nf = w3 at *
  have z0 := HD3.out.s 0 _ rfl
  have z1 := HD3.out.s 1 _ rfl
  have z2 := HD3.out.s 2 _ rfl
  obtain ⟨aL, cL, rL, eL, hrowL, hrB⟩ := HD3.out.r.see hk1.d1
  have HSE : Hid (∀ x, Calls Tryz.prog 53 #[.pointer (some ⟨gp, 0, none⟩)] (w3.drewN x) fun e w' => e = .returned (.slice aL k1.ps.last.length cL) ∧ ∃ n, w' = w3.drewN n) := fun x => by
    have := seenOf (HD3.out.r.drewN x) hk1.d1 (by have := hk1.ps.dl; omega)
    rw [eL] at this
    refine this.mono ?_
    rintro e w' ⟨rfl, n, rfl⟩
    exact ⟨rfl, x + n, by rw [World.drewN_drewN]⟩
  have HROW := Hid.mkR hrowL
  clear hrowL hrB eL
  go_wp2_with fail
  refine wp_region_noPanic ?_
  refine Till.start 5 (S := fun u => u.cell? ⟨w.heap.size, 1, none⟩ = some (.string nm)) (by kernel_rfl) z1 (fun hHeld => ?_)
  refine' Till.take 0 rfl (by kernel_rfl) (by kernel_rfl) (by kernel_rfl) (by kernel_rfl) (fun _ _ _ h => h) (Or.inl ⟨by rfl, ?_⟩) (by assumption) ?_
  rotate_left
  · (intro w hSw; (try dsimp only at hSw); go_simp <;> with_reducible rfl)
  try simp only [Act.put, List.setIfInBounds_toArray, List.set_cons_zero, List.set_cons_succ]
  refine' Till.take 2 rfl (by kernel_rfl) (by kernel_rfl) (by kernel_rfl) (by kernel_rfl) (fun _ _ _ h => h) (Or.inl ⟨by rfl, ?_⟩) (by assumption) ?_
  rotate_left
  · (intro w hSw; (try dsimp only at hSw); go_simp <;> with_reducible rfl)
  try simp only [Act.put, List.setIfInBounds_toArray, List.set_cons_zero, List.set_cons_succ]
  refine' Till.take 3 rfl (by kernel_rfl) (by kernel_rfl) (by kernel_rfl) (by kernel_rfl) (fun _ _ _ h => h) (Or.inl ⟨by rfl, ?_⟩) (by assumption) ?_
  rotate_left
  · (intro w hSw; (try dsimp only at hSw); go_simp <;> with_reducible rfl)
  try simp only [Act.put, List.setIfInBounds_toArray, List.set_cons_zero, List.set_cons_succ]
  refine Till.one 1 (by kernel_rfl) rfl (fun K hK => ?_)
  go_simp
  go_at_call 53
  refine (HSE.out 1).mono ?_
  rintro e w4 ⟨rfl, n4, rfl⟩
  have x1 : (w3.drewN n4).cell? ⟨w.heap.size, 1, none⟩ = some (.string nm) := z1
  have HD4 := Hid.mkR (HD3.out.drew n4)
  have HL4 := Hid.mkR (HROW.out.later (below_drewN (Below.refl _ _) n4))
  clear HSE HD3 HROW
  generalize w3.drewN n4 = w4 at *
  refine hK.out _ _ ?_ (fun hHeld => ?_)
  · exact x1
  clear hK K
  try simp only [Act.put, List.setIfInBounds_toArray, List.set_cons_zero, List.set_cons_succ]
  refine Till.one 4 (by kernel_rfl) rfl (fun K hK => ?_)
  go_simp
  go_at_call 57
  refine (withoutOf HL4.out nm hk1.see).mono ?_
  rintro e w5 ⟨a5, N5, c5, r5, rfl, hn5⟩
  have x2 := (hn5.below.cell (p := ⟨w.heap.size, 1, none⟩) (cell_lt x1)).trans x1
  have HN5 := Hid.mkR hn5
  clear hn5 HL4
  refine hK.out _ _ ?_ (fun hHeld => ?_)
  · exact x2
  clear hK K
  try simp only [Act.put, List.setIfInBounds_toArray, List.set_cons_zero, List.set_cons_succ]
  refine Till.last (by kernel_rfl) (by kernel_rfl) rfl (fun K hK => ?_)
  go_simp
  refine hK.out _ _ ?_
  clear hK K
  try simp only [Act.put, List.setIfInBounds_toArray, List.set_cons_zero, List.set_cons_succ]
  refine NoPanic.normal ?_
  obtain ⟨a5', c5', e5', -, -⟩ := HN5.out.row.shape
  rw [List.length_map] at e5'
  injection e5' with e51 e52 e53
  subst e51 e53
  have HL5 : Hid (OwnNw w5 (.slice a5 (leftL k1.ps.last nm.data.toList).length c5) ((leftL k1.ps.last nm.data.toList).map nwOf) r5) := by rw [← e52]; exact HN5.out.row
  have hl5 : (leftL k1.ps.last nm.data.toList).length ≤ 2199023255000 := Nat.le_trans (left_len _ _) hk1.see
  subst e52
  have HW5 := Hid.mkR (withoutOf HL5.out to hl5)
  have HB5 := Hid.mkR HN5.out.below
  have HD5 := Hid.mkR (HD4.out.later HN5.out.below)
  clear x1 x2 z0 z1 z2
  have z2 := HD5.out.s 2 _ rfl
  generalize hM5 : (leftL k1.ps.last nm.data.toList).length = M5 at *
  clear hM5
  go_wp2_with fail
  refine HW5.out.mono ?_
  rintro e w6 ⟨a6, N6, c6, r6, rfl, hn6⟩
  obtain ⟨a6', c6', e6', -, -⟩ := hn6.row.shape
  rw [List.length_map] at e6'
  injection e6' with e61 e62 e63
  subst e61 e63
  have HL6 : Hid (OwnNw w6 (.slice a6 (leftL (leftL k1.ps.last nm.data.toList) to.data.toList).length c6) ((leftL (leftL k1.ps.last nm.data.toList) to.data.toList).map nwOf) r6) := by rw [← e62]; exact hn6.row
  have hl6 : (leftL (leftL k1.ps.last nm.data.toList) to.data.toList).length ≤ 2199023255000 := Nat.le_trans (left_len _ _) (Nat.le_trans (left_len _ _) hk1.see)
  subst e62
  have HD6 := Hid.mkR (HD5.out.later hn6.below)
  have HB6 : Hid (Below w4.heap.size w4 w6) := HB5.out.trans (hn6.below.mono HB5.out.size)
  have HW6 : Hid (Calls Tryz.prog 52 #[.slice a6 (leftL (leftL k1.ps.last nm.data.toList) to.data.toList).length c6, .agg #[.string to, .int .i64 (f : Int)]] w6 fun e w' => ∃ a N c r, e = .returned (.slice a N c) ∧ NwNew w6 w' (.slice a N c) ((withL (leftL (leftL k1.ps.last nm.data.toList) to.data.toList) (to.data.toList, f)).map nwOf) r) := by
    have := withOf HL6.out (to.data.toList, f) hl6
    rw [show str (to.data.toList, f).1 = to from str_data to] at this
    exact this
  clear hn6 HW5 HD5 z2
  have z2 := HD6.out.s 2 _ rfl
  generalize hM6 : (leftL (leftL k1.ps.last nm.data.toList) to.data.toList).length = M6 at *
  clear hM6
  go_wp2_with fail
  refine HW6.out.mono ?_
  rintro e w7 ⟨a7, N7, c7, r7, rfl, hn7⟩
  have HTU := Hid.mkR (turnOf HD4.out.r HD4.out.t (hn7.back0 HB6.out) hdl1)
  clear HW6 hn7 HD6 z2
  go_wp2_with fail
  refine HTU.out.mono ?_
  rintro e w8 ⟨rfl, hR8⟩
  have HE := Hid.mkR (HD4.out.fin hR8)
  clear HTU hR8 HD4 HN5 hHeld
  go_wp2
  go_ret
  exact ⟨rfl, HE.out⟩
set_option maxHeartbeats 8000000 in
set_option maxRecDepth 1000000 in
theorem do2 {w : World} {gp : Nat} {k : Rk} {B : Nat → Prop} {blk : Nat → Option Nat} {vF vD : Value} {xs : List Ino} {dv : List Value} {sv tv : Nat → List Value} (h : RdM w gp k B blk vF vD xs dv sv tv) (hk : k.Ok) (nm to : ByteArray) (at' m : Int) (ab : Option Addr) (cb : Nat) (b : List Nat) (f : Nat) (hf : leadL k.ps.last nm.data.toList = (f : Int)) (hfl : f < k.ps.files.length) (hsl : (k.ps.files.getD f []).length < 2199023255000 ∧ (k.ps.grown.getD f []).length < 2199023255000 ∧ (k.ps.now f).length + b.length ≤ 70368744177664) (hdt : ∀ u, Chg (rdT gp B blk) w u → BytesAt u (.slice ab b.length cb) b) (hoff : k.off = false) (hl : I64 k.left) (hd0 : 0 ≤ k.done) (hd : k.done ≤ 4611686018427387904) (hcan : k.can = true) (hrf : ∀ u, RdM u gp k B blk vF vD xs dv sv tv → Calls Tryz.prog 49 #[.pointer (some ⟨gp, 0, none⟩), actV 2 nm to at' m (.slice ab b.length cb)] u fun e w' => e = .returned (.int .i64 0) ∧ Below u.heap.size u w') :
    Calls Tryz.prog 14 #[.pointer (some ⟨gp, 0, none⟩), actV 2 nm to at' m (.slice ab b.length cb)] w fun e w' => e = .returned (.int .i64 0) ∧ RtP gp (rdo2 k.spent f b) (rdT gp B blk) w w' := by
  obtain ⟨w0, hw0⟩ : ∃ w0, w.alloc (.cells #[.int .i64 2, .string nm, .string to, .int .i64 at', .int .i64 m, .slice ab b.length cb] 56) = w0 := ⟨_, rfl⟩
  have hb0 : Below w.heap.size w w0 := by rw [← hw0]; exact (Below.refl _ _).alloc (Nat.le_refl _) _
  have hs0 : w.heap.size < w0.heap.size := by rw [← hw0]; simp
  have HB0 := Hid.mkR hb0
  have HS0 : Hid (SbAt w0 w.heap.size (actC 2 nm to at' m (.slice ab b.length cb))) := by rw [← hw0]; exact SbAt.new w _ _
  have c4 := (rcells (h.later hb0).cells).1.2.2.2.2.1
  rw [hoff] at c4
  have HRF := Hid.mkR (hrf w0 (h.later hb0))
  have HBU : Hid (∀ w1, Below w0.heap.size w0 w1 → Calls Tryz.prog 50 #[.pointer (some ⟨gp, 0, none⟩)] w1 fun e w2 => e = .returned (.bool (!k.can)) ∧ RtP gp k.spent (rdT gp B blk) w w2 ∧ SbAt w2 w.heap.size (actC 2 nm to at' m (.slice ab b.length cb)) ∧ RdAt w2 gp k.spent (fun g => Ext (rdT gp B blk) w w2 g ∧ g ≠ w.heap.size)) := fun w1 hb1 => by
    have hb01 : Below w.heap.size w w1 := HB0.out.trans (hb1.mono HB0.out.size)
    refine (rburnsOf (T := (rdT gp B blk)) ⟨B, blk, vF, vD, xs, dv, sv, tv, h.later hb01, fun g e => e⟩ hl hd0 hd).mono ?_
    rintro e w2 ⟨rfl, h2⟩
    refine ⟨rfl, RtP.below hb01 h2 h.lt, (HS0.out.later hb1).of_block (h2.2.block _ (by have := hb1.size; omega) (fun e => by have := h.lt _ e; omega)), ?_⟩
    obtain ⟨⟨B3, blk3, vF3, vD3, xs3, dv3, sv3, tv3, a1, a2⟩, -⟩ := h2
    refine ⟨B3, blk3, vF3, vD3, xs3, dv3, sv3, tv3, a1, fun g e => ?_⟩
    have hz1 := hb1.size
    rcases a2 g e with e2 | e2
    · exact ⟨.inl e2, by have := h.lt _ e2; omega⟩
    · exact ⟨.inr ⟨by omega, e2.2⟩, by omega⟩
  have HAL : Hid (∀ w1, Below w0.heap.size w0 w1 → RtP gp k (rdT gp B blk) w w1) := fun w1 hb1 => (RtP.start ⟨B, blk, vF, vD, xs, dv, sv, tv, h, fun g e => e⟩).later (HB0.out.trans (hb1.mono HB0.out.size))
  have z0 := HS0.out 0 _ rfl
  have z1 := HS0.out 1 _ rfl
  have z2 := HS0.out 2 _ rfl
  have z3 := HS0.out 3 _ rfl
  have z4 := HS0.out 4 _ rfl
  have z5 := HS0.out 5 _ rfl
  have hps := Rk.spent_ps k
  have hk1 : k.spent.Ok := ⟨by rw [hps]; exact hk.ps, by rw [hps]; exact hk.d1⟩
  have hLf : leadL k.spent.ps.last nm.data.toList = (f : Int) := by rw [hps]; exact hf
  have hf1 : f < k.spent.ps.files.length := by rw [hps]; exact hfl
  have hLf' := Hid.mkR hLf
  have hsl1 : (k.spent.ps.files.getD f []).length < 2199023255000 ∧ (k.spent.ps.grown.getD f []).length < 2199023255000 ∧ (k.spent.ps.now f).length + b.length ≤ 70368744177664 := by rw [hps]; exact hsl
  have HDT := Hid.mkR hdt
  clear hps
  generalize k.spent = k1 at *
  clear h hb0 hrf
  go_enter Tryz.func14, Tryz.ntmps14
  go_wp2_with fail
  refine HRF.out.mono ?_
  rintro e w1 ⟨rfl, hb1⟩
  clear z0 z1 z2 z3 z4 z5 c4
  have HBU1 := Hid.mkR (HBU.out w1 hb1)
  rw [hcan] at HBU1
  clear HRF HBU HAL hb1
  go_wp2_with fail
  refine HBU1.out.mono ?_
  rintro e w2 ⟨rfl, hR2, hS2, hN2⟩
  have hC2 := hR2.2
  obtain ⟨B2, blk2, vF2, vD2, xs2, dv2, sv2, tv2, h2, hT2⟩ := hN2
  have HFD := Hid.mkR (findR h2 hk1.d1 nm hk1.see (by have := hk1.ps.dl; omega))
  rw [hLf] at HFD
  clear hLf
  have HD2 : Hid (DoAt (rdT gp B blk) w gp (actC 2 nm to at' m (.slice ab b.length cb)) k1 w2 B2 blk2 vF2 vD2 xs2 dv2 sv2 tv2) := ⟨h2, fun g e => (hT2 g e).1, hC2, hS2, fun g e => (hT2 g e).2⟩
  have z0 := HD2.out.s 0 _ rfl
  have z1 := HD2.out.s 1 _ rfl
  have z5 := HD2.out.s 5 _ rfl
  clear h2 hT2 hC2 hS2 hR2 HBU1
  go_wp2_with fail
  refine HFD.out.mono ?_
  rintro e w3 ⟨rfl, nf, rfl⟩
  have HD3 := Hid.mkR (HD2.out.drew nf)
  clear HFD HD2 z0 z1 z5
  generalize w2.drewN nf = w3 at *
  have z0 := HD3.out.s 0 _ rfl
  have z1 := HD3.out.s 1 _ rfl
  have z5 := HD3.out.s 5 _ rfl
  have h1f := hk1.ps.one f hf1
  have h2f := (hk1.ps.gl f hf1).2
  obtain ⟨aB, cB, rB, hoB, hrB, hBy, eB⟩ := bytesG HD3.out.r hf1 h1f (by have := hk1.ps.fl; omega) (by omega)
  have HBY : Hid (Calls Tryz.prog 55 #[.pointer (some ⟨gp, 0, none⟩), .int .i64 f] w3 fun e w' => e = .returned (.slice aB (k1.ps.now f).length cB) ∧ ∃ m, w' = w3.drewN m) := hBy 0
  have HEB := Hid.mkR eB
  have HOB := Hid.mkR hoB
  clear hBy eB hoB hrB
  have HCP := Hid.mkR (fun n => copiedR (HOB.out.later (below_drewN (Below.refl _ _) n)).bytes (by have := hsl1.2.2; omega))
  generalize hLN : (k1.ps.now f).length = LN at *
  have HLN := Hid.mkR hLN
  clear hLN
  go_wp2_with fail
  refine HBY.out.mono ?_
  rintro e w4 ⟨rfl, n4, rfl⟩
  have HD4 := Hid.mkR (HD3.out.drew n4)
  have HCP4 := Hid.mkR (HCP.out n4)
  have HDT4 : Hid (BytesAt (w3.drewN n4) (.slice ab b.length cb) b) := HDT.out _ HD4.out.c
  clear HBY HCP HD3 HOB z0 z1 z5
  generalize w3.drewN n4 = w4 at *
  go_wp2_with fail
  refine HCP4.out.mono ?_
  rintro e w5 ⟨a5, N5, c5, r5, rfl, hn5⟩
  have HD5 := Hid.mkR (HD4.out.later hn5.below)
  have HN5 := Hid.mkR hn5
  have HDT5 := Hid.mkR (HDT4.out.later hn5.below)
  have hb256 := HDT5.out.byte
  have z0 := HD5.out.s 0 _ rfl
  have z5 := HD5.out.s 5 _ rfl
  clear HCP4 hn5
  go_wp2_with (at_builtin; refine wpList_append_row _ rfl _ _ 34 34 rfl Tryz.underlying34 _ _ (k1.ps.now f) b r5 rfl rfl ?hOwn ?hByte ?hSrc ?hLen ?_)
  case hOwn => exact HN5.out.row
  case hByte => exact hb256
  case hSrc => exact src_of Tryz.underlying34 HDT5.out
  case hLen => have := hsl1.2.2; have := HLN.out; omega
  intro v6 w6 r6 ho6 hg6 hr6 hn6
  have hv6 : ∃ a4 N4 c4, v6 = .slice a4 N4 c4 := ho6.bytes.elim fun a4 h => h.elim fun c4 h2 => ⟨a4, _, c4, h2.1⟩
  obtain ⟨a6, N6, c6, rfl⟩ := hv6
  have hb6 : Below w4.heap.size w4 w6 := HN5.out.below.grown hg6 HN5.out.below.size (fun g e => HN5.out.new g e)
  have hnw6 : ∀ g, r6 = some g → w4.heap.size ≤ g := fun g e => hr6.elim (fun e2 => HN5.out.new g (by rw [← e2]; exact e)) (fun e2 => by rw [e2] at e; cases e; exact HN5.out.below.size)
  have HD6 := Hid.mkR (HD4.out.later hb6)
  have HCH := Hid.mkR (changeR HD4.out.r HD4.out.t hf1 hb6 ho6 hnw6 (m := (b.length : Int)) (by have := hsl1.2.2; constructor <;> omega) h1f (by have := hk1.ps.fl; omega) hsl1.1 hsl1.2.1)
  clear ho6 hg6 hr6 hn6 hb6 hnw6 HD5 z0 z5
  have z0 := HD6.out.s 0 _ rfl
  have z5 := HD6.out.s 5 _ rfl
  go_wp2_with fail
  refine HCH.out.mono ?_
  rintro e w7 ⟨rfl, hR7⟩
  have HE := Hid.mkR (HD4.out.fin hR7)
  clear HCH hR7 HD4 HD6 HN5 HDT5 HDT4 z0 z5
  go_wp2
  go_ret
  exact ⟨rfl, HE.out⟩
theorem Own.cut {w : World} {a : Option Addr} {n c : Nat} {l : List Nat} {r : Option Nat} (h : Own w (.slice a n c) l r) {k : Nat} (hk : k ≤ n) : BytesAt w (.slice a k c) (l.take k) := by
  obtain ⟨a2, c2, e, h1, h2, h3, h4⟩ := h.bytes
  injection e with e1 e2 e3
  subst e1 e2 e3
  have hl : (l.take k).length = k := by rw [List.length_take]; omega
  refine ⟨a, c, by rw [hl], by rw [hl]; omega, h2, fun x hx => h3 x (List.mem_of_mem_take hx), fun hne => ?_⟩
  have hne2 : l ≠ [] := fun e => hne (by rw [e]; simp)
  obtain ⟨b, off, e4, h5⟩ := h4 hne2
  refine ⟨b, off, e4, fun j hj => ?_⟩
  rw [hl] at hj
  rw [h5 j (by omega)]
  rw [List.getD_eq_getElem?_getD, List.getD_eq_getElem?_getD, List.getElem?_take_of_lt hj]
set_option maxHeartbeats 8000000 in
set_option maxRecDepth 1000000 in
theorem do3 {w : World} {gp : Nat} {k : Rk} {B : Nat → Prop} {blk : Nat → Option Nat} {vF vD : Value} {xs : List Ino} {dv : List Value} {sv tv : Nat → List Value} (h : RdM w gp k B blk vF vD xs dv sv tv) (hk : k.Ok) (nm to : ByteArray) (at' : Int) (n0 : Nat) (vb : Value) (f : Nat) (hf : leadL k.ps.last nm.data.toList = (f : Int)) (hfl : f < k.ps.files.length) (hsl : (k.ps.files.getD f []).length < 2199023255000 ∧ (k.ps.grown.getD f []).length < 2199023255000 ∧ n0 ≤ (k.ps.now f).length ∧ (k.ps.now f).length ≤ 70368744177664) (hoff : k.off = false) (hl : I64 k.left) (hd0 : 0 ≤ k.done) (hd : k.done ≤ 4611686018427387904) (hcan : k.can = true) (hrf : ∀ u, RdM u gp k B blk vF vD xs dv sv tv → Calls Tryz.prog 49 #[.pointer (some ⟨gp, 0, none⟩), actV 3 nm to at' (n0 : Int) (vb)] u fun e w' => e = .returned (.int .i64 0) ∧ Below u.heap.size u w') :
    Calls Tryz.prog 14 #[.pointer (some ⟨gp, 0, none⟩), actV 3 nm to at' (n0 : Int) (vb)] w fun e w' => e = .returned (.int .i64 0) ∧ RtP gp (rdo3 k.spent f n0) (rdT gp B blk) w w' := by
  obtain ⟨w0, hw0⟩ : ∃ w0, w.alloc (.cells #[.int .i64 3, .string nm, .string to, .int .i64 at', .int .i64 (n0 : Int), vb] 56) = w0 := ⟨_, rfl⟩
  have hb0 : Below w.heap.size w w0 := by rw [← hw0]; exact (Below.refl _ _).alloc (Nat.le_refl _) _
  have hs0 : w.heap.size < w0.heap.size := by rw [← hw0]; simp
  have HB0 := Hid.mkR hb0
  have HS0 : Hid (SbAt w0 w.heap.size (actC 3 nm to at' (n0 : Int) (vb))) := by rw [← hw0]; exact SbAt.new w _ _
  have c4 := (rcells (h.later hb0).cells).1.2.2.2.2.1
  rw [hoff] at c4
  have HRF := Hid.mkR (hrf w0 (h.later hb0))
  have HBU : Hid (∀ w1, Below w0.heap.size w0 w1 → Calls Tryz.prog 50 #[.pointer (some ⟨gp, 0, none⟩)] w1 fun e w2 => e = .returned (.bool (!k.can)) ∧ RtP gp k.spent (rdT gp B blk) w w2 ∧ SbAt w2 w.heap.size (actC 3 nm to at' (n0 : Int) (vb)) ∧ RdAt w2 gp k.spent (fun g => Ext (rdT gp B blk) w w2 g ∧ g ≠ w.heap.size)) := fun w1 hb1 => by
    have hb01 : Below w.heap.size w w1 := HB0.out.trans (hb1.mono HB0.out.size)
    refine (rburnsOf (T := (rdT gp B blk)) ⟨B, blk, vF, vD, xs, dv, sv, tv, h.later hb01, fun g e => e⟩ hl hd0 hd).mono ?_
    rintro e w2 ⟨rfl, h2⟩
    refine ⟨rfl, RtP.below hb01 h2 h.lt, (HS0.out.later hb1).of_block (h2.2.block _ (by have := hb1.size; omega) (fun e => by have := h.lt _ e; omega)), ?_⟩
    obtain ⟨⟨B3, blk3, vF3, vD3, xs3, dv3, sv3, tv3, a1, a2⟩, -⟩ := h2
    refine ⟨B3, blk3, vF3, vD3, xs3, dv3, sv3, tv3, a1, fun g e => ?_⟩
    have hz1 := hb1.size
    rcases a2 g e with e2 | e2
    · exact ⟨.inl e2, by have := h.lt _ e2; omega⟩
    · exact ⟨.inr ⟨by omega, e2.2⟩, by omega⟩
  have HAL : Hid (∀ w1, Below w0.heap.size w0 w1 → RtP gp k (rdT gp B blk) w w1) := fun w1 hb1 => (RtP.start ⟨B, blk, vF, vD, xs, dv, sv, tv, h, fun g e => e⟩).later (HB0.out.trans (hb1.mono HB0.out.size))
  have z0 := HS0.out 0 _ rfl
  have z1 := HS0.out 1 _ rfl
  have z2 := HS0.out 2 _ rfl
  have z3 := HS0.out 3 _ rfl
  have z4 := HS0.out 4 _ rfl
  have z5 := HS0.out 5 _ rfl
  have hps := Rk.spent_ps k
  have hk1 : k.spent.Ok := ⟨by rw [hps]; exact hk.ps, by rw [hps]; exact hk.d1⟩
  have hLf : leadL k.spent.ps.last nm.data.toList = (f : Int) := by rw [hps]; exact hf
  have hf1 : f < k.spent.ps.files.length := by rw [hps]; exact hfl
  have hLf' := Hid.mkR hLf
  have hsl1 : (k.spent.ps.files.getD f []).length < 2199023255000 ∧ (k.spent.ps.grown.getD f []).length < 2199023255000 ∧ n0 ≤ (k.spent.ps.now f).length ∧ (k.spent.ps.now f).length ≤ 70368744177664 := by rw [hps]; exact hsl
  clear hps
  generalize k.spent = k1 at *
  clear h hb0 hrf
  go_enter Tryz.func14, Tryz.ntmps14
  go_wp2_with fail
  refine HRF.out.mono ?_
  rintro e w1 ⟨rfl, hb1⟩
  clear z0 z1 z2 z3 z4 z5 c4
  have HBU1 := Hid.mkR (HBU.out w1 hb1)
  rw [hcan] at HBU1
  clear HRF HBU HAL hb1
  go_wp2_with fail
  refine HBU1.out.mono ?_
  rintro e w2 ⟨rfl, hR2, hS2, hN2⟩
  have hC2 := hR2.2
  obtain ⟨B2, blk2, vF2, vD2, xs2, dv2, sv2, tv2, h2, hT2⟩ := hN2
  have HFD := Hid.mkR (findR h2 hk1.d1 nm hk1.see (by have := hk1.ps.dl; omega))
  rw [hLf] at HFD
  clear hLf
  have HD2 : Hid (DoAt (rdT gp B blk) w gp (actC 3 nm to at' (n0 : Int) (vb)) k1 w2 B2 blk2 vF2 vD2 xs2 dv2 sv2 tv2) := ⟨h2, fun g e => (hT2 g e).1, hC2, hS2, fun g e => (hT2 g e).2⟩
  have z0 := HD2.out.s 0 _ rfl
  have z1 := HD2.out.s 1 _ rfl
  have z4 := HD2.out.s 4 _ rfl
  clear h2 hT2 hC2 hS2 hR2 HBU1
  go_wp2_with fail
  refine HFD.out.mono ?_
  rintro e w3 ⟨rfl, nf, rfl⟩
  have HD3 := Hid.mkR (HD2.out.drew nf)
  clear HFD HD2 z0 z1 z4
  generalize w2.drewN nf = w3 at *
  have z0 := HD3.out.s 0 _ rfl
  have z1 := HD3.out.s 1 _ rfl
  have z4 := HD3.out.s 4 _ rfl
  have h1f := hk1.ps.one f hf1
  have h2f := (hk1.ps.gl f hf1).2
  obtain ⟨aB, cB, rB, hoB, hrB, hBy, eB⟩ := bytesG HD3.out.r hf1 h1f (by have := hk1.ps.fl; omega) (by omega)
  have HBY := Hid.mkR hBy
  have HEB := Hid.mkR eB
  have HOB := Hid.mkR hoB
  clear hBy eB hoB hrB
  have hn1 := hsl1.2.2.1
  have hn2 := hsl1.2.2.2
  have hcapB : (k1.ps.now f).length ≤ cB ∧ cB ≤ maxLen := by
    obtain ⟨a9, c9, e9, q1, q2, -⟩ := HOB.out.bytes
    injection e9 with e1 e2 e3
    subst e3
    exact ⟨q1, q2⟩
  obtain ⟨hcB1, hcB2⟩ := hcapB
  generalize hLN : (k1.ps.now f).length = LN at *
  have HLN := Hid.mkR hLN
  have hn0 : n0 ≤ LN := hn1
  have hni : (n0 : Int) ≤ (LN : Int) := by omega
  have hn00 : (0 : Int) ≤ (n0 : Int) := by omega
  have hnc : (n0 : Int) ≤ (cB : Int) := by omega
  clear hLN
  go_wp2_with fail
  refine wp_region_noPanic ?_
  refine Till.start 7 (S := fun u => u.cell? ⟨w.heap.size, 4, none⟩ = some (.int .i64 (n0 : Int))) (by kernel_rfl) z4 (fun hHeld => ?_)
  refine' Till.take 0 rfl (by kernel_rfl) (by kernel_rfl) (by kernel_rfl) (by kernel_rfl) (fun _ _ _ h => h) (Or.inl ⟨by rfl, ?_⟩) (by assumption) ?_
  rotate_left
  · (intro w hSw; (try dsimp only at hSw); go_simp <;> with_reducible rfl)
  try simp only [Act.put, List.setIfInBounds_toArray, List.set_cons_zero, List.set_cons_succ]
  refine' Till.take 1 rfl (by kernel_rfl) (by kernel_rfl) (by kernel_rfl) (by kernel_rfl) (fun _ _ _ h => h) (Or.inl ⟨by rfl, ?_⟩) (by assumption) ?_
  rotate_left
  · (intro w hSw; (try dsimp only at hSw); go_simp <;> with_reducible rfl)
  try simp only [Act.put, List.setIfInBounds_toArray, List.set_cons_zero, List.set_cons_succ]
  refine' Till.take 3 rfl (by kernel_rfl) (by kernel_rfl) (by kernel_rfl) (by kernel_rfl) (fun _ _ _ h => h) (Or.inl ⟨by rfl, ?_⟩) (by assumption) ?_
  rotate_left
  · (intro w hSw; (try dsimp only at hSw); go_simp <;> with_reducible rfl)
  try simp only [Act.put, List.setIfInBounds_toArray, List.set_cons_zero, List.set_cons_succ]
  refine' Till.take 4 rfl (by kernel_rfl) (by kernel_rfl) (by kernel_rfl) (by kernel_rfl) (fun _ _ _ h => h) (Or.inl ⟨by rfl, ?_⟩) (by assumption) ?_
  rotate_left
  · (intro w hSw; (try dsimp only at hSw); go_simp <;> with_reducible rfl)
  try simp only [Act.put, List.setIfInBounds_toArray, List.set_cons_zero, List.set_cons_succ]
  refine Till.one 2 (by kernel_rfl) rfl (fun K hK => ?_)
  go_simp
  go_at_call 55
  refine (HBY.out 1).mono ?_
  rintro e w4 ⟨rfl, n4, rfl⟩
  have x1 : (w3.drewN n4).cell? ⟨w.heap.size, 4, none⟩ = some (.int .i64 (n0 : Int)) := z4
  have HD4 := Hid.mkR (HD3.out.drew n4)
  have HO4 := Hid.mkR (HOB.out.later (below_drewN (Below.refl _ _) n4))
  clear HBY HD3 HOB
  generalize w3.drewN n4 = w4 at *
  refine hK.out _ _ ?_ (fun hHeld => ?_)
  · exact x1
  clear hK K
  try simp only [Act.put, List.setIfInBounds_toArray, List.set_cons_zero, List.set_cons_succ]
  refine' Till.take 5 rfl (by kernel_rfl) (by kernel_rfl) (by kernel_rfl) (by kernel_rfl) (fun _ _ _ h => h) (Or.inl ⟨by rfl, ?_⟩) (by assumption) ?_
  rotate_left
  · (intro w hSw; (try dsimp only at hSw); go_simp <;> with_reducible rfl)
  try simp only [Act.put, List.setIfInBounds_toArray, List.set_cons_zero, List.set_cons_succ]
  refine Till.one 6 (by kernel_rfl) rfl (fun K hK => ?_)
  go_simp
  go_at_call 38
  refine (copiedR (l := (k1.ps.now f).take n0) (HO4.out.cut hn0) (by have := HLN.out; rw [List.length_take]; omega)).mono ?_
  rintro e w5 ⟨a5, N5, c5, r5, rfl, hn5⟩
  have x2 := (hn5.below.cell (p := ⟨w.heap.size, 4, none⟩) (cell_lt x1)).trans x1
  have HN5 := Hid.mkR hn5
  clear hn5 HO4
  refine hK.out _ _ ?_ (fun hHeld => ?_)
  · exact x2
  clear hK K
  try simp only [Act.put, List.setIfInBounds_toArray, List.set_cons_zero, List.set_cons_succ]
  refine Till.last (by kernel_rfl) (by kernel_rfl) rfl (fun K hK => ?_)
  go_simp
  refine hK.out _ _ ?_
  clear hK K
  try simp only [Act.put, List.setIfInBounds_toArray, List.set_cons_zero, List.set_cons_succ]
  refine NoPanic.normal ?_
  have HCH := Hid.mkR (changeR HD4.out.r HD4.out.t hf1 HN5.out.below HN5.out.row HN5.out.new (m := (-1 : Int)) (by unfold I64; decide) h1f (by have := hk1.ps.fl; omega) hsl1.1 hsl1.2.1)
  go_wp2_with fail
  refine HCH.out.mono ?_
  rintro e w6 ⟨rfl, hR6⟩
  have HE := Hid.mkR (HD4.out.fin hR6)
  clear HCH hR6 HD4 HN5 x1 x2 z0 z1 z4 hHeld
  go_wp2
  go_ret
  exact ⟨rfl, HE.out⟩
end Go.Proofs.YthcnhjmkcekdaaaGreat
