import Derived.Test.YtgpmhflndcppeaaRgd
import Derived.Test.YtgpmhflndcppeaaQp22
import Derived.Deep.RegionHeld3
import Derived.BigRegion
/-! The law on the past: note of a Create. -/
namespace Go.Proofs.Ytgpmhflndcppeaa
open Go.RowKit Go.Maps Plain
set_option linter.unusedVariables false
set_option linter.unusedSimpArgs false

set_option maxHeartbeats 8000000 in
set_option maxRecDepth 100000 in
theorem noteCreate {w : World} {gp : Nat} {p : Ps} {T : Nat → Prop} (nm to : ByteArray) (at' m : Int) (vb vp : Value) (h : PaAt w gp p T) (hk : p.Ok) (h1 : 1 ≤ p.dirs.length) (hf : leadL p.last nm.data.toList = -1) (hd : p.dirs.length < 2199023255000) (hfd : p.files.length < 2199023255000) :
    Calls Try.prog 9 #[.pointer (some ⟨gp, 0, none⟩), stepV 1 nm to at' m vb vp] w (NtPost gp ⟨p.files ++ [[[]]], p.grown ++ [[-1]], p.dirs ++ [leftL p.last [] ++ [(nm.data.toList, p.files.length)]]⟩ T w) := by
  obtain ⟨PP, hPP⟩ : ∃ PP : Ps, ⟨p.files ++ [[[]]], p.grown ++ [[-1]], p.dirs ++ [leftL p.last [] ++ [(nm.data.toList, p.files.length)]]⟩ = PP := ⟨_, rfl⟩
  rw [hPP]
  have HPP := Hid.mkP hPP
  clear hPP
  obtain ⟨B, vF, vG, vD, rF, rG, rD, fv, gv, dv, rf, rg, sv, tv, hP, hT⟩ := h
  obtain ⟨w0, hw0⟩ : ∃ w0, w.alloc (.cells #[.int .i64 1, .string nm, .string to, .int .i64 at', .int .i64 m, vb, vp] 31) = w0 := ⟨_, rfl⟩
  have hb0 : Below w.heap.size w w0 := by rw [← hw0]; exact (Below.refl _ _).alloc (Nat.le_refl _) _
  have hS0 : SbAt w0 w.heap.size (stepC 1 nm to at' m vb vp) := by rw [← hw0]; exact SbAt.new w _ _
  have hP0 := hP.later hb0
  have hpl : p.last.length ≤ 2199023255000 := hk.nl _ (by omega)
  have HLE : Hid (Calls Try.prog 30 #[.pointer (some ⟨gp, 0, none⟩), .string nm] w0 fun e w' => e = .returned (.int .i64 (-1)) ∧ ∃ n, w' = w0.drewN n) := by
    have := leadOf hP0 h1 nm hpl (by have := hk.dl; omega)
    rw [hf] at this
    exact this
  have z0 := hS0 0 _ rfl
  have z1 := hS0 1 _ rfl
  have HPM : Hid (PaM w gp p B vF vG vD rF rG rD fv gv dv rf rg sv tv) := hP
  have HB0 : Hid (Below w.heap.size w w0) := hb0
  have HS0 : Hid (SbAt w0 w.heap.size (stepC 1 nm to at' m vb vp)) := hS0
  clear hP hP0 hb0 hS0 hf
  go_enter Try.func9, Try.ntmps9
  go_wp2_with fail
  refine HLE.out.mono ?_
  rintro e w' ⟨rfl, n, rfl⟩
  have HB1 : Hid (Below w.heap.size w (w0.drewN n)) := below_drewN HB0.out n
  have HS1 : Hid (SbAt (w0.drewN n) w.heap.size (stepC 1 nm to at' m vb vp)) := HS0.out.later (below_drewN (Below.refl _ _) n)
  clear HLE z0 z1 HB0 HS0
  generalize w0.drewN n = w2 at HB1 HS1 ⊢
  have z0 := HS1.out 0 _ rfl
  have z1 := HS1.out 1 _ rfl
  have k0 := (HPM.out.later HB1.out).c0
  have f0 := (HPM.out.later HB1.out).fz 0
  obtain ⟨aF, capF, rfl⟩ : ∃ aF capF, vF = .slice aF p.files.length capF := by
    obtain ⟨aF, capF, e, -, -⟩ := HPM.out.F.out.shape
    rw [HPM.out.F.len] at e
    exact ⟨aF, capF, e⟩
  have hT0 : ∀ g, paT gp p B rF rG rD rf rg g → (fun g => T g ∧ g < w.heap.size) g := fun g hg => ⟨hT g hg, HPM.out.lt g hg⟩
  have hfvl : fv.length = p.files.length := HPM.out.F.len
  have hbE : Below w2.heap.size w2 ((w2.alloc (.cells #[.slice none 0 0] 28)).alloc (.cells #[.slice (some ⟨w2.heap.size, 0, none⟩) 1 1] 80)) := ((Below.refl _ w2).alloc (Nat.le_refl _) _).alloc (by simp) _
  have HBE := Hid.mkP hbE
  have HFE : Hid (OwnV ((w2.alloc (.cells #[.slice none 0 0] 28)).alloc (.cells #[.slice (some ⟨w2.heap.size, 0, none⟩) 1 1] 80)) (.slice aF p.files.length capF) fv rF) := ((HPM.out.later HB1.out).later hbE).F.out
  have HXE : Hid (OwnV ((w2.alloc (.cells #[.slice none 0 0] 28)).alloc (.cells #[.slice (some ⟨w2.heap.size, 0, none⟩) 1 1] 80)) (.slice (some ⟨w2.heap.size, 0, none⟩) 1 1) [.slice none 0 0] (some w2.heap.size)) := OwnV.lat (OwnV.one w2 (.slice none 0 0) 28) ((Below.refl _ _).alloc (Nat.le_refl _) _)
  clear hbE
  obtain ⟨tb, htb, hb0, hb1, hb2⟩ := info_parts Try.infoBS
  obtain ⟨ti, hti, hi0, hi1, hi2⟩ := info_parts Try.infoIS
  go_wp2_with (at_builtin; refine wpList_append_val2 _ rfl _ _ 48 80 tb (.slice none 0 0) rfl Try.underlying48 htb hb0 rfl hb1 (by rw [hb2]; decide) _ _ (.slice (some ⟨w2.heap.size, 0, none⟩) 1 1) fv rF rfl rfl ?hOwn ?hSrc ?hLen ?_)
  case hOwn => exact HFE.out
  case hSrc => exact src_val' _ _ (by simp) _ rfl _ _ _ Try.underlying48
  case hLen => rw [hfvl]; omega
  intro v7 w7 g7 ho7 hg7 hr7
  obtain ⟨a7, N7, c7, rfl⟩ : ∃ a N c, v7 = .slice a N c := ho7.shape.elim fun a6 h => h.elim fun cc6 h2 => ⟨a6, _, cc6, h2.1⟩
  obtain ⟨hE7, e7, f7⟩ := (HPM.out.later HB1.out).moreF hT0 HBE.out HXE.out (fun g e => by cases e; exact Nat.le_refl _) ho7 hg7 (by simpa using hr7)
  have HE7 := Hid.mkP hE7
  obtain ⟨⟨B1, vF1, vG1, vD1, rF1, rG1, rD1, fv1, gv1, dv1, rf1, rg1, sv1, tv1, hP8, hT8⟩, hc8⟩ := hE7
  have e8 : w7.cell? ⟨gp, 1, none⟩ = some vG1 := by
    have := hP8.c1
    rw [World.cell?_setCell_other _ _ _ _ (by intro e2; injection e2; omega)] at this
    exact this
  have f8 : w7.frozen? ⟨gp, 1, none⟩ = false := by
    have := hP8.fz 1
    rw [World.frozen?_setCell] at this
    exact this
  have HP8 := Hid.mkP hP8
  have HT8 := Hid.mkP hT8
  clear hP8 hT8 hc8 ho7 hg7 hr7
  clear k0 f0 HFE HXE HBE
  obtain ⟨aG, capG, rfl⟩ : ∃ aG capG, vG1 = .slice aG p.grown.length capG := by
    obtain ⟨aG, capG, e, -, -⟩ := HP8.out.G.out.shape
    rw [HP8.out.G.len] at e
    exact ⟨aG, capG, e⟩
  have hgvl : gv1.length = p.grown.length := HP8.out.G.len
  have hgl9 : p.grown.length ≤ 2199023255000 := by rw [hk.len]; omega
  obtain ⟨w8, hw8⟩ : ∃ w8, w7.setCell ⟨gp, 0, none⟩ (.slice a7 N7 c7) = w8 := ⟨_, rfl⟩
  have hs8 : w8.heap.size = w7.heap.size := by rw [← hw8]; simp
  have hbG : Below w8.heap.size w8 ((w8.alloc (.cells #[.int .i64 (-1)] 3)).alloc (.cells #[.slice (some ⟨w8.heap.size, 0, none⟩) 1 1] 29)) := ((Below.refl _ w8).alloc (Nat.le_refl _) _).alloc (by simp) _
  have HBG := Hid.mkP hbG
  have HGE : Hid (OwnV ((w8.alloc (.cells #[.int .i64 (-1)] 3)).alloc (.cells #[.slice (some ⟨w8.heap.size, 0, none⟩) 1 1] 29)) (.slice aG p.grown.length capG) gv1 rG1) := (HP8.out.G.out : OwnV _ _ gv1 rG1).lat (by rw [hw8]; exact hbG)
  have HXG : Hid (OwnV ((w8.alloc (.cells #[.int .i64 (-1)] 3)).alloc (.cells #[.slice (some ⟨w8.heap.size, 0, none⟩) 1 1] 29)) (.slice (some ⟨w8.heap.size, 0, none⟩) 1 1) [.int .i64 (-1)] (some w8.heap.size)) := OwnV.lat (OwnV.one w8 (.int .i64 (-1)) 3) ((Below.refl _ _).alloc (Nat.le_refl _) _)
  have HW8 := Hid.mkP hw8
  clear hbG hw8
  go_wp2_with (at_builtin; refine wpList_append_val2 _ rfl _ _ 49 29 ti (.slice none 0 0) rfl Try.underlying49 hti hi0 rfl hi1 (by rw [hi2]; decide) _ _ (.slice (some ⟨w7.heap.size, 0, none⟩) 1 1) gv1 rG1 rfl rfl ?hOwn ?hSrc ?hLen ?_)
  case hOwn => have := HGE.out; rw [hs8, ← HW8.out] at this; exact this
  case hSrc => exact src_val' _ _ (by simp) _ rfl _ _ _ Try.underlying49
  case hLen => rw [hgvl]; omega
  intro v10 w10 g10 ho10 hg10 hr10
  obtain ⟨a10, N10, c10, rfl⟩ : ∃ a N c, v10 = .slice a N c := ho10.shape.elim fun a6 h => h.elim fun cc6 h2 => ⟨a6, _, cc6, h2.1⟩
  have hr10' : some g10 = rG1 ∨ g10 = ((w8.alloc (.cells #[.int .i64 (-1)] 3)).alloc (.cells #[.slice (some ⟨w8.heap.size, 0, none⟩) 1 1] 29)).heap.size := hr10.imp id (fun e => by rw [e]; simp [hs8])
  rw [HW8.out, ← hs8] at hg10
  rw [← hs8] at ho10
  have hP8 := HP8.out
  have hT8 := HT8.out
  have hE7 := HE7.out
  rw [HW8.out] at hP8 hT8 hE7
  obtain ⟨hE10, e10, f10⟩ := hP8.moreG hT8 HBG.out HXG.out (fun g e => by cases e; exact Nat.le_refl _) ho10 hg10 hr10'
  have hE10 := nt_trans hE7.2 hE10
  clear hP8 hT8 hE7 ho10 hg10 hr10 hr10' HBG HXG HGE HP8 HT8 HE7 e7 f7 e8 f8
  have HE10 := Hid.mkP hE10
  obtain ⟨⟨B2, vF2, vG2, vD2, rF2, rG2, rD2, fv2, gv2, dv2, rf2, rg2, sv2, tv2, hP11, hT11⟩, hc11⟩ := hE10
  obtain ⟨w11, hw11⟩ : ∃ w11, w10.setCell ⟨gp, 1, none⟩ (.slice a10 N10 c10) = w11 := ⟨_, rfl⟩
  rw [hw11] at hP11 hT11 hc11 HE10
  have hbox : w11.heap[w.heap.size]? = w2.heap[w.heap.size]? := hc11.block _ (cell_lt z0) (fun e => by have := e.2; omega)
  have x1 : w11.cell? ⟨w.heap.size, 1, none⟩ = some (.string nm) := (World.cell?_of_block (w := w2) (a := ⟨w.heap.size, 1, none⟩) hbox).trans z1
  have k0 := hP11.c0
  have k2 := hP11.c2
  have f2 := hP11.fz 2
  have hb2x : w.heap.size < w2.heap.size := cell_lt z0
  clear z0 z1 hbox
  have HP11 := Hid.mkP hP11
  have HT11 := Hid.mkP hT11
  obtain ⟨F1, hF1⟩ : ∃ F1, p.files.length + 1 = F1 := ⟨_, rfl⟩
  obtain ⟨aF2, capF2, rfl⟩ : ∃ aF2 capF2, vF2 = .slice aF2 F1 capF2 := by
    obtain ⟨aF2, capF2, e, -, -⟩ := hP11.F.out.shape
    rw [hP11.F.len] at e
    have e9 : (p.files ++ [[[]]]).length = F1 := by rw [← hF1]; simp
    exact ⟨aF2, capF2, by rw [e]; exact congrArg (fun n => Value.slice aF2 n capF2) e9⟩
  obtain ⟨aD, capD, rfl⟩ : ∃ aD capD, vD2 = .slice aD p.dirs.length capD := by
    obtain ⟨aD, capD, e, -, -⟩ := hP11.D.shape
    rw [hP11.dl] at e
    exact ⟨aD, capD, e⟩
  have hF1a : (F1 : Int) - 1 = ((p.files.length : Nat) : Int) := by omega
  have hdv : dv2.length = p.dirs.length := hP11.dl
  obtain ⟨FL, hFL⟩ : ∃ FL, p.files.length = FL := ⟨_, rfl⟩
  rw [hFL] at hF1a
  have HFL := Hid.mkP hFL
  have HF1 := Hid.mkP hF1
  have hFl1 : F1 ≤ 2199023255000 := by omega
  have hFl2 : FL < 2199023255000 := by omega
  have hwr : IntKind.i64.wrap ((FL : Nat) : Int) = (FL : Int) := IntWalk.i64_in _ (by omega)
  have hgpl : gp < w11.heap.size := cell_lt k0
  have hbxl : w.heap.size < w11.heap.size := cell_lt x1
  have hnD : rD2 ≠ some w.heap.size := fun e => (HT11.out _ (.inr (.inr (.inr (.inl e))))).elim (fun e2 => by have := e2.2; omega) (fun e2 => by have := hb2x; omega)
  have hgpb : gp ≠ w.heap.size := by have := cell_lt HPM.out.c0; simp only at this; omega
  clear hP11 hT11 hc11 hF1 hFL
  generalize hLL : (leftL p.last []).map nwOf = LL
  have hLLl : LL.length ≤ 2199023255000 := by
    rw [← hLL, List.length_map]
    exact Nat.le_trans (List.length_filter_le _ _) hpl
  have HLL := Hid.mkP hLL
  clear hLL
  -- what the loads read, at whatever world behind w11
  have HCE : Hid (∀ u, Below w11.heap.size w11 u → u.cell? ⟨gp, 0, none⟩ = some (.slice aF2 F1 capF2) ∧ u.cell? ⟨w.heap.size, 1, none⟩ = some (.string nm) ∧ u.cell? ⟨gp, 2, none⟩ = some (.slice aD p.dirs.length capD)) := fun u hu => ⟨(hu.cell (p := ⟨gp, 0, none⟩) hgpl).trans k0, (hu.cell (p := ⟨w.heap.size, 1, none⟩) hbxl).trans x1, (hu.cell (p := ⟨gp, 2, none⟩) hgpl).trans k2⟩
  have HLF : Hid (∀ u, Below w11.heap.size w11 u → Calls Try.prog 31 #[.pointer (some ⟨gp, 0, none⟩), .string ⟨#[]⟩] u fun e w' => ∃ a N c r, e = .returned (.slice a N c) ∧ NwNew w11 w' (.slice a N c) LL r ∧ (∀ c0 c1, u.cell? ⟨w11.heap.size, 0, none⟩ = some c0 → u.cell? ⟨w11.heap.size, 1, none⟩ = some c1 → w'.cell? ⟨w11.heap.size, 0, none⟩ = some c0 ∧ w'.cell? ⟨w11.heap.size, 1, none⟩ = some c1)) := fun u hu => by
    refine (leftOf (HP11.out.later hu) h1 ⟨#[]⟩ hpl (by show p.dirs.length ≤ _; omega)).mono ?_
    rintro e w' ⟨v, r, rfl, hn⟩
    obtain ⟨a, c, e, -, -⟩ := hn.row.shape
    subst e
    refine ⟨a, _, c, r, rfl, ⟨HLL.out ▸ hn.row, fun g e => by have := hn.new g e; have := hu.size; omega, hu.trans (hn.below.mono hu.size)⟩, fun c0 c1 q0 q1 => ⟨(hn.below.cell (cell_lt q0)).trans q0, (hn.below.cell (cell_lt q1)).trans q1⟩⟩
  have HRD : Hid (∀ u, Below w11.heap.size w11 u → OwnV u (.slice aD p.dirs.length capD) dv2 rD2) := fun u hu => (HP11.out.later hu).D
  obtain ⟨tx, htx, hy0, hy1, hy2⟩ := info_parts Try.infoNMS
  have HEND : Hid (∀ (w9 w12 : World) (v9 v12 : Value) (r9 : Option Nat) (g12 : Nat) (o : Obj), NwNew w11 w9 v9 (LL ++ [⟨nm, FL⟩]) r9 → OwnV w12 v12 (dv2 ++ [v9]) (some g12) → (w9.alloc o).grownBy w12 rD2 → (some g12 = rD2 ∨ g12 = (w9.alloc o).heap.size) → (PaAt (w12.setCell ⟨gp, 2, none⟩ v12) gp PP (Ext T w (w12.setCell ⟨gp, 2, none⟩ v12)) ∧ Chg T w (w12.setCell ⟨gp, 2, none⟩ v12)) ∧ (w12.cell? ⟨gp, 2, none⟩ = some (.slice aD p.dirs.length capD) ∧ w12.frozen? ⟨gp, 2, none⟩ = false) ∧ w12.cell? ⟨gp, 0, none⟩ = some (.slice aF2 F1 capF2)) := fun w9 w12 v9 v12 r9 g12 o q1 q2 q3 q4 => by
    have q1' : NwNew w11 w9 v9 ((leftL p.last [] ++ [(nm.data.toList, p.files.length)]).map nwOf) r9 := by
      rw [List.map_append, HLL.out, List.map_singleton, nwOf_str, HFL.out]; exact q1
    obtain ⟨hz, e12, f12⟩ := HP11.out.pushD HT11.out q1' o q2 q3 q4
    have hbk : w12.heap[gp]? = w11.heap[gp]? := (q3.block gp (by have := q1.below.size; simp; omega) (fun e => (HP11.out.s3 gp e.symm).1 rfl)).trans (((q1.below.trans ((((Below.refl _ w9).alloc (Nat.le_refl _) o)).mono q1.below.size)).block gp hgpl))
    exact ⟨HPP.out ▸ nt_back HB1.out (nt_trans HE10.out.2 hz), ⟨e12, f12⟩, (World.cell?_of_block (w := w11) (a := ⟨gp, 0, none⟩) hbk).trans k0⟩
  have hbO : Below w11.heap.size w11 (w11.alloc (.cells #[.string nm, .int .i64 (FL : Int)] 83)).drew := Below.drew ((Below.refl _ w11).alloc (Nat.le_refl _) _)
  have HBO := Hid.mkP hbO
  rcases HCE.out _ hbO with ⟨t1, t2, t3⟩
  have HO0 : Hid ((w11.alloc (.cells #[.string nm, .int .i64 (FL : Int)] 83)).drew.cell? ⟨w11.heap.size, 0, none⟩ = some (.string nm)) := by show World.cell? (w11.drew.alloc _) ⟨w11.drew.heap.size, 0, none⟩ = _; rw [World.cell?_alloc_at _ _ _ _ rfl]; rfl
  have HO1 : Hid ((w11.alloc (.cells #[.string nm, .int .i64 (FL : Int)] 83)).drew.cell? ⟨w11.heap.size, 1, none⟩ = some (.int .i64 (FL : Int))) := by show World.cell? (w11.drew.alloc _) ⟨w11.drew.heap.size, 1, none⟩ = _; rw [World.cell?_alloc_at _ _ _ _ rfl]; rfl
  clear hbO
  go_wp2_with fail
  refine wp_region_noPanic ?_
  refine Till.start 22 (S := fun u => u.cell? ⟨gp, 0, none⟩ = some (.slice aF2 F1 capF2) ∧ u.cell? ⟨w.heap.size, 1, none⟩ = some (.string nm) ∧ u.cell? ⟨gp, 2, none⟩ = some (.slice aD p.dirs.length capD)) (by kernel_rfl) ⟨k0, x1, k2⟩ (fun hHeld => ?_)
  refine' Till.take 0 rfl (by kernel_rfl) (by kernel_rfl) (by kernel_rfl) (by kernel_rfl) (fun _ _ _ h => h) (Or.inl ⟨by rfl, ?_⟩) (by assumption) ?_
  rotate_left
  · (intro w hSw; (try dsimp only at hSw); go_simp <;> with_reducible rfl)
  try simp only [Act.put, List.setIfInBounds_toArray, List.set_cons_zero, List.set_cons_succ]
  refine' Till.take 1 rfl (by kernel_rfl) (by kernel_rfl) (by kernel_rfl) (by kernel_rfl) (fun _ _ _ h => h) (Or.inl ⟨by rfl, ?_⟩) (by assumption) ?_
  rotate_left
  · (intro w hSw; (try dsimp only at hSw); go_simp <;> with_reducible rfl)
  try simp only [Act.put, List.setIfInBounds_toArray, List.set_cons_zero, List.set_cons_succ]
  refine' Till.take 2 rfl (by kernel_rfl) (by kernel_rfl) (by kernel_rfl) (by kernel_rfl) (fun _ _ _ h => h) (Or.inl ⟨by rfl, ?_⟩) (by assumption) ?_
  rotate_left
  · (intro w hSw; (try dsimp only at hSw); go_simp <;> with_reducible rfl)
  try simp only [Act.put, List.setIfInBounds_toArray, List.set_cons_zero, List.set_cons_succ]
  refine' Till.take 3 rfl (by kernel_rfl) (by kernel_rfl) (by kernel_rfl) (by kernel_rfl) (fun _ _ _ h => h) (Or.inl ⟨by rfl, ?_⟩) (by assumption) ?_
  rotate_left
  · (intro w hSw; (try dsimp only at hSw); go_simp <;> with_reducible rfl)
  try simp only [Act.put, List.setIfInBounds_toArray, List.set_cons_zero, List.set_cons_succ]
  refine' Till.take 4 rfl (by kernel_rfl) (by kernel_rfl) (by kernel_rfl) (by kernel_rfl) (fun _ _ _ h => h) (Or.inl ⟨by rfl, ?_⟩) (by assumption) ?_
  rotate_left
  · (intro w hSw; (try dsimp only at hSw); go_simp <;> with_reducible rfl)
  try simp only [Act.put, List.setIfInBounds_toArray, List.set_cons_zero, List.set_cons_succ]
  refine' Till.take 5 rfl (by kernel_rfl) (by kernel_rfl) (by kernel_rfl) (by kernel_rfl) (fun _ _ _ h => h) (Or.inl ⟨by rfl, ?_⟩) (by assumption) ?_
  rotate_left
  · (intro w hSw; (try dsimp only at hSw); go_simp <;> with_reducible rfl)
  try simp only [Act.put, List.setIfInBounds_toArray, List.set_cons_zero, List.set_cons_succ]
  refine' Till.take 7 rfl (by kernel_rfl) (by kernel_rfl) (by kernel_rfl) (by kernel_rfl) (fun _ _ _ h => h) (Or.inl ⟨by rfl, ?_⟩) (by assumption) ?_
  rotate_left
  · (intro w hSw; (try dsimp only at hSw); go_simp <;> with_reducible rfl)
  try simp only [Act.put, List.setIfInBounds_toArray, List.set_cons_zero, List.set_cons_succ]
  refine' Till.take 8 rfl (by kernel_rfl) (by kernel_rfl) (by kernel_rfl) (by kernel_rfl) (fun _ _ _ h => h) (Or.inl ⟨by rfl, ?_⟩) (by assumption) ?_
  rotate_left
  · (intro w hSw; (try dsimp only at hSw); go_simp <;> with_reducible rfl)
  try simp only [Act.put, List.setIfInBounds_toArray, List.set_cons_zero, List.set_cons_succ]
  refine' Till.take 9 rfl (by kernel_rfl) (by kernel_rfl) (by kernel_rfl) (by kernel_rfl) (fun _ _ _ h => h) (Or.inl ⟨by rfl, ?_⟩) (by assumption) ?_
  rotate_left
  · (intro w hSw; (try dsimp only at hSw); go_simp <;> with_reducible rfl)
  try simp only [Act.put, List.setIfInBounds_toArray, List.set_cons_zero, List.set_cons_succ]
  refine' Till.take 10 rfl (by kernel_rfl) (by kernel_rfl) (by kernel_rfl) (by kernel_rfl) (fun _ _ _ h => h) (Or.inl ⟨by rfl, ?_⟩) (by assumption) ?_
  rotate_left
  · (intro w hSw; (try dsimp only at hSw); go_simp <;> with_reducible rfl)
  try simp only [Act.put, List.setIfInBounds_toArray, List.set_cons_zero, List.set_cons_succ]
  refine' Till.take 11 rfl (by kernel_rfl) (by kernel_rfl) (by kernel_rfl) (by kernel_rfl) (fun _ _ _ h => h) (Or.inl ⟨by rfl, ?_⟩) (by assumption) ?_
  rotate_left
  · (intro w hSw; (try dsimp only at hSw); go_simp <;> with_reducible rfl)
  try simp only [Act.put, List.setIfInBounds_toArray, List.set_cons_zero, List.set_cons_succ]
  refine' Till.take 12 rfl (by kernel_rfl) (by kernel_rfl) (by kernel_rfl) (by kernel_rfl) (fun _ _ _ h => h) (Or.inl ⟨by rfl, ?_⟩) (by assumption) ?_
  rotate_left
  · (intro w hSw; (try dsimp only at hSw); go_simp <;> with_reducible rfl)
  try simp only [Act.put, List.setIfInBounds_toArray, List.set_cons_zero, List.set_cons_succ]
  refine' Till.take 13 rfl (by kernel_rfl) (by kernel_rfl) (by kernel_rfl) (by kernel_rfl) (fun _ _ _ h => h) (Or.inl ⟨by rfl, ?_⟩) (by assumption) ?_
  rotate_left
  · (intro w hSw; (try dsimp only at hSw); go_simp <;> with_reducible rfl)
  try simp only [Act.put, List.setIfInBounds_toArray, List.set_cons_zero, List.set_cons_succ]
  refine' Till.take 14 rfl (by kernel_rfl) (by kernel_rfl) (by kernel_rfl) (by kernel_rfl) (fun _ _ _ h => h) (Or.inl ⟨by rfl, ?_⟩) (by assumption) ?_
  rotate_left
  · (intro w hSw; (try dsimp only at hSw); go_simp <;> with_reducible rfl)
  try simp only [Act.put, List.setIfInBounds_toArray, List.set_cons_zero, List.set_cons_succ]
  refine' Till.take 15 rfl (by kernel_rfl) (by kernel_rfl) (by kernel_rfl) (by kernel_rfl) (fun _ _ _ h => h) (Or.inl ⟨by rfl, ?_⟩) (by assumption) ?_
  rotate_left
  · (intro w hSw; (try dsimp only at hSw); go_simp <;> with_reducible rfl)
  try simp only [Act.put, List.setIfInBounds_toArray, List.set_cons_zero, List.set_cons_succ]
  refine Till.two 6 16 (by kernel_rfl) rfl rfl (fun K hK => ?_) (fun K hK => ?_)
  focus
    go_simp
    go_at_call 31
    refine (HLF.out _ (by first | exact Below.drew (Below.refl _ _) | exact HBO.out)).mono ?_
    rintro e w6 ⟨a6, N6, c6, r6, rfl, hn6, hy6⟩
    rcases HCE.out w6 hn6.below with ⟨s61, s62, s63⟩
    rcases HCE.out (w6.alloc (.cells #[.string nm, .int .i64 (FL : Int)] 83)) (hn6.below.trans (((Below.refl _ w6).alloc (Nat.le_refl _) _).mono hn6.below.size)) with ⟨s64, s65, s66⟩
    have HN6 := Hid.mkP hn6
    have HY6 := Hid.mkP hy6
    clear hn6 hy6
    refine hK.out _ _ ?_ (fun hHeld => ?_)
    · exact ⟨s61, s62, s63⟩
    clear hK K
    try simp only [Act.put, List.setIfInBounds_toArray, List.set_cons_zero, List.set_cons_succ]
    refine Till.one 16 (by kernel_rfl) rfl (fun K hK => ?_)
    go_simp
    refine hK.out _ _ ?_ (fun hHeld => ?_)
    · exact ⟨s64, s65, s66⟩
    clear hK K
    try simp only [Act.put, List.setIfInBounds_toArray, List.set_cons_zero, List.set_cons_succ]
    refine Till.one 17 (by kernel_rfl) rfl (fun K hK => ?_)
    refine step_append_nw rfl (.tmp 48) (.tmp 58) rfl (.slice a6 N6 c6) (.slice (some ⟨w6.heap.size, 0, none⟩) 1 1) LL [⟨nm, FL⟩] r6 (by first | rfl | simp [Act.eval, Act.put]) (by first | rfl | simp [Act.eval, Act.put]) (HN6.out.row.later ((Below.refl _ _).alloc (Nat.le_refl _) _)) (src_nw w6 ⟨nm, FL⟩) (by have := hLLl; simp only [List.length_singleton]; omega) (.inr (by simp)) ?_
    intro v9 w9 g9 ho9 hg9 hr9
    have hn9 := (HN6.out.later ((Below.refl _ _).alloc (Nat.le_refl _) _)).app ho9 hg9 hr9
    have hv9 : ∃ a N c, v9 = .slice a N c := ho9.shape.elim fun a6 h => h.elim fun cc6 h2 => ⟨a6, _, cc6, h2.1⟩
    rcases hv9 with ⟨a9, N9, c9, rfl⟩
    rcases HCE.out w9 hn9.below with ⟨s91, s92, s93⟩
    have hb9 : Below w11.heap.size w11 (w9.alloc (.cells #[.slice a9 N9 c9] 54)) := hn9.below.trans (((Below.refl _ w9).alloc (Nat.le_refl _) _).mono hn9.below.size)
    rcases HCE.out _ hb9 with ⟨s94, s95, s96⟩
    have HN9 := Hid.mkP hn9
    have HB9 := Hid.mkP hb9
    clear hn9 hb9 ho9 hg9 hr9
    refine hK.out _ _ ?_ (fun hHeld => ?_)
    · exact ⟨s91, s92, s93⟩
    clear hK K
    try simp only [Act.put, List.setIfInBounds_toArray, List.set_cons_zero, List.set_cons_succ]
    refine Till.one 18 (by kernel_rfl) rfl (fun K hK => ?_)
    go_simp
    refine hK.out _ _ ?_ (fun hHeld => ?_)
    · exact ⟨s94, s95, s96⟩
    clear hK K
    try simp only [Act.put, List.setIfInBounds_toArray, List.set_cons_zero, List.set_cons_succ]
    refine Till.one 19 (by kernel_rfl) rfl (fun K hK => ?_)
    refine step_append_val2 rfl (.tmp 46) (.tmp 60) 47 54 tx (.slice none 0 0) Try.underlying47 htx hy0 rfl hy1 (by rw [hy2]; decide) rfl (.slice aD p.dirs.length capD) (.slice (some ⟨w9.heap.size, 0, none⟩) 1 1) (.slice a9 N9 c9) dv2 rD2 (by first | rfl | simp [Act.eval, Act.put]) (by first | rfl | simp [Act.eval, Act.put]) (HRD.out _ HB9.out) (src_val _ _ rfl _ 54 _ Try.underlying47) (by rw [hdv]; omega) ?_
    intro v12 w12 g12 ho12 hg12 hr12
    have hv12 : ∃ a N c, v12 = .slice a N c := ho12.shape.elim fun a6 h => h.elim fun cc6 h2 => ⟨a6, _, cc6, h2.1⟩
    rcases hv12 with ⟨a12, N12, c12, rfl⟩
    rcases HEND.out w9 w12 (.slice a9 N9 c9) (.slice a12 N12 c12) _ g12 _ HN9.out ho12 hg12 hr12 with ⟨hE12, ⟨e12, f12⟩, e13⟩
    have hbk : w12.heap[w.heap.size]? = (w9.alloc (.cells #[.slice a9 N9 c9] 54)).heap[w.heap.size]? := hg12.block _ (cell_lt s95) (fun e => hnD e.symm)
    have e14 : w12.cell? ⟨w.heap.size, 1, none⟩ = some (.string nm) := (World.cell?_of_block (w := w9.alloc (.cells #[.slice a9 N9 c9] 54)) (a := ⟨w.heap.size, 1, none⟩) hbk).trans s95
    have e15 : (w12.setCell ⟨gp, 2, none⟩ (.slice a12 N12 c12)).cell? ⟨gp, 0, none⟩ = some (.slice aF2 F1 capF2) := by rw [World.cell?_setCell_other _ _ _ _ (by intro e2; injection e2; omega)]; exact e13
    have e16 : (w12.setCell ⟨gp, 2, none⟩ (.slice a12 N12 c12)).cell? ⟨w.heap.size, 1, none⟩ = some (.string nm) := (World.cell?_setCell_far w12 ⟨gp, 2, none⟩ ⟨w.heap.size, 1, none⟩ _ hgpb).trans e14
    have HE12 := Hid.mkP hE12
    clear hE12 ho12 hg12 hr12 hbk
    refine hK.out _ _ ?_ (fun hHeld => ?_)
    · exact ⟨e13, e14, e12⟩
    clear hK K
    try simp only [Act.put, List.setIfInBounds_toArray, List.set_cons_zero, List.set_cons_succ]
    refine' Till.take 20 rfl (by kernel_rfl) (by kernel_rfl) (by kernel_rfl) (by kernel_rfl) (fun _ _ _ h => h) (Or.inl ⟨by rfl, ?_⟩) (by assumption) ?_
    rotate_left
    · (intro w hSw; (try dsimp only at hSw); go_simp <;> with_reducible rfl)
    try simp only [Act.put, List.setIfInBounds_toArray, List.set_cons_zero, List.set_cons_succ]
    refine' Till.take 21 rfl (by kernel_rfl) (by kernel_rfl) (by kernel_rfl) (by kernel_rfl) (fun _ _ _ h => h) (Or.inl ⟨by rfl, ?_⟩) (by assumption) ?_
    rotate_left
    · (intro w hSw; (try dsimp only at hSw); go_simp <;> with_reducible rfl)
    try simp only [Act.put, List.setIfInBounds_toArray, List.set_cons_zero, List.set_cons_succ]
    refine Till.last (by kernel_rfl) (by kernel_rfl) rfl (fun K hK => ?_)
    go_simp
    refine hK.out _ _ ?_
    clear hK K
    try simp only [Act.put, List.setIfInBounds_toArray, List.set_cons_zero, List.set_cons_succ]
    refine NoPanic.normal ?_
  rotate_left
  focus
    go_simp
    refine hK.out _ _ ?_ (fun hHeld => ?_)
    · exact ⟨t1, t2, t3⟩
    clear hK K
    try simp only [Act.put, List.setIfInBounds_toArray, List.set_cons_zero, List.set_cons_succ]
    refine Till.one 6 (by kernel_rfl) rfl (fun K hK => ?_)
    go_simp
    go_at_call 31
    refine (HLF.out _ (by first | exact Below.drew (Below.refl _ _) | exact HBO.out)).mono ?_
    rintro e w6 ⟨a6, N6, c6, r6, rfl, hn6, hy6⟩
    rcases HCE.out w6 hn6.below with ⟨s61, s62, s63⟩
    rcases HCE.out (w6.alloc (.cells #[.string nm, .int .i64 (FL : Int)] 83)) (hn6.below.trans (((Below.refl _ w6).alloc (Nat.le_refl _) _).mono hn6.below.size)) with ⟨s64, s65, s66⟩
    have HN6 := Hid.mkP hn6
    have HY6 := Hid.mkP hy6
    clear hn6 hy6
    refine hK.out _ _ ?_ (fun hHeld => ?_)
    · exact ⟨s61, s62, s63⟩
    clear hK K
    try simp only [Act.put, List.setIfInBounds_toArray, List.set_cons_zero, List.set_cons_succ]
    refine Till.one 17 (by kernel_rfl) rfl (fun K hK => ?_)
    refine step_append_nw rfl (.tmp 48) (.tmp 58) rfl (.slice a6 N6 c6) (.slice (some ⟨w11.heap.size, 0, none⟩) 1 1) LL [⟨nm, FL⟩] r6 (by first | rfl | simp [Act.eval, Act.put]) (by first | rfl | simp [Act.eval, Act.put]) HN6.out.row (src_nwAt _ _ ⟨nm, FL⟩ (HY6.out _ _ HO0.out HO1.out).1 (HY6.out _ _ HO0.out HO1.out).2) (by have := hLLl; simp only [List.length_singleton]; omega) (.inr (by simp)) ?_
    intro v9 w9 g9 ho9 hg9 hr9
    have hn9 := HN6.out.app ho9 hg9 hr9
    have hv9 : ∃ a N c, v9 = .slice a N c := ho9.shape.elim fun a6 h => h.elim fun cc6 h2 => ⟨a6, _, cc6, h2.1⟩
    rcases hv9 with ⟨a9, N9, c9, rfl⟩
    rcases HCE.out w9 hn9.below with ⟨s91, s92, s93⟩
    have hb9 : Below w11.heap.size w11 (w9.alloc (.cells #[.slice a9 N9 c9] 54)) := hn9.below.trans (((Below.refl _ w9).alloc (Nat.le_refl _) _).mono hn9.below.size)
    rcases HCE.out _ hb9 with ⟨s94, s95, s96⟩
    have HN9 := Hid.mkP hn9
    have HB9 := Hid.mkP hb9
    clear hn9 hb9 ho9 hg9 hr9
    refine hK.out _ _ ?_ (fun hHeld => ?_)
    · exact ⟨s91, s92, s93⟩
    clear hK K
    try simp only [Act.put, List.setIfInBounds_toArray, List.set_cons_zero, List.set_cons_succ]
    refine Till.one 18 (by kernel_rfl) rfl (fun K hK => ?_)
    go_simp
    refine hK.out _ _ ?_ (fun hHeld => ?_)
    · exact ⟨s94, s95, s96⟩
    clear hK K
    try simp only [Act.put, List.setIfInBounds_toArray, List.set_cons_zero, List.set_cons_succ]
    refine Till.one 19 (by kernel_rfl) rfl (fun K hK => ?_)
    refine step_append_val2 rfl (.tmp 46) (.tmp 60) 47 54 tx (.slice none 0 0) Try.underlying47 htx hy0 rfl hy1 (by rw [hy2]; decide) rfl (.slice aD p.dirs.length capD) (.slice (some ⟨w9.heap.size, 0, none⟩) 1 1) (.slice a9 N9 c9) dv2 rD2 (by first | rfl | simp [Act.eval, Act.put]) (by first | rfl | simp [Act.eval, Act.put]) (HRD.out _ HB9.out) (src_val _ _ rfl _ 54 _ Try.underlying47) (by rw [hdv]; omega) ?_
    intro v12 w12 g12 ho12 hg12 hr12
    have hv12 : ∃ a N c, v12 = .slice a N c := ho12.shape.elim fun a6 h => h.elim fun cc6 h2 => ⟨a6, _, cc6, h2.1⟩
    rcases hv12 with ⟨a12, N12, c12, rfl⟩
    rcases HEND.out w9 w12 (.slice a9 N9 c9) (.slice a12 N12 c12) _ g12 _ HN9.out ho12 hg12 hr12 with ⟨hE12, ⟨e12, f12⟩, e13⟩
    have hbk : w12.heap[w.heap.size]? = (w9.alloc (.cells #[.slice a9 N9 c9] 54)).heap[w.heap.size]? := hg12.block _ (cell_lt s95) (fun e => hnD e.symm)
    have e14 : w12.cell? ⟨w.heap.size, 1, none⟩ = some (.string nm) := (World.cell?_of_block (w := w9.alloc (.cells #[.slice a9 N9 c9] 54)) (a := ⟨w.heap.size, 1, none⟩) hbk).trans s95
    have e15 : (w12.setCell ⟨gp, 2, none⟩ (.slice a12 N12 c12)).cell? ⟨gp, 0, none⟩ = some (.slice aF2 F1 capF2) := by rw [World.cell?_setCell_other _ _ _ _ (by intro e2; injection e2; omega)]; exact e13
    have e16 : (w12.setCell ⟨gp, 2, none⟩ (.slice a12 N12 c12)).cell? ⟨w.heap.size, 1, none⟩ = some (.string nm) := (World.cell?_setCell_far w12 ⟨gp, 2, none⟩ ⟨w.heap.size, 1, none⟩ _ hgpb).trans e14
    have HE12 := Hid.mkP hE12
    clear hE12 ho12 hg12 hr12 hbk
    refine hK.out _ _ ?_ (fun hHeld => ?_)
    · exact ⟨e13, e14, e12⟩
    clear hK K
    try simp only [Act.put, List.setIfInBounds_toArray, List.set_cons_zero, List.set_cons_succ]
    refine' Till.take 20 rfl (by kernel_rfl) (by kernel_rfl) (by kernel_rfl) (by kernel_rfl) (fun _ _ _ h => h) (Or.inl ⟨by rfl, ?_⟩) (by assumption) ?_
    rotate_left
    · (intro w hSw; (try dsimp only at hSw); go_simp <;> with_reducible rfl)
    try simp only [Act.put, List.setIfInBounds_toArray, List.set_cons_zero, List.set_cons_succ]
    refine' Till.take 21 rfl (by kernel_rfl) (by kernel_rfl) (by kernel_rfl) (by kernel_rfl) (fun _ _ _ h => h) (Or.inl ⟨by rfl, ?_⟩) (by assumption) ?_
    rotate_left
    · (intro w hSw; (try dsimp only at hSw); go_simp <;> with_reducible rfl)
    try simp only [Act.put, List.setIfInBounds_toArray, List.set_cons_zero, List.set_cons_succ]
    refine Till.last (by kernel_rfl) (by kernel_rfl) rfl (fun K hK => ?_)
    go_simp
    refine hK.out _ _ ?_
    clear hK K
    try simp only [Act.put, List.setIfInBounds_toArray, List.set_cons_zero, List.set_cons_succ]
    refine NoPanic.normal ?_
  all_goals
    clear s61 s62 s63 s64 s65 s66 s91 s92 s93 s94 s95 s96 e12 f12 e13 e14 e15 e16 t1 t2 t3 k0 k2 f2 x1
    go_wp2
    go_ret
    exact ⟨rfl, nt_later HE12.out (by first | exact Below.refl _ _ | exact Below.drew (Below.refl _ _))⟩
end Go.Proofs.Ytgpmhflndcppeaa
