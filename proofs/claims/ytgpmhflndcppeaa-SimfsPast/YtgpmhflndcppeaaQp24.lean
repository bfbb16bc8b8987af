import Derived.Test.YtgpmhflndcppeaaRgd
import Derived.Test.YtgpmhflndcppeaaQp22
import Derived.Deep.RegionHeld3
import Derived.BigRegion
/-! The law on the past: note of a Rename. -/
namespace Go.Proofs.Ytgpmhflndcppeaa
open Go.RowKit Go.Maps Plain
set_option linter.unusedVariables false
set_option linter.unusedSimpArgs false

theorem NwNew.back {W W' w : World} {v : Value} {ts : List Nw} {r : Option Nat} (h : NwNew W' w v ts r) (hb : Below W.heap.size W W') : NwNew W w v ts r := ⟨h.row, fun g e => Nat.le_trans hb.size (h.new g e), hb.trans (h.below.mono hb.size)⟩
set_option maxHeartbeats 8000000 in
set_option maxRecDepth 100000 in
theorem noteRename {w : World} {gp : Nat} {p : Ps} {T : Nat → Prop} (nm to : ByteArray) (at' m : Int) (vb vp : Value) (h : PaAt w gp p T) (hk : p.Ok) (h1 : 1 ≤ p.dirs.length) (f : Nat) (hf : leadL p.last nm.data.toList = (f : Int)) (hfl : f < p.files.length) (hd : p.dirs.length < 2199023255000) :
    Calls Try.prog 9 #[.pointer (some ⟨gp, 0, none⟩), stepV 6 nm to at' m vb vp] w (NtPost gp ⟨p.files, p.grown, p.dirs ++ [leftL (leftL p.last nm.data.toList) to.data.toList ++ [(to.data.toList, f)]]⟩ T w) := by
  obtain ⟨PP, hPP⟩ : ∃ PP : Ps, ⟨p.files, p.grown, p.dirs ++ [leftL (leftL p.last nm.data.toList) to.data.toList ++ [(to.data.toList, f)]]⟩ = PP := ⟨_, rfl⟩
  rw [hPP]
  have HPP := Hid.mkP hPP
  clear hPP
  obtain ⟨B, vF, vG, vD, rF, rG, rD, fv, gv, dv, rf, rg, sv, tv, hP, hT⟩ := h
  obtain ⟨w0, hw0⟩ : ∃ w0, w.alloc (.cells #[.int .i64 6, .string nm, .string to, .int .i64 at', .int .i64 m, vb, vp] 31) = w0 := ⟨_, rfl⟩
  have hb0 : Below w.heap.size w w0 := by rw [← hw0]; exact (Below.refl _ _).alloc (Nat.le_refl _) _
  have hS0 : SbAt w0 w.heap.size (stepC 6 nm to at' m vb vp) := by rw [← hw0]; exact SbAt.new w _ _
  have hP0 := hP.later hb0
  have hpl : p.last.length ≤ 2199023255000 := hk.nl _ (by omega)
  have HLE : Hid (Calls Try.prog 30 #[.pointer (some ⟨gp, 0, none⟩), .string nm] w0 fun e w' => e = .returned (.int .i64 (f : Int)) ∧ ∃ n, w' = w0.drewN n) := by
    have := leadOf hP0 h1 nm hpl (by have := hk.dl; omega)
    rw [hf] at this
    exact this
  have z0 := hS0 0 _ rfl
  have z1 := hS0 1 _ rfl
  have HPM : Hid (PaM w gp p B vF vG vD rF rG rD fv gv dv rf rg sv tv) := hP
  have HB0 : Hid (Below w.heap.size w w0) := hb0
  have HS0 : Hid (SbAt w0 w.heap.size (stepC 6 nm to at' m vb vp)) := hS0
  clear hP hP0 hb0 hS0 hf
  go_enter Try.func9, Try.ntmps9
  go_wp2_with fail
  refine HLE.out.mono ?_
  rintro e w' ⟨rfl, n, rfl⟩
  have HB1 : Hid (Below w.heap.size w (w0.drewN n)) := below_drewN HB0.out n
  have HS1 : Hid (SbAt (w0.drewN n) w.heap.size (stepC 6 nm to at' m vb vp)) := HS0.out.later (below_drewN (Below.refl _ _) n)
  clear HLE z0 z1 HB0 HS0
  generalize w0.drewN n = w1 at HB1 HS1 ⊢
  have z0 := HS1.out 0 _ rfl
  have z1 := HS1.out 1 _ rfl
  have hf0 : ¬ (f : Int) < 0 := by omega
  have hf1 : (0 : Int) ≤ (f : Int) := by omega
  have hfi : (f : Int) < (p.files.length : Int) := by omega
  have hst1 := hk.one f hfl
  have hstl := (hk.gl f hfl).2
  obtain ⟨gF, capF, gi, cF, a, c, rfl, -, c0, -, c1, -⟩ := (HPM.out.later HB1.out).now hfl hst1
  have k0 := (HPM.out.later HB1.out).c0
  have k2 := (HPM.out.later HB1.out).c2
  have hN1 : ((p.files.getD f []).length : Int) - 1 = (((p.files.getD f []).length - 1 : Nat) : Int) := by omega
  have hNl : (((p.files.getD f []).length - 1 : Nat) : Int) < ((p.files.getD f []).length : Int) := by omega
  generalize (p.files.getD f []).length = M at *
  generalize ((p.files.getD f []).getD (M - 1) []).length = LN at *
  go_wp2_with fail
  go_quiet (fail)
  have HB2 : Hid (Below w.heap.size w (w1.drewN nq)) := below_drewN HB1.out nq
  have HS2 : Hid (SbAt (w1.drewN nq) w.heap.size (stepC 6 nm to at' m vb vp)) := HS1.out.later (below_drewN (Below.refl _ _) nq)
  clear c0 c1 k0 k2 z0 z1 HB1 HS1
  generalize w1.drewN nq = w2 at HB2 HS2 ⊢
  have z0 := HS2.out 0 _ rfl
  have z1 := HS2.out 1 _ rfl
  have z2 := HS2.out 2 _ rfl
  have HLF : Hid (Calls Try.prog 31 #[.pointer (some ⟨gp, 0, none⟩), .string nm] w2 fun e w' => ∃ a N c r, e = .returned (.slice a N c) ∧ N = (leftL p.last nm.data.toList).length ∧ NwNew w2 w' (.slice a N c) ((leftL p.last nm.data.toList).map nwOf) r) := by
    refine (leftOf (HPM.out.later HB2.out) h1 nm hpl (by have := hk.dl; omega)).mono ?_
    rintro e w' ⟨v, r, rfl, hn⟩
    obtain ⟨a, c, e, -, -⟩ := hn.row.shape
    subst e
    exact ⟨a, _, c, r, rfl, by simp, hn⟩
  go_wp2_with fail
  refine HLF.out.mono ?_
  rintro e w6 ⟨aL, NL, cL, rL, rfl, hNL, hn6⟩
  have hll : (leftL p.last nm.data.toList).length ≤ 2199023255000 := Nat.le_trans (List.length_filter_le _ _) hpl
  generalize hl : leftL p.last nm.data.toList = l at *
  subst hNL
  have x2 : w6.cell? ⟨w.heap.size, 2, none⟩ = some (.string to) := (hn6.below.cell (p := ⟨w.heap.size, 2, none⟩) (cell_lt z2)).trans z2
  have HR : Hid (OwnNw w6 (.slice aL l.length cL) (l.map nwOf) rL) := hn6.row
  have HB6 : Hid (Below w2.heap.size w2 w6) := hn6.below
  have HL := Hid.mkP hl
  clear HLF hn6 hl z0 z1 z2
  go_wp2_with fail
  go_loopw [8, 9] (fun m i wr => ∃ k : Nat, k ≤ l.length ∧ i = .int .i64 k ∧ Hid (∃ r, NwNew w6 wr m ((leftL (l.take k) to.data.toList).map nwOf) r)) (fun _ i _ => l.length - (intOf i).toNat)
  case atStart => exact ⟨0, by omega, rfl, ⟨none, NwNew.nil w6⟩⟩
  case round =>
    obtain ⟨k, hk2, rfl, HK⟩ := hrel
    obtain ⟨r2, hN⟩ := HK.out
    obtain ⟨a2, cap2, rfl, -, -⟩ : ∃ a2 cap2, u8 = .slice a2 ((leftL (l.take k) to.data.toList).map nwOf).length cap2 ∧ True ∧ True := by
      obtain ⟨a2, cap2, e, -, -⟩ := hN.row.shape
      exact ⟨a2, cap2, e, trivial, trivial⟩
    have htl := left_len (l.take k) to.data.toList
    rw [List.length_take] at htl
    have HNN : Hid (NwNew w6 wr (.slice a2 ((leftL (l.take k) to.data.toList).map nwOf).length cap2) ((leftL (l.take k) to.data.toList).map nwOf) r2) := hN
    have y2 : wr.cell? ⟨w.heap.size, 2, none⟩ = some (.string to) := (hN.below.cell (p := ⟨w.heap.size, 2, none⟩) (cell_lt x2)).trans x2
    clear HK
    by_cases hlt : k < l.length
    · have hki : (k : Int) < (l.length : Int) := by omega
      have HS : Hid (leftL (l.take (k + 1)) to.data.toList = if (l.getD k ([], 0)).1 = to.data.toList then leftL (l.take k) to.data.toList else leftL (l.take k) to.data.toList ++ [l.getD k ([], 0)]) := left_take hlt
      obtain ⟨g, rfl, rfl, d0, d1⟩ := row_nw (HR.out.later hN.below) hlt
      clear hN
      by_cases he : (l.getD k ([], 0)).1 = to.data.toList
      · have hbe : ((str (l.getD k ([], 0)).1).toList == to.toList) = true := by rw [txt_eq]; simpa using he
        have HF : Hid (∀ n, ∃ r, NwNew w6 (wr.drewN n) (.slice a2 ((leftL (l.take k) to.data.toList).map nwOf).length cap2) ((leftL (l.take (k + 1)) to.data.toList).map nwOf) r) := fun n => ⟨r2, by rw [HS.out, if_pos he]; exact HNN.out.later (below_drewN (Below.refl _ _) n)⟩
        clear he HS HNN
        generalize l.getD k ([], 0) = x at d0 d1 hbe
        generalize ((leftL (l.take k) to.data.toList).map nwOf).length = M at *
        go_wp2_with fail
        go_quiet (fail)
        go_wp2
        go_roundw
        case rel => exact ⟨k + 1, by omega, by go_num, HF.out _⟩
        case measure => simp [intOf]; omega
      · have hbe : ((str (l.getD k ([], 0)).1).toList == to.toList) = false := by rw [txt_eq]; simpa using he
        have HS2 : Hid (leftL (l.take (k + 1)) to.data.toList = leftL (l.take k) to.data.toList ++ [l.getD k ([], 0)]) := by unfold Hid; rw [HS.out, if_neg he]
        clear he HS
        generalize l.getD k ([], 0) = x at d0 d1 hbe HS2
        generalize leftL (l.take k) to.data.toList = TT at *
        go_wp2_with fail
        go_quiet (fail)
        have HNQ : Hid (NwNew w6 (wr.drewN nq) (.slice a2 (TT.map nwOf).length cap2) (TT.map nwOf) r2) := HNN.out.later (below_drewN (Below.refl _ _) nq)
        have d0' : (wr.drewN nq).cell? ⟨g, k * 2, none⟩ = _ := d0
        have d1' : (wr.drewN nq).cell? ⟨g, k * 2 + 1, none⟩ = _ := d1
        clear d0 d1 HNN y2
        generalize wr.drewN nq = wq at HNQ d0' d1' ⊢
        go_wp2_with (at_builtin; refine wpList_append_nw _ rfl _ _ rfl _ _ (TT.map nwOf) [nwOf x] r2 rfl rfl ?hOwn ?hSrc ?hLen ?hR ?_)
        case hOwn => exact HNQ.out.row.later ((Below.refl _ _).alloc (Nat.le_refl _) _)
        case hSrc => exact src_nw wq (nwOf x)
        case hLen => simp; omega
        case hR => exact .inr (by simp)
        intro v4 w4 g4 ho4 hg4 hr4
        obtain ⟨a4, c4, rfl, -, -⟩ := ho4.shape
        have HF : Hid (∃ r, NwNew w6 w4 (.slice a4 (TT.map nwOf ++ [nwOf x]).length c4) ((leftL (l.take (k + 1)) to.data.toList).map nwOf) r) := ⟨some g4, by
          rw [HS2.out, List.map_append]
          exact (HNQ.out.later ((Below.refl _ _).alloc (Nat.le_refl _) _)).app ho4 hg4 (by simpa using hr4)⟩
        clear ho4 hg4 hr4 HNQ HS2
        generalize (TT.map nwOf ++ [nwOf x]).length = M at *
        go_wp2
        go_roundw
        case rel => exact ⟨k + 1, by omega, by go_num, HF⟩
        case measure => simp [intOf]; omega
    · have hke : k = l.length := by omega
      have HF : Hid (NwNew w6 wr (.slice a2 ((leftL (l.take k) to.data.toList).map nwOf).length cap2) ((leftL l to.data.toList).map nwOf) r2) := by
        have := HNN.out
        rw [hke, List.take_length] at this
        rw [hke, List.take_length]
        exact this
      clear hN HNN hke htl
      generalize ((leftL (l.take k) to.data.toList).map nwOf).length = M at *
      have hb6w : Below w.heap.size w w6 := HB2.out.trans (HB6.out.mono HB2.out.size)
      have hbrw : Below w.heap.size w wr := hb6w.trans (HF.out.below.mono hb6w.size)
      have hPr := HPM.out.later hbrw
      have k2 := hPr.c2
      have f2 := hPr.fz 2
      have hdv : dv.length = p.dirs.length := HPM.out.dl
      obtain ⟨aD, capD, rfl⟩ : ∃ aD capD, vD = .slice aD p.dirs.length capD := by
        obtain ⟨aD, capD, e, -, -⟩ := HPM.out.D.shape
        rw [HPM.out.dl] at e
        exact ⟨aD, capD, e⟩
      have hgpl : gp < wr.heap.size := cell_lt k2
      have hbxl : w.heap.size < wr.heap.size := cell_lt y2
      have hgpb : gp ≠ w.heap.size := by have := cell_lt HPM.out.c0; simp only at this; omega
      have hnD : rD ≠ some w.heap.size := fun e => by have := HPM.out.D.rlt _ e; omega
      generalize hLL : (leftL l to.data.toList).map nwOf = LL at *
      have hLLl : LL.length ≤ 2199023255000 := by
        rw [← hLL, List.length_map]
        exact Nat.le_trans (List.length_filter_le _ _) hll
      have HLL := Hid.mkP hLL
      have HB6w := Hid.mkP hb6w
      have hgp6 : gp < w6.heap.size := by have := cell_lt HPM.out.c0; have := hb6w.size; simp only at *; omega
      have k26 := ((HPM.out.later hb6w)).c2
      have HN6 : Hid (NwNew w6 wr (.slice a2 M cap2) LL r2) := HF.out
      clear hLL hPr HF hb6w
      have HCE : Hid (∀ u, Below w6.heap.size w6 u → u.cell? ⟨w.heap.size, 2, none⟩ = some (.string to) ∧ u.cell? ⟨gp, 2, none⟩ = some (.slice aD p.dirs.length capD)) := fun u hu => ⟨(hu.cell (p := ⟨w.heap.size, 2, none⟩) (cell_lt x2)).trans x2, (hu.cell (p := ⟨gp, 2, none⟩) hgp6).trans k26⟩
      have HRD : Hid (∀ u, Below w.heap.size w u → OwnV u (.slice aD p.dirs.length capD) dv rD) := fun u hu => (HPM.out.later hu).D
      obtain ⟨tx, htx, hy0, hy1, hy2⟩ := info_parts Try.infoNMS
      have HEND : Hid (∀ (w9 w12 : World) (v9 v12 : Value) (r9 : Option Nat) (g12 : Nat) (o : Obj), NwNew w w9 v9 (LL ++ [⟨to, f⟩]) r9 → OwnV w12 v12 (dv ++ [v9]) (some g12) → (w9.alloc o).grownBy w12 rD → (some g12 = rD ∨ g12 = (w9.alloc o).heap.size) → (PaAt (w12.setCell ⟨gp, 2, none⟩ v12) gp PP (Ext T w (w12.setCell ⟨gp, 2, none⟩ v12)) ∧ Chg T w (w12.setCell ⟨gp, 2, none⟩ v12)) ∧ w12.cell? ⟨gp, 2, none⟩ = some (.slice aD p.dirs.length capD) ∧ w12.frozen? ⟨gp, 2, none⟩ = false) := fun w9 w12 v9 v12 r9 g12 o q1 q2 q3 q4 => by
        have q1' : NwNew w w9 v9 ((leftL l to.data.toList ++ [(to.data.toList, f)]).map nwOf) r9 := by
          rw [List.map_append, HLL.out, List.map_singleton, nwOf_str]; exact q1
        have hz := HPM.out.pushD hT q1' o q2 q3 q4
        rw [← HPP.out]
        exact hz
      have hbO : Below wr.heap.size wr (wr.alloc (.cells #[.string to, .int .i64 (f : Int)] 83)).drew := Below.drew ((Below.refl _ wr).alloc (Nat.le_refl _) _)
      have HNO : Hid (NwNew w6 (wr.alloc (.cells #[.string to, .int .i64 (f : Int)] 83)).drew (.slice a2 M cap2) LL r2) := HN6.out.later hbO
      rcases HCE.out _ HNO.out.below with ⟨t1, t2⟩
      have HSO : Hid (Src Try.prog 2 54 (.slice (some ⟨wr.heap.size, 0, none⟩) 1 1) [(⟨to, f⟩ : Nw)].length (nwcells [⟨to, f⟩]) (wr.alloc (.cells #[.string to, .int .i64 (f : Int)] 83)).drew) := src_nw wr.drew ⟨to, f⟩
      clear hbO k26
      go_wp2_with fail
      refine wp_region_noPanic ?_
      refine Till.start 16 (S := fun u => u.cell? ⟨w.heap.size, 2, none⟩ = some (.string to) ∧ u.cell? ⟨gp, 2, none⟩ = some (.slice aD p.dirs.length capD)) (by kernel_rfl) ⟨y2, k2⟩ (fun hHeld => ?_)
      refine' Till.take 0 rfl (by kernel_rfl) (by kernel_rfl) (by kernel_rfl) (by kernel_rfl) (fun _ _ _ h => h) (Or.inl ⟨by rfl, ?_⟩) (by assumption) ?_
      rotate_left
      · (intro w hSw; (try dsimp only at hSw); go_simp <;> with_reducible rfl)
      try simp only [Act.put, List.setIfInBounds_toArray, List.set_cons_zero, List.set_cons_succ]
      refine' Till.take 1 rfl (by kernel_rfl) (by kernel_rfl) (by kernel_rfl) (by kernel_rfl) (fun _ _ _ h => h) (Or.inl ⟨by rfl, ?_⟩) (by assumption) ?_
      rotate_left
      · (intro w hSw; (try dsimp only at hSw); go_simp <;> with_reducible rfl)
      try simp only [Act.put, List.setIfInBounds_toArray, List.set_cons_zero, List.set_cons_succ]
      refine' Till.take 2 rfl (by kernel_rfl) (by kernel_rfl) (by kernel_rfl) (by kernel_rfl) (fun _ _ _ h => h) (Or.inl ⟨by rfl, ?_⟩) (by assumption) ?_
      rotate_left
      · (intro w hSw; (try dsimp only at hSw); go_simp <;> with_reducible rfl)
      try simp only [Act.put, List.setIfInBounds_toArray, List.set_cons_zero, List.set_cons_succ]
      refine' Till.take 3 rfl (by kernel_rfl) (by kernel_rfl) (by kernel_rfl) (by kernel_rfl) (fun _ _ _ h => h) (Or.inl ⟨by rfl, ?_⟩) (by assumption) ?_
      rotate_left
      · (intro w hSw; (try dsimp only at hSw); go_simp <;> with_reducible rfl)
      try simp only [Act.put, List.setIfInBounds_toArray, List.set_cons_zero, List.set_cons_succ]
      refine' Till.take 4 rfl (by kernel_rfl) (by kernel_rfl) (by kernel_rfl) (by kernel_rfl) (fun _ _ _ h => h) (Or.inl ⟨by rfl, ?_⟩) (by assumption) ?_
      rotate_left
      · (intro w hSw; (try dsimp only at hSw); go_simp <;> with_reducible rfl)
      try simp only [Act.put, List.setIfInBounds_toArray, List.set_cons_zero, List.set_cons_succ]
      refine' Till.take 5 rfl (by kernel_rfl) (by kernel_rfl) (by kernel_rfl) (by kernel_rfl) (fun _ _ _ h => h) (Or.inl ⟨by rfl, ?_⟩) (by assumption) ?_
      rotate_left
      · (intro w hSw; (try dsimp only at hSw); go_simp <;> with_reducible rfl)
      try simp only [Act.put, List.setIfInBounds_toArray, List.set_cons_zero, List.set_cons_succ]
      refine' Till.take 6 rfl (by kernel_rfl) (by kernel_rfl) (by kernel_rfl) (by kernel_rfl) (fun _ _ _ h => h) (Or.inl ⟨by rfl, ?_⟩) (by assumption) ?_
      rotate_left
      · (intro w hSw; (try dsimp only at hSw); go_simp <;> with_reducible rfl)
      try simp only [Act.put, List.setIfInBounds_toArray, List.set_cons_zero, List.set_cons_succ]
      refine' Till.take 7 rfl (by kernel_rfl) (by kernel_rfl) (by kernel_rfl) (by kernel_rfl) (fun _ _ _ h => h) (Or.inl ⟨by rfl, ?_⟩) (by assumption) ?_
      rotate_left
      · (intro w hSw; (try dsimp only at hSw); go_simp <;> with_reducible rfl)
      try simp only [Act.put, List.setIfInBounds_toArray, List.set_cons_zero, List.set_cons_succ]
      refine' Till.take 8 rfl (by kernel_rfl) (by kernel_rfl) (by kernel_rfl) (by kernel_rfl) (fun _ _ _ h => h) (Or.inl ⟨by rfl, ?_⟩) (by assumption) ?_
      rotate_left
      · (intro w hSw; (try dsimp only at hSw); go_simp <;> with_reducible rfl)
      try simp only [Act.put, List.setIfInBounds_toArray, List.set_cons_zero, List.set_cons_succ]
      refine' Till.take 9 rfl (by kernel_rfl) (by kernel_rfl) (by kernel_rfl) (by kernel_rfl) (fun _ _ _ h => h) (Or.inl ⟨by rfl, ?_⟩) (by assumption) ?_
      rotate_left
      · (intro w hSw; (try dsimp only at hSw); go_simp <;> with_reducible rfl)
      try simp only [Act.put, List.setIfInBounds_toArray, List.set_cons_zero, List.set_cons_succ]
      refine Till.one 10 (by kernel_rfl) rfl (fun K hK => ?_)
      go_simp
      refine hK.out _ _ ?_ (fun hHeld => ?_)
      · exact ⟨t1, t2⟩
      clear hK K
      try simp only [Act.put, List.setIfInBounds_toArray, List.set_cons_zero, List.set_cons_succ]
      refine Till.one 11 (by kernel_rfl) rfl (fun K hK => ?_)
      refine step_append_nw rfl (.tmp 243) (.tmp 248) rfl (.slice a2 M cap2) (.slice (some ⟨wr.heap.size, 0, none⟩) 1 1) LL [⟨to, f⟩] r2 (by first | rfl | simp [Act.eval, Act.put]) (by first | rfl | simp [Act.eval, Act.put]) HNO.out.row HSO.out (by have := hLLl; simp only [List.length_singleton]; omega) (.inr (by simp)) ?_
      intro v9 w9 g9 ho9 hg9 hr9
      have hn9 := HNO.out.app ho9 hg9 hr9
      have hv9 : ∃ a N c, v9 = .slice a N c := ho9.shape.elim fun a6 h => h.elim fun cc6 h2 => ⟨a6, _, cc6, h2.1⟩
      rcases hv9 with ⟨a9, N9, c9, rfl⟩
      rcases HCE.out w9 hn9.below with ⟨s91, s92⟩
      have hb9 : Below w6.heap.size w6 (w9.alloc (.cells #[.slice a9 N9 c9] 54)) := hn9.below.trans (((Below.refl _ w9).alloc (Nat.le_refl _) _).mono hn9.below.size)
      rcases HCE.out _ hb9 with ⟨s93, s94⟩
      have HN9 := Hid.mkP (hn9.back HB6w.out)
      have HB9 := Hid.mkP (HB6w.out.trans (hb9.mono HB6w.out.size))
      clear hn9 hb9 ho9 hg9 hr9
      refine hK.out _ _ ?_ (fun hHeld => ?_)
      · exact ⟨s91, s92⟩
      clear hK K
      try simp only [Act.put, List.setIfInBounds_toArray, List.set_cons_zero, List.set_cons_succ]
      refine Till.one 12 (by kernel_rfl) rfl (fun K hK => ?_)
      go_simp
      refine hK.out _ _ ?_ (fun hHeld => ?_)
      · exact ⟨s93, s94⟩
      clear hK K
      try simp only [Act.put, List.setIfInBounds_toArray, List.set_cons_zero, List.set_cons_succ]
      refine Till.one 13 (by kernel_rfl) rfl (fun K hK => ?_)
      refine step_append_val2 rfl (.tmp 242) (.tmp 250) 47 54 tx (.slice none 0 0) Try.underlying47 htx hy0 rfl hy1 (by rw [hy2]; decide) rfl (.slice aD p.dirs.length capD) (.slice (some ⟨w9.heap.size, 0, none⟩) 1 1) (.slice a9 N9 c9) dv rD (by first | rfl | simp [Act.eval, Act.put]) (by first | rfl | simp [Act.eval, Act.put]) (HRD.out _ HB9.out) (src_val _ _ rfl _ 54 _ Try.underlying47) (by rw [hdv]; omega) ?_
      intro v12 w12 g12 ho12 hg12 hr12
      have hv12 : ∃ a N c, v12 = .slice a N c := ho12.shape.elim fun a6 h => h.elim fun cc6 h2 => ⟨a6, _, cc6, h2.1⟩
      rcases hv12 with ⟨a12, N12, c12, rfl⟩
      rcases HEND.out w9 w12 (.slice a9 N9 c9) (.slice a12 N12 c12) _ g12 _ HN9.out ho12 hg12 hr12 with ⟨hE12, e12, f12⟩
      have hbk : w12.heap[w.heap.size]? = (w9.alloc (.cells #[.slice a9 N9 c9] 54)).heap[w.heap.size]? := hg12.block _ (cell_lt s93) (fun e => hnD e.symm)
      have e14 : w12.cell? ⟨w.heap.size, 2, none⟩ = some (.string to) := (World.cell?_of_block (w := w9.alloc (.cells #[.slice a9 N9 c9] 54)) (a := ⟨w.heap.size, 2, none⟩) hbk).trans s93
      have e16 : (w12.setCell ⟨gp, 2, none⟩ (.slice a12 N12 c12)).cell? ⟨w.heap.size, 2, none⟩ = some (.string to) := (World.cell?_setCell_far w12 ⟨gp, 2, none⟩ ⟨w.heap.size, 2, none⟩ _ hgpb).trans e14
      have HE12 := Hid.mkP hE12
      clear hE12 ho12 hg12 hr12 hbk
      refine hK.out _ _ ?_ (fun hHeld => ?_)
      · exact ⟨e14, e12⟩
      clear hK K
      try simp only [Act.put, List.setIfInBounds_toArray, List.set_cons_zero, List.set_cons_succ]
      refine' Till.take 14 rfl (by kernel_rfl) (by kernel_rfl) (by kernel_rfl) (by kernel_rfl) (fun _ _ _ h => h) (Or.inl ⟨by rfl, ?_⟩) (by assumption) ?_
      rotate_left
      · (intro w hSw; (try dsimp only at hSw); go_simp <;> with_reducible rfl)
      try simp only [Act.put, List.setIfInBounds_toArray, List.set_cons_zero, List.set_cons_succ]
      refine' Till.take 15 rfl (by kernel_rfl) (by kernel_rfl) (by kernel_rfl) (by kernel_rfl) (fun _ _ _ h => h) (Or.inl ⟨by rfl, ?_⟩) (by assumption) ?_
      rotate_left
      · (intro w hSw; (try dsimp only at hSw); go_simp <;> with_reducible rfl)
      try simp only [Act.put, List.setIfInBounds_toArray, List.set_cons_zero, List.set_cons_succ]
      refine Till.last (by kernel_rfl) (by kernel_rfl) rfl (fun K hK => ?_)
      go_simp
      refine hK.out _ _ ?_
      clear hK K
      try simp only [Act.put, List.setIfInBounds_toArray, List.set_cons_zero, List.set_cons_succ]
      refine NoPanic.normal ?_
      all_goals
        clear s91 s92 s93 s94 e12 f12 e14 e16 t1 t2 k2 f2 y2
        go_wp2
        go_ret
        exact ⟨rfl, nt_later HE12.out (by first | exact Below.refl _ _ | exact Below.drew (Below.refl _ _))⟩
end Go.Proofs.Ytgpmhflndcppeaa
