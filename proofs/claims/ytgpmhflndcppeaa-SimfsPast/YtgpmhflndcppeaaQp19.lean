import Derived.Test.YtgpmhflndcppeaaQp18
/-! The law on the past: a row of a file's bytes, of its numbers, in its place. -/
namespace Go.Proofs.Ytgpmhflndcppeaa
open Go.RowKit Go.Maps Plain
set_option linter.unusedVariables false
set_option linter.unusedSimpArgs false

theorem OwnV.setAt {w : World} {v x : Value} {vs : List Value} {g i : Nat} (h : OwnV w v vs (some g)) (hi : i < vs.length) : OwnV (w.setCell ⟨g, i, none⟩ x) v (vs.set i x) (some g) := by
  rcases h with ⟨_, _, e⟩ | ⟨g', cap, e, rfl, hg, h1, h2, h3, h4, h5⟩
  · cases e
  · cases e
    refine .inr ⟨g, cap, rfl, by simp, Nat.lt_of_lt_of_le hg (grow_setCells w g i [x]).size, by simpa using h1, h2, fun j hj => ?_, fun j hj => ?_, fun j hj => ?_⟩
    · rw [World.frozen?_setCell]; exact h3 j hj
    · exact isSome_setCells g [x] i w _ (h4 j hj)
    · rw [List.length_set] at hj
      by_cases e : i = j
      · subst e
        rw [World.cell?_setCell_same' _ _ _ (h4 i (by omega)), List.getElem?_set_self hi]
      · rw [World.cell?_setCell_other _ _ _ _ (by intro e2; injection e2 with e3 e4; exact e (by omega)), List.getElem?_set_ne e]
        exact h5 j hj
theorem nt_trans {gp : Nat} {p : Ps} {T : Nat → Prop} {w w1 w2 : World} (h : Chg T w w1) (k : PaAt w2 gp p (Ext (Ext T w w1) w1 w2) ∧ Chg (Ext T w w1) w1 w2) : PaAt w2 gp p (Ext T w w2) ∧ Chg T w w2 := by
  obtain ⟨⟨B, vF, vG, vD, rF, rG, rD, fv, gv, dv, rf, rg, sv, tv, hP, hT⟩, hc⟩ := k
  have h1 := h.size
  have h2 := hc.size
  refine ⟨⟨B, vF, vG, vD, rF, rG, rD, fv, gv, dv, rf, rg, sv, tv, hP, fun g hg => ?_⟩, ⟨hc.os.trans h.os, hc.tape.trans h.tape, hc.output.trans h.output, by omega, fun g hg hn => ?_⟩⟩
  · rcases hT g hg with (e | e) | e
    · exact .inl e
    · exact .inr ⟨e.1, by omega⟩
    · exact .inr ⟨by omega, e.2⟩
  · refine (hc.block g (by omega) (fun e => ?_)).trans (h.block g hg hn)
    rcases e with e | e
    · exact hn e
    · omega
/-- Another row of a file's bytes is stored. -/
theorem PaM.storeF {w u w' : World} {gp : Nat} {p : Ps} {B : Nat → Prop} {vF vG vD x : Value} {rF rG rD q : Option Nat} {fv gv dv us : List Value} {rf rg : Nat → Option Nat} {sv tv : Nat → List Value} {ys : List (List Nat)} {i gF : Nat} {T : Nat → Prop} (h : PaM w gp p B vF vG vD rF rG rD fv gv dv rf rg sv tv) (hT : ∀ g, paT gp p B rF rG rD rf rg g → T g) (hi : i < p.files.length) (hF : rF = some gF) (B' : Nat → Prop)
    (hu : Chg (fun g => rf i = some g) w u) (e : u.setCell ⟨gF, i, none⟩ x = w') (hx : OwnV u x us q) (hq : q = rf i ∨ ∀ g, q = some g → w.heap.size ≤ g) (hus : us.length = ys.length) (hB : NewB w u B B') (hlf : ∀ j, j < us.length → leafB u B' (us.getD j undef) (ys.getD j [])) (hn : ∀ g, q = some g → w.heap.size ≤ g → ¬ B' g) :
    PaAt w' gp ⟨p.files.set i ys, p.grown, p.dirs⟩ (Ext T w w') ∧ Chg T w w' := by
  subst hF
  have hg : u.grownBy w' (some gF) := by rw [← e]; exact grow_setCells u gF i [x]
  have hgl : gF < w.heap.size := h.F.out.rlt gF rfl
  have hni : rf i ≠ some gF := fun e2 => h.F.sep i hi gF e2 rfl
  have hnq : q ≠ some gF := fun e2 => by
    rcases hq with e3 | e3
    · exact hni (by rw [← e3]; exact e2)
    · have := e3 gF e2; omega
  have hBg : ¬ B' gF := fun e2 => (hB.new gF e2).elim (h.s1 gF (.inl rfl)).2.2.2 (fun e3 => by omega)
  have hc : Chg (fun g => some gF = some g ∨ rf i = some g) w w' := (hu.mono (fun g e2 => .inr e2)).grown hg (fun g e2 => .inl (.inl e2))
  have hout : OwnV w' vF (fv.set i x) (some gF) := by
    rw [← e]
    exact (h.F.out.of_block hu.size (fun g e2 => by cases e2; exact hu.block gF hgl hni)).setAt (by rw [h.F.len]; exact hi)
  have hP := h.setF hi hc hout (hx.kept hg (.inr hnq)) hq hus ⟨hB.sub, hB.new, fun g e2 => Nat.lt_of_lt_of_le (hB.lt g e2) hg.size⟩ (fun j hj => (hlf j hj).kept hg.size (fun g e2 => hg.block g (hB.lt g e2) (fun e3 => hBg (by cases e3; exact e2))) (fun g e2 => e2)) hn
  refine ⟨⟨B', _, _, _, _, _, _, _, _, _, _, _, _, _, hP, fun g hg2 => ?_⟩, hc.mono (fun g e2 => hT g (.inr (.inl (e2.imp id (fun e3 => ⟨i, hi, e3⟩)))))⟩
  have hlt := hP.lt g hg2
  rcases hg2 with e2 | (e2 | ⟨n, hn2, e2⟩) | e2 | e2 | e2
  · exact .inl (hT g (.inl e2))
  · exact .inl (hT g (.inr (.inl (.inl e2))))
  · rw [List.length_set] at hn2
    by_cases e3 : n = i
    · simp only [if_pos e3] at e2
      rcases hq with e4 | e4
      · exact .inl (hT g (.inr (.inl (.inr ⟨i, hi, by rw [← e4]; exact e2⟩))))
      · exact .inr ⟨e4 g e2, hlt⟩
    · simp only [if_neg e3] at e2
      exact .inl (hT g (.inr (.inl (.inr ⟨n, hn2, e2⟩))))
  · exact .inl (hT g (.inr (.inr (.inl e2))))
  · exact .inl (hT g (.inr (.inr (.inr (.inl e2)))))
  · rcases hB.new g e2 with e3 | e3
    · exact .inl (hT g (.inr (.inr (.inr (.inr e3)))))
    · exact .inr ⟨e3, hlt⟩
/-- Another row of a file's numbers is stored. -/
theorem PaM.storeG {w u w' : World} {gp : Nat} {p : Ps} {B : Nat → Prop} {vF vG vD x : Value} {rF rG rD q : Option Nat} {fv gv dv us : List Value} {rf rg : Nat → Option Nat} {sv tv : Nat → List Value} {ys : List Int} {i gG : Nat} {T : Nat → Prop} (h : PaM w gp p B vF vG vD rF rG rD fv gv dv rf rg sv tv) (hT : ∀ g, paT gp p B rF rG rD rf rg g → T g) (hi : i < p.grown.length) (hG : rG = some gG)
    (hu : Chg (fun g => rg i = some g) w u) (e : u.setCell ⟨gG, i, none⟩ x = w') (hx : OwnV u x us q) (hq : q = rg i ∨ ∀ g, q = some g → w.heap.size ≤ g) (hus : us.length = ys.length) (hlf : ∀ j, j < us.length → leafI (us.getD j undef) (ys.getD j 0)) :
    PaAt w' gp ⟨p.files, p.grown.set i ys, p.dirs⟩ (Ext T w w') ∧ Chg T w w' := by
  subst hG
  have hg : u.grownBy w' (some gG) := by rw [← e]; exact grow_setCells u gG i [x]
  have hgl : gG < w.heap.size := h.G.out.rlt gG rfl
  have hni : rg i ≠ some gG := fun e2 => h.G.sep i hi gG e2 rfl
  have hnq : q ≠ some gG := fun e2 => by
    rcases hq with e3 | e3
    · exact hni (by rw [← e3]; exact e2)
    · have := e3 gG e2; omega
  have hc : Chg (fun g => some gG = some g ∨ rg i = some g) w w' := (hu.mono (fun g e2 => .inr e2)).grown hg (fun g e2 => .inl (.inl e2))
  have hout : OwnV w' vG (gv.set i x) (some gG) := by
    rw [← e]
    exact (h.G.out.of_block hu.size (fun g e2 => by cases e2; exact hu.block gG hgl hni)).setAt (by rw [h.G.len]; exact hi)
  have hP := h.setG hi hc hout (hx.kept hg (.inr hnq)) hq hus hlf
  refine ⟨⟨B, _, _, _, _, _, _, _, _, _, _, _, _, _, hP, fun g hg2 => ?_⟩, hc.mono (fun g e2 => hT g (.inr (.inr (.inl (e2.imp id (fun e3 => ⟨i, hi, e3⟩))))))⟩
  have hlt := hP.lt g hg2
  rcases hg2 with e2 | e2 | (e2 | ⟨n, hn2, e2⟩) | e2 | e2
  · exact .inl (hT g (.inl e2))
  · exact .inl (hT g (.inr (.inl e2)))
  · exact .inl (hT g (.inr (.inr (.inl (.inl e2)))))
  · rw [List.length_set] at hn2
    by_cases e3 : n = i
    · simp only [if_pos e3] at e2
      rcases hq with e4 | e4
      · exact .inl (hT g (.inr (.inr (.inl (.inr ⟨i, hi, by rw [← e4]; exact e2⟩)))))
      · exact .inr ⟨e4 g e2, hlt⟩
    · simp only [if_neg e3] at e2
      exact .inl (hT g (.inr (.inr (.inl (.inr ⟨n, hn2, e2⟩)))))
  · exact .inl (hT g (.inr (.inr (.inr (.inl e2)))))
  · exact .inl (hT g (.inr (.inr (.inr (.inr e2)))))
end Go.Proofs.Ytgpmhflndcppeaa

/-! The law on the past: note of a Sync. -/
namespace Go.Proofs.Ytgpmhflndcppeaa
open Go.RowKit Go.Maps Plain
set_option linter.unusedVariables false
set_option linter.unusedSimpArgs false

theorem OwnV.fzAt {w : World} {v : Value} {vs : List Value} {g i : Nat} (h : OwnV w v vs (some g)) (hi : i < vs.length) : w.frozen? ⟨g, i, none⟩ = false := by
  rcases h with ⟨_, _, e⟩ | ⟨g', cap, e, rfl, hg, h1, h2, h3, h4, h5⟩
  · cases e
  · cases e; exact h3 i (by omega)
set_option maxHeartbeats 8000000 in
set_option maxRecDepth 100000 in
theorem noteSync {w : World} {gp : Nat} {p : Ps} {T : Nat → Prop} (nm to : ByteArray) (at' m : Int) (vb vp : Value) (h : PaAt w gp p T) (hk : p.Ok) (h1 : 1 ≤ p.dirs.length) (f : Nat) (hf : leadL p.last nm.data.toList = (f : Int)) (hfl : f < p.files.length) :
    Calls Try.prog 9 #[.pointer (some ⟨gp, 0, none⟩), stepV 4 nm to at' m vb vp] w (NtPost gp ⟨p.files.set f [(p.files.getD f []).getD ((p.files.getD f []).length - 1) []], p.grown.set f [-1], p.dirs⟩ T w) := by
  obtain ⟨B, vF, vG, vD, rF, rG, rD, fv, gv, dv, rf, rg, sv, tv, hP, hT⟩ := h
  obtain ⟨w0, hw0⟩ : ∃ w0, w.alloc (.cells #[.int .i64 4, .string nm, .string to, .int .i64 at', .int .i64 m, vb, vp] 31) = w0 := ⟨_, rfl⟩
  have hb0 : Below w.heap.size w w0 := by rw [← hw0]; exact (Below.refl _ _).alloc (Nat.le_refl _) _
  have hS0 : SbAt w0 w.heap.size (stepC 4 nm to at' m vb vp) := by rw [← hw0]; exact SbAt.new w _ _
  have hP0 := hP.later hb0
  have hpl : p.last.length ≤ 2199023255000 := hk.nl _ (by omega)
  have HLE : Hid (Calls Try.prog 30 #[.pointer (some ⟨gp, 0, none⟩), .string nm] w0 fun e w' => e = .returned (.int .i64 (f : Int)) ∧ ∃ n, w' = w0.drewN n) := by
    have := leadOf hP0 h1 nm hpl (by have := hk.dl; omega)
    rw [hf] at this
    exact this
  have z0 := hS0 0 _ rfl
  have z1 := hS0 1 _ rfl
  have HPM : Hid (PaM w gp p B vF vG vD rF rG rD fv gv dv rf rg sv tv) := hP
  have HB0 : Hid (Below w.heap.size w w0) := hb0
  have HS0 : Hid (SbAt w0 w.heap.size (stepC 4 nm to at' m vb vp)) := hS0
  clear hP hP0 hb0 hS0 hf
  go_enter Try.func9, Try.ntmps9
  go_wp2_with fail
  refine HLE.out.mono ?_
  rintro e w' ⟨rfl, n, rfl⟩
  have HB1 : Hid (Below w.heap.size w (w0.drewN n)) := below_drewN HB0.out n
  have HS1 : Hid (SbAt (w0.drewN n) w.heap.size (stepC 4 nm to at' m vb vp)) := HS0.out.later (below_drewN (Below.refl _ _) n)
  clear HLE z0 z1 HB0 HS0
  generalize w0.drewN n = w1 at HB1 HS1 ⊢
  have z0 := HS1.out 0 _ rfl
  have z1 := HS1.out 1 _ rfl
  have hf0 : ¬ (f : Int) < 0 := by omega
  have hf1 : (0 : Int) ≤ (f : Int) := by omega
  have hfi : (f : Int) < (p.files.length : Int) := by omega
  have hst1 := hk.one f hfl
  have hstl := (hk.gl f hfl).2
  obtain ⟨gF, capF, gi, cF, a, c, rfl, hrF, c0, hri, c1, hlfb⟩ := (HPM.out.later HB1.out).now hfl hst1
  have k0 := (HPM.out.later HB1.out).c0
  have k2 := (HPM.out.later HB1.out).c2
  have hN1 : ((p.files.getD f []).length : Int) - 1 = (((p.files.getD f []).length - 1 : Nat) : Int) := by omega
  have hNl : (((p.files.getD f []).length - 1 : Nat) : Int) < ((p.files.getD f []).length : Int) := by omega
  have HLB : Hid (leafB w1 B (.slice a ((p.files.getD f []).getD ((p.files.getD f []).length - 1) []).length c) ((p.files.getD f []).getD ((p.files.getD f []).length - 1) [])) := hlfb
  clear hlfb
  generalize (p.files.getD f []).length = M at *
  generalize (p.files.getD f []).getD (M - 1) [] = NOW at *
  generalize hLN : NOW.length = LN at *
  go_wp2_with fail
  go_quiet (fail)
  have HB2 : Hid (Below w.heap.size w (w1.drewN nq)) := below_drewN HB1.out nq
  have c0' : (w1.drewN nq).cell? ⟨gF, f, none⟩ = some (.slice (some ⟨gi, 0, none⟩) M cF) := c0
  have HLB2 : Hid (leafB (w1.drewN nq) B (.slice a LN c) NOW) := by
    have hh : leafB (w1.drewN nq) B (.slice a LN c) NOW := HLB.out.kept (Nat.le_refl _) (fun _ _ => rfl) (fun g e => e)
    exact hh
  have HS2 : Hid (SbAt (w1.drewN nq) w.heap.size (stepC 4 nm to at' m vb vp)) := HS1.out.later (below_drewN (Below.refl _ _) nq)
  clear c0 c1 k0 k2 z0 z1 HB1 HS1 HLB
  generalize w1.drewN nq = w2 at HB2 HS2 HLB2 c0' ⊢
  have z0 := HS2.out 0 _ rfl
  have z1 := HS2.out 1 _ rfl
  have hP2 := HPM.out.later HB2.out
  have k0 := hP2.c0
  have hz2 : w2.frozen? ⟨gF, f, none⟩ = false := (hrF ▸ hP2.F.out : OwnV w2 _ fv (some gF)).fzAt (by rw [hP2.F.len]; exact hfl)
  obtain ⟨U1, hU1⟩ : ∃ U1, w2.alloc (.cells #[.slice a LN c] 28) = U1 := ⟨_, rfl⟩
  have hbU : Below w2.heap.size w2 U1 := by rw [← hU1]; exact (Below.refl _ _).alloc (Nat.le_refl _) _
  have d0 : U1.cell? ⟨gF, f, none⟩ = some (.slice (some ⟨gi, 0, none⟩) M cF) := (hbU.cell (p := ⟨gF, f, none⟩) (cell_lt c0')).trans c0'
  have d1 : U1.frozen? ⟨gF, f, none⟩ = false := (hbU.frozen (p := ⟨gF, f, none⟩) (cell_lt c0')).trans hz2
  obtain ⟨w3, hw3⟩ : ∃ w3, U1.setCell ⟨gF, f, none⟩ (.slice (some ⟨w2.heap.size, 0, none⟩) 1 1) = w3 := ⟨_, rfl⟩
  have hbW : Below w.heap.size w U1 := HB2.out.trans (hbU.mono HB2.out.size)
  have HE3 : PaAt w3 gp ⟨p.files.set f [NOW], p.grown, p.dirs⟩ (Ext T w w3) ∧ Chg T w w3 := by
    refine HPM.out.storeF hT hfl hrF B (Chg.ofBelow hbW) hw3 (q := some w2.heap.size) (us := [.slice a LN c]) (by rw [← hU1]; exact OwnV.one w2 (.slice a LN c) 28) (.inr fun g e => by cases e; exact HB2.out.size) rfl (NewB.refl HPM.out.b hbW.size) (fun j hj => ?_) (fun g e hge hB => ?_)
    · have : j = 0 := by simpa using hj
      subst this
      exact HLB2.out.kept hbU.size (fun g e => hbU.block g (hP2.b g e)) (fun g e => e)
    · have := HPM.out.b g hB; omega
  have hbx : w3.heap[w.heap.size]? = w2.heap[w.heap.size]? := by
    have hg : U1.grownBy w3 (some gF) := by rw [← hw3]; exact grow_setCells U1 gF f [_]
    have hgl := HPM.out.F.out.rlt gF hrF
    have hsl := cell_lt z0
    have := hbU.size
    simp only at hsl
    exact (hg.block _ (by omega) (fun e => by have := Option.some.inj e; omega)).trans (hbU.block _ hsl)
  have HC3 : Hid (Chg T w w3) := HE3.2
  obtain ⟨⟨B3, vF3, vG3, vD3, rF3, rG3, rD3, fv3, gv3, dv3, rf3, rg3, sv3, tv3, hP3, hT3⟩, -⟩ := HE3
  have hgl3 : f < p.grown.length := by rw [hk.len]; exact hfl
  have hgi3 : (f : Int) < (p.grown.length : Int) := by omega
  obtain ⟨gG, capG, aG, cG, rfl, hrG, -, e0, -⟩ := hP3.G.at hgl3
  have k1 := hP3.c1
  have hz3 : w3.frozen? ⟨gG, f, none⟩ = false := (hrG ▸ hP3.G.out : OwnV w3 _ gv3 (some gG)).fzAt (by rw [hP3.G.len]; exact hgl3)
  obtain ⟨U3, hU3⟩ : ∃ U3, w3.alloc (.cells #[.int .i64 (-1)] 3) = U3 := ⟨_, rfl⟩
  have hbU3 : Below w3.heap.size w3 U3 := by rw [← hU3]; exact (Below.refl _ _).alloc (Nat.le_refl _) _
  have e1 := (hbU3.cell (p := ⟨gG, f, none⟩) (cell_lt e0)).trans e0
  have e2 : U3.frozen? ⟨gG, f, none⟩ = false := (hbU3.frozen (p := ⟨gG, f, none⟩) (cell_lt e0)).trans hz3
  obtain ⟨w5, hw5⟩ : ∃ w5, U3.setCell ⟨gG, f, none⟩ (.slice (some ⟨w3.heap.size, 0, none⟩) 1 1) = w5 := ⟨_, rfl⟩
  have HE5 : Hid (PaAt w5 gp ⟨p.files.set f [NOW], p.grown.set f [-1], p.dirs⟩ (Ext T w w5) ∧ Chg T w w5) := by
    refine nt_trans HC3.out ?_
    refine hP3.storeG hT3 hgl3 hrG (Chg.ofBelow hbU3) hw5 (q := some w3.heap.size) (us := [.int .i64 (-1)]) (by rw [← hU3]; exact OwnV.one w3 (.int .i64 (-1)) 3) (.inr fun g e => by cases e; exact Nat.le_refl _) rfl (fun j hj => ?_)
    have : j = 0 := by simpa using hj
    subst this
    exact ⟨rfl, (by unfold I64; decide : I64 (-1))⟩
  clear hP2 hbU hbU3 hbW HPM HB2 HLB2 hP3 hT3 HC3 hT hbx
  go_wp2
  go_ret
  exact ⟨rfl, HE5.out⟩
end Go.Proofs.Ytgpmhflndcppeaa

/-! The law on the past: a number more in a file's row of numbers; the ways back to the beginning. -/
namespace Go.Proofs.Ytgpmhflndcppeaa
open Go.RowKit Go.Maps Plain
set_option linter.unusedVariables false
set_option linter.unusedSimpArgs false

/-- What was kept of a later world's beginning, told of the elder one. -/
theorem nt_back {gp : Nat} {p : Ps} {T : Nat → Prop} {w w2 w' : World} (hb : Below w.heap.size w w2) (h : PaAt w' gp p (Ext (fun g => T g ∧ g < w.heap.size) w2 w') ∧ Chg (fun g => T g ∧ g < w.heap.size) w2 w') : PaAt w' gp p (Ext T w w') ∧ Chg T w w' := by
  obtain ⟨⟨B, vF, vG, vD, rF, rG, rD, fv, gv, dv, rf, rg, sv, tv, hP, hT⟩, hc⟩ := h
  have hs := hb.size
  exact ⟨⟨B, vF, vG, vD, rF, rG, rD, fv, gv, dv, rf, rg, sv, tv, hP, fun g hg => (hT g hg).imp (fun e => e.1) (fun e => ⟨by omega, e.2⟩)⟩, (Chg.ofBelow hb).trans (hc.mono fun g e => e.1)⟩
theorem PaAt.low {w : World} {gp : Nat} {p : Ps} {T : Nat → Prop} (h : PaAt w gp p T) : PaAt w gp p (fun g => T g ∧ g < w.heap.size) := by
  obtain ⟨B, vF, vG, vD, rF, rG, rD, fv, gv, dv, rf, rg, sv, tv, hP, hT⟩ := h
  exact ⟨B, vF, vG, vD, rF, rG, rD, fv, gv, dv, rf, rg, sv, tv, hP, fun g hg => ⟨hT g hg, hP.lt g hg⟩⟩
/-- A file's row of numbers, ready for one more. -/
structure GrownAt (w8 : World) (gp f N : Nat) (E : Nat → Prop) (gG capG : Nat) (aG : Option Addr) (L cG : Nat) (ts : List Value) (rq : Option Nat) : Prop where
  c1 : w8.cell? ⟨gp, 1, none⟩ = some (.slice (some ⟨gG, 0, none⟩) N capG)
  cf : w8.cell? ⟨gG, f, none⟩ = some (.slice aG L cG)
  fz : w8.frozen? ⟨gG, f, none⟩ = false
  ne : gG ≠ gp
  gE : E gG
  qE : ∀ g, rq = some g → E g ∧ g ≠ gp ∧ g ≠ gG
  len : ts.length = L
  row : ∀ u, Below w8.heap.size w8 u → OwnV u (.slice aG L cG) ts rq
theorem grownStep {w w8 : World} {gp : Nat} {p : Ps} {T : Nat → Prop} {f : Nat} (h : PaAt w8 gp p (Ext T w w8) ∧ Chg T w w8) (hf : f < p.grown.length) (z : Int) (hz : I64 z) :
    ∃ gG capG aG cG ts rq, GrownAt w8 gp f p.grown.length (Ext T w w8) gG capG aG (p.grown.getD f []).length cG ts rq ∧
      ∀ (w9 w10 : World) (v10 : Value) (g10 : Nat), Below w8.heap.size w8 w9 → OwnV w10 v10 (ts ++ [.int .i64 z]) (some g10) → w9.grownBy w10 rq → (some g10 = rq ∨ g10 = w9.heap.size) →
        (PaAt (w10.setCell ⟨gG, f, none⟩ v10) gp ⟨p.files, p.grown.set f (p.grown.getD f [] ++ [z]), p.dirs⟩ (Ext T w (w10.setCell ⟨gG, f, none⟩ v10)) ∧ Chg T w (w10.setCell ⟨gG, f, none⟩ v10)) ∧
        (∀ q, q.block < w8.heap.size → rq ≠ some q.block → w10.cell? q = w8.cell? q ∧ w10.frozen? q = w8.frozen? q) := by
  obtain ⟨⟨B, vF, vG, vD, rF, rG, rD, fv, gv, dv, rf, rg, sv, tv, hP, hT⟩, hc⟩ := h
  obtain ⟨gG, capG, aG, cG, e1, hrG, e3, e4, -⟩ := hP.G.at hf
  subst e1
  refine ⟨gG, capG, aG, cG, tv f, rg f, ⟨hP.c1, e4, ?_, (hP.s2 gG (.inl hrG)).1, hT gG (.inr (.inr (.inl (.inl hrG)))), fun g e => ⟨hT g (.inr (.inr (.inl (.inr ⟨f, hf, e⟩)))), (hP.s2 g (.inr ⟨f, hf, e⟩)).1, fun e2 => hP.G.sep f hf g e (by rw [hrG, e2])⟩, hP.G.sl f hf, fun u hu => ?_⟩, fun w9 w10 v10 g10 q1 q2 q3 q4 => ?_⟩
  · exact (hrG ▸ hP.G.out : OwnV w8 _ gv (some gG)).fzAt (by rw [hP.G.len]; exact hf)
  · have := (hP.later hu).G.inn f hf
    rw [e3] at this
    exact this
  · have hc10 : Chg (fun g => rg f = some g) w8 w10 := (Chg.ofBelow q1).grown q3 (fun g e => .inl e)
    have hs9 := q1.size
    refine ⟨nt_trans hc (hP.storeG hT hf hrG hc10 rfl q2 (q4.imp id fun e g e2 => by cases e2; omega) (by rw [List.length_append, hP.G.sl f hf, List.length_append]; rfl) (fun j hj => ?_)), fun q hq hn => ?_⟩
    · rw [List.length_append, List.length_singleton] at hj
      by_cases e : j < (tv f).length
      · rw [getD_app_lt' _ _ e, getD_app_lt' _ _ (by rw [← hP.G.sl f hf]; exact e)]
        exact hP.G.lf f hf j e
      · have e2 : j = (tv f).length := by omega
        subst e2
        rw [getD_app_eq', hP.G.sl f hf, getD_app_eq']
        exact ⟨rfl, hz⟩
    · have hbk := hc10.block q.block hq hn
      exact ⟨World.cell?_of_block (w := w8) (a := q) hbk, World.frozen?_of_block (w := w8) (a := q) hbk⟩
theorem step_append_byt {ops : Array Oper} {o : Oper} {a : Act} {w : World} {K : Act → World → Prop} {Q : Exit → Act → World → Prop} {E : Prop}
    (hg : o.guard = none) (s x : Operand) (t tx : TypeId) (hop : o.op = Op.call { callee := Callee.builtin Builtin.append, args := #[s, x], argTypes := #[t, tx] }) (ht : Try.prog.underlying t = some (.slice 5)) (v xv : Value) (l k : List Nat) (r : Option Nat)
    (hs : a.eval s = v) (hx : a.eval x = xv) (hown : Own w v l r) (hk : ∀ c ∈ k, c < 256) (hsrc : Src Try.prog 1 tx xv k.length (cellsOf k) w) (hlen : l.length + k.length ≤ 140737488355328)
    (hK : ∀ v' w' r', Own w' v' (l ++ k) r' → w.grownBy w' r → (r' = r ∨ r' = some w.heap.size) → K (a.put o.dst v') w') :
    if Region.wanted o (yielded ops a.tmps) = true then Oper.wp Try.prog o a w K Q else E := by
  have hw : Region.wanted o (yielded ops a.tmps) = true := by simp [Region.wanted, hg]
  rw [if_pos hw]
  obtain ⟨v', w', r', hrun, h1, h2, h3, h4⟩ := run_append_row w t tx o.type ht v xv l k r hown hk hsrc hlen
  unfold Oper.wp
  simp [execOp, hop, resolve, invoke, builtin, hs, hx, hrun, Result.andThen]
  exact hK v' w' r' h1 h2 h3
theorem Own.made0 (w : World) (t : TypeId) : Own (w.alloc (.cells #[] t)) (.slice (some ⟨w.heap.size, 0, none⟩) 0 0) [] (some w.heap.size) :=
  ⟨by simp, .inr ⟨w.heap.size, 0, rfl, rfl, by simp, by simp, by simp, fun j hj => by omega, fun j hj => by omega, fun j hj => by simp at hj⟩⟩
end Go.Proofs.Ytgpmhflndcppeaa
