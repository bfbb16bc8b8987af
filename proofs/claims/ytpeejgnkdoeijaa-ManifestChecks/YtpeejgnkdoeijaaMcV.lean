import Derived.Test.YtpeejgnkdoeijaaMcU
import Derived.Test.YtpeejgnkdoeijaaMcK
/-! manifest: the law of checks: its walk. -/
namespace Go.Proofs.Ytpeejgnkdoeijaa
open Go.RowKit Plain
set_option linter.unusedVariables false
set_option linter.unusedSimpArgs false

theorem Mv.reads {w0 w : World} {g1 c1 g2 c2 n1 n2 : Nat} {l1 : List Int} {l2 : List Pr} (h : Mv w0 w g1 c1 g2 c2 n1 n2 l1 l2) (hs : n1 ≤ 17592186044400) (hp : n2 ≤ 8796093021000) : IntsAt w (.slice (some ⟨g1, 0, none⟩) n1 c1) (l1.take n1) ∧ PrsAt w (.slice (some ⟨g2, 0, none⟩) n2 c2) (l2.take n2) := by
  constructor
  · have h1 : IntsAt w _ l1 := h.man.s.reads (by rw [h.len1]; omega) h.ok1
    exact h1.take n1 (by rw [h.len1]; omega)
  · exact h.man.p.first (k := n2) (by rw [h.len2]; omega) (by rw [h.len2]; omega) h.ok2
theorem Cv.reads {w0 w : World} {g c n : Nat} {l : List Te} (h : Cv w0 w g c n l) (hp : n ≤ 4398046510000) : TesIn w (.slice (some ⟨g, 0, none⟩) n c) (l.take n) := by
  refine ⟨OwnTe.first h.cat (k := n) (by rw [h.len]; omega) (by rw [h.len]; omega) h.ok, fun a n' c' e => ?_⟩
  injection e with e1 e2 e3
  have := (OwnTe.capP h.cat).2
  have := h.len
  omega
theorem Mv.again {w0 w w' : World} {g1 c1 g2 c2 n1 n2 : Nat} {l1 : List Int} {l2 : List Pr} (h : Mv w0 w g1 c1 g2 c2 n1 n2 l1 l2) (hb : Below w.heap.size w w') : Mv w' w' g1 c1 g2 c2 n1 n2 l1 l2 :=
  ⟨h.man.later hb, h.len1, h.len2, h.ok1, h.ok2, h.mk1, h.mk2, Chg.refl _ _⟩
theorem Cv.again {w0 w w' : World} {g c n : Nat} {l : List Te} (h : Cv w0 w g c n l) (hb : Below w.heap.size w w') : Cv w' w' g c n l :=
  ⟨h.cat.later hb, h.len, h.ok, h.mkT, Chg.refl _ _⟩
theorem ManW.start {w : World} {g1 c1 g2 c2 : Nat} {s : List Int} {p : List Pr} (h : ManW w g1 c1 g2 c2 (s ++ [-77]) (p ++ [markP])) (ho1 : ∀ z ∈ s, I64 z) (ho2 : ∀ x ∈ p, x.Ok) : Mv w w g1 c1 g2 c2 s.length p.length (s ++ [-77]) (p ++ [markP]) :=
  ⟨h, by simp, by simp, fun z hz => by
      rcases List.mem_append.mp hz with h | h
      · exact ho1 z h
      · simp at h; rw [h]; unfold I64; omega, fun x hx => by
      rcases List.mem_append.mp hx with h | h
      · exact ho2 x h
      · simp at h; rw [h]; exact ⟨by unfold markP I64; simp, by unfold markP I64; simp, by unfold markP I64; simp⟩, by simp, by simp, Chg.refl _ _⟩
theorem CatW.start {w : World} {g c : Nat} {p : List Te} (h : CatW w g c (p ++ [markT])) (ho2 : ∀ x ∈ p, x.Ok) : Cv w w g c p.length (p ++ [markT]) :=
  ⟨h, by simp, fun x hx => by
      rcases List.mem_append.mp hx with h | h
      · exact ho2 x h
      · simp at h; rw [h]; exact ⟨by unfold markT I64; simp, by unfold markT; exact Nat.zero_le _, by unfold markT I64; simp, by unfold markT I64; simp⟩, by simp, Chg.refl _ _⟩
theorem CatW.chg {w w' : World} {g c : Nat} {l : List Te} {S : Nat → Prop} (h : CatW w g c l) (hc : Chg S w w') (hn : ¬ S g) : CatW w' g c l := OwnTe.of_block h hc.size fun g' e => by cases e; exact hc.block g (OwnTe.lt h) hn
theorem ManW.chg {w w' : World} {g1 c1 g2 c2 : Nat} {l1 : List Int} {l2 : List Pr} {S : Nat → Prop} (h : ManW w g1 c1 g2 c2 l1 l2) (hc : Chg S w w') (h1 : ¬ S g1) (h2 : ¬ S g2) : ManW w' g1 c1 g2 c2 l1 l2 :=
  ⟨h.s.of_block hc.size fun g' e => by cases e; exact hc.block g1 h.s.lt h1, h.p.of_block hc.size fun g' e => by cases e; exact hc.block g2 h.p.lt h2, h.ne⟩
/-- All that the law holds. -/
structure LW (W0 w : World) (m : Mf) (ct : Ct) (g1 c1 g2 c2 g3 c3 xn xd : Nat) (l1 : List Int) (l2 : List Pr) (l3 : List Te) : Prop where
  man : ManW w g1 c1 g2 c2 l1 l2
  cat : CatW w g3 c3 l3
  nc : MC w xn m (.slice (some ⟨g1, 0, none⟩) m.segs.length c1) (.slice (some ⟨g2, 0, none⟩) m.prods.length c2)
  dc : CC w xd ct.nid (.slice (some ⟨g3, 0, none⟩) ct.tops.length c3)
  base : Below W0.heap.size W0 w
  e1 : W0.heap.size ≤ g1
  e2 : W0.heap.size ≤ g2
  e3 : W0.heap.size ≤ g3
  d1 : g3 ≠ g1
  d2 : g3 ≠ g2
  x1 : xn ≠ g1
  x2 : xn ≠ g2
  x3 : xn ≠ g3
  y1 : xd ≠ g1
  y2 : xd ≠ g2
  y3 : xd ≠ g3
theorem LW.later {W0 w w' : World} {m : Mf} {ct : Ct} {g1 c1 g2 c2 g3 c3 xn xd : Nat} {l1 : List Int} {l2 : List Pr} {l3 : List Te} (h : LW W0 w m ct g1 c1 g2 c2 g3 c3 xn xd l1 l2 l3) (hb : Below w.heap.size w w') : LW W0 w' m ct g1 c1 g2 c2 g3 c3 xn xd l1 l2 l3 :=
  ⟨h.man.later hb, h.cat.later hb, h.nc.block (hb.block _ h.nc.lt), h.dc.block (hb.block _ h.dc.lt), below_step h.base hb, h.e1, h.e2, h.e3, h.d1, h.d2, h.x1, h.x2, h.x3, h.y1, h.y2, h.y3⟩
theorem LW.mv {W0 w w' : World} {m : Mf} {ct : Ct} {g1 c1 g2 c2 g3 c3 xn xd n1 n2 : Nat} {l1 l1' : List Int} {l2 l2' : List Pr} {l3 : List Te} (h : LW W0 w m ct g1 c1 g2 c2 g3 c3 xn xd l1 l2 l3) (hv : Mv w w' g1 c1 g2 c2 n1 n2 l1' l2') : LW W0 w' m ct g1 c1 g2 c2 g3 c3 xn xd l1' l2' l3 :=
  ⟨hv.man, h.cat.chg hv.chg (by rintro (e | e); exact h.d1 e; exact h.d2 e), h.nc.block (hv.chg.block _ h.nc.lt (by rintro (e | e); exact h.x1 e; exact h.x2 e)), h.dc.block (hv.chg.block _ h.dc.lt (by rintro (e | e); exact h.y1 e; exact h.y2 e)), h.base.trans (hv.chg.below h.base.size (fun k hk => by
    have := h.e1
    have := h.e2
    rcases hk with e | e <;> omega)), h.e1, h.e2, h.e3, h.d1, h.d2, h.x1, h.x2, h.x3, h.y1, h.y2, h.y3⟩
theorem LW.cv {W0 w w' : World} {m : Mf} {ct : Ct} {g1 c1 g2 c2 g3 c3 xn xd n : Nat} {l1 : List Int} {l2 : List Pr} {l3 l3' : List Te} (h : LW W0 w m ct g1 c1 g2 c2 g3 c3 xn xd l1 l2 l3) (hv : Cv w w' g3 c3 n l3') : LW W0 w' m ct g1 c1 g2 c2 g3 c3 xn xd l1 l2 l3' :=
  ⟨h.man.chg hv.chg (fun e => h.d1 e.symm) (fun e => h.d2 e.symm), hv.cat, h.nc.block (hv.chg.block _ h.nc.lt h.x3), h.dc.block (hv.chg.block _ h.dc.lt h.y3), h.base.trans (hv.chg.below h.base.size (fun k hk => by
    have := h.e3
    omega)), h.e1, h.e2, h.e3, h.d1, h.d2, h.x1, h.x2, h.x3, h.y1, h.y2, h.y3⟩
set_option maxHeartbeats 8000000 in
set_option maxRecDepth 100000 in
theorem checksWalk (m : Mf) (vs vp : Value) (ct : Ct) (v : Value) (nm : ByteArray) (W : World) (h1 : IntsAt W vs m.segs) (h2 : PrsAt W vp m.prods) (h3 : TesIn W v ct.tops) (hnm : nm.size ≤ maxLen) (hl1 : m.segs.length ≤ 17592186044400) (hl2 : m.prods.length ≤ 8796093021000) (hl3 : ct.tops.length ≤ 4398046510000) :
    Calls Try.prog 3 #[m.agg vs vp, ct.agg v, .string nm] W fun e w' => e = .returned (.bool true) ∧ Below W.heap.size W w' := by
  have HO1 : Hid (∀ z ∈ m.segs, I64 z) := by obtain ⟨_, _, _, _, _, h, _⟩ := h1; exact h
  have HO2 : Hid (∀ x ∈ m.prods, x.Ok) := by obtain ⟨_, _, _, _, h, _⟩ := h2; exact h
  have HO3 : Hid (∀ x ∈ ct.tops, x.Ok) := by obtain ⟨⟨_, _, _, _, h, _⟩, _⟩ := h3; exact h
  obtain ⟨wa, hwa⟩ : ∃ u, W.alloc (m.obj vs vp) = u := ⟨_, rfl⟩
  obtain ⟨W0, hW0⟩ : ∃ u, wa.alloc (.cells #[.int .i64 ct.nid, v] 28) = u := ⟨_, rfl⟩
  have hsa : wa.heap.size = W.heap.size + 1 := by rw [← hwa]; simp
  have hs0 : W0.heap.size = W.heap.size + 1 + 1 := by rw [← hW0]; simp [hsa]
  have HBA : Hid (Below W.heap.size W wa) := by rw [← hwa]; exact (Below.refl _ _).alloc (Nat.le_refl _) _
  have HBW : Hid (Below W.heap.size W W0) := by rw [← hW0]; exact below_step HBA.out ((Below.refl _ _).alloc (Nat.le_refl _) _)
  have HMC : Hid (∀ u, Below W0.heap.size W0 u → MC u W.heap.size m vs vp ∧ CC u (W.heap.size + 1) ct.nid v) := fun u hu => by
    have ha : MC wa W.heap.size m vs vp := by rw [← hwa]; exact MC.made _ _ _ _
    have hb : CC W0 (W.heap.size + 1) ct.nid v := by rw [← hW0, ← hsa]; exact CC.made _ _ _
    refine ⟨ha.block ((hu.block _ (by omega)).trans ?_), hb.block (hu.block _ (by omega))⟩
    rw [← hW0]; exact heap_alloc_old _ _ (by omega)
  have h1' := h1.later HBW.out
  have h2' := h2.later HBW.out
  have h3' := h3.later HBW.out
  have H1 : Hid (∀ u, Below W0.heap.size W0 u → IntsAt u vs m.segs) := fun u hu => h1'.later hu
  have H2 : Hid (∀ u, Below W0.heap.size W0 u → PrsAt u vp m.prods) := fun u hu => h2'.later hu
  have H3 : Hid (∀ u, Below W0.heap.size W0 u → TesIn u v ct.tops) := fun u hu => h3'.later hu
  have HBK : Hid (∀ (g1 c1 g2 c2 : Nat) (l1 : List Int) (l2 : List Pr) (w : World), Mv w w g1 c1 g2 c2 m.segs.length m.prods.length l1 l2 → Below W0.heap.size W0 w → W0.heap.size ≤ g1 → W0.heap.size ≤ g2 → Calls Try.prog 9 #[m.agg (.slice (some ⟨g1, 0, none⟩) m.segs.length c1) (.slice (some ⟨g2, 0, none⟩) m.prods.length c2), m.agg vs vp] w fun e w' => e = .returned (.tuple #[]) ∧ Mv w w' g1 c1 g2 c2 m.segs.length m.prods.length (m.segs ++ [-77]) (m.prods ++ [markP])) := fun g1 c1 g2 c2 l1 l2 w a b c d => backOf m g1 c1 g2 c2 l1 l2 vs vp W0 w a b c d h1' h2'
  have HBC : Hid (∀ (g c : Nat) (l : List Te) (w : World), Cv w w g c ct.tops.length l → Below W0.heap.size W0 w → W0.heap.size ≤ g → Calls Try.prog 12 #[ct.agg (.slice (some ⟨g, 0, none⟩) ct.tops.length c), ct.agg v] w fun e w' => e = .returned (.tuple #[]) ∧ Cv w w' g c ct.tops.length (ct.tops ++ [markT])) := fun g c l w a b d => backCatOf ct g c l v W0 w a b d h3'.1
  have HCP : Hid (Calls Try.prog 5 #[m.agg vs vp] W0 fun e w' => ∃ g1 c1 g2 c2, e = .returned (m.agg (.slice (some ⟨g1, 0, none⟩) m.segs.length c1) (.slice (some ⟨g2, 0, none⟩) m.prods.length c2)) ∧ ManW w' g1 c1 g2 c2 (m.segs ++ [-77]) (m.prods ++ [markP]) ∧ W0.heap.size ≤ g1 ∧ W0.heap.size ≤ g2 ∧ Below W0.heap.size W0 w') := copiedOf m vs vp W0 h1' h2'
  have HNM : Hid (∀ u, Calls Try.prog 15 #[.string nm] u fun e w' => e = .returned (.int .i64 (nameA nm)) ∧ Below u.heap.size u w') := fun u => nameOkOf nm u hnm
  have HRN : Hid (∀ u, Calls Try.prog 16 #[.string nm] u fun e w' => e = .returned (.int .i64 (nameA nm)) ∧ w' = u) := fun u => rnameOkOf nm u hnm
  obtain ⟨a1, k1, rfl⟩ : ∃ a c, vs = .slice a m.segs.length c := by obtain ⟨a, c, e, _⟩ := h1; exact ⟨a, c, e⟩
  obtain ⟨a2, k2, rfl⟩ : ∃ a c, vp = .slice a m.prods.length c := by obtain ⟨a, c, e, _⟩ := h2; exact ⟨a, c, e⟩
  obtain ⟨a3, k3, rfl⟩ : ∃ a c, v = .slice a ct.tops.length c := by obtain ⟨a, c, e, _⟩ := h3.1; exact ⟨a, c, e⟩
  clear h1 h2 h3 h1' h2' h3'
  obtain ⟨⟨m0, m1, m2, m3, m4, m5, m6, -⟩, ⟨q0, q1, -⟩⟩ := HMC.out W0 (Below.refl _ _)
  go_enter Try.func3, Try.ntmps3
  go_wp2_with fail
  refine HCP.out.mono ?_
  rintro e w1 ⟨g1, c1, g2, c2, rfl, hm1, hg1, hg2, hb1⟩
  obtain ⟨w1a, hw1a⟩ : ∃ u, w1.alloc (m.obj (.slice (some ⟨g1, 0, none⟩) m.segs.length c1) (.slice (some ⟨g2, 0, none⟩) m.prods.length c2)) = u := ⟨_, rfl⟩
  have hs1a : w1a.heap.size = w1.heap.size + 1 := by rw [← hw1a]; simp
  have HBX : Hid (Below w1.heap.size w1 w1a) := by rw [← hw1a]; exact (Below.refl _ _).alloc (Nat.le_refl _) _
  have HM1 : Hid (ManW w1a g1 c1 g2 c2 (m.segs ++ [-77]) (m.prods ++ [markP])) := hm1.later HBX.out
  have HN1 : Hid (MC w1a w1.heap.size m (.slice (some ⟨g1, 0, none⟩) m.segs.length c1) (.slice (some ⟨g2, 0, none⟩) m.prods.length c2)) := by rw [← hw1a]; exact MC.made _ _ _ _
  have HB1 : Hid (Below W0.heap.size W0 w1a) := below_step hb1 HBX.out
  have HGL : Hid (g1 < w1.heap.size ∧ g2 < w1.heap.size ∧ W0.heap.size ≤ g1 ∧ W0.heap.size ≤ g2 ∧ W0.heap.size ≤ w1.heap.size) := ⟨hm1.s.lt, hm1.p.lt, hg1, hg2, hb1.size⟩
  clear hm1 hb1 HCP hg1 hg2 m0 m1 m2 m3 m4 m5 m6 q0 q1
  obtain ⟨⟨m0, m1, m2, m3, m4, m5, m6, -⟩, ⟨q0, q1, -⟩⟩ := HMC.out w1a HB1.out
  go_wp2_with fail
  refine (copiedCatOf ct (.slice a3 ct.tops.length k3) w1a (H3.out w1a HB1.out).1).mono ?_
  rintro e w2 ⟨g3, c3, rfl, hc2, hg3, hb2⟩
  obtain ⟨w2a, hw2a⟩ : ∃ u, w2.alloc (.cells #[.int .i64 ct.nid, .slice (some ⟨g3, 0, none⟩) ct.tops.length c3] 28) = u := ⟨_, rfl⟩
  have HL2 : Hid (LW W0 w2a m ct g1 c1 g2 c2 g3 c3 w1.heap.size w2.heap.size (m.segs ++ [-77]) (m.prods ++ [markP]) (ct.tops ++ [markT])) := by
    have hbx : Below w2.heap.size w2 w2a := by rw [← hw2a]; exact (Below.refl _ _).alloc (Nat.le_refl _) _
    have hbb := below_step hb2 hbx
    obtain ⟨f1, f2, f3, f4, f5⟩ := HGL.out
    have hsz := hb2.size
    have hg3l : g3 < w2.heap.size := OwnTe.lt hc2
    exact ⟨HM1.out.later hbb, hc2.later hbx, HN1.out.block (hbb.block _ HN1.out.lt), by rw [← hw2a]; exact CC.made _ _ _, below_step HB1.out hbb, f3, f4, by omega, by omega, by omega, by omega, by omega, by omega, by omega, by omega, by omega⟩
  clear hc2 hb2 hg3 HM1 HN1 HB1 m0 m1 m2 m3 m4 m5 m6 q0 q1
  obtain ⟨n0, n1, n2, n3, n4, n5, n6, -⟩ := HL2.out.nc
  go_wp2_with fail
  refine (movedOf m g1 c1 g2 c2 m.segs.length m.prods.length _ _ w2a (HL2.out.man.start HO1.out HO2.out) (by omega) (by omega)).mono ?_
  rintro e w3 ⟨rfl, l1', l2', hv3⟩
  have HL3 : Hid (LW W0 w3 m ct g1 c1 g2 c2 g3 c3 w1.heap.size w2.heap.size l1' l2' (ct.tops ++ [markT])) := HL2.out.mv hv3
  have HV3 : Hid (Mv w2a w3 g1 c1 g2 c2 m.segs.length m.prods.length l1' l2') := hv3
  clear hv3 HL2 n0 n1 n2 n3 n4 n5 n6
  have HCK : Hid (Calls Try.prog 7 #[m.agg (.slice (some ⟨g1, 0, none⟩) m.segs.length c1) (.slice (some ⟨g2, 0, none⟩) m.prods.length c2)] w3 fun e w' => (∃ z, e = .returned (.int .i64 z)) ∧ Below w3.heap.size w3 w') := by
    obtain ⟨r1, r2⟩ := HV3.out.reads hl1 hl2
    refine (mcheckOf ⟨m.id, m.nseg, m.next, m.mark, m.clk, l1'.take m.segs.length, l2'.take m.prods.length⟩ _ _ w3 r1 r2).mono ?_
    rintro e w' ⟨rfl, hb⟩
    exact ⟨⟨_, rfl⟩, hb⟩
  go_wp2_with fail
  refine HCK.out.mono ?_
  rintro e w4 ⟨⟨z4, rfl⟩, hb4⟩
  have HV4 : Hid (Mv w4 w4 g1 c1 g2 c2 m.segs.length m.prods.length l1' l2') := HV3.out.again hb4
  have HL4 : Hid (LW W0 w4 m ct g1 c1 g2 c2 g3 c3 w1.heap.size w2.heap.size l1' l2' (ct.tops ++ [markT])) := HL3.out.later hb4
  clear hb4 HV3 HL3 HCK
  obtain ⟨n0, n1, n2, n3, n4, n5, n6, -⟩ := HL4.out.nc
  obtain ⟨⟨m0, m1, m2, m3, m4, m5, m6, -⟩, ⟨q0, q1, -⟩⟩ := HMC.out w4 HL4.out.base
  go_wp2_with fail
  refine (HBK.out g1 c1 g2 c2 l1' l2' w4 HV4.out HL4.out.base HL4.out.e1 HL4.out.e2).mono ?_
  rintro e w5 ⟨rfl, hv5⟩
  have HL5 : Hid (LW W0 w5 m ct g1 c1 g2 c2 g3 c3 w1.heap.size w2.heap.size (m.segs ++ [-77]) (m.prods ++ [markP]) (ct.tops ++ [markT])) := HL4.out.mv hv5
  clear hv5 HV4 HL4 n0 n1 n2 n3 n4 n5 n6 m0 m1 m2 m3 m4 m5 m6 q0 q1
  obtain ⟨d0, d1, -⟩ := HL5.out.dc
  go_wp2_with fail
  refine (movedCatOf ct.nid g3 c3 ct.tops.length _ w5 (HL5.out.cat.start HO3.out) (by omega)).mono ?_
  rintro e w6 ⟨rfl, l3', hv6⟩
  have HV6 : Hid (Cv w5 w6 g3 c3 ct.tops.length l3') := hv6
  have HL6 : Hid (LW W0 w6 m ct g1 c1 g2 c2 g3 c3 w1.heap.size w2.heap.size (m.segs ++ [-77]) (m.prods ++ [markP]) l3') := HL5.out.cv hv6
  clear hv6 HL5 d0 d1
  have HCC : Hid (Calls Try.prog 10 #[ct.agg (.slice (some ⟨g3, 0, none⟩) ct.tops.length c3)] w6 fun e w' => (∃ z, e = .returned (.int .i64 z)) ∧ Below w6.heap.size w6 w') := by
    refine (ccheckOf ⟨ct.nid, l3'.take ct.tops.length⟩ _ w6 (HV6.out.reads hl3)).mono ?_
    rintro e w' ⟨rfl, hb⟩
    exact ⟨⟨_, rfl⟩, hb⟩
  go_wp2_with fail
  refine HCC.out.mono ?_
  rintro e w7 ⟨⟨z7, rfl⟩, hb7⟩
  have HV7 : Hid (Cv w7 w7 g3 c3 ct.tops.length l3') := HV6.out.again hb7
  have HL7 : Hid (LW W0 w7 m ct g1 c1 g2 c2 g3 c3 w1.heap.size w2.heap.size (m.segs ++ [-77]) (m.prods ++ [markP]) l3') := HL6.out.later hb7
  clear hb7 HV6 HL6 HCC
  obtain ⟨d0, d1, -⟩ := HL7.out.dc
  obtain ⟨⟨m0, m1, m2, m3, m4, m5, m6, -⟩, ⟨q0, q1, -⟩⟩ := HMC.out w7 HL7.out.base
  go_wp2_with fail
  refine (HBC.out g3 c3 l3' w7 HV7.out HL7.out.base HL7.out.e3).mono ?_
  rintro e w8 ⟨rfl, hv8⟩
  have HL8 : Hid (LW W0 w8 m ct g1 c1 g2 c2 g3 c3 w1.heap.size w2.heap.size (m.segs ++ [-77]) (m.prods ++ [markP]) (ct.tops ++ [markT])) := HL7.out.cv hv8
  clear hv8 HV7 HL7 d0 d1 m0 m1 m2 m3 m4 m5 m6 q0 q1
  have HR8 : Hid (IntsAt w8 (.slice (some ⟨g1, 0, none⟩) m.segs.length c1) m.segs ∧ PrsAt w8 (.slice (some ⟨g2, 0, none⟩) m.prods.length c2) m.prods) := HL8.out.man.reads hl1 hl2 HO1.out HO2.out
  obtain ⟨n0, n1, n2, n3, n4, n5, n6, -⟩ := HL8.out.nc
  go_wp2_with fail
  refine (mcheckOf m _ _ w8 HR8.out.1 HR8.out.2).mono ?_
  rintro e w9 ⟨rfl, hb9⟩
  have HL9 : Hid (LW W0 w9 m ct g1 c1 g2 c2 g3 c3 w1.heap.size w2.heap.size (m.segs ++ [-77]) (m.prods ++ [markP]) (ct.tops ++ [markT])) := HL8.out.later hb9
  clear hb9 HL8 HR8 n0 n1 n2 n3 n4 n5 n6
  obtain ⟨d0, d1, -⟩ := HL9.out.dc
  go_wp2_with fail
  refine (ccheckOf ct _ w9 (HL9.out.cat.reads hl3 HO3.out)).mono ?_
  rintro e wx ⟨rfl, hbx⟩
  have HLx : Hid (LW W0 wx m ct g1 c1 g2 c2 g3 c3 w1.heap.size w2.heap.size (m.segs ++ [-77]) (m.prods ++ [markP]) (ct.tops ++ [markT])) := HL9.out.later hbx
  clear hbx HL9 d0 d1
  have HRM : Hid (Calls Try.prog 13 #[m.agg (.slice a1 m.segs.length k1) (.slice a2 m.prods.length k2)] wx fun e w' => e = .returned (.int .i64 (ansM m)) ∧ Below wx.heap.size wx w') := rmcheckOf m _ _ wx (H1.out wx HLx.out.base) (H2.out wx HLx.out.base)
  have HRC : Hid (∀ u, Below W0.heap.size W0 u → Calls Try.prog 14 #[ct.agg (.slice a3 ct.tops.length k3)] u fun e w' => e = .returned (.int .i64 (ansC ct)) ∧ Below u.heap.size u w') := fun u hu => rccheckOf ct _ u (H3.out u hu)
  generalize ansM m = A at HRM ⊢
  generalize ansC ct = B at HRC ⊢
  generalize nameA nm = NA at HNM HRN
  obtain ⟨⟨m0, m1, m2, m3, m4, m5, m6, -⟩, ⟨q0, q1, -⟩⟩ := HMC.out wx HLx.out.base
  go_wp2_with fail
  refine HRM.out.mono ?_
  rintro e wb ⟨rfl, hbb⟩
  have HLb : Hid (LW W0 wb m ct g1 c1 g2 c2 g3 c3 w1.heap.size w2.heap.size (m.segs ++ [-77]) (m.prods ++ [markP]) (ct.tops ++ [markT])) := HLx.out.later hbb
  clear hbb HLx HRM m0 m1 m2 m3 m4 m5 m6 q0 q1
  obtain ⟨⟨m0, m1, m2, m3, m4, m5, m6, -⟩, ⟨q0, q1, -⟩⟩ := HMC.out wb HLb.out.base
  go_wp2_with fail
  refine (HRC.out wb HLb.out.base).mono ?_
  rintro e wc ⟨rfl, hbc⟩
  have HLc : Hid (LW W0 wc m ct g1 c1 g2 c2 g3 c3 w1.heap.size w2.heap.size (m.segs ++ [-77]) (m.prods ++ [markP]) (ct.tops ++ [markT])) := HLb.out.later hbc
  clear hbc HLb m0 m1 m2 m3 m4 m5 m6 q0 q1
  go_wp2_with fail
  refine (HNM.out wc).mono ?_
  rintro e wd ⟨rfl, hbd⟩
  have HLd : Hid (LW W0 wd m ct g1 c1 g2 c2 g3 c3 w1.heap.size w2.heap.size (m.segs ++ [-77]) (m.prods ++ [markP]) (ct.tops ++ [markT])) := HLc.out.later hbd
  clear hbd HLc
  go_wp2_with fail
  refine (HRN.out wd).mono ?_
  rintro e we ⟨rfl, rfl⟩
  have HKP : Hid (Calls Try.prog 17 #[m.agg (.slice (some ⟨g1, 0, none⟩) m.segs.length c1) (.slice (some ⟨g2, 0, none⟩) m.prods.length c2), m.agg (.slice a1 m.segs.length k1) (.slice a2 m.prods.length k2)] we fun e w' => e = .returned (.bool true) ∧ Below we.heap.size we w') := keptOf m g1 c1 g2 c2 _ _ we HLd.out.man (H1.out _ HLd.out.base) (H2.out _ HLd.out.base) hl1 hl2
  obtain ⟨n0, n1, n2, n3, n4, n5, n6, -⟩ := HLd.out.nc
  obtain ⟨⟨m0, m1, m2, m3, m4, m5, m6, -⟩, ⟨q0, q1, -⟩⟩ := HMC.out we HLd.out.base
  go_wp2_with fail
  refine HKP.out.mono ?_
  rintro e wf ⟨rfl, hbf⟩
  have HLf : Hid (LW W0 wf m ct g1 c1 g2 c2 g3 c3 w1.heap.size w2.heap.size (m.segs ++ [-77]) (m.prods ++ [markP]) (ct.tops ++ [markT])) := HLd.out.later hbf
  clear hbf HLd HKP n0 n1 n2 n3 n4 n5 n6 m0 m1 m2 m3 m4 m5 m6 q0 q1
  have HKC : Hid (Calls Try.prog 18 #[ct.agg (.slice (some ⟨g3, 0, none⟩) ct.tops.length c3), ct.agg (.slice a3 ct.tops.length k3)] wf fun e w' => e = .returned (.bool true) ∧ Below wf.heap.size wf w') := keptCatOf ct g3 c3 _ wf HLf.out.cat (H3.out _ HLf.out.base).1 hl3
  obtain ⟨d0, d1, -⟩ := HLf.out.dc
  obtain ⟨⟨m0, m1, m2, m3, m4, m5, m6, -⟩, ⟨q0, q1, -⟩⟩ := HMC.out wf HLf.out.base
  go_wp2_with fail
  refine HKC.out.mono ?_
  rintro e wg ⟨rfl, hbg⟩
  have HBg : Hid (Below W.heap.size W wg) := below_step (below_step HBW.out HLf.out.base) hbg
  clear hbg
  go_wp2
  go_ret
  exact ⟨rfl, HBg.out⟩
end Go.Proofs.Ytpeejgnkdoeijaa
