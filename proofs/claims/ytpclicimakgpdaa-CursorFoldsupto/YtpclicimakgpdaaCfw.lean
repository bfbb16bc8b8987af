import Derived.Test.YtpclicimakgpdaaCfs
/-! cursor: the law of folds: its walk. -/
namespace Go.Proofs.Ytpclicimakgpdaa
open Go.RowKit Go.Maps Plain
set_option linter.unusedVariables false
set_option linter.unusedSimpArgs false

/-- What the law has at hand: the pairs and the records of its own. -/
structure FW (W w : World) (va : Value) (ga : Nat) (ps : List Pp) (vl : Value) (gl : Nat) (L : List Rc) : Prop where
  a : OwnPp w va ps (some ga)
  row : OwnR w vl L (some gl)
  ok : ∀ x ∈ L, x.Ok
  i1 : W.heap.size ≤ ga
  l1 : W.heap.size ≤ gl
  ne : gl ≠ ga
  below : Below W.heap.size W w
theorem FW.later {W w w' : World} {va : Value} {ga : Nat} {ps : List Pp} {vl : Value} {gl : Nat} {L : List Rc} (h : FW W w va ga ps vl gl L) (hb : Below w.heap.size w w') : FW W w' va ga ps vl gl L :=
  ⟨h.a.later hb, h.row.later hb, h.ok, h.i1, h.l1, h.ne, h.below.trans (hb.mono h.below.size)⟩
theorem FW.apart {W w w' : World} {va : Value} {ga : Nat} {ps : List Pp} {vl : Value} {gl : Nat} {L : List Rc} (h : FW W w va ga ps vl gl L) {r : Option Nat} (hc : Chg (fun k => r = some k) w w') (h1 : r ≠ some ga) (h2 : r ≠ some gl) (h3 : ∀ g, r = some g → W.heap.size ≤ g) : FW W w' va ga ps vl gl L := by
  have hg : w.grownBy w' r := ⟨hc.os, hc.tape, hc.output, hc.size, fun k hk hn => hc.block k hk (fun e => hn e.symm)⟩
  exact ⟨h.a.kept hg (.inr (Ne.symm h1)), h.row.kept hg (.inr (Ne.symm h2)), h.ok, h.i1, h.l1, h.ne, h.below.trans (hc.below h.below.size h3)⟩
theorem OwnPp.apart {w w' : World} {v : Value} {ps : List Pp} {r q : Option Nat} (h : OwnPp w v ps q) (hc : Chg (fun k => r = some k) w w') (hq : q = none ∨ q ≠ r) : OwnPp w' v ps q :=
  h.kept ⟨hc.os, hc.tape, hc.output, hc.size, fun k hk hn => hc.block k hk (fun e => hn e.symm)⟩ hq
/-- The pair and the record with which the law marks. -/
def mkA : Pp := ⟨⟨#[109, 97, 114, 107]⟩, ⟨#[]⟩, -77, 0⟩
def mkK : Rc := ⟨-78, 0, 0, 0, 0, ⟨#[]⟩, ⟨#[]⟩⟩
set_option maxHeartbeats 8000000 in
set_option maxRecDepth 100000 in
theorem foldsWalk (a0 : Option Addr) (cap0 : Nat) (ps : List Pp) (vr : Value) (rs : List Rc) (W : World) (hps : PpsAt W (.slice a0 ps.length cap0) ps) (hrs : RecsAt W vr rs) (n1 : ps.length ≤ 1048576) (n2 : rs.length ≤ 1048576) :
    Calls Try.prog 3 #[.slice a0 ps.length cap0, vr] W fun e w' => e = .returned (.bool true) ∧ Below W.heap.size W w' := by
  have HPS : Hid (∀ u, Below W.heap.size W u → PpsAt u (.slice a0 ps.length cap0) ps) := fun u hu => hps.later hu
  have HRS : Hid (∀ u, Below W.heap.size W u → RecsAt u vr rs) := fun u hu => hrs.later hu
  have HSR : Hid (∀ u, Below W.heap.size W u → Src Try.prog 7 23 vr rs.length (rcells rs) u) := fun u hu => src_rs (hrs.later hu)
  have HSP : Hid (∀ u, Below W.heap.size W u → Src Try.prog 4 22 (.slice a0 ps.length cap0) ps.length (ppcells ps) u) := fun u hu => src_pps (hps.later hu)
  have HPO : Hid (∀ x ∈ ps, x.Ok) := by obtain ⟨_, _, _, _, h, _⟩ := hps; exact h
  have HRO : Hid (∀ x ∈ rs, x.Ok) := by obtain ⟨_, _, _, _, h, _⟩ := hrs; exact h
  have HFO : Hid (∀ (w : World) (va : Value) (ga : Nat) (vl : Value) (gl : Nat) (L : List Rc), FW W w va ga ps vl gl L → L.length = rs.length → Calls Try.prog 4 #[va, vl] w fun e w' => ∃ z r, e = .returned z ∧ PpNew w w' z (foldP ps L) r) := fun w va ga vl gl L h hL => foldOf _ ps vl L w (h.a.recs (by omega) HPO.out) (h.row.recs (by omega) h.ok) n1 (by omega)
  have HFN : Hid (∀ (w : World) (va : Value) (ga : Nat) (vl : Value) (gl : Nat) (L : List Rc), FW W w va ga ps vl gl L → L.length = rs.length → Calls Try.prog 4 #[.slice none 0 0, vl] w fun e w' => ∃ (z : Value), e = .returned z ∧ Below w.heap.size w w') := fun w va ga vl gl L h hL => by
    refine (foldOf (.slice none 0 0) [] vl L w ⟨none, 0, rfl, by simp, by simp, by simp⟩ (h.row.recs (by omega) h.ok) (by simp) (by omega)).mono ?_
    rintro e w' ⟨z, r, rfl, hf⟩
    exact ⟨z, rfl, hf.below⟩
  have HRF2 : Hid (∀ (w : World) (va : Value) (ga : Nat) (vl : Value) (gl : Nat) (L : List Rc), FW W w va ga ps vl gl L → L.length = rs.length → Calls Try.prog 5 #[va, vl] w fun e w' => ∃ z r, e = .returned z ∧ PpNew w w' z (foldP ps L) r) := fun w va ga vl gl L h hL => rfoldOf _ ps vl L w (h.a.recs (by omega) HPO.out) (h.row.recs (by omega) h.ok) n1 (by omega)
  have HRD : Hid (∀ (w u : World) (z : Value) (L : List Rc) (r : Option Nat), L.length = rs.length → (∀ x ∈ L, x.Ok) → OwnPp u z (foldP ps L) r → PpsAt u z (foldP ps L)) := fun w u z L r hL hO h => h.recs (by have := recsP_len ps L L.length (Nat.le_refl _); show (recsP ps L L.length).length ≤ _; omega) (recsP_ok HPO.out hO _ (Nat.le_refl _))
  have HFL : Hid ((foldP ps rs).length ≤ 4194304) := by have := recsP_len ps rs rs.length (Nat.le_refl _); show (recsP ps rs rs.length).length ≤ _; omega
  obtain ⟨ar, cr, rfl⟩ : ∃ a c, vr = .slice a rs.length c := by obtain ⟨x, y, e, _⟩ := hrs; exact ⟨x, y, e⟩
  clear hps hrs
  go_enter Try.func3, Try.ntmps3
  go_wp2_with (at_builtin; refine wpList_append_anyP _ rfl _ _ rfl _ _ [] ps (some W.heap.size) rfl rfl ?hOwn0 ?hSrc0 ?hLen0 ?_)
  case hOwn0 => exact OwnPp.made1 W
  case hSrc0 => exact HSP.out _ (bel_al _ _)
  case hLen0 => simp; omega
  intro v1 w1 r1 ho1 hg1 hr1
  obtain ⟨ga, rfl⟩ : ∃ ga, r1 = some ga := by
    rcases hr1 with h | h
    · exact ⟨_, h⟩
    · exact ⟨_, h⟩
  have HB1 : Hid (Below W.heap.size W w1) := (bel_al _ _).trans (grow_below hg1 (by simp) (fun g e => by cases e; exact Nat.le_refl _))
  have HRO1 : Hid (OwnPp w1 v1 ps (some ga) ∧ W.heap.size ≤ ga) := by
    refine ⟨by simpa using ho1, ?_⟩
    rcases hr1 with h | h
    · cases h; exact Nat.le_refl _
    · simp at h; omega
  obtain ⟨ca, rfl⟩ : ∃ cl, v1 = .slice (some ⟨ga, 0, none⟩) ps.length cl := by
    rcases HRO1.out.1 with ⟨_, _, h⟩ | ⟨g, c, e, e2, _⟩
    · simp at h
    · cases e; exact ⟨c, e2⟩
  clear ho1 hg1 hr1
  go_wp2_with (at_builtin; refine wpList_append_any _ rfl _ _ rfl _ _ [] rs (some w1.heap.size) rfl rfl ?hOwn ?hSrc ?hLen ?_)
  case hOwn => exact OwnR.made2 w1
  case hSrc => exact HSR.out _ (below_step HB1.out (bel_al _ _))
  case hLen => simp; omega
  intro v2 w2 r2 ho2 hg2 hr2
  obtain ⟨gl, rfl⟩ : ∃ gl, r2 = some gl := by
    rcases hr2 with h | h
    · exact ⟨_, h⟩
    · exact ⟨_, h⟩
  have HW2' : Hid (FW W w2 (.slice (some ⟨ga, 0, none⟩) ps.length ca) ga ps v2 gl rs) := by
    have hs := HB1.out.size
    have hb : Below w1.heap.size w1 w2 := (bel_al _ _).trans (grow_below hg2 (by simp) (fun g e => by cases e; exact Nat.le_refl _))
    have hgi := HRO1.out.1.lt
    have hgl : w1.heap.size ≤ gl := by
      rcases hr2 with h | h
      · cases h; exact Nat.le_refl _
      · simp at h; omega
    refine ⟨HRO1.out.1.later hb, by simpa using ho2, HRO.out, HRO1.out.2, by omega, by omega, below_step HB1.out hb⟩
  obtain ⟨cl, rfl⟩ : ∃ cl, v2 = .slice (some ⟨gl, 0, none⟩) rs.length cl := by
    rcases HW2'.out.row with ⟨_, _, h⟩ | ⟨g, c, e, e2, _⟩
    · simp at h
    · cases e; exact ⟨c, e2⟩
  have HW2 : Hid (FW W w2 (.slice (some ⟨ga, 0, none⟩) ps.length ca) ga ps (.slice (some ⟨gl, 0, none⟩) rs.length cl) gl rs) := HW2'.out
  clear ho2 hg2 hr2 HRO1 HW2'
  have HFG : Hid (∀ u, FW W u (.slice (some ⟨ga, 0, none⟩) ps.length ca) ga ps (.slice (some ⟨gl, 0, none⟩) rs.length cl) gl rs → Calls Try.prog 4 #[.slice (some ⟨ga, 0, none⟩) ps.length ca, .slice (some ⟨gl, 0, none⟩) rs.length cl] u fun e w' => ∃ z r, e = .returned z ∧ PpNew u w' z (foldP ps rs) r) := fun u hu => HFO.out u _ ga _ gl rs hu rfl
  have HKE : Hid (∀ u, FW W u (.slice (some ⟨ga, 0, none⟩) ps.length ca) ga ps (.slice (some ⟨gl, 0, none⟩) rs.length cl) gl rs → Calls Try.prog 6 #[.slice (some ⟨ga, 0, none⟩) ps.length ca, .slice a0 ps.length cap0] u fun e w' => e = .returned (.bool true) ∧ Below u.heap.size u w') := fun u hu => sameB _ _ ps u (hu.a.recs (by omega) HPO.out) (HPS.out u hu.below)
  have HRF : Hid (∀ u, Below W.heap.size W u → Calls Try.prog 5 #[.slice a0 ps.length cap0, .slice ar rs.length cr] u fun e w' => ∃ z r, e = .returned z ∧ PpNew u w' z (foldP ps rs) r) := fun u hu => rfoldOf _ ps _ rs u (HPS.out u hu) (HRS.out u hu) n1 n2
  have HSM : Hid (∀ (u : World) (x y : Value) (r q : Option Nat), OwnPp u x (foldP ps rs) r → OwnPp u y (foldP ps rs) q → Calls Try.prog 6 #[x, y] u fun e w' => e = .returned (.bool true) ∧ Below u.heap.size u w') := fun u x y r q hx hy => sameB x y _ u (HRD.out u u x rs r rfl HRO.out hx) (HRD.out u u y rs q rfl HRO.out hy)
  go_wp2_with fail
  refine (HFG.out w2 HW2.out).mono ?_
  rintro e w3 ⟨z3, r3, rfl, hf3⟩
  have HW3 : Hid (FW W w3 (.slice (some ⟨ga, 0, none⟩) ps.length ca) ga ps (.slice (some ⟨gl, 0, none⟩) rs.length cl) gl rs) := HW2.out.later hf3.below
  have HO3 : Hid (OwnPp w3 z3 (foldP ps rs) r3 ∧ ∀ g, r3 = some g → w2.heap.size ≤ g) := ⟨hf3.row, hf3.new⟩
  clear hf3
  go_wp2_with fail
  refine (HRF.out w3 HW3.out.below).mono ?_
  rintro e w4 ⟨z4, r4, rfl, hf4⟩
  have HW4 : Hid (FW W w4 (.slice (some ⟨ga, 0, none⟩) ps.length ca) ga ps (.slice (some ⟨gl, 0, none⟩) rs.length cl) gl rs) := HW3.out.later hf4.below
  have HO4 : Hid (OwnPp w4 z3 (foldP ps rs) r3 ∧ OwnPp w4 z4 (foldP ps rs) r4 ∧ (∀ g, r4 = some g → w3.heap.size ≤ g)) := ⟨HO3.out.1.later hf4.below, hf4.row, hf4.new⟩
  have HS34 : Hid (w3.heap.size ≤ w4.heap.size) := hf4.below.size
  clear hf4
  have HR3 : Hid (∀ g, r3 = some g → w2.heap.size ≤ g ∧ g < w3.heap.size) := fun g e => ⟨HO3.out.2 g e, by have := HO3.out.1; rw [e] at this; exact this.lt⟩
  clear HO3
  obtain ⟨x3, c3, rfl⟩ : ∃ x c, z3 = .slice x (foldP ps rs).length c := by obtain ⟨x, y, e, _⟩ := HO4.out.1.shape; exact ⟨x, y, e⟩
  obtain ⟨x4, c4, rfl⟩ : ∃ x c, z4 = .slice x (foldP ps rs).length c := by obtain ⟨x, y, e, _⟩ := HO4.out.2.1.shape; exact ⟨x, y, e⟩
  go_wp2_with fail
  refine (HSM.out w4 _ _ _ _ HO4.out.1 HO4.out.2.1).mono ?_
  rintro e w5 ⟨rfl, hb5⟩
  have HB5 : Hid (Below w4.heap.size w4 w5) := hb5
  have HW5 : Hid (FW W w5 (.slice (some ⟨ga, 0, none⟩) ps.length ca) ga ps (.slice (some ⟨gl, 0, none⟩) rs.length cl) gl rs) := HW4.out.later hb5
  clear hb5
  go_wp2_with fail
  refine (HKE.out w5 HW5.out).mono ?_
  rintro e w6 ⟨rfl, hb6⟩
  have HB6 : Hid (Below w4.heap.size w4 w6) := below_step HB5.out hb6
  have HW6 : Hid (FW W w6 (.slice (some ⟨ga, 0, none⟩) ps.length ca) ga ps (.slice (some ⟨gl, 0, none⟩) rs.length cl) gl rs) := HW5.out.later hb6
  clear hb6
  go_wp2_with fail
  refine (sameRecsOf _ _ rs w6 (HW6.out.row.recs (by omega) HRO.out) (HRS.out w6 HW6.out.below)).mono ?_
  rintro e w7 ⟨rfl, n7, hw7⟩
  have HB7 : Hid (Below w4.heap.size w4 w7) := below_step HB6.out (by rw [hw7]; exact drewN_bel _ _)
  have HW7 : Hid (FW W w7 (.slice (some ⟨ga, 0, none⟩) ps.length ca) ga ps (.slice (some ⟨gl, 0, none⟩) rs.length cl) gl rs) := HW6.out.later (by rw [hw7]; exact drewN_bel _ _)
  clear hw7
  go_wp2_with fail
  refine (HFG.out w7 HW7.out).mono ?_
  rintro e w8 ⟨z8, r8, rfl, hf8⟩
  have HB8 : Hid (Below w4.heap.size w4 w8) := below_step HB7.out hf8.below
  have HW8 : Hid (FW W w8 (.slice (some ⟨ga, 0, none⟩) ps.length ca) ga ps (.slice (some ⟨gl, 0, none⟩) rs.length cl) gl rs) := HW7.out.later hf8.below
  have HO8 : Hid (OwnPp w8 z8 (foldP ps rs) r8 ∧ ∀ g, r8 = some g → w7.heap.size ≤ g) := ⟨hf8.row, hf8.new⟩
  obtain ⟨x8, c8, rfl⟩ : ∃ x c, z8 = .slice x (foldP ps rs).length c := by obtain ⟨x, y, e, _⟩ := hf8.row.shape; exact ⟨x, y, e⟩
  clear hf8
  go_wp2_with fail
  refine (HFN.out w8 _ ga _ gl rs HW8.out rfl).mono ?_
  rintro e w9 ⟨z9, rfl, hb9⟩
  have HB9 : Hid (Below w4.heap.size w4 w9) := below_step HB8.out hb9
  have HW9 : Hid (FW W w9 (.slice (some ⟨ga, 0, none⟩) ps.length ca) ga ps (.slice (some ⟨gl, 0, none⟩) rs.length cl) gl rs) := HW8.out.later hb9
  have HO9 : Hid (OwnPp w9 (.slice x8 (foldP ps rs).length c8) (foldP ps rs) r8) := HO8.out.1.later hb9
  clear hb9
  go_wp2_with fail
  refine (HSM.out w9 _ _ _ _ (HO4.out.1.later HB9.out) (HO4.out.2.1.later HB9.out)).mono ?_
  rintro e wa ⟨rfl, hba⟩
  have HBa : Hid (Below w9.heap.size w9 wa) := hba
  clear hba
  go_wp2_with fail
  refine (HSM.out wa _ _ _ _ (HO9.out.later HBa.out) ((HO4.out.2.1.later HB9.out).later HBa.out)).mono ?_
  rintro e wb ⟨rfl, hbb⟩
  have HBb : Hid (Below w9.heap.size w9 wb) := below_step HBa.out hbb
  have HWb : Hid (FW W wb (.slice (some ⟨ga, 0, none⟩) ps.length ca) ga ps (.slice (some ⟨gl, 0, none⟩) rs.length cl) gl rs) := (HW9.out.later HBa.out).later hbb
  have HOb : Hid (OwnPp wb (.slice x3 (foldP ps rs).length c3) (foldP ps rs) r3 ∧ OwnPp wb (.slice x4 (foldP ps rs).length c4) (foldP ps rs) r4 ∧ OwnPp wb (.slice x8 (foldP ps rs).length c8) (foldP ps rs) r8) := ⟨(HO4.out.1.later HB9.out).later HBb.out, (HO4.out.2.1.later HB9.out).later HBb.out, HO9.out.later HBb.out⟩
  clear hbb
  have HNE : Hid (r3 ≠ some ga ∧ r3 ≠ some gl ∧ (∀ g, r3 = some g → W.heap.size ≤ g) ∧ (r4 = none ∨ r4 ≠ r3) ∧ (r8 = none ∨ r8 ≠ r3)) := by
    have s1 := HW2.out.below.size
    have s2 := HW2.out.a.lt
    have s3 := HW2.out.row.lt
    have s7 := HB7.out.size
    have s34 := HS34.out
    refine ⟨fun e => ?_, fun e => ?_, fun g e => ?_, ?_, ?_⟩
    · have := HR3.out ga e; omega
    · have := HR3.out gl e; omega
    · have := HR3.out g e; omega
    · cases r4 with
      | none => exact .inl rfl
      | some g => exact .inr fun e => by have h1 := HR3.out g e.symm; have h2 := HO4.out.2.2 g rfl; omega
    · cases r8 with
      | none => exact .inl rfl
      | some g => exact .inr fun e => by have h1 := HR3.out g e.symm; have h2 := HO8.out.2 g rfl; omega
  go_wp2_with fail
  refine (spoilOf _ (foldP ps rs) r3 wb HOb.out.1 HFL.out).mono ?_
  rintro e wc ⟨rfl, hcc⟩
  have HWc : Hid (FW W wc (.slice (some ⟨ga, 0, none⟩) ps.length ca) ga ps (.slice (some ⟨gl, 0, none⟩) rs.length cl) gl rs) := HWb.out.apart hcc HNE.out.1 HNE.out.2.1 HNE.out.2.2.1
  have HOc : Hid (OwnPp wc (.slice x4 (foldP ps rs).length c4) (foldP ps rs) r4 ∧ OwnPp wc (.slice x8 (foldP ps rs).length c8) (foldP ps rs) r8) := ⟨OwnPp.apart HOb.out.2.1 hcc HNE.out.2.2.2.1, OwnPp.apart HOb.out.2.2 hcc HNE.out.2.2.2.2⟩
  clear hcc HNE HOb HWb HBb HBa HO9 HW9 HB9 HO8 HW8 HB8 HW7 HB7 HW6 HB6 HW5 HB5 HO4 HW4 HW3 HS34 HR3
  go_wp2_with fail
  refine (HSM.out wc _ _ _ _ HOc.out.2 HOc.out.1).mono ?_
  rintro e wd ⟨rfl, hbd⟩
  have HWd : Hid (FW W wd (.slice (some ⟨ga, 0, none⟩) ps.length ca) ga ps (.slice (some ⟨gl, 0, none⟩) rs.length cl) gl rs) := HWc.out.later hbd
  have HOd : Hid (OwnPp wd (.slice x4 (foldP ps rs).length c4) (foldP ps rs) r4) := HOc.out.1.later hbd
  clear hbd HOc HWc
  go_wp2_with fail
  refine (HFG.out wd HWd.out).mono ?_
  rintro e we ⟨ze, re, rfl, hfe⟩
  have HWe : Hid (FW W we (.slice (some ⟨ga, 0, none⟩) ps.length ca) ga ps (.slice (some ⟨gl, 0, none⟩) rs.length cl) gl rs) := HWd.out.later hfe.below
  have HOe : Hid (OwnPp we ze (foldP ps rs) re ∧ OwnPp we (.slice x4 (foldP ps rs).length c4) (foldP ps rs) r4) := ⟨hfe.row, HOd.out.later hfe.below⟩
  obtain ⟨xd, cd, rfl⟩ : ∃ x c, ze = .slice x (foldP ps rs).length c := by obtain ⟨x, y, e, _⟩ := hfe.row.shape; exact ⟨x, y, e⟩
  clear hfe HOd HWd
  go_wp2_with fail
  refine (HSM.out we _ _ _ _ HOe.out.1 HOe.out.2).mono ?_
  rintro e wf ⟨rfl, hbf⟩
  have HWf : Hid (FW W wf (.slice (some ⟨ga, 0, none⟩) ps.length ca) ga ps (.slice (some ⟨gl, 0, none⟩) rs.length cl) gl rs) := HWe.out.later hbf
  clear hbf HOe HWe
  go_wp2_with fail
  refine (HKE.out wf HWf.out).mono ?_
  rintro e wg ⟨rfl, hbg⟩
  have HWg : Hid (FW W wg (.slice (some ⟨ga, 0, none⟩) ps.length ca) ga ps (.slice (some ⟨gl, 0, none⟩) rs.length cl) gl rs) := HWf.out.later hbg
  clear hbg HWf HKE HSM
  go_wp2_with (at_builtin; refine wpList_append_anyP _ rfl _ _ rfl _ _ [] ps (some wg.heap.size) rfl rfl ?hOwnc ?hSrcc ?hLenc ?_)
  case hOwnc => exact OwnPp.made1 wg
  case hSrcc => exact HSP.out _ (below_step HWg.out.below (bel_al _ _))
  case hLenc => simp; omega
  intro vam wah ram hom hgm hrm
  obtain ⟨gam, rfl⟩ : ∃ gl, ram = some gl := by
    rcases hrm with h | h
    · exact ⟨_, h⟩
    · exact ⟨_, h⟩
  have HBh : Hid (Below wg.heap.size wg wah) := (bel_al _ _).trans (grow_below hgm (by simp) (fun g e => by cases e; exact Nat.le_refl _))
  have HMh : Hid (OwnPp wah vam ps (some gam) ∧ wg.heap.size ≤ gam) := by
    refine ⟨by simpa using hom, ?_⟩
    rcases hrm with h | h
    · cases h; exact Nat.le_refl _
    · simp at h; omega
  obtain ⟨cam, rfl⟩ : ∃ cl, vam = .slice (some ⟨gam, 0, none⟩) ps.length cl := by
    rcases HMh.out.1 with ⟨_, _, h⟩ | ⟨g, c, e, e2, _⟩
    · simp at h
    · cases e; exact ⟨c, e2⟩
  clear hom hgm hrm
  go_wp2_with (at_builtin; refine wpList_append_anyP _ rfl _ _ rfl _ _ ps [mkA] (some gam) rfl rfl ?hOwnd ?hSrcd ?hLend ?_)
  case hOwnd => exact HMh.out.1.later (bel_al _ _)
  case hSrcd => exact src_pp wah mkA
  case hLend => simp; omega
  intro van wi ran hon hgn hrn
  obtain ⟨gan, rfl⟩ : ∃ gl, ran = some gl := by
    rcases hrn with h | h
    · exact ⟨_, h⟩
    · exact ⟨_, h⟩
  have hgm' := HMh.out.2
  have hszh := HBh.out.size
  have HBi : Hid (Below wg.heap.size wg wi) := (below_step HBh.out (bel_al _ _)).trans (grow_below hgn (by simp; omega) (fun g e => by cases e; exact hgm'))
  have HWi : Hid (FW W wi (.slice (some ⟨ga, 0, none⟩) ps.length ca) ga ps (.slice (some ⟨gl, 0, none⟩) rs.length cl) gl rs) := HWg.out.later HBi.out
  have hlenna : (ps ++ [mkA]).length = ps.length + 1 := by simp
  obtain ⟨can, rfl⟩ : ∃ cl, van = .slice (some ⟨gan, 0, none⟩) (ps.length + 1) cl := by
    rcases hon with ⟨_, _, h⟩ | ⟨g, c, e, e2, _⟩
    · simp at h
    · cases e; rw [hlenna] at e2; exact ⟨c, e2⟩
  have hcna : ps.length + 1 ≤ can ∧ can ≤ maxLen := by
    obtain ⟨a', c', e, h1, h2⟩ := hon.shape
    simp at e
    simp at h2
    omega
  unfold maxLen at hcna
  have HROWa : Hid (OwnPp wi (.slice (some ⟨gan, 0, none⟩) (ps.length + 1) can) (ps ++ [mkA]) (some gan)) := hon
  clear hon hgn hrn hgm' hszh HMh HBh
  go_wp2_with (at_builtin; refine wpList_append_any _ rfl _ _ rfl _ _ [] rs (some wi.heap.size) rfl rfl ?hOwnc ?hSrcc ?hLenc ?_)
  case hOwnc => exact OwnR.made2 wi
  case hSrcc => exact HSR.out _ (below_step HWi.out.below (bel_al _ _))
  case hLenc => simp; omega
  intro vbm wbh rbm hom hgm hrm
  obtain ⟨gbm, rfl⟩ : ∃ gl, rbm = some gl := by
    rcases hrm with h | h
    · exact ⟨_, h⟩
    · exact ⟨_, h⟩
  have HBh : Hid (Below wi.heap.size wi wbh) := (bel_al _ _).trans (grow_below hgm (by simp) (fun g e => by cases e; exact Nat.le_refl _))
  have HMh : Hid (OwnR wbh vbm rs (some gbm) ∧ wi.heap.size ≤ gbm) := by
    refine ⟨by simpa using hom, ?_⟩
    rcases hrm with h | h
    · cases h; exact Nat.le_refl _
    · simp at h; omega
  obtain ⟨cbm, rfl⟩ : ∃ cl, vbm = .slice (some ⟨gbm, 0, none⟩) rs.length cl := by
    rcases HMh.out.1 with ⟨_, _, h⟩ | ⟨g, c, e, e2, _⟩
    · simp at h
    · cases e; exact ⟨c, e2⟩
  clear hom hgm hrm
  go_wp2_with (at_builtin; refine wpList_append_any _ rfl _ _ rfl _ _ rs [mkK] (some gbm) rfl rfl ?hOwnd ?hSrcd ?hLend ?_)
  case hOwnd => exact HMh.out.1.later (bel_al _ _)
  case hSrcd => exact src_rc wbh mkK
  case hLend => simp; omega
  intro vbn wj rbn hon hgn hrn
  obtain ⟨gbn, rfl⟩ : ∃ gl, rbn = some gl := by
    rcases hrn with h | h
    · exact ⟨_, h⟩
    · exact ⟨_, h⟩
  have hgm' := HMh.out.2
  have hszh := HBh.out.size
  have HBj : Hid (Below wi.heap.size wi wj) := (below_step HBh.out (bel_al _ _)).trans (grow_below hgn (by simp; omega) (fun g e => by cases e; exact hgm'))
  have HWj : Hid (FW W wj (.slice (some ⟨ga, 0, none⟩) ps.length ca) ga ps (.slice (some ⟨gl, 0, none⟩) rs.length cl) gl rs) := HWi.out.later HBj.out
  have hlennb : (rs ++ [mkK]).length = rs.length + 1 := by simp
  obtain ⟨cbn, rfl⟩ : ∃ cl, vbn = .slice (some ⟨gbn, 0, none⟩) (rs.length + 1) cl := by
    rcases hon with ⟨_, _, h⟩ | ⟨g, c, e, e2, _⟩
    · simp at h
    · cases e; rw [hlennb] at e2; exact ⟨c, e2⟩
  have hcnb : rs.length + 1 ≤ cbn ∧ cbn ≤ maxLen := by
    obtain ⟨a', c', e, h1, h2⟩ := hon.shape
    simp at e
    simp at h2
    omega
  unfold maxLen at hcnb
  have HROWb : Hid (OwnR wj (.slice (some ⟨gbn, 0, none⟩) (rs.length + 1) cbn) (rs ++ [mkK]) (some gbn)) := hon
  clear hon hgn hrn hgm' hszh HMh HBh
  have HRa : Hid (OwnPp wj (.slice (some ⟨gan, 0, none⟩) (ps.length + 1) can) (ps ++ [mkA]) (some gan)) := HROWa.out.later HBj.out
  have HPA : Hid (PpsAt wj (.slice (some ⟨gan, 0, none⟩) ps.length can) ps) := by
    refine ⟨_, can, rfl, by omega, HPO.out, fun _ => ⟨gan, 0, rfl, fun j hj => ?_⟩⟩
    have := HRa.out.at (j := j) (by simp; omega)
    have e : (ps ++ [mkA]).getD j Pp.zero = ps.getD j Pp.zero := by simp [List.getElem?_append_left hj]
    rw [e] at this
    rw [Nat.zero_add]
    exact this
  have HPB : Hid (RecsAt wj (.slice (some ⟨gbn, 0, none⟩) rs.length cbn) rs) := by
    refine ⟨_, cbn, rfl, by omega, HRO.out, fun _ => ⟨gbn, 0, rfl, fun j hj => ?_⟩⟩
    have := HROWb.out.at (j := j) (by simp; omega)
    have e : (rs ++ [mkK]).getD j Rc.none = rs.getD j Rc.none := by simp [List.getElem?_append_left hj]
    rw [e] at this
    rw [Nat.zero_add]
    exact this
  have hma : wj.cell? ⟨gan, ps.length * 4 + 2, none⟩ = some (.int .i64 (-77)) := by
    have := (HRa.out.at (j := ps.length) (by simp)).c2
    rw [this]; simp [mkA]
  have hmb : wj.cell? ⟨gbn, rs.length * 7, none⟩ = some (.int .i64 (-78)) := by
    have := (HROWb.out.at (j := rs.length) (by simp)).c0
    rw [this]; simp [mkK]
  have HMK : Hid (∀ u, Below wj.heap.size wj u → u.cell? ⟨gan, ps.length * 4 + 2, none⟩ = some (.int .i64 (-77)) ∧ u.cell? ⟨gbn, rs.length * 7, none⟩ = some (.int .i64 (-78))) := fun u hu => ⟨(hu.cell (p := ⟨gan, _, none⟩) (cell_lt hma)).trans hma, (hu.cell (p := ⟨gbn, _, none⟩) (cell_lt hmb)).trans hmb⟩
  have HFP : Hid (∀ u, Below wj.heap.size wj u → Calls Try.prog 4 #[.slice (some ⟨gan, 0, none⟩) ps.length can, .slice (some ⟨gbn, 0, none⟩) rs.length cbn] u fun e w' => ∃ (z : Value), e = .returned z ∧ Below u.heap.size u w') := fun u hu => by
    refine (foldOf _ ps _ rs u (HPA.out.later hu) (HPB.out.later hu) n1 n2).mono ?_
    rintro e w' ⟨z, r, rfl, hf⟩
    exact ⟨z, rfl, hf.below⟩
  clear HRa HROWa HROWb HPA HPB hma hmb HWg HWi HBi HBj
  have hia : (ps.length : Int) < (ps.length : Int) + 1 := by omega
  have hib : (rs.length : Int) < (rs.length : Int) + 1 := by omega
  go_wp2_with fail
  go_region_with (
    (go_at_call 4
     refine (HFP.out _ (Below.drew (Below.refl _ _))).mono ?_
     rintro e wk ⟨zk, rfl, hbk'⟩
     have hbk : Below wj.heap.size wj wk := Below.trans (Below.drew (Below.refl _ _)) hbk'
     have HWk : Hid (FW W wk (.slice (some ⟨ga, 0, none⟩) ps.length ca) ga ps (.slice (some ⟨gl, 0, none⟩) rs.length cl) gl rs) := HWj.out.later hbk
     obtain ⟨hka, hkb⟩ := HMK.out wk hbk
     clear hbk hbk'))
  all_goals
    clear HFP HMK HWj
    go_wp2
    go_loopw [13] (fun i wr => ∃ (k : Nat) (L : List Rc), k ≤ rs.length ∧ i = .int .i64 k ∧ L.length = rs.length ∧ Hid (FW W wr (.slice (some ⟨ga, 0, none⟩) ps.length ca) ga ps (.slice (some ⟨gl, 0, none⟩) rs.length cl) gl L))
      (fun i _ => rs.length - (intOf i).toNat)
    case atStart => exact ⟨0, rs, Nat.zero_le _, rfl, rfl, HWk.out⟩
    case round =>
      clear HWk
      obtain ⟨k, L, hk, rfl, hL, HFW⟩ := hrel
      have hq2 : Int.tdiv (rs.length : Int) 2 = ((rs.length / 2 : Nat) : Int) := by
        rw [Int.tdiv_eq_ediv_of_nonneg (by omega)]
        omega
      by_cases hlt : k < rs.length / 2
      · have hlti : (k : Int) < ((rs.length / 2 : Nat) : Int) := by omega
        obtain ⟨j, hj⟩ : ∃ j : Nat, j = rs.length - 1 - k := ⟨_, rfl⟩
        have hjl : (j : Int) < (rs.length : Int) := by omega
        have hkl : (k : Int) < (rs.length : Int) := by omega
        have hcx := HFW.out.row.at (j := k) (by omega)
        have hcy := HFW.out.row.at (j := j) (by omega)
        have hox := HFW.out.ok (L.getD k Rc.none) (by simp [show k < L.length by omega])
        have hoy := HFW.out.ok (L.getD j Rc.none) (by simp [show j < L.length by omega])
        generalize L.getD k Rc.none = x at hcx hox
        generalize L.getD j Rc.none = y at hcy hoy
        have hgl := HFW.out.row.lt
        obtain ⟨wA, hwA⟩ : ∃ wA, wr.alloc (.cells #[.int .i64 x.k, .int .i64 x.o, .int .i64 x.t, .int .i64 x.p, .int .i64 x.q, .string x.key, .string x.val] 31) = wA := ⟨_, rfl⟩
        have hbA : Below wr.heap.size wr wA := by rw [← hwA]; exact bel_al _ _
        have hFA := HFW.out.later hbA
        have hxA : CellsAt wA wr.heap.size 0 x := by
          rw [← hwA]
          exact ⟨World.cell?_alloc_at _ _ _ _ rfl, World.cell?_alloc_at _ _ _ _ rfl, World.cell?_alloc_at _ _ _ _ rfl, World.cell?_alloc_at _ _ _ _ rfl, World.cell?_alloc_at _ _ _ _ rfl, World.cell?_alloc_at _ _ _ _ rfl, World.cell?_alloc_at _ _ _ _ rfl⟩
        have hyA : CellsAt wA gl (j * 7) y := hcy.block (hbA.block _ hgl)
        have hkA : CellsAt wA gl (k * 7) x := hcx.block (hbA.block _ hgl)
        have fA : ∀ i, i < 7 * rs.length → wA.frozen? ⟨gl, i, none⟩ = false := fun i hi => hFA.row.fz (by omega)
        obtain ⟨wB, hwB⟩ : ∃ wB, (((((((wA.setCell ⟨gl, k * 7, none⟩ (.int .i64 y.k)).setCell ⟨gl, k * 7 + 1, none⟩ (.int .i64 y.o)).setCell ⟨gl, k * 7 + 2, none⟩ (.int .i64 y.t)).setCell ⟨gl, k * 7 + 3, none⟩ (.int .i64 y.p)).setCell ⟨gl, k * 7 + 4, none⟩ (.int .i64 y.q)).setCell ⟨gl, k * 7 + 5, none⟩ (.string y.key)).setCell ⟨gl, k * 7 + 6, none⟩ (.string y.val)) = wB := ⟨_, rfl⟩
        have hsB : wA.setCells gl (k * 7) y.cells = wB := by rw [← hwB]; exact (seven_set wA gl (k * 7) y).symm
        have gB : wA.grownBy wB (some gl) := by rw [← hsB]; exact grow_setCells _ _ _ _
        have hRB : OwnR wB (.slice (some ⟨gl, 0, none⟩) rs.length cl) (L.set k y) (some gl) := by rw [← hsB]; exact hFA.row.setR y (by omega)
        have hne : wr.heap.size ≠ gl := by omega
        have hsA : wr.heap.size < wA.heap.size := by rw [← hwA]; simp
        have hxB : CellsAt wB wr.heap.size 0 x := hxA.block (gB.block _ hsA (fun e => hne (by injection e)))
        have fB : ∀ i, i < 7 * rs.length → wB.frozen? ⟨gl, i, none⟩ = false := fun i hi => hRB.fz (by simp; omega)
        have hjB : ∃ z, CellsAt wB gl (j * 7) z := ⟨_, hRB.at (j := j) (by simp; omega)⟩
        obtain ⟨zz, hjB⟩ := hjB
        obtain ⟨wC, hwC⟩ : ∃ wC, (((((((wB.setCell ⟨gl, j * 7, none⟩ (.int .i64 x.k)).setCell ⟨gl, j * 7 + 1, none⟩ (.int .i64 x.o)).setCell ⟨gl, j * 7 + 2, none⟩ (.int .i64 x.t)).setCell ⟨gl, j * 7 + 3, none⟩ (.int .i64 x.p)).setCell ⟨gl, j * 7 + 4, none⟩ (.int .i64 x.q)).setCell ⟨gl, j * 7 + 5, none⟩ (.string x.key)).setCell ⟨gl, j * 7 + 6, none⟩ (.string x.val)) = wC := ⟨_, rfl⟩
        have hsC : wB.setCells gl (j * 7) x.cells = wC := by rw [← hwC]; exact (seven_set wB gl (j * 7) x).symm
        have HN : Hid (FW W wC (.slice (some ⟨ga, 0, none⟩) ps.length ca) ga ps (.slice (some ⟨gl, 0, none⟩) rs.length cl) gl ((L.set k y).set j x)) := by
          have gC : wB.grownBy wC (some gl) := by rw [← hsC]; exact grow_setCells _ _ _ _
          have hgg : gl ≠ ga := hFA.ne
          refine ⟨(hFA.a.kept gB (.inr (fun e => hgg (by injection e with e; exact e.symm)))).kept gC (.inr (fun e => hgg (by injection e with e; exact e.symm))), by rw [← hsC]; exact hRB.setR x (by simp; omega), ?_, hFA.i1, hFA.l1, hFA.ne, (hFA.below.trans (grow_below gB hFA.below.size (fun g e => by cases e; exact hFA.l1))).trans (grow_below gC (Nat.le_trans hFA.below.size gB.size) (fun g e => by cases e; exact hFA.l1))⟩
          intro q hq
          rcases List.mem_or_eq_of_mem_set hq with hq | rfl
          · rcases List.mem_or_eq_of_mem_set hq with hq | rfl
            · exact hFA.ok q hq
            · exact hoy
          · exact hox
        have k0 := fA (k * 7) (by omega)
        have k1 := fA (k * 7 + 1) (by omega)
        have k2 := fA (k * 7 + 2) (by omega)
        have k3 := fA (k * 7 + 3) (by omega)
        have k4 := fA (k * 7 + 4) (by omega)
        have k5 := fA (k * 7 + 5) (by omega)
        have k6 := fA (k * 7 + 6) (by omega)
        have l0 := fB (j * 7) (by omega)
        have l1 := fB (j * 7 + 1) (by omega)
        have l2 := fB (j * 7 + 2) (by omega)
        have l3 := fB (j * 7 + 3) (by omega)
        have l4 := fB (j * 7 + 4) (by omega)
        have l5 := fB (j * 7 + 5) (by omega)
        have l6 := fB (j * 7 + 6) (by omega)
        have hLs : ((L.set k y).set j x).length = rs.length := by simp; omega
        generalize (L.set k y).set j x = L2 at HN hLs
        subst hj
        clear hcy hFA fA fB hRB gB hbA hsB hsC hox hoy
        obtain ⟨xk, xo, xt, xp, xq, xkey, xval⟩ := x
        obtain ⟨yk, yo, yt, yp, yq, ykey, yval⟩ := y
        obtain ⟨zk, zo, zt, zp, zq, zkey, zval⟩ := zz
        obtain ⟨a0', a1', a2', a3', a4', a5', a6'⟩ := hcx
        obtain ⟨b0, b1, b2, b3, b4, b5, b6⟩ := hxA
        obtain ⟨e0, e1, e2, e3, e4, e5, e6⟩ := hyA
        obtain ⟨g0, g1, g2, g3, g4, g5, g6⟩ := hkA
        obtain ⟨h0, h1, h2, h3, h4, h5, h6⟩ := hxB
        obtain ⟨i0, i1, i2, i3, i4, i5, i6⟩ := hjB
        simp only at a0' a1' a2' a3' a4' a5' a6' b0 b1 b2 b3 b4 b5 b6 e0 e1 e2 e3 e4 e5 e6 g0 g1 g2 g3 g4 g5 g6 h0 h1 h2 h3 h4 h5 h6 i0 i1 i2 i3 i4 i5 i6 hwA hwB hwC
        go_wp2
        go_roundw
        case rel => exact ⟨k + 1, L2, by omega, by go_num, hLs, HN.out⟩
        case measure => simp [intOf]; omega
      · have hlti : ¬ (k : Int) < ((rs.length / 2 : Nat) : Int) := by omega
        have HF1 : Hid (Calls Try.prog 4 #[.slice (some ⟨ga, 0, none⟩) ps.length ca, .slice (some ⟨gl, 0, none⟩) rs.length cl] wr fun e w' => ∃ z r, e = .returned z ∧ PpNew wr w' z (foldP ps L) r) := HFO.out wr _ ga _ gl L HFW.out hL
        have HF2 : Hid (∀ u, FW W u (.slice (some ⟨ga, 0, none⟩) ps.length ca) ga ps (.slice (some ⟨gl, 0, none⟩) rs.length cl) gl L → Calls Try.prog 5 #[.slice (some ⟨ga, 0, none⟩) ps.length ca, .slice (some ⟨gl, 0, none⟩) rs.length cl] u fun e w' => ∃ z r, e = .returned z ∧ PpNew u w' z (foldP ps L) r) := fun u hu => HRF2.out u _ ga _ gl L hu hL
        have HRL : Hid (∀ (u : World) (z : Value) (r : Option Nat), OwnPp u z (foldP ps L) r → PpsAt u z (foldP ps L)) := fun u z r h => HRD.out u u z L r hL HFW.out.ok h
        go_wp2_with fail
        refine HF1.out.mono ?_
        rintro e wm ⟨zm, rm, rfl, hfm⟩
        have HWm : Hid (FW W wm (.slice (some ⟨ga, 0, none⟩) ps.length ca) ga ps (.slice (some ⟨gl, 0, none⟩) rs.length cl) gl L) := HFW.out.later hfm.below
        have HPm : Hid (OwnPp wm zm (foldP ps L) rm) := hfm.row
        clear hfm HF1
        go_wp2_with fail
        refine (HF2.out wm HWm.out).mono ?_
        rintro e wn ⟨zn, rn, rfl, hfn⟩
        have HPn : Hid (PpsAt wn zm (foldP ps L) ∧ PpsAt wn zn (foldP ps L) ∧ Below W.heap.size W wn) := ⟨HRL.out _ _ _ (HPm.out.later hfn.below), HRL.out _ _ _ hfn.row, below_step HWm.out.below hfn.below⟩
        clear hfn HF2 HPm HWm
        go_wp2_with fail
        refine (sameB _ _ (foldP ps L) wn HPn.out.1 HPn.out.2.1).mono ?_
        rintro e wo ⟨rfl, hbo⟩
        have HBo : Hid (Below W.heap.size W wo) := below_step HPn.out.2.2 hbo
        clear hbo
        go_wp2
        go_ret
        exact ⟨rfl, HBo.out⟩
end Go.Proofs.Ytpclicimakgpdaa
