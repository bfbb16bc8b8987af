import Derived.Test.YtlbofjeopbadhaaJy
import Derived.Test.YtlbofjeopbadhaaJw
import Derived.Test.YtlbofjeopbadhaaJq
/-! dedupe: the law of folds: its walk. -/
namespace Go.Proofs.Ytlbofjeopbadhaa
open Go.RowKit Go.Maps Plain
set_option linter.unusedVariables false
set_option linter.unusedSimpArgs false

theorem fL_tab (ps : List Pr) (rs : List Rc) : TabL (fL ps rs) := by
  by_cases h : fE ps rs = 0
  · exact (fE_ok h).2.2.2
  · rw [fL_bad h]; exact TabL.nil
theorem FoldAt.prs {w w' : World} {v : Value} {ps : List Pr} {rs : List Rc} {r : Option Nat} (h : FoldAt w w' v ps rs r) : PrsAt w' v (fL ps rs) := h.row.reads (fL_tab ps rs)
theorem OwnR.made2 (w : World) : OwnR (w.alloc (.cells #[] 32)) (.slice (some ⟨w.heap.size, 0, none⟩) 0 0) [] (some w.heap.size) :=
  .inr ⟨w.heap.size, 0, rfl, rfl, by simp, by simp, by simp [maxLen], by simp, by simp, by simp⟩
/-- What the law has at hand: the producers with room, the records of its own. -/
structure FW (W w : World) (gi ci : Nat) (ps : List Pr) (vl : Value) (gl : Nat) (L : List Rc) : Prop where
  room : RoomAt w gi ps.length ci ps
  row : OwnR w vl L (some gl)
  ok : ∀ x ∈ L, x.Ok
  i1 : W.heap.size ≤ gi
  l1 : W.heap.size ≤ gl
  ne : gl ≠ gi
  below : Below W.heap.size W w
theorem FW.later {W w w' : World} {gi ci : Nat} {ps : List Pr} {vl : Value} {gl : Nat} {L : List Rc} (h : FW W w gi ci ps vl gl L) (hb : Below w.heap.size w w') : FW W w' gi ci ps vl gl L :=
  ⟨h.room.later hb, h.row.later hb, h.ok, h.i1, h.l1, h.ne, h.below.trans (hb.mono h.below.size)⟩
theorem FW.apart {W w w' : World} {gi ci : Nat} {ps : List Pr} {vl : Value} {gl : Nat} {L : List Rc} (h : FW W w gi ci ps vl gl L) {r : Option Nat} (hc : Chg (fun k => r = some k) w w') (h1 : r ≠ some gi) (h2 : r ≠ some gl) (h3 : ∀ g, r = some g → W.heap.size ≤ g) : FW W w' gi ci ps vl gl L := by
  have hg : w.grownBy w' r := ⟨hc.os, hc.tape, hc.output, hc.size, fun k hk hn => hc.block k hk (fun e => hn e.symm)⟩
  exact ⟨⟨h.room.1, h.room.2.kept hg (.inr (Ne.symm h1))⟩, h.row.kept hg (.inr (Ne.symm h2)), h.ok, h.i1, h.l1, h.ne, h.below.trans (hc.below h.below.size h3)⟩
theorem PrsAt.apart {w w' : World} {v : Value} {ps : List Pr} {r q : Option Nat} (h : OwnPr w v ps q) (hT : TabL ps) (hc : Chg (fun k => r = some k) w w') (hq : q = none ∨ q ≠ r) : OwnPr w' v ps q :=
  h.kept ⟨hc.os, hc.tape, hc.output, hc.size, fun k hk hn => hc.block k hk (fun e => hn e.symm)⟩ hq
/-- The record with which the law marks. -/
def mkK : Rc := ⟨-78, 0, 0, 0, 0, ⟨#[]⟩, ⟨#[]⟩⟩
set_option maxHeartbeats 8000000 in
set_option maxRecDepth 100000 in
theorem foldsWalk (a0 : Option Addr) (cap0 : Nat) (ps : List Pr) (vr : Value) (rs : List Rc) (W : World) (hps : PrsAt W (.slice a0 ps.length cap0) ps) (hrs : RecsAt W vr rs) :
    Calls Try.prog 4 #[.slice a0 ps.length cap0, vr] W fun e w' => e = .returned (.bool true) ∧ Below W.heap.size W w' := by
  have HPS : Hid (∀ u, Below W.heap.size W u → PrsAt u (.slice a0 ps.length cap0) ps) := fun u hu => hps.later hu
  have HRS : Hid (∀ u, Below W.heap.size W u → RecsAt u vr rs) := fun u hu => hrs.later hu
  have HSR : Hid (∀ u, Below W.heap.size W u → Src Try.prog 7 23 vr rs.length (rcells rs) u) := fun u hu => src_rs (hrs.later hu)
  have hpl : ps.length ≤ 8796093022000 := by obtain ⟨_, _, _, h, _⟩ := hps; exact h
  have hrl : rs.length ≤ 2199023255000 := by obtain ⟨_, _, _, h, _⟩ := hrs; exact h
  have HPO : Hid (∀ x ∈ ps, x.Ok) := by obtain ⟨_, _, _, _, h, _⟩ := hps; exact h
  have HRO : Hid (∀ x ∈ rs, x.Ok) := by obtain ⟨_, _, _, _, h, _⟩ := hrs; exact h
  have HFO : Hid (∀ (w : World) (gi ci : Nat) (vl : Value) (gl : Nat) (L : List Rc), FW W w gi ci ps vl gl L → L.length = rs.length → Calls Try.prog 6 #[.slice (some ⟨gi, 0, none⟩) ps.length ci, vl] w fun e w' => ∃ z r, e = .returned (.tuple #[z, .int .i64 (fE ps L)]) ∧ FoldAt w w' z ps L r) := fun w gi ci vl gl L h hL => foldOf _ ps vl L w (h.room.reads hpl HPO.out) (h.row.recs (by omega) h.ok)
  have HFN : Hid (∀ (w : World) (gi ci : Nat) (vl : Value) (gl : Nat) (L : List Rc), FW W w gi ci ps vl gl L → L.length = rs.length → Calls Try.prog 6 #[.slice none 0 0, vl] w fun e w' => ∃ (z : Value) (c : Int), e = .returned (.tuple #[z, .int .i64 c]) ∧ Below w.heap.size w w') := fun w gi ci vl gl L h hL => by
    refine (foldOf (.slice none 0 0) [] vl L w ⟨none, 0, rfl, by simp, by simp, by simp⟩ (h.row.recs (by omega) h.ok)).mono ?_
    rintro e w' ⟨z, r, rfl, hf⟩
    exact ⟨z, _, rfl, hf.below⟩
  obtain ⟨ar, cr, rfl⟩ : ∃ a c, vr = .slice a rs.length c := by obtain ⟨x, y, e, _⟩ := hrs; exact ⟨x, y, e⟩
  have HRM : Hid (Calls Try.prog 9 #[.slice a0 ps.length cap0] W fun e w' => ∃ g cap, e = .returned (.slice (some ⟨g, 0, none⟩) ps.length cap) ∧ RoomAt w' g ps.length cap ps ∧ W.heap.size ≤ g ∧ Below W.heap.size W w') := roomyOf _ ps W hps
  clear hps hrs
  go_enter Try.func4, Try.ntmps4
  go_wp2_with fail
  refine HRM.out.mono ?_
  rintro e w1 ⟨gi, ci, rfl, hro, hgi, hb1⟩
  have HRO1 : Hid (RoomAt w1 gi ps.length ci ps ∧ W.heap.size ≤ gi) := ⟨hro, hgi⟩
  have HB1 : Hid (Below W.heap.size W w1) := hb1
  clear hro hgi hb1 HRM
  go_wp2_with (at_builtin; refine wpList_append_any _ rfl _ _ rfl _ _ [] rs (some w1.heap.size) rfl rfl ?hOwn ?hSrc ?hLen ?_)
  case hOwn => exact OwnR.made2 w1
  case hSrc => exact HSR.out _ (below_step HB1.out (bel_al _ _))
  case hLen => simp; omega
  intro v2 w2 r2 ho2 hg2 hr2
  obtain ⟨gl, rfl⟩ : ∃ gl, r2 = some gl := by
    rcases hr2 with h | h
    · exact ⟨_, h⟩
    · exact ⟨_, h⟩
  have HW2 : Hid (FW W w2 gi ci ps v2 gl rs) := by
    have hs := HB1.out.size
    have hb : Below w1.heap.size w1 w2 := (bel_al _ _).trans (grow_below hg2 (by simp) (fun g e => by cases e; exact Nat.le_refl _))
    have hgi := HRO1.out.1.lt
    have hgl : w1.heap.size ≤ gl := by
      rcases hr2 with h | h
      · cases h; exact Nat.le_refl _
      · simp at h; omega
    refine ⟨HRO1.out.1.later hb, by simpa using ho2, HRO.out, HRO1.out.2, by omega, by omega, below_step HB1.out hb⟩
  obtain ⟨cl, rfl⟩ : ∃ cl, v2 = .slice (some ⟨gl, 0, none⟩) rs.length cl := by
    rcases HW2.out.row with ⟨_, _, h⟩ | ⟨g, c, e, e2, _⟩
    · simp at h
    · cases e; exact ⟨c, e2⟩
  clear ho2 hg2 hr2 HRO1
  have HFG : Hid (∀ u, FW W u gi ci ps (.slice (some ⟨gl, 0, none⟩) rs.length cl) gl rs → Calls Try.prog 6 #[.slice (some ⟨gi, 0, none⟩) ps.length ci, .slice (some ⟨gl, 0, none⟩) rs.length cl] u fun e w' => ∃ z r, e = .returned (.tuple #[z, .int .i64 (fE ps rs)]) ∧ FoldAt u w' z ps rs r) := fun u hu => HFO.out u gi ci _ gl rs hu rfl
  have HKE : Hid (∀ u, FW W u gi ci ps (.slice (some ⟨gl, 0, none⟩) rs.length cl) gl rs → Calls Try.prog 11 #[.slice (some ⟨gi, 0, none⟩) ps.length ci, .slice a0 ps.length cap0] u fun e w' => e = .returned (.bool true) ∧ Below u.heap.size u w') := fun u hu => keptOf gi ci _ ps u hu.room (HPS.out u hu.below)
  have HRF : Hid (∀ u, Below W.heap.size W u → Calls Try.prog 10 #[.slice a0 ps.length cap0, .slice ar rs.length cr] u fun e w' => ∃ z r, e = .returned (.tuple #[z, .int .i64 (fE ps rs)]) ∧ FoldAt u w' z ps rs r) := fun u hu => rfoldOf _ ps _ rs u (HPS.out u hu) (HRS.out u hu)
  have HTA : Hid (TabL (fL ps rs)) := fL_tab ps rs
  generalize hE : fE ps rs = E at HFG HRF
  clear hE
  go_wp2_with fail
  refine (HFG.out w2 HW2.out).mono ?_
  rintro e w3 ⟨z3, r3, rfl, hf3⟩
  have HW3 : Hid (FW W w3 gi ci ps (.slice (some ⟨gl, 0, none⟩) rs.length cl) gl rs) := HW2.out.later hf3.below
  have HO3 : Hid (OwnPr w3 z3 (fL ps rs) r3 ∧ ∀ g, r3 = some g → w2.heap.size ≤ g) := ⟨hf3.row, hf3.new⟩
  clear hf3
  go_wp2_with fail
  refine (HRF.out w3 HW3.out.below).mono ?_
  rintro e w4 ⟨z4, r4, rfl, hf4⟩
  have HW4 : Hid (FW W w4 gi ci ps (.slice (some ⟨gl, 0, none⟩) rs.length cl) gl rs) := HW3.out.later hf4.below
  have HO4 : Hid (OwnPr w4 z3 (fL ps rs) r3 ∧ OwnPr w4 z4 (fL ps rs) r4 ∧ (∀ g, r4 = some g → w3.heap.size ≤ g)) := ⟨HO3.out.1.later hf4.below, hf4.row, hf4.new⟩
  have HS34 : Hid (w3.heap.size ≤ w4.heap.size) := hf4.below.size
  clear hf4
  have HR3 : Hid (∀ g, r3 = some g → w2.heap.size ≤ g ∧ g < w3.heap.size) := fun g e => ⟨HO3.out.2 g e, by have := HO3.out.1; rw [e] at this; exact this.lt⟩
  clear HO3
  obtain ⟨x3, c3, rfl⟩ : ∃ x c, z3 = .slice x (fL ps rs).length c := by obtain ⟨x, y, e, _⟩ := HO4.out.1.shape; exact ⟨x, y, e⟩
  obtain ⟨x4, c4, rfl⟩ : ∃ x c, z4 = .slice x (fL ps rs).length c := by obtain ⟨x, y, e, _⟩ := HO4.out.2.1.shape; exact ⟨x, y, e⟩
  go_wp2_with fail
  refine (sameB _ _ (fL ps rs) w4 (HO4.out.1.reads HTA.out) (HO4.out.2.1.reads HTA.out)).mono ?_
  rintro e w5 ⟨rfl, hb5⟩
  have HB5 : Hid (Below w4.heap.size w4 w5) := hb5
  have HW5 : Hid (FW W w5 gi ci ps (.slice (some ⟨gl, 0, none⟩) rs.length cl) gl rs) := HW4.out.later hb5
  clear hb5
  go_wp2_with fail
  refine (HKE.out w5 HW5.out).mono ?_
  rintro e w6 ⟨rfl, hb6⟩
  have HB6 : Hid (Below w4.heap.size w4 w6) := below_step HB5.out hb6
  have HW6 : Hid (FW W w6 gi ci ps (.slice (some ⟨gl, 0, none⟩) rs.length cl) gl rs) := HW5.out.later hb6
  clear hb6
  go_wp2_with fail
  refine (sameRecsOf _ _ rs w6 (HW6.out.row.recs hrl HRO.out) (HRS.out w6 HW6.out.below)).mono ?_
  rintro e w7 ⟨rfl, n7, hw7⟩
  have HB7 : Hid (Below w4.heap.size w4 w7) := below_step HB6.out (by rw [hw7]; exact drewN_bel _ _)
  have HW7 : Hid (FW W w7 gi ci ps (.slice (some ⟨gl, 0, none⟩) rs.length cl) gl rs) := HW6.out.later (by rw [hw7]; exact drewN_bel _ _)
  clear hw7
  go_wp2_with fail
  refine (HFG.out w7 HW7.out).mono ?_
  rintro e w8 ⟨z8, r8, rfl, hf8⟩
  have HB8 : Hid (Below w4.heap.size w4 w8) := below_step HB7.out hf8.below
  have HW8 : Hid (FW W w8 gi ci ps (.slice (some ⟨gl, 0, none⟩) rs.length cl) gl rs) := HW7.out.later hf8.below
  have HO8 : Hid (OwnPr w8 z8 (fL ps rs) r8 ∧ ∀ g, r8 = some g → w7.heap.size ≤ g) := ⟨hf8.row, hf8.new⟩
  obtain ⟨x8, c8, rfl⟩ : ∃ x c, z8 = .slice x (fL ps rs).length c := by obtain ⟨x, y, e, _⟩ := hf8.row.shape; exact ⟨x, y, e⟩
  clear hf8
  go_wp2_with fail
  refine (HFN.out w8 gi ci _ gl rs HW8.out rfl).mono ?_
  rintro e w9 ⟨z9, c9, rfl, hb9⟩
  have HB9 : Hid (Below w4.heap.size w4 w9) := below_step HB8.out hb9
  have HW9 : Hid (FW W w9 gi ci ps (.slice (some ⟨gl, 0, none⟩) rs.length cl) gl rs) := HW8.out.later hb9
  have HO9 : Hid (OwnPr w9 (.slice x8 (fL ps rs).length c8) (fL ps rs) r8) := HO8.out.1.later hb9
  clear hb9
  go_wp2_with fail
  refine (sameB _ _ (fL ps rs) w9 ((HO4.out.1.later HB9.out).reads HTA.out) ((HO4.out.2.1.later HB9.out).reads HTA.out)).mono ?_
  rintro e wa ⟨rfl, hba⟩
  have HBa : Hid (Below w9.heap.size w9 wa) := hba
  clear hba
  go_wp2_with fail
  refine (sameB _ _ (fL ps rs) wa ((HO9.out.later HBa.out).reads HTA.out) (((HO4.out.2.1.later HB9.out).later HBa.out).reads HTA.out)).mono ?_
  rintro e wb ⟨rfl, hbb⟩
  have HBb : Hid (Below w9.heap.size w9 wb) := below_step HBa.out hbb
  have HWb : Hid (FW W wb gi ci ps (.slice (some ⟨gl, 0, none⟩) rs.length cl) gl rs) := (HW9.out.later HBa.out).later hbb
  have HOb : Hid (OwnPr wb (.slice x3 (fL ps rs).length c3) (fL ps rs) r3 ∧ OwnPr wb (.slice x4 (fL ps rs).length c4) (fL ps rs) r4 ∧ OwnPr wb (.slice x8 (fL ps rs).length c8) (fL ps rs) r8) := ⟨(HO4.out.1.later HB9.out).later HBb.out, (HO4.out.2.1.later HB9.out).later HBb.out, HO9.out.later HBb.out⟩
  clear hbb
  have HNE : Hid (r3 ≠ some gi ∧ r3 ≠ some gl ∧ (∀ g, r3 = some g → W.heap.size ≤ g) ∧ (r4 = none ∨ r4 ≠ r3) ∧ (r8 = none ∨ r8 ≠ r3)) := by
    have s1 := HW2.out.below.size
    have s2 := HW2.out.room.lt
    have s3 := HW2.out.row.lt
    have s7 := HB7.out.size
    have s34 := HS34.out
    refine ⟨fun e => ?_, fun e => ?_, fun g e => ?_, ?_, ?_⟩
    · have := HR3.out gi e; omega
    · have := HR3.out gl e; omega
    · have := HR3.out g e; omega
    · cases r4 with
      | none => exact .inl rfl
      | some g => exact .inr fun e => by have h1 := HR3.out g e.symm; have h2 := HO4.out.2.2 g rfl; omega
    · cases r8 with
      | none => exact .inl rfl
      | some g => exact .inr fun e => by have h1 := HR3.out g e.symm; have h2 := HO8.out.2 g rfl; omega
  go_wp2_with fail
  refine (spoilOf _ (fL ps rs) r3 wb HOb.out.1 HTA.out.len).mono ?_
  rintro e wc ⟨rfl, hcc⟩
  have HWc : Hid (FW W wc gi ci ps (.slice (some ⟨gl, 0, none⟩) rs.length cl) gl rs) := HWb.out.apart hcc HNE.out.1 HNE.out.2.1 HNE.out.2.2.1
  have HOc : Hid (OwnPr wc (.slice x4 (fL ps rs).length c4) (fL ps rs) r4 ∧ OwnPr wc (.slice x8 (fL ps rs).length c8) (fL ps rs) r8) := ⟨PrsAt.apart HOb.out.2.1 HTA.out hcc HNE.out.2.2.2.1, PrsAt.apart HOb.out.2.2 HTA.out hcc HNE.out.2.2.2.2⟩
  clear hcc HNE HOb HWb HBb HBa HO9 HW9 HB9 HO8 HW8 HB8 HW7 HB7 HW6 HB6 HW5 HB5 HO4 HW4 HW3 HS34 HR3
  go_wp2_with fail
  refine (HFG.out wc HWc.out).mono ?_
  rintro e wd ⟨zd, rd, rfl, hfd⟩
  have HWd : Hid (FW W wd gi ci ps (.slice (some ⟨gl, 0, none⟩) rs.length cl) gl rs) := HWc.out.later hfd.below
  have HOd : Hid (PrsAt wd zd (fL ps rs) ∧ PrsAt wd (.slice x4 (fL ps rs).length c4) (fL ps rs) ∧ PrsAt wd (.slice x8 (fL ps rs).length c8) (fL ps rs)) := ⟨hfd.prs, (HOc.out.1.reads HTA.out).later hfd.below, (HOc.out.2.reads HTA.out).later hfd.below⟩
  obtain ⟨xd, cd, rfl⟩ : ∃ x c, zd = .slice x (fL ps rs).length c := by obtain ⟨x, y, e, _⟩ := hfd.row.shape; exact ⟨x, y, e⟩
  clear hfd HOc HWc
  go_wp2_with fail
  refine (sameB _ _ (fL ps rs) wd HOd.out.1 HOd.out.2.1).mono ?_
  rintro e we ⟨rfl, hbe⟩
  have HBe : Hid (Below wd.heap.size wd we) := hbe
  clear hbe
  go_wp2_with fail
  refine (sameB _ _ (fL ps rs) we (HOd.out.2.2.later HBe.out) (HOd.out.2.1.later HBe.out)).mono ?_
  rintro e wf ⟨rfl, hbf⟩
  have HWf : Hid (FW W wf gi ci ps (.slice (some ⟨gl, 0, none⟩) rs.length cl) gl rs) := (HWd.out.later HBe.out).later hbf
  clear hbf
  go_wp2_with fail
  refine (HKE.out wf HWf.out).mono ?_
  rintro e wg ⟨rfl, hbg⟩
  have HWg : Hid (FW W wg gi ci ps (.slice (some ⟨gl, 0, none⟩) rs.length cl) gl rs) := HWf.out.later hbg
  clear hbg HWf HBe HOd HWd HKE
  go_wp2_with (at_builtin; refine wpList_append_any _ rfl _ _ rfl _ _ [] rs (some wg.heap.size) rfl rfl ?hOwnc ?hSrcc ?hLenc ?_)
  case hOwnc => exact OwnR.made2 wg
  case hSrcc => exact HSR.out _ (below_step HWg.out.below (bel_al _ _))
  case hLenc => simp; omega
  intro vm wh rm hom hgm hrm
  obtain ⟨gm, rfl⟩ : ∃ gl, rm = some gl := by
    rcases hrm with h | h
    · exact ⟨_, h⟩
    · exact ⟨_, h⟩
  have HBh : Hid (Below wg.heap.size wg wh) := (bel_al _ _).trans (grow_below hgm (by simp) (fun g e => by cases e; exact Nat.le_refl _))
  have HMh : Hid (OwnR wh vm rs (some gm) ∧ wg.heap.size ≤ gm) := by
    refine ⟨by simpa using hom, ?_⟩
    rcases hrm with h | h
    · cases h; exact Nat.le_refl _
    · simp at h; omega
  obtain ⟨cm, rfl⟩ : ∃ cl, vm = .slice (some ⟨gm, 0, none⟩) rs.length cl := by
    rcases HMh.out.1 with ⟨_, _, h⟩ | ⟨g, c, e, e2, _⟩
    · simp at h
    · cases e; exact ⟨c, e2⟩
  clear hom hgm hrm
  have HSK : Hid (Src Try.prog 7 23 (.slice (some ⟨wh.heap.size, 0, none⟩) 1 1) [mkK].length (rcells [mkK]) (wh.alloc (.cells #[.int .i64 (-78), .int .i64 0, .int .i64 0, .int .i64 0, .int .i64 0, .string ⟨#[]⟩, .string ⟨#[]⟩] 32))) :=
    Src.ofSlice _ Try.underlying23 _ 1 1 _ (by rfl) (fun j u hj => by
      rw [WideShapes.add_plain, World.cell?_alloc_at _ _ _ _ rfl, Nat.zero_add, ← hj]
      simp [rcells, Rc.cells, mkK]) (by intro u hu; simp [rcells, Rc.cells, mkK] at hu; rcases hu with rfl | rfl | rfl <;> rfl)
  go_wp2_with (at_builtin; refine wpList_append_any _ rfl _ _ rfl _ _ rs [mkK] (some gm) rfl rfl ?hOwnd ?hSrcd ?hLend ?_)
  case hOwnd => exact HMh.out.1.later (bel_al _ _)
  case hSrcd => exact HSK.out
  case hLend => simp; omega
  intro vn wi rn hon hgn hrn
  obtain ⟨gn, rfl⟩ : ∃ gl, rn = some gl := by
    rcases hrn with h | h
    · exact ⟨_, h⟩
    · exact ⟨_, h⟩
  have hgm' := HMh.out.2
  have hszh := HBh.out.size
  have HBi : Hid (Below wg.heap.size wg wi) := (below_step HBh.out (bel_al _ _)).trans (grow_below hgn (by simp; omega) (fun g e => by cases e; exact hgm'))
  have HWi : Hid (FW W wi gi ci ps (.slice (some ⟨gl, 0, none⟩) rs.length cl) gl rs) := HWg.out.later HBi.out
  have hlenn : (rs ++ [mkK]).length = rs.length + 1 := by simp
  obtain ⟨cn, rfl⟩ : ∃ cl, vn = .slice (some ⟨gn, 0, none⟩) (rs.length + 1) cl := by
    rcases hon with ⟨_, _, h⟩ | ⟨g, c, e, e2, _⟩
    · simp at h
    · cases e; rw [hlenn] at e2; exact ⟨c, e2⟩
  have hcn : rs.length + 1 ≤ cn ∧ cn ≤ maxLen := by
    obtain ⟨a', c', e, h1, h2⟩ := hon.shape
    simp at e
    simp at h2
    omega
  unfold maxLen at hcn
  have HPF : Hid (RecsAt wi (.slice (some ⟨gn, 0, none⟩) rs.length cn) rs) := by
    refine ⟨_, cn, rfl, hrl, HRO.out, fun _ => ⟨gn, 0, rfl, fun j hj => ?_⟩⟩
    have := hon.at (j := j) (by simp; omega)
    have e : (rs ++ [mkK]).getD j Rc.none = rs.getD j Rc.none := by simp [List.getElem?_append_left hj]
    rw [e] at this
    rw [Nat.zero_add]
    exact this
  have hmk : wi.cell? ⟨gn, rs.length * 7, none⟩ = some (.int .i64 (-78)) := by
    have := (hon.at (j := rs.length) (by simp)).c0
    rw [this]; simp [mkK]
  have HMK : Hid (∀ u, Below wi.heap.size wi u → u.cell? ⟨gn, rs.length * 7, none⟩ = some (.int .i64 (-78))) := fun u hu => (hu.cell (p := ⟨gn, _, none⟩) (cell_lt hmk)).trans hmk
  have HFP : Hid (Calls Try.prog 6 #[.slice (some ⟨gi, 0, none⟩) ps.length ci, .slice (some ⟨gn, 0, none⟩) rs.length cn] wi fun e w' => ∃ (z : Value) (c : Int), e = .returned (.tuple #[z, .int .i64 c]) ∧ Below wi.heap.size wi w') := by
    refine (foldOf _ ps _ rs wi (HWi.out.room.reads hpl HPO.out) HPF.out).mono ?_
    rintro e w' ⟨z, r, rfl, hf⟩
    exact ⟨z, _, rfl, hf.below⟩
  clear hon hgn hrn HSK hgm' hszh HMh HBh HWg HBi HPF hmk
  go_wp2_with fail
  refine HFP.out.mono ?_
  rintro e wj ⟨zj, cj, rfl, hbj⟩
  have HWj : Hid (FW W wj gi ci ps (.slice (some ⟨gl, 0, none⟩) rs.length cl) gl rs) := HWi.out.later hbj
  have hmj := HMK.out wj hbj
  have hri : (rs.length : Int) < (rs.length : Int) + 1 := by omega
  clear hbj HFP HMK HWi
  go_wp2
  go_loopw [17] (fun i wr => ∃ (k : Nat) (L : List Rc), k ≤ rs.length ∧ i = .int .i64 k ∧ L.length = rs.length ∧ Hid (FW W wr gi ci ps (.slice (some ⟨gl, 0, none⟩) rs.length cl) gl L))
    (fun i _ => rs.length - (intOf i).toNat)
  case atStart => exact ⟨0, rs, Nat.zero_le _, rfl, rfl, HWj.out⟩
  case round =>
    obtain ⟨k, L, hk, rfl, hL, HFW⟩ := hrel
    have hq2 : Int.tdiv (rs.length : Int) 2 = ((rs.length / 2 : Nat) : Int) := by
      rw [Int.tdiv_eq_ediv_of_nonneg (by omega)]
      omega
    by_cases hlt : k < rs.length / 2
    · have hlti : (k : Int) < ((rs.length / 2 : Nat) : Int) := by omega
      obtain ⟨j, hj⟩ : ∃ j : Nat, j = rs.length - 1 - k := ⟨_, rfl⟩
      have hjl : (j : Int) < (rs.length : Int) := by omega
      have hkl : (k : Int) < (rs.length : Int) := by omega
      have hcx := HFW.out.row.at (j := k) (by omega)
      have hcy := HFW.out.row.at (j := j) (by omega)
      have hox := HFW.out.ok (L.getD k Rc.none) (by simp [show k < L.length by omega])
      have hoy := HFW.out.ok (L.getD j Rc.none) (by simp [show j < L.length by omega])
      generalize L.getD k Rc.none = x at hcx hox
      generalize L.getD j Rc.none = y at hcy hoy
      have hgl := HFW.out.row.lt
      obtain ⟨wA, hwA⟩ : ∃ wA, wr.alloc (.cells #[.int .i64 x.k, .int .i64 x.o, .int .i64 x.t, .int .i64 x.p, .int .i64 x.q, .string x.key, .string x.val] 32) = wA := ⟨_, rfl⟩
      have hbA : Below wr.heap.size wr wA := by rw [← hwA]; exact bel_al _ _
      have hFA := HFW.out.later hbA
      have hxA : CellsAt wA wr.heap.size 0 x := by
        rw [← hwA]
        exact ⟨World.cell?_alloc_at _ _ _ _ rfl, World.cell?_alloc_at _ _ _ _ rfl, World.cell?_alloc_at _ _ _ _ rfl, World.cell?_alloc_at _ _ _ _ rfl, World.cell?_alloc_at _ _ _ _ rfl, World.cell?_alloc_at _ _ _ _ rfl, World.cell?_alloc_at _ _ _ _ rfl⟩
      have hyA : CellsAt wA gl (j * 7) y := hcy.block (hbA.block _ hgl)
      have hkA : CellsAt wA gl (k * 7) x := hcx.block (hbA.block _ hgl)
      have fA : ∀ i, i < 7 * rs.length → wA.frozen? ⟨gl, i, none⟩ = false := fun i hi => hFA.row.fz (by omega)
      obtain ⟨wB, hwB⟩ : ∃ wB, (((((((wA.setCell ⟨gl, k * 7, none⟩ (.int .i64 y.k)).setCell ⟨gl, k * 7 + 1, none⟩ (.int .i64 y.o)).setCell ⟨gl, k * 7 + 2, none⟩ (.int .i64 y.t)).setCell ⟨gl, k * 7 + 3, none⟩ (.int .i64 y.p)).setCell ⟨gl, k * 7 + 4, none⟩ (.int .i64 y.q)).setCell ⟨gl, k * 7 + 5, none⟩ (.string y.key)).setCell ⟨gl, k * 7 + 6, none⟩ (.string y.val)) = wB := ⟨_, rfl⟩
      have hsB : wA.setCells gl (k * 7) y.cells = wB := by rw [← hwB]; exact (seven_set wA gl (k * 7) y).symm
      have gB : wA.grownBy wB (some gl) := by rw [← hsB]; exact grow_setCells _ _ _ _
      have hRB : OwnR wB (.slice (some ⟨gl, 0, none⟩) rs.length cl) (L.set k y) (some gl) := by rw [← hsB]; exact hFA.row.setR y (by omega)
      have hne : wr.heap.size ≠ gl := by omega
      have hsA : wr.heap.size < wA.heap.size := by rw [← hwA]; simp
      have hxB : CellsAt wB wr.heap.size 0 x := hxA.block (gB.block _ hsA (fun e => hne (by injection e)))
      have fB : ∀ i, i < 7 * rs.length → wB.frozen? ⟨gl, i, none⟩ = false := fun i hi => hRB.fz (by simp; omega)
      have hjB : ∃ z, CellsAt wB gl (j * 7) z := ⟨_, hRB.at (j := j) (by simp; omega)⟩
      obtain ⟨zz, hjB⟩ := hjB
      obtain ⟨wC, hwC⟩ : ∃ wC, (((((((wB.setCell ⟨gl, j * 7, none⟩ (.int .i64 x.k)).setCell ⟨gl, j * 7 + 1, none⟩ (.int .i64 x.o)).setCell ⟨gl, j * 7 + 2, none⟩ (.int .i64 x.t)).setCell ⟨gl, j * 7 + 3, none⟩ (.int .i64 x.p)).setCell ⟨gl, j * 7 + 4, none⟩ (.int .i64 x.q)).setCell ⟨gl, j * 7 + 5, none⟩ (.string x.key)).setCell ⟨gl, j * 7 + 6, none⟩ (.string x.val)) = wC := ⟨_, rfl⟩
      have hsC : wB.setCells gl (j * 7) x.cells = wC := by rw [← hwC]; exact (seven_set wB gl (j * 7) x).symm
      have HN : Hid (FW W wC gi ci ps (.slice (some ⟨gl, 0, none⟩) rs.length cl) gl ((L.set k y).set j x)) := by
        have gC : wB.grownBy wC (some gl) := by rw [← hsC]; exact grow_setCells _ _ _ _
        have hgg : gl ≠ gi := hFA.ne
        refine ⟨⟨rfl, (hFA.room.2.kept gB (.inr (fun e => hgg (by injection e with e; exact e.symm)))).kept gC (.inr (fun e => hgg (by injection e with e; exact e.symm)))⟩, by rw [← hsC]; exact hRB.setR x (by simp; omega), ?_, hFA.i1, hFA.l1, hFA.ne, (hFA.below.trans (grow_below gB hFA.below.size (fun g e => by cases e; exact hFA.l1))).trans (grow_below gC (Nat.le_trans hFA.below.size gB.size) (fun g e => by cases e; exact hFA.l1))⟩
        intro q hq
        rcases List.mem_or_eq_of_mem_set hq with hq | rfl
        · rcases List.mem_or_eq_of_mem_set hq with hq | rfl
          · exact hFA.ok q hq
          · exact hoy
        · exact hox
      have k0 := fA (k * 7) (by omega)
      have k1 := fA (k * 7 + 1) (by omega)
      have k2 := fA (k * 7 + 2) (by omega)
      have k3 := fA (k * 7 + 3) (by omega)
      have k4 := fA (k * 7 + 4) (by omega)
      have k5 := fA (k * 7 + 5) (by omega)
      have k6 := fA (k * 7 + 6) (by omega)
      have l0 := fB (j * 7) (by omega)
      have l1 := fB (j * 7 + 1) (by omega)
      have l2 := fB (j * 7 + 2) (by omega)
      have l3 := fB (j * 7 + 3) (by omega)
      have l4 := fB (j * 7 + 4) (by omega)
      have l5 := fB (j * 7 + 5) (by omega)
      have l6 := fB (j * 7 + 6) (by omega)
      have hLs : ((L.set k y).set j x).length = rs.length := by simp; omega
      generalize (L.set k y).set j x = L2 at HN hLs
      subst hj
      clear hcy hFA fA fB hRB gB hbA hsB hsC hox hoy
      obtain ⟨xk, xo, xt, xp, xq, xkey, xval⟩ := x
      obtain ⟨yk, yo, yt, yp, yq, ykey, yval⟩ := y
      obtain ⟨zk, zo, zt, zp, zq, zkey, zval⟩ := zz
      obtain ⟨a0', a1', a2', a3', a4', a5', a6'⟩ := hcx
      obtain ⟨b0, b1, b2, b3, b4, b5, b6⟩ := hxA
      obtain ⟨e0, e1, e2, e3, e4, e5, e6⟩ := hyA
      obtain ⟨g0, g1, g2, g3, g4, g5, g6⟩ := hkA
      obtain ⟨h0, h1, h2, h3, h4, h5, h6⟩ := hxB
      obtain ⟨i0, i1, i2, i3, i4, i5, i6⟩ := hjB
      simp only at a0' a1' a2' a3' a4' a5' a6' b0 b1 b2 b3 b4 b5 b6 e0 e1 e2 e3 e4 e5 e6 g0 g1 g2 g3 g4 g5 g6 h0 h1 h2 h3 h4 h5 h6 i0 i1 i2 i3 i4 i5 i6 hwA hwB hwC
      go_wp2
      go_roundw
      case rel => exact ⟨k + 1, L2, by omega, by go_num, hLs, HN.out⟩
      case measure => simp [intOf]; omega
    · have hlti : ¬ (k : Int) < ((rs.length / 2 : Nat) : Int) := by omega
      have HF1 : Hid (Calls Try.prog 6 #[.slice (some ⟨gi, 0, none⟩) ps.length ci, .slice (some ⟨gl, 0, none⟩) rs.length cl] wr fun e w' => ∃ z r, e = .returned (.tuple #[z, .int .i64 (fE ps L)]) ∧ FoldAt wr w' z ps L r) := HFO.out wr gi ci _ gl L HFW.out hL
      have HF2 : Hid (∀ u, FW W u gi ci ps (.slice (some ⟨gl, 0, none⟩) rs.length cl) gl L → Calls Try.prog 10 #[.slice a0 ps.length cap0, .slice (some ⟨gl, 0, none⟩) rs.length cl] u fun e w' => ∃ z r, e = .returned (.tuple #[z, .int .i64 (fE ps L)]) ∧ FoldAt u w' z ps L r) := fun u hu => by
        have h1 := hu.row.recs (by omega) hu.ok
        exact rfoldOf _ ps _ L u (HPS.out u hu.below) h1
      generalize hE2 : fE ps L = E2 at HF1 HF2
      clear hE2
      go_wp2_with fail
      refine HF1.out.mono ?_
      rintro e wk ⟨zk, rk, rfl, hfk⟩
      have HWk : Hid (FW W wk gi ci ps (.slice (some ⟨gl, 0, none⟩) rs.length cl) gl L) := HFW.out.later hfk.below
      have HPk : Hid (PrsAt wk zk (fL ps L)) := hfk.prs
      obtain ⟨xk, ck, rfl⟩ : ∃ x c, zk = .slice x (fL ps L).length c := by obtain ⟨x, y, e, _⟩ := hfk.row.shape; exact ⟨x, y, e⟩
      clear hfk HF1
      go_wp2_with fail
      refine (HF2.out wk HWk.out).mono ?_
      rintro e wm ⟨zm, rm, rfl, hfm⟩
      have HPm : Hid (PrsAt wm zm (fL ps L) ∧ PrsAt wm (.slice xk (fL ps L).length ck) (fL ps L) ∧ Below W.heap.size W wm) := ⟨hfm.prs, HPk.out.later hfm.below, below_step HWk.out.below hfm.below⟩
      obtain ⟨xm, cm', rfl⟩ : ∃ x c, zm = .slice x (fL ps L).length c := by obtain ⟨x, y, e, _⟩ := hfm.row.shape; exact ⟨x, y, e⟩
      clear hfm HF2
      go_wp2_with fail
      refine (sameB _ _ (fL ps L) wm HPm.out.2.1 HPm.out.1).mono ?_
      rintro e wo ⟨rfl, hbo⟩
      have HBo : Hid (Below W.heap.size W wo) := below_step HPm.out.2.2 hbo
      clear hbo
      go_wp2
      go_ret
      exact ⟨rfl, HBo.out⟩
end Go.Proofs.Ytlbofjeopbadhaa
