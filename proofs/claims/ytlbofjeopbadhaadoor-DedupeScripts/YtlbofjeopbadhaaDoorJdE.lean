import Derived.Test.YtlbofjeopbadhaaDoorJdD
/-! dedupe: a step of the law's script. -/
namespace Go.Proofs.YtlbofjeopbadhaaDoor
open Go.RowKit Go.Maps Plain
set_option linter.unusedVariables false
set_option linter.unusedSimpArgs false

set_option maxHeartbeats 8000000 in
set_option maxRecDepth 100000 in
theorem stepOf {W w : World} {t t2 : Nat} {m r : Option Nat} {v : Value} {L : List Pr} (h : Two W w t m t2 v r L L) (hF : Refs W) (s : St) (hs : s.Ok) :
    Calls Tryd.prog 22 #[.pointer (some ⟨t, 0, none⟩), .pointer (some ⟨t2, 0, none⟩), .agg #[.int .i64 s.kind, .int .i64 s.pid, .int .i64 s.seq, .int .i64 s.off]] w fun e w' => e = .returned (.bool true) ∧ ∃ m' v' r' L', Two W w' t m' t2 v' r' L' L' := by
  obtain ⟨sk, sp, sq, so⟩ := s
  have hp : I64 sp := hs.pid
  have hq : I64 sq := hs.seq
  have hso : I64 so := hs.off
  obtain ⟨w1, hw1⟩ : ∃ w1, w.alloc (.cells #[.int .i64 sk, .int .i64 sp, .int .i64 sq, .int .i64 so] 61) = w1 := ⟨_, rfl⟩
  have hb1 : Below w.heap.size w w1 := by rw [← hw1]; exact bel_al _ _
  have hsc : St.CellsAt w1 w.heap.size 0 ⟨sk, sp, sq, so⟩ := by rw [← hw1]; exact ⟨World.cell?_alloc_at _ _ _ _ rfl, World.cell?_alloc_at _ _ _ _ rfl, World.cell?_alloc_at _ _ _ _ rfl, World.cell?_alloc_at _ _ _ _ rfl⟩
  have HT1 : Hid (Two W w1 t m t2 v r L L) := h.later hb1
  have hlt : w.heap.size < w1.heap.size := hsc.lt
  have HNT : Hid (w.heap.size ≠ t ∧ w.heap.size ≠ t2 ∧ m ≠ some w.heap.size) := ⟨by have := h.ta.lt; omega, by have := h.tb.lt; omega, fun e => by have := h.ta.mlt _ e; omega⟩
  have HSC : Hid (∀ u, Below w1.heap.size w1 u → St.CellsAt u w.heap.size 0 ⟨sk, sp, sq, so⟩) := fun u hu => hsc.block (hu.block _ hsc.lt)
  have HSZ : Hid (w.heap.size < w1.heap.size) := hlt
  have HFR : Hid (∀ u, Below w1.heap.size w1 u → Refs u) := fun u hu => ((hF.later h.below).later hb1).later hu
  have HRF : Hid (Refs W) := hF
  have HI : Hid (I64 sp ∧ I64 sq ∧ I64 so) := ⟨hp, hq, hso⟩
  obtain ⟨c0, c1, c2, c3⟩ := hsc
  simp only at c0 c1 c2 c3
  clear hb1 hs hp hq hso h hF hlt
  by_cases k1 : sk = 1
  · subst k1
    generalize hJ : jd L sp sq = J
    have HA : Hid (∀ u, Below w1.heap.size w1 u → Calls Tryd.prog 7 #[.pointer (some ⟨t, 0, none⟩), .int .i64 sp, .int .i64 sq] u fun e w' => e = .returned (.tuple #[.int .i64 J.1, .int .i64 J.2]) ∧ Below u.heap.size u w') := fun u hu => by rw [← hJ]; exact judgeOf t m L sp sq u (HT1.out.ta.later hu) HI.out.1 HI.out.2.1
    have HB : Hid (∀ u, Below w1.heap.size w1 u → Calls Tryd.prog 37 #[.pointer (some ⟨t2, 0, none⟩), .int .i64 sp, .int .i64 sq] u fun e w' => e = .returned (.tuple #[.int .i64 J.1, .int .i64 J.2]) ∧ Below u.heap.size u w') := fun u hu => by rw [← hJ]; exact rjudgeOf t2 v L r sp sq u (HT1.out.tb.later hu) HI.out.1 HI.out.2.1
    obtain ⟨ja, jb⟩ := J
    simp only at HA HB
    clear hJ
    go_enter Tryd.func22, Tryd.ntmps22
    go_wp2_with fail
    refine (HA.out _ (Below.refl _ _)).mono ?_
    rintro e w2 ⟨rfl, hb2⟩
    have HB2 : Hid (Below w1.heap.size w1 w2) := hb2
    obtain ⟨c0, c1, c2, c3⟩ := HSC.out w2 hb2
    simp only at c0 c1 c2 c3
    clear hb2
    go_wp2_with fail
    refine (HB.out _ HB2.out).mono ?_
    rintro e w3 ⟨rfl, hb3⟩
    have HB3 : Hid (Below w1.heap.size w1 w3) := below_step HB2.out hb3
    clear hb3
    go_wp2
    go_ret
    exact ⟨by simp, m, v, r, L, HT1.out.later HB3.out⟩
  have e1 : (sk == 1) = false := by simpa using k1
  by_cases k2 : sk = 2
  · subst k2
    generalize hJ : rfs (jd L sp sq).1 = J
    have HA : Hid (∀ u, Below w1.heap.size w1 u → Calls Tryd.prog 8 #[.pointer (some ⟨t, 0, none⟩), .int .i64 sp, .int .i64 sq] u fun e w' => e = .returned (.int .i64 J) ∧ Below u.heap.size u w') := fun u hu => by rw [← hJ]; exact refuseOf t m L sp sq u (HT1.out.ta.later hu) (HFR.out u hu) HI.out.1 HI.out.2.1
    have HB : Hid (∀ u, Below w1.heap.size w1 u → Calls Tryd.prog 38 #[.pointer (some ⟨t2, 0, none⟩), .int .i64 sp, .int .i64 sq] u fun e w' => e = .returned (.int .i64 J) ∧ Below u.heap.size u w') := fun u hu => by rw [← hJ]; exact rrefuseOf t2 v L r sp sq u (HT1.out.tb.later hu) HI.out.1 HI.out.2.1
    clear hJ
    go_enter Tryd.func22, Tryd.ntmps22
    go_wp2_with fail
    refine (HA.out _ (Below.refl _ _)).mono ?_
    rintro e w2 ⟨rfl, hb2⟩
    have HB2 : Hid (Below w1.heap.size w1 w2) := hb2
    obtain ⟨c0, c1, c2, c3⟩ := HSC.out w2 hb2
    simp only at c0 c1 c2 c3
    clear hb2
    go_wp2_with fail
    refine (HB.out _ HB2.out).mono ?_
    rintro e w3 ⟨rfl, hb3⟩
    have HB3 : Hid (Below w1.heap.size w1 w3) := below_step HB2.out hb3
    clear hb3
    go_wp2
    go_ret
    exact ⟨by simp, m, v, r, L, HT1.out.later HB3.out⟩
  have e2 : (sk == 2) = false := by simpa using k2
  by_cases k3 : sk = 3
  · subst k3
    have HA : Hid (Calls Tryd.prog 9 #[.pointer (some ⟨t, 0, none⟩), .int .i64 sp, .int .i64 sq, .int .i64 so] w1 fun e w' => e = .returned (.int .i64 (noteE L sp sq so)) ∧ (∃ m', Two W w' t m' t2 v r (noteL L sp sq so) L) ∧ w'.heap[w.heap.size]? = w1.heap[w.heap.size]?) := by
      refine (HT1.out.noteA HRF.out sp sq so HI.out.1 HI.out.2.1 HI.out.2.2).mono ?_
      rintro e w' ⟨rfl, h1, h2⟩
      exact ⟨rfl, h1, h2.block _ HSZ.out (fun e => by
        rcases e with e | e
        · exact HNT.out.1 e
        · exact HNT.out.2.2 e)⟩
    have HB : Hid (∀ u m', Two W u t m' t2 v r (noteL L sp sq so) L → Calls Tryd.prog 39 #[.pointer (some ⟨t2, 0, none⟩), .int .i64 sp, .int .i64 sq, .int .i64 so] u fun e w' => e = .returned (.int .i64 (noteE L sp sq so)) ∧ ∃ v' r', Two W w' t m' t2 v' r' (noteL L sp sq so) (noteL L sp sq so)) := fun u m' hu => (hu.noteB sp sq so HI.out.1 HI.out.2.1 HI.out.2.2).mono (fun e w' ⟨h1, h2, _⟩ => ⟨h1, h2⟩)
    have hsc' : St.CellsAt w1 w.heap.size 0 ⟨3, sp, sq, so⟩ := HSC.out w1 (Below.refl _ _)
    have HS1 : Hid (St.CellsAt w1 w.heap.size 0 ⟨3, sp, sq, so⟩) := hsc'
    clear hsc'
    generalize noteE L sp sq so = E at HA HB
    generalize noteL L sp sq so = L' at HA HB
    go_enter Tryd.func22, Tryd.ntmps22
    go_wp2_with fail
    refine HA.out.mono ?_
    rintro e w2 ⟨rfl, ⟨m', h2⟩, hblk⟩
    obtain ⟨c0, c1, c2, c3⟩ := HS1.out.block hblk
    simp only at c0 c1 c2 c3
    have H2 := HB.out w2 m' h2
    clear h2 hblk HB HA
    have HB2 : Hid (Calls Tryd.prog 39 #[.pointer (some ⟨t2, 0, none⟩), .int .i64 sp, .int .i64 sq, .int .i64 so] w2 fun e w' => e = .returned (.int .i64 E) ∧ ∃ v' r', Two W w' t m' t2 v' r' L' L') := H2
    clear H2
    go_wp2_with fail
    refine HB2.out.mono ?_
    rintro e w3 ⟨rfl, v', r', h3⟩
    have H3 : Hid (Two W w3 t m' t2 v' r' L' L') := h3
    clear h3 HB2
    go_wp2
    go_ret
    exact ⟨by simp, m', v', r', L', H3.out⟩
  have e3 : (sk == 3) = false := by simpa using k3
  by_cases k4 : sk = 4
  · subst k4
    have HTL : Hid (TabL L) := HT1.out.ta.tab
    go_enter Tryd.func22, Tryd.ntmps22
    go_wp2_with fail
    refine (listOf t m L w1 HT1.out.ta).mono ?_
    rintro e w2 ⟨z2, r2, rfl, hl2⟩
    have HL2 : Hid (ListAt w1 w2 z2 L r2) := hl2
    have HT2 : Hid (Two W w2 t m t2 v r L L) := HT1.out.later hl2.below
    clear hl2
    go_wp2_with fail
    refine (listOf t m L w2 HT2.out.ta).mono ?_
    rintro e w3 ⟨z3, r3, rfl, hl3⟩
    have HL3 : Hid (ListAt w2 w3 z3 L r3) := hl3
    have HT3 : Hid (Two W w3 t m t2 v r L L) := HT2.out.later hl3.below
    clear hl3
    go_wp2_with fail
    refine (rlistOf t2 v L r w3 HT3.out.tb).mono ?_
    rintro e w4 ⟨z4, r4, rfl, hl4⟩
    have HL4 : Hid (ListAt w3 w4 z4 L r4) := hl4
    have HT4 : Hid (Two W w4 t m t2 v r L L) := HT3.out.later hl4.below
    have HO : Hid (OwnPr w4 z2 L r2 ∧ OwnPr w4 z3 L r3 ∧ OwnPr w4 z4 L r4) := ⟨(HL2.out.row.later HL3.out.below).later hl4.below, HL3.out.row.later hl4.below, hl4.row⟩
    clear hl4
    go_wp2_with fail
    refine (sameB z2 z4 L w4 (HO.out.1.reads HTL.out) (HO.out.2.2.reads HTL.out)).mono ?_
    rintro e w5 ⟨rfl, hb5⟩
    have HB5 : Hid (Below w4.heap.size w4 w5) := hb5
    clear hb5
    go_wp2_with fail
    refine (sameB z3 z4 L w5 ((HO.out.2.1.later HB5.out).reads HTL.out) ((HO.out.2.2.later HB5.out).reads HTL.out)).mono ?_
    rintro e w6 ⟨rfl, hb6⟩
    have HB6 : Hid (Below w4.heap.size w4 w6) := below_step HB5.out hb6
    clear hb6
    go_wp2_with fail
    refine (spoilOf z2 L r2 w6 (HO.out.1.later HB6.out) HTL.out.len).mono ?_
    rintro e w7 ⟨rfl, hc7⟩
    have HT6 : Hid (Two W w6 t m t2 v r L L) := HT4.out.later HB6.out
    have HN7 : Hid (Two W w7 t m t2 v r L L ∧ PrsAt w7 z3 L ∧ PrsAt w7 z4 L) := by
      have s1 := HL2.out.below.size
      have s2 := HL3.out.below.size
      have hn : ∀ k, k < w1.heap.size → r2 ≠ some k := fun k hk e => by have := HL2.out.new k e; omega
      have hr2 : ∀ g, r2 = some g → g < w2.heap.size := fun g e => by have := HL2.out.row; rw [e] at this; exact this.lt
      have hT := HT1.out
      have hb : ∀ k, k < w1.heap.size → w7.heap[k]? = w6.heap[k]? := fun k hk => hc7.block k (by have := HL4.out.below.size; have := HB6.out.size; omega) (hn k hk)
      refine ⟨⟨HT6.out.ta.of_block (hb t hT.ta.lt) (fun b e => hb b (hT.ta.mlt b e)), HT6.out.tb.of_block (hb t2 hT.tb.lt) (fun g e => hb g (hT.tb.rlt g e)) hc7.size, hT.ne, hT.rt, hT.mt, hT.mr, hT.g1, hT.g2, hT.n1, hT.n2, HT6.out.below.trans (hc7.below HT6.out.below.size (fun k e => by have := HL2.out.new k e; have := hT.below.size; omega))⟩, ?_, ?_⟩
      · refine ((HO.out.2.1.later HB6.out).of_block (fun g e => hc7.block g ?_ (fun e2 => ?_)) hc7.size).reads HTL.out
        · have := HL3.out.row; rw [e] at this; have := this.lt; have := HL4.out.below.size; have := HB6.out.size; omega
        · have h1 := hr2 g e2; have h2 := HL3.out.new g e; omega
      · refine ((HO.out.2.2.later HB6.out).of_block (fun g e => hc7.block g ?_ (fun e2 => ?_)) hc7.size).reads HTL.out
        · have := HL4.out.row; rw [e] at this; have := this.lt; have := HB6.out.size; omega
        · have h1 := hr2 g e2; have h2 := HL4.out.new g e; omega
    clear hc7
    go_wp2_with fail
    refine (sameB z3 z4 L w7 HN7.out.2.1 HN7.out.2.2).mono ?_
    rintro e w8 ⟨rfl, hb8⟩
    have HT8 : Hid (Two W w8 t m t2 v r L L) := HN7.out.1.later hb8
    clear hb8
    go_wp2
    go_ret
    exact ⟨by simp, m, v, r, L, HT8.out⟩
  have e4 : (sk == 4) = false := by simpa using k4
  by_cases k6 : sk = 6
  · subst k6
    have HCA : Hid (Calls Tryd.prog 11 #[.pointer (some ⟨t, 0, none⟩)] w1 fun e w' => ∃ t' m', e = .returned (.pointer (some ⟨t', 0, none⟩)) ∧ NewAt w1 w' t' m' L) := cloneOf t m L w1 HT1.out.ta
    have HCB : Hid (∀ u, Below w1.heap.size w1 u → Calls Tryd.prog 21 #[.pointer (some ⟨t2, 0, none⟩)] u fun e w' => ∃ t' z q, e = .returned (.pointer (some ⟨t', 0, none⟩)) ∧ RNew u w' t' z L q) := fun u hu => rcloneOf t2 v L r u (HT1.out.tb.later hu)
    have HTL : Hid (TabL (noteL L sp sq so)) := HT1.out.ta.tab.note sp sq so
    go_enter Tryd.func22, Tryd.ntmps22
    go_wp2_with fail
    refine HCA.out.mono ?_
    rintro e w2 ⟨c, mc, rfl, hn2⟩
    have HN2 : Hid (NewAt w1 w2 c mc L) := hn2
    have HB2 : Hid (Below w1.heap.size w1 w2) := hn2.below
    clear hn2 HCA
    go_wp2_with fail
    refine (HCB.out w2 HB2.out).mono ?_
    rintro e w3 ⟨q, vq, rq, rfl, hn3⟩
    have HT3 : Hid (Two w1 w3 c mc q vq rq L L) := Two.clones HN2.out hn3
    have hb3 := HT3.out.below
    obtain ⟨c0, c1, c2, c3⟩ := HSC.out w3 hb3
    simp only at c0 c1 c2 c3
    have HA : Hid (Calls Tryd.prog 9 #[.pointer (some ⟨c, 0, none⟩), .int .i64 sp, .int .i64 sq, .int .i64 so] w3 fun e w' => e = .returned (.int .i64 (noteE L sp sq so)) ∧ ∃ m', Two w1 w' c m' q vq rq (noteL L sp sq so) L) := (HT3.out.noteA (HFR.out w1 (Below.refl _ _)) sp sq so HI.out.1 HI.out.2.1 HI.out.2.2).mono (fun e w' ⟨h1, h2, _⟩ => ⟨h1, h2⟩)
    have HB : Hid (∀ u m', Two w1 u c m' q vq rq (noteL L sp sq so) L → Calls Tryd.prog 39 #[.pointer (some ⟨q, 0, none⟩), .int .i64 sp, .int .i64 sq, .int .i64 so] u fun e w' => e = .returned (.int .i64 (noteE L sp sq so)) ∧ ∃ v' r', Two w1 w' c m' q v' r' (noteL L sp sq so) (noteL L sp sq so)) := fun u m' hu => (hu.noteB sp sq so HI.out.1 HI.out.2.1 HI.out.2.2).mono (fun e w' ⟨h1, h2, _⟩ => ⟨h1, h2⟩)
    clear hn3 hb3 HCB HN2 HB2
    generalize noteE L sp sq so = E at HA HB
    generalize noteL L sp sq so = L' at HA HB HTL
    go_wp2_with fail
    refine HA.out.mono ?_
    rintro e w4 ⟨rfl, m4, h4⟩
    have HT4 : Hid (Two w1 w4 c m4 q vq rq L' L) := h4
    have HB4 : Hid (Calls Tryd.prog 39 #[.pointer (some ⟨q, 0, none⟩), .int .i64 sp, .int .i64 sq, .int .i64 so] w4 fun e w' => e = .returned (.int .i64 E) ∧ ∃ v' r', Two w1 w' c m4 q v' r' L' L') := HB.out w4 m4 h4
    obtain ⟨c0, c1, c2, c3⟩ := HSC.out w4 h4.below
    simp only at c0 c1 c2 c3
    clear h4 HA HB HT3
    go_wp2_with fail
    refine HB4.out.mono ?_
    rintro e w5 ⟨rfl, v5, r5, h5⟩
    have HT5 : Hid (Two w1 w5 c m4 q v5 r5 L' L') := h5
    clear h5 HB4 HT4
    go_wp2_with fail
    refine (listOf c m4 L' w5 HT5.out.ta).mono ?_
    rintro e w6 ⟨z6, r6, rfl, hl6⟩
    have HL6 : Hid (ListAt w5 w6 z6 L' r6) := hl6
    have HT6 : Hid (Two w1 w6 c m4 q v5 r5 L' L') := HT5.out.later hl6.below
    clear hl6 HT5
    go_wp2_with fail
    refine (rlistOf q v5 L' r5 w6 HT6.out.tb).mono ?_
    rintro e w7 ⟨z7, r7, rfl, hl7⟩
    have HP7 : Hid (PrsAt w7 z6 L' ∧ PrsAt w7 z7 L' ∧ Below w1.heap.size w1 w7) := ⟨(HL6.out.row.later hl7.below).reads HTL.out, hl7.row.reads HTL.out, (HT6.out.later hl7.below).below⟩
    clear hl7 HT6 HL6
    go_wp2_with fail
    refine (sameB z6 z7 L' w7 HP7.out.1 HP7.out.2.1).mono ?_
    rintro e w8 ⟨rfl, hb8⟩
    have HB8 : Hid (Below w1.heap.size w1 w8) := below_step HP7.out.2.2 hb8
    clear hb8 HP7
    go_wp2
    go_ret
    exact ⟨by simp, m, v, r, L, HT1.out.later HB8.out⟩
  have e6 : (sk == 6) = false := by simpa using k6
  go_enter Tryd.func22, Tryd.ntmps22
  go_wp2
  go_ret
  exact ⟨by simp, m, v, r, L, HT1.out⟩
end Go.Proofs.YtlbofjeopbadhaaDoor
