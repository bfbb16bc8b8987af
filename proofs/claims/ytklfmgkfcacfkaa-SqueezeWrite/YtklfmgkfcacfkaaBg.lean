import Derived.Test.YtklfmgkfcacfkaaEe
/-! What Write answers, of both. -/
namespace Go.Proofs.Ytklfmgkfcacfkaa
open Go.RowKit Plain
set_option linter.unusedVariables false
set_option linter.unusedSimpArgs false

set_option maxHeartbeats 2000000 in
set_option maxRecDepth 1000000 in
theorem blockG (n : Nat) (sv : Value) (tg : List Tg) (w : World) (h : TRd w sv tg) (hn : n ≤ 4096) (hts : tg.length ≤ 4096) (hfit : ∀ t ∈ tg, t.fine) :
    Calls Try.prog 41 #[.int .i64 n, sv] w fun e w' => ∃ v' r', e = .returned v' ∧ Own w' v' (blkG n tg) r' ∧ Below w.heap.size w w' ∧ (∀ g, r' = some g → w.heap.size ≤ g) := by
  obtain ⟨a, cap, rfl, hlc, hcm, hok, hcells⟩ := h
  unfold maxLen at hcm
  have HCS : Hid (tg ≠ [] → ∃ b off, a = some ⟨b, off, none⟩ ∧ ∀ k (hk : k < tg.length), w.cell? ⟨b, off + k * 3, none⟩ = some tg[k].v ∧ w.cell? ⟨b, off + k * 3 + 1, none⟩ = some (.int .i64 tg[k].d) ∧ w.cell? ⟨b, off + k * 3 + 2, none⟩ = some (.int .i64 tg[k].n)) := hcells
  have HOK : Hid (∀ t ∈ tg, t.ok w) := hok
  have HF : Hid (∀ t ∈ tg, t.fine) := hfit
  clear hok hcells hfit
  go_enter Try.func41, Try.ntmps41
  go_wp2_with fail
  refine (newWriter w).mono ?_
  rintro e w0 ⟨rfl, hw0, hb0, hs0⟩
  have HW0 : Hid (WAt w0 w.heap.size [] none) := hw0
  have HB0 : Hid (Below w.heap.size w w0) := hb0
  clear hw0 hb0
  go_wp2_with fail
  refine (wUvarint w.heap.size [] none n w0 HW0.out (by omega) (by simp)).mono ?_
  rintro e w1 ⟨rfl, r1, hw1, hk1, hr1⟩
  have HI1 : Hid (WAt w1 w.heap.size (uv n) r1 ∧ Below w.heap.size w w1 ∧ ∀ g, r1 = some g → w.heap.size ≤ g) := by
    refine ⟨by simpa using hw1, HB0.out.trans (hk1.below HB0.out.size (Nat.le_refl _) (by simp)), fun g e => ?_⟩
    rcases hr1 with rfl | ⟨g', rfl, hg'⟩
    · simp at e
    · simp at e; omega
  clear hw1 hk1 hr1 HB0 HW0
  go_wp2
  go_loopg [15] tg.length (fun gk s15 wx => ∃ k : Nat, ∃ rx, k + gk = tg.length ∧ s15 = .int .i64 k ∧ Hid (WAt wx w.heap.size (uv n ++ (tg.take k).flatMap Tg.enc) rx ∧ Below w.heap.size w wx ∧ ∀ g, rx = some g → w.heap.size ≤ g))
  case atStart => exact ⟨0, r1, by omega, rfl, by unfold Hid; simpa using HI1.out⟩
  case round =>
    obtain ⟨k, rx, hkg, rfl, HI⟩ := hrel
    clear HI1
    cases gk with
    | zero =>
      obtain rfl : k = tg.length := by omega
      have HL : Hid ((uv n ++ (tg.take tg.length).flatMap Tg.enc).length ≤ 140737488355328) := by
        have h1 := uv_len10 (v := n) (by omega)
        have h2 := encG_len (tg.take tg.length) (fun t ht => HF.out t (List.mem_of_mem_take ht))
        rw [List.length_take] at h2
        unfold Hid
        rw [List.length_append]; omega
      go_wp2_with fail
      refine (wBytes w.heap.size _ rx wr HI.out.1 HL.out).mono ?_
      rintro e w2 ⟨v', r', rfl, ho', hb', hr'⟩
      have HE : Hid (Own w2 v' (blkG n tg) r' ∧ Below w.heap.size w w2 ∧ ∀ g, r' = some g → w.heap.size ≤ g) := by
        rw [List.take_length] at ho'
        exact ⟨ho', HI.out.2.1.trans (hb'.mono HI.out.2.1.size), fun g e => Nat.le_trans HI.out.2.1.size (hr' g e)⟩
      clear ho' hb' hr'
      go_wp2
      go_ret
      exact ⟨v', r', rfl, HE.out⟩
    | succ gk1 =>
      have hk : k < tg.length := by omega
      have HN : Hid (uv n ++ (tg.take (k + 1)).flatMap Tg.enc = (uv n ++ (tg.take k).flatMap Tg.enc) ++ tg[k].enc) := by
        unfold Hid; rw [List.take_succ_eq_append_getElem hk, List.flatMap_append]; simp
      have HDL : Hid ((uv n ++ (tg.take k).flatMap Tg.enc).length + 5000 ≤ 140737488355328) := by
        have h1 := uv_len10 (v := n) (by omega)
        have h2 := encG_len (tg.take k) (fun t ht => HF.out t (List.mem_of_mem_take ht))
        rw [List.length_take] at h2
        unfold Hid
        rw [List.length_append]; omega
      obtain ⟨D, hD⟩ : ∃ D, uv n ++ (tg.take k).flatMap Tg.enc = D := ⟨_, rfl⟩
      rw [hD] at HN HDL HI
      clear hD
      obtain ⟨b, off, rfl, HC⟩ := HCS.out (by rintro rfl; simp at hk)
      have hck := HC k hk
      obtain ⟨t, ht⟩ : ∃ t, tg[k] = t := ⟨_, rfl⟩
      have hmem : t ∈ tg := by rw [← ht]; exact List.getElem_mem hk
      have hokt : t.ok w := HOK.out t hmem
      have hfin : t.fine := HF.out t hmem
      rw [ht] at hck HN
      clear HC ht hmem
      obtain ⟨tv, tl, td, tn⟩ := t
      obtain ⟨c0, c1, c2⟩ := hck
      simp only at c0 c1 c2
      have hbl := cell_lt c0
      simp only at hbl
      have hc0 : wr.cell? ⟨b, off + k * 3, none⟩ = some tv := by rw [HI.out.2.1.cell (p := ⟨b, _, none⟩) hbl]; exact c0
      have hc1 : wr.cell? ⟨b, off + k * 3 + 1, none⟩ = some (.int .i64 td) := by rw [HI.out.2.1.cell (p := ⟨b, _, none⟩) hbl]; exact c1
      have hc2 : wr.cell? ⟨b, off + k * 3 + 2, none⟩ = some (.int .i64 tn) := by rw [HI.out.2.1.cell (p := ⟨b, _, none⟩) hbl]; exact c2
      have HBs : Hid (BytesAt w tv tl) := hokt.1
      obtain ⟨htb, htl, htd1, htd2, htn1, htn2⟩ := hokt
      change BytesAt w tv tl at htb
      obtain ⟨a9, c9, rfl, hlc9, hcm9, -, -⟩ := htb
      unfold maxLen at hcm9
      simp only at htl htd1 htd2 htn1 htn2
      have hbig : w.heap.size < wr.heap.size := HI.out.1.lt
      clear c0 c1 c2
      rcases hfin with ⟨h0, h1, h2, h3, h4⟩ | ⟨h0, h1, h2, h3⟩
      · simp only at h0 h1 h2 h3 h4
        subst h0
        obtain ⟨m, rfl, hm2⟩ : ∃ m : Nat, tn = (m : Int) ∧ m ≤ 258 := ⟨tn.toNat, by omega, by omega⟩
        obtain ⟨d, rfl, hd2⟩ : ∃ d : Nat, td = (d : Int) ∧ d ≤ 2048 := ⟨td.toNat, by omega, by omega⟩
        have HEN : Hid (Tg.enc ⟨.slice a9 ([] : List Nat).length c9, [], (d : Int), (m : Int)⟩ = uv (2 * m + 1) ++ uv d) := by unfold Hid Tg.enc; simp
        rw [HEN.out] at HN
        simp only [List.length_nil] at hc0
        clear h1 h2 h3 h4 HEN HBs
        go_wp2_with fail
        clear hc0 hc1 hc2
        have HK0 : Hid (Below wr.heap.size wr (wr.alloc (.cells #[.slice a9 0 c9, .int .i64 d, .int .i64 m] 28))) := (Below.refl _ _).alloc (Nat.le_refl _) _
        have HS0 : Hid ((wr.alloc (.cells #[.slice a9 0 c9, .int .i64 d, .int .i64 m] 28)).heap.size = wr.heap.size + 1) := by unfold Hid; simp
        have HC0 : Hid ((wr.alloc (.cells #[.slice a9 0 c9, .int .i64 d, .int .i64 m] 28)).cell? ⟨wr.heap.size, 1, none⟩ = some (.int .i64 d)) := by
          unfold Hid; rw [World.cell?_alloc_at _ _ _ _ rfl]; rfl
        obtain ⟨W, hW⟩ : ∃ W, wr.alloc (.cells #[.slice a9 0 c9, .int .i64 d, .int .i64 m] 28) = W := ⟨_, rfl⟩
        rw [hW] at HK0 HS0 HC0 ⊢
        clear hW
        have HWA : Hid (WAt W w.heap.size D rx) := HI.out.1.later HK0.out
        have hrx : ∀ g, rx = some g → g < wr.heap.size := HI.out.1.rlt
        refine (calls_cast (by simp) (wUvarint w.heap.size D rx (2 * m + 1) W HWA.out (by omega) (by have := HDL.out; omega))).mono ?_
        rintro e w2 ⟨rfl, hp2⟩
        obtain ⟨r2, hwa2, hb2, hr2, hs2, hbl2⟩ := hp2.step (B := w.heap.size) (w0 := w) (HI.out.2.1.trans (HK0.out.mono HI.out.2.1.size)) (Nat.le_refl _) HWA.out.lt HI.out.2.2
        have hcell2 : w2.cell? ⟨wr.heap.size, 1, none⟩ = some (.int .i64 d) := by
          rw [World.cell?_of_block (w := W) (a := ⟨wr.heap.size, 1, none⟩) (hbl2 wr.heap.size (by rw [HS0.out]; omega) (by omega) (fun e => by have := hrx _ e.symm; omega))]
          exact HC0.out
        have HI2 : Hid (WAt w2 w.heap.size (D ++ uv (2 * m + 1)) r2 ∧ Below w.heap.size w w2 ∧ ∀ g, r2 = some g → w.heap.size ≤ g) := ⟨hwa2, hb2, hr2⟩
        clear hp2 hwa2 hb2 hr2 hs2 hbl2
        go_wp2_with fail
        refine (wUvarint w.heap.size (D ++ uv (2 * m + 1)) r2 d w2 HI2.out.1 (by omega) (by
          have := HDL.out
          have h1 := uv_len10 (v := 2 * m + 1) (by omega)
          rw [List.length_append]; omega)).mono ?_
        rintro e w3 ⟨rfl, hp3⟩
        obtain ⟨r3, hwa3, hb3, hr3, hs3, hbl3⟩ := hp3.step (B := w.heap.size) (w0 := w) HI2.out.2.1 (Nat.le_refl _) HI2.out.1.lt HI2.out.2.2
        have HI3 : Hid (WAt w3 w.heap.size (uv n ++ (tg.take (k + 1)).flatMap Tg.enc) r3 ∧ Below w.heap.size w w3 ∧ ∀ g, r3 = some g → w.heap.size ≤ g) := by
          refine ⟨?_, hb3, hr3⟩
          rw [HN.out, ← List.append_assoc]
          exact hwa3
        clear hp3 hwa3 hb3 hr3 hs3 hbl3
        go_wp2
        go_roundg gk1
        case measure => omega
        case rel => exact ⟨k + 1, r3, by omega, by go_num, HI3.out⟩
      · simp only at h0 h1 h2 h3
        subst h1 h2
        have HEN : Hid (Tg.enc ⟨.slice a9 tl.length c9, tl, 0, 0⟩ = uv (2 * tl.length) ++ tl) := by unfold Hid Tg.enc; rw [if_neg h0]
        rw [HEN.out] at HN
        have hbs1 : 0 < tl.length := List.length_pos_iff.mpr h0
        clear h0 HEN
        go_wp2_with fail
        clear hc0 hc1 hc2
        have HK0 : Hid (Below wr.heap.size wr (wr.alloc (.cells #[.slice a9 tl.length c9, .int .i64 0, .int .i64 0] 28))) := (Below.refl _ _).alloc (Nat.le_refl _) _
        have HS0 : Hid ((wr.alloc (.cells #[.slice a9 tl.length c9, .int .i64 0, .int .i64 0] 28)).heap.size = wr.heap.size + 1) := by unfold Hid; simp
        have HC0 : Hid ((wr.alloc (.cells #[.slice a9 tl.length c9, .int .i64 0, .int .i64 0] 28)).cell? ⟨wr.heap.size, 0, none⟩ = some (.slice a9 tl.length c9)) := by
          unfold Hid; rw [World.cell?_alloc_at _ _ _ _ rfl]; rfl
        obtain ⟨W, hW⟩ : ∃ W, wr.alloc (.cells #[.slice a9 tl.length c9, .int .i64 0, .int .i64 0] 28) = W := ⟨_, rfl⟩
        rw [hW] at HK0 HS0 HC0 ⊢
        clear hW
        have HWA : Hid (WAt W w.heap.size D rx) := HI.out.1.later HK0.out
        have hrx : ∀ g, rx = some g → g < wr.heap.size := HI.out.1.rlt
        refine (calls_cast (by simp) (wUvarint w.heap.size D rx (2 * tl.length) W HWA.out (by omega) (by have := HDL.out; omega))).mono ?_
        rintro e w2 ⟨rfl, hp2⟩
        obtain ⟨r2, hwa2, hb2, hr2, hs2, hbl2⟩ := hp2.step (B := w.heap.size) (w0 := w) (HI.out.2.1.trans (HK0.out.mono HI.out.2.1.size)) (Nat.le_refl _) HWA.out.lt HI.out.2.2
        have hcell2 : w2.cell? ⟨wr.heap.size, 0, none⟩ = some (.slice a9 tl.length c9) := by
          rw [World.cell?_of_block (w := W) (a := ⟨wr.heap.size, 0, none⟩) (hbl2 wr.heap.size (by rw [HS0.out]; omega) (by omega) (fun e => by have := hrx _ e.symm; omega))]
          exact HC0.out
        have HI2 : Hid (WAt w2 w.heap.size (D ++ uv (2 * tl.length)) r2 ∧ Below w.heap.size w w2 ∧ ∀ g, r2 = some g → w.heap.size ≤ g) := ⟨hwa2, hb2, hr2⟩
        clear hp2 hwa2 hb2 hr2 hs2 hbl2
        go_wp2_with fail
        refine (wRaw w.heap.size (D ++ uv (2 * tl.length)) r2 _ tl w2 HI2.out.1 (HBs.out.later HI2.out.2.1) (by
          have := HDL.out
          have h1 := uv_len10 (v := 2 * tl.length) (by omega)
          rw [List.length_append]; omega)).mono ?_
        rintro e w3 ⟨rfl, hp3⟩
        obtain ⟨r3, hwa3, hb3, hr3, hs3, hbl3⟩ := hp3.step (B := w.heap.size) (w0 := w) HI2.out.2.1 (Nat.le_refl _) HI2.out.1.lt HI2.out.2.2
        have HI3 : Hid (WAt w3 w.heap.size (uv n ++ (tg.take (k + 1)).flatMap Tg.enc) r3 ∧ Below w.heap.size w w3 ∧ ∀ g, r3 = some g → w.heap.size ≤ g) := by
          refine ⟨?_, hb3, hr3⟩
          rw [HN.out, ← List.append_assoc]
          exact hwa3
        clear hp3 hwa3 hb3 hr3 hs3 hbl3
        go_wp2
        go_roundg gk1
        case measure => omega
        case rel => exact ⟨k + 1, r3, by omega, by go_num, HI3.out⟩

theorem encC : ∀ (tg sg : List Tg), tg.map Tg.c3 = sg.map Tg.c3 → tg.flatMap Tg.enc = sg.flatMap Tg.enc
  | [], [], _ => rfl
  | [], _ :: _, h => by simp at h
  | _ :: _, [], h => by simp at h
  | t :: tg, s :: sg, h => by
    simp only [List.map_cons, List.cons.injEq, Tg.c3, Prod.mk.injEq] at h
    obtain ⟨⟨h1, h2, h3⟩, h4⟩ := h
    have e : t.enc = s.enc := by unfold Tg.enc; rw [h1, h2, h3]
    rw [List.flatMap_cons, List.flatMap_cons, e, encC tg sg h4]
def WrtIs (tg : List Tg) (X : List Nat) (z : Int) : Prop := z = (((tlen tg 0).2 : Nat) : Int) ∧ ((tlen tg 0).2 = 0 → X = blkG (tlen tg 0).1 tg) ∧ ((tlen tg 0).2 ≠ 0 → X = [])
theorem WrtIs.one {tg sg : List Tg} {X Y : List Nat} {y z : Int} (hc : tg.map Tg.c3 = sg.map Tg.c3) (h : WrtIs tg X y) (k : WrtIs sg Y z) : X = Y ∧ y = z := by
  obtain ⟨h1, h2, h3⟩ := h
  obtain ⟨k1, k2, k3⟩ := k
  have e := tlen_c3 tg sg 0 hc
  rw [e] at h1 h2 h3
  refine ⟨?_, h1.trans k1.symm⟩
  by_cases h0 : (tlen sg 0).2 = 0
  · rw [h2 h0, k2 h0]; unfold blkG; rw [encC tg sg hc]
  · rw [h3 h0, k3 h0]
theorem WrtIs.len {tg : List Tg} {X : List Nat} {z : Int} (h : WrtIs tg X z) : X.length ≤ 140737488351232 := by
  by_cases h0 : (tlen tg 0).2 = 0
  · obtain ⟨f1, f2, f3⟩ := tlen_fine tg 0 (by omega) h0
    have h1 := uv_len10 (v := (tlen tg 0).1) (by omega)
    have h2 := encG_len tg f3
    rw [h.2.1 h0]
    unfold blkG
    rw [List.length_append]
    omega
  · rw [h.2.2 h0]; simp
set_option maxHeartbeats 1000000 in
theorem writeAll (sv : Value) (tg : List Tg) (w : World) (h : TRd w sv tg) : Calls Try.prog 28 #[sv] w (BytPost (WrtIs tg) w) := by
  have HTR : Hid (TRd w sv tg) := h
  have HTL : Hid (Calls Try.prog 37 #[sv] w fun e w' => e = .returned (.tuple #[.int .i64 ((tlen tg 0).1 : Nat), .int .i64 ((tlen tg 0).2 : Nat)]) ∧ Below w.heap.size w w') := textLengthOf sv tg w h
  obtain ⟨a, cap, rfl, -⟩ := h
  by_cases h0 : (tlen tg 0).2 = 0
  · obtain ⟨f1, f2, f3⟩ := tlen_fine tg 0 (by omega) h0
    have HW : Hid (∀ X, X = blkG (tlen tg 0).1 tg → WrtIs tg X 0) := fun X hX => ⟨by rw [h0]; rfl, fun _ => hX, fun hx => absurd h0 hx⟩
    rw [h0] at HTL
    obtain ⟨M, hM⟩ : ∃ M, (tlen tg 0).1 = M := ⟨_, rfl⟩
    rw [hM] at HTL HW f1 f2
    have HF : Hid (∀ t ∈ tg, t.fine) := f3
    clear hM h0 f3
    go_enter Try.func28, Try.ntmps28
    go_wp2_with fail
    refine HTL.out.mono ?_
    rintro e w1 ⟨rfl, hb1⟩
    have HB1 : Hid (Below w.heap.size w w1) := hb1
    clear hb1
    go_wp2_with fail
    refine (blockG M _ tg w1 (HTR.out.later HB1.out) f2 (by omega) HF.out).mono ?_
    rintro e w2 ⟨v', r', rfl, ho, hb2, hr⟩
    have HE : Hid (Own w2 v' (blkG M tg) r' ∧ Below w.heap.size w w2 ∧ ∀ g, r' = some g → w.heap.size ≤ g) := ⟨ho, below_on HB1.out hb2, fun g e => Nat.le_trans HB1.out.size (hr g e)⟩
    clear ho hb2 hr
    go_wp2
    go_ret2
    exact ⟨v', r', _, 0, rfl, HW.out _ rfl, HE.out.1, HE.out.2.2, HE.out.2.1⟩
  · have HW : Hid (WrtIs tg [] (((tlen tg 0).2 : Nat) : Int)) := ⟨rfl, fun hx => absurd hx h0, fun _ => rfl⟩
    obtain ⟨z, hz⟩ : ∃ z, (tlen tg 0).2 = z := ⟨_, rfl⟩
    obtain ⟨M, hM⟩ : ∃ M, (tlen tg 0).1 = M := ⟨_, rfl⟩
    rw [hz] at HTL HW h0
    rw [hM] at HTL
    have hne : (((z : Nat) : Int) != 0) = true := by simp; omega
    have hne2 : (((z : Nat) : Int) == 0) = false := by simp; omega
    clear hz hM
    go_enter Try.func28, Try.ntmps28
    go_wp2_with fail
    refine HTL.out.mono ?_
    rintro e w1 ⟨rfl, hb1⟩
    have HB1 : Hid (Below w.heap.size w w1) := hb1
    clear hb1
    go_wp2
    go_ret2
    exact ⟨_, none, [], _, rfl, HW.out, Own.nil _, by simp, HB1.out⟩
theorem refWriteAll (sv : Value) (tg : List Tg) (w : World) (h : TRd w sv tg) : Calls Try.prog 27 #[sv] w (BytPost (WrtIs tg) w) := by
  by_cases h0 : (tlen tg 0).2 = 0
  · refine (refWriteGood sv tg w h h0).mono ?_
    rintro e w' ⟨⟨h1, _⟩ | ⟨_, v, r, rfl, h1, h2⟩, hb⟩
    · exact absurd h0 h1
    · exact ⟨v, r, _, 0, rfl, ⟨by rw [h0]; rfl, fun _ => rfl, fun hx => absurd h0 hx⟩, h1, h2, hb⟩
  · refine (refWriteBad sv tg w h h0).mono ?_
    rintro e w' ⟨⟨_, rfl⟩ | ⟨h1, _⟩, hb⟩
    · exact ⟨_, none, [], _, rfl, ⟨rfl, fun hx => absurd hx h0, fun _ => rfl⟩, Own.nil _, by simp, hb⟩
    · exact absurd h1 h0
end Go.Proofs.Ytklfmgkfcacfkaa
