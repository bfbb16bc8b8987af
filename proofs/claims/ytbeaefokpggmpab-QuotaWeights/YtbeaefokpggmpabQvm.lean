import Derived.Test.YtbeaefokpggmpabQvl
/-! quota: the program's Spread. -/
namespace Go.Proofs.Ytbeaefokpggmpab
open Go.RowKit Plain
set_option linter.unusedVariables false

theorem OwnL.made {w : World} {g base n : Nat} (ho : w.ownsRow base 2 1 (.slice (some ⟨g, 0, none⟩) n n) n (madeCells #[Value.int .i64 0] n).toList) (hn : n ≤ maxLen) : OwnL w (.slice (some ⟨g, 0, none⟩) n n) (List.replicate n 0) (some g) ∧ base ≤ g := by
  obtain ⟨m1, m2, m3, m4⟩ := made_row ho
  refine ⟨⟨fun c hc => ?_, .inr ⟨g, n, rfl, by rw [List.length_replicate], m3, by rw [List.length_replicate]; exact Nat.le_refl _, hn, m2, fun j hj => by rw [m1 j hj]; rfl, fun j hj => ?_⟩⟩, m4⟩
  · rw [List.eq_of_mem_replicate hc]; omega
  · rw [List.length_replicate] at hj
    rw [m1 j hj]
    have : (List.replicate n (0 : Int)).getD j 0 = 0 := by simp [List.getD_eq_getElem?_getD, List.getElem?_replicate]; split <;> rfl
    rw [this]
theorem spOk_iff {total : Int} {l : List Int} : SpOk total l ↔ mayB total l 1048576 = true ∧ l.sum ≠ 0 := by
  unfold mayB
  simp only [Bool.and_eq_true, decide_eq_true_eq]
  constructor
  · intro h
    exact ⟨⟨h.len, inR_true ⟨h.t0, h.t1⟩, allIn_iff.mpr h.ws⟩, h.all⟩
  · rintro ⟨⟨h1, h2, h3⟩, h4⟩
    exact ⟨h1, (inR_is h2).1, (inR_is h2).2, allIn_iff.mp h3, h4⟩
theorem hresQspread : Try.f14.results = #[.tmp 4, .tmp 5] := by kernel_rfl
set_option maxHeartbeats 8000000 in
set_option maxRecDepth 1000000 in
theorem spreadOf (total : Int) (v : Value) (l : List Int) (w : World) (ht : I64 total) (h : NumsAt w v l) : Calls Try.prog 14 #[.int .i64 total, v] w (SpPost total l w) := by
  obtain ⟨a, cap, rfl, hm⟩ := h.shp
  have HN : Hid (NumsAt w (.slice a l.length cap) l) := h
  have HMAY : Hid (Calls Try.prog 16 #[.int .i64 total, .slice a l.length cap, .int .i64 1048576] w fun e w' => e = .returned (.bool (mayB total l 1048576)) ∧ Below w.heap.size w w') := mayShareOf total _ l 1048576 w h
  cases hmay : mayB total l 1048576 with
  | false =>
    have HB : Hid (¬ SpOk total l) := fun k => by have := (spOk_iff.mp k).1; rw [hmay] at this; simp at this
    rw [hmay] at HMAY
    clear h
    go_enter Try.func14, Try.ntmps14
    go_wp2_with fail
    refine HMAY.out.mono ?_
    rintro e w1 ⟨rfl, hb1⟩
    have HB1 : Hid (Below w.heap.size w w1) := hb1
    clear hb1
    go_wp2
    refine bodyPost_ret (v := .tuple #[.slice none 0 0, .int .i64 131]) ?_ rfl (SpPost.bad HB.out HB1.out)
    simp only [results, hresQspread]
    go_simp
  | true =>
  rw [hmay] at HMAY
  have hmb := hmay
  unfold mayB at hmb
  simp only [Bool.and_eq_true, decide_eq_true_eq] at hmb
  have hlen := hmb.1
  have hto := inR_is hmb.2.1
  have HW : Hid (∀ b ∈ l, 0 ≤ b ∧ b ≤ 1048576) := allIn_iff.mp hmb.2.2
  have HSUM : Hid (∀ u, Below w.heap.size w u → Calls Try.prog 22 #[.slice a l.length cap] u fun e w' => e = .returned (.int .i64 l.sum) ∧ Below u.heap.size u w') := fun u hu =>
    qsumOf _ l u (HN.out.later hu) hlen (fun b hb => by have := HW.out b hb; omega)
  by_cases hs0 : l.sum = 0
  · have HB : Hid (¬ SpOk total l) := fun k => k.all hs0
    rw [hs0] at HSUM
    clear h hmb hmay hs0
    go_enter Try.func14, Try.ntmps14
    go_wp2_with fail
    refine HMAY.out.mono ?_
    rintro e w1 ⟨rfl, hb1⟩
    have HB1 : Hid (Below w.heap.size w w1) := hb1
    clear hb1
    go_wp2_with fail
    refine (HSUM.out _ HB1.out).mono ?_
    rintro e w2 ⟨rfl, hb2⟩
    have HB2 : Hid (Below w.heap.size w w2) := HB1.out.trans (hb2.mono HB1.out.size)
    clear hb2
    go_wp2
    refine bodyPost_ret (v := .tuple #[.slice none 0 0, .int .i64 131]) ?_ rfl (SpPost.bad HB.out HB2.out)
    simp only [results, hresQspread]
    go_simp
  have HSP : Hid (SpOk total l) := spOk_iff.mpr ⟨hmay, hs0⟩
  have HLI := left_in HSP.out
  have hs1 : ¬ (l.sum = 0) := hs0
  obtain ⟨W, hW⟩ : ∃ W, l.sum = W := ⟨_, rfl⟩
  obtain ⟨n, hn⟩ : ∃ n, l.length = n := ⟨_, rfl⟩
  have HWE : Hid (l.sum = W) := hW
  have HNE : Hid (l.length = n) := hn
  rw [hW] at HSUM HLI hs1
  rw [hn] at HLI hlen HN HMAY HSUM ⊢
  have hsb : (W == 0) = false := by simpa using hs1
  have HLL : Hid (0 < W ∧ W ≤ 67108864 ∧ 0 ≤ total - (quoL total W l).sum ∧ total - (quoL total W l).sum ≤ (n : Int)) := HLI
  have hW0 := HLI.1
  obtain ⟨i, hi, hz0, hz1, hz2⟩ := info_parts Try.info2
  have HI : Hid (Try.prog.info? 2 = some i ∧ i.zero = some (.int .i64 0) ∧ i.size = 1 ∧ i.bytes = 8) := ⟨hi, hz0, hz1, hz2⟩
  clear h hmb hmay hs0 HLI hn hW hi hz0 hz1 hz2 hm hs1
  go_enter Try.func14, Try.ntmps14
  go_wp2_with fail
  refine HMAY.out.mono ?_
  rintro e w1 ⟨rfl, hb1⟩
  have HB1 : Hid (Below w.heap.size w w1) := hb1
  clear hb1
  go_wp2_with fail
  refine (HSUM.out _ HB1.out).mono ?_
  rintro e w2 ⟨rfl, hb2⟩
  have HB2 : Hid (Below w.heap.size w w2) := HB1.out.trans (hb2.mono HB1.out.size)
  clear hb2
  go_wp2_with (at_make; refine wpList_make_full _ rfl _ _ 22 rfl w2.heap.size 2 i _ 1 Try.underlying22 HI.out.1 HI.out.2.1 HI.out.2.2.1 .i64 .i64 _ _ n rfl rfl rfl rfl (by rw [HI.out.2.2.2]; omega) (by unfold maxLen; omega) (by simp) ?_)
  intro w3 ho3 hg3
  have hq3 := OwnL.made ho3 (by unfold maxLen; omega)
  obtain ⟨ga, hga⟩ : ∃ g, w2.heap.size = g := ⟨_, rfl⟩
  rw [hga] at hq3 ⊢
  have HA3 : Hid (OwnL w3 (.slice (some ⟨ga, 0, none⟩) n n) (List.replicate n 0) (some ga)) := hq3.1
  have HB3 : Hid (Below w.heap.size w w3) := HB2.out.grown hg3 HB2.out.size (by simp)
  have HGA : Hid (w.heap.size ≤ ga) := by have := HB2.out.size; unfold Hid; omega
  clear ho3 hg3 hq3 hga
  go_wp2_with (at_make; refine wpList_make_full _ rfl _ _ 22 rfl w3.heap.size 2 i _ 1 Try.underlying22 HI.out.1 HI.out.2.1 HI.out.2.2.1 .i64 .i64 _ _ n rfl rfl rfl rfl (by rw [HI.out.2.2.2]; omega) (by unfold maxLen; omega) (by simp) ?_)
  intro w4 ho4 hg4
  have hq4 := OwnL.made ho4 (by unfold maxLen; omega)
  obtain ⟨gb, hgb⟩ : ∃ g, w3.heap.size = g := ⟨_, rfl⟩
  rw [hgb] at hq4 ⊢
  have hgab : ga < gb := by have := HA3.out.lt; omega
  have HT : Hid (Two w w4 (.slice (some ⟨ga, 0, none⟩) n n) (.slice (some ⟨gb, 0, none⟩) n n) (List.replicate n 0) (List.replicate n 0) (some ga) (some gb)) :=
    ⟨HB3.out.grown hg4 HB3.out.size (by simp), HA3.out.kept hg4 (.inr (by simp)), hq4.1, fun g e => by injection e with e; have := HGA.out; omega, fun g e => by injection e with e; have := HGA.out; omega, fun g e e2 => by injection e with e; injection e2 with e2; omega⟩
  clear ho4 hg4 hq4 hgb HA3
  have hne1 : ¬ ga = gb := by omega
  have hne2 : ¬ gb = ga := by omega
  have HZL : Hid ((List.replicate n (0 : Int)).length = n) := List.length_replicate
  have HQL : Hid ((quoL total W l).length = (List.replicate n (0 : Int)).length) := by unfold Hid; rw [quoL_len, HZL.out, HNE.out]
  have HRL : Hid ((remL total W l).length = (List.replicate n (0 : Int)).length) := by unfold Hid; rw [remL_len, HZL.out, HNE.out]
  go_wp2
  go_loopw [30] (fun s wr => ∃ k : Nat, s = .int .i64 k ∧ k ≤ n ∧ Hid (Two w wr (.slice (some ⟨ga, 0, none⟩) n n) (.slice (some ⟨gb, 0, none⟩) n n) (overL (quoL total W l) (List.replicate n 0) k) (overL (remL total W l) (List.replicate n 0) k) (some ga) (some gb))) (fun s _ => n - (intOf s).toNat)
  case atStart => exact ⟨0, rfl, by omega, by unfold Hid overL; simpa using HT.out⟩
  case round =>
    clear HT
    obtain ⟨k, rfl, hk, HT⟩ := hrel
    by_cases hA : k < n
    · have hki : (k : Int) < (n : Int) := by omega
      obtain ⟨b, off, cap', e, hc⟩ := HN.out.get (show k < l.length by have := HNE.out; omega)
      simp only [Value.slice.injEq] at e
      obtain ⟨rfl, -, rfl⟩ := e
      have c0 := hc wr HT.out.bel
      have hx := HW.out _ (getD_mem (show k < l.length by have := HNE.out; omega))
      have hqb := quo_bound hto.1 hto.2 hx.1 hx.2 hW0
      have HQX : Hid ((quoL total W l).getD k 0 = total * l.getD k 0 / W) := quo_get total W l (by have := HNE.out; omega)
      have HRX : Hid ((remL total W l).getD k 0 = total * l.getD k 0 % W) := rem_get total W l (by have := HNE.out; omega)
      generalize l.getD k 0 = x at *
      clear hc
      obtain ⟨T, hT⟩ : ∃ T, total * x = T := ⟨_, rfl⟩
      rw [hT] at hqb HQX HRX
      obtain ⟨q, hq⟩ : ∃ q, T / W = q := ⟨_, rfl⟩
      obtain ⟨r, hr⟩ : ∃ r, T % W = r := ⟨_, rfl⟩
      have e1 : Int.tdiv T W = q := by rw [← hq]; exact Int.tdiv_eq_ediv_of_nonneg hqb.1
      have e2 : Int.tmod T W = r := by rw [← hr]; exact Int.tmod_eq_emod_of_nonneg hqb.1
      rw [hq, hr] at hqb
      rw [hq] at HQX
      rw [hr] at HRX
      have HS : Hid (Two w ((wr.setCell ⟨ga, k, none⟩ (.int .i64 q)).setCell ⟨gb, k, none⟩ (.int .i64 r)) (.slice (some ⟨ga, 0, none⟩) n n) (.slice (some ⟨gb, 0, none⟩) n n) (overL (quoL total W l) (List.replicate n 0) (k + 1)) (overL (remL total W l) (List.replicate n 0) (k + 1)) (some ga) (some gb)) := by
        have t1 := HT.out.setA k (by rw [overL_len HQL.out k (by rw [HZL.out]; exact hk), HZL.out]; exact hA) q (by unfold I64; omega)
        have t2 := (t1.swap.setA k (by rw [overL_len HRL.out k (by rw [HZL.out]; exact hk), HZL.out]; exact hA) r (by unfold I64; omega)).swap
        rw [← HQX.out, overL_set HQL.out k (by rw [HZL.out]; exact hA), ← HRX.out, overL_set HRL.out k (by rw [HZL.out]; exact hA), HQX.out, HRX.out] at t2
        exact t2
      have cca := HT.out.a.cells (i := k) (by rw [overL_len HQL.out k (by rw [HZL.out]; exact hk), HZL.out]; exact hA)
      have ccb := HT.out.b.cells (i := k) (by rw [overL_len HRL.out k (by rw [HZL.out]; exact hk), HZL.out]; exact hA)
      obtain ⟨ca, fa⟩ := cca
      obtain ⟨cb, fb⟩ := ccb
      generalize (overL (quoL total W l) (List.replicate n 0) k).getD k 0 = o1 at ca
      generalize (overL (remL total W l) (List.replicate n 0) k).getD k 0 = o2 at cb
      have hWz : ¬ W = 0 := by omega
      have hTb : 0 ≤ T ∧ T ≤ 1152921504606846976 := ⟨hqb.1, hqb.2.1⟩
      have hqq : 0 ≤ q ∧ q ≤ 1152921504606846976 := by omega
      have hrr : 0 ≤ r ∧ r ≤ 1152921504606846976 := by omega
      clear hq hr hqb hx HQX HRX
      go_wp2
      refine ⟨⟨k + 1, by simp, hA, HS⟩, ?_⟩
      simp [intOf]; omega
    · have hki : ¬ (k : Int) < (n : Int) := by omega
      have hke : k = n := by omega
      have HT2 : Hid (Two w wr (.slice (some ⟨ga, 0, none⟩) n n) (.slice (some ⟨gb, 0, none⟩) n n) (quoL total W l) (remL total W l) (some ga) (some gb)) := by
        have := HT.out
        have e1 := overL_all HQL.out
        have e2 := overL_all HRL.out
        rw [HZL.out] at e1 e2
        rw [hke, e1, e2] at this
        exact this
      clear HT hke
      have HSM : Hid (Calls Try.prog 22 #[.slice (some ⟨ga, 0, none⟩) n n] wr fun e w' => e = .returned (.int .i64 (quoL total W l).sum) ∧ Below wr.heap.size wr w') := by
        refine qsumOf _ _ wr HT2.out.a.nums (by rw [quoL_len, HNE.out]; exact hlen) (fun z hz => ?_)
        unfold quoL at hz
        obtain ⟨y, hy, rfl⟩ := List.mem_map.mp hz
        have h1 := HW.out y hy
        have h2 := quo_bound hto.1 hto.2 h1.1 h1.2 hW0
        have h3 := quo_le (total := total) (a := y) (W := W) hto.1 (by rw [← HWE.out]; exact mem_le_sum HW.out hy) hW0
        omega
      obtain ⟨LF, hLF⟩ : ∃ LF : Nat, (LF : Int) = total - (quoL total W l).sum := ⟨(total - (quoL total W l).sum).toNat, by have := HLL.out; omega⟩
      have hLn : LF ≤ n := by have := HLL.out; omega
      have HLF : Hid ((LF : Int) = total - (quoL total W l).sum) := hLF
      have hsl : total - (quoL total W l).sum = (LF : Int) := hLF.symm
      generalize (quoL total W l).sum = SQ at HSM hsl
      clear hLF
      go_wp2_with fail
      refine HSM.out.mono ?_
      rintro e w5 ⟨rfl, hb5⟩
      have HT5 : Hid (Two w w5 (.slice (some ⟨ga, 0, none⟩) n n) (.slice (some ⟨gb, 0, none⟩) n n) (quoL total W l) (remL total W l) (some ga) (some gb)) := HT2.out.later hb5
      clear HT2 hb5
      have HBR : Hid (Calls Try.prog 23 #[.slice (some ⟨gb, 0, none⟩) n n] w5 fun e w' => ∃ g f, e = .returned (.slice (some ⟨g, 0, none⟩) n n) ∧ Places w5 w' g n (fun j => (remL total W l).getD j 0) f) := by
        have hl : (remL total W l).length = n := by rw [remL_len, HNE.out]
        have := byRemOf w5 gb n (remL total W l) (by rw [hl]; exact HT5.out.b) (by rw [hl]; exact hlen)
        rw [hl] at this
        exact this
      go_wp2_with fail
      refine HBR.out.mono ?_
      rintro e w6 ⟨gp, fp, rfl, hpl⟩
      have HPL : Hid (Places w5 w6 gp n (fun j => (remL total W l).getD j 0) fp) := hpl
      have HA6 : Hid (OwnL w6 (.slice (some ⟨ga, 0, none⟩) n n) (quoL total W l) (some ga)) := HT5.out.a.later hpl.bel
      have HB6 : Hid (Below w.heap.size w w6) := HT5.out.bel.trans (hpl.bel.mono HT5.out.bel.size)
      have hgp : ga < gp := by have := HT5.out.a.lt; have := hpl.ge; omega
      have hgpw : w.heap.size ≤ ga := HT5.out.fa ga rfl
      clear hpl HT5 HBR HSM
      have hne3 : ¬ ga = gp := by omega
      have hne4 : ¬ gp = ga := by omega
      have hLi : (LF : Int) ≤ (n : Int) := by omega
      have HQn : Hid ((quoL total W l).length = n) := by unfold Hid; rw [quoL_len, HNE.out]
      have HUP : Hid (∀ k p, p < n → 0 ≤ (upTo (quoL total W l) (remL total W l) n k).getD p 0 ∧ (upTo (quoL total W l) (remL total W l) n k).getD p 0 ≤ 1099511627777) := fun k p hp => by
        rw [upTo_get _ _ hp, quo_get total W l (by have := HNE.out; omega)]
        have hm := getD_mem (show p < l.length by have := HNE.out; omega)
        have h1 := HW.out _ hm
        have h2 := quo_bound hto.1 hto.2 h1.1 h1.2 hW0
        have h3 := quo_le (total := total) (a := l.getD p 0) (W := W) hto.1 (by rw [← HWE.out]; exact mem_le_sum HW.out hm) hW0
        split <;> omega
      have HVP : Hid (∀ p, p < n → fp p < n) := perm_id HPL.out.perm
      go_wp2
      go_loopw [61] (fun s wr => ∃ k : Nat, s = .int .i64 k ∧ k ≤ LF ∧ Hid (OwnL wr (.slice (some ⟨ga, 0, none⟩) n n) (upTo (quoL total W l) (remL total W l) n k) (some ga)) ∧ Hid (w6.grownBy wr (some ga))) (fun s _ => LF - (intOf s).toNat)
      case atStart => exact ⟨0, rfl, by omega, by unfold Hid; have := upTo_start (quoL total W l) (remL total W l); rw [HQn.out] at this; rw [this]; exact HA6.out, ⟨rfl, rfl, rfl, Nat.le_refl _, fun _ _ _ => rfl⟩⟩
      case round =>
        obtain ⟨k, rfl, hk, HOk, HGk⟩ := hrel
        by_cases hB : k < LF
        · have hkb : (k : Int) < (LF : Int) := by omega
          have c0 : wr.cell? ⟨gp, k, none⟩ = some (.int .i64 (fp k : Int)) := by
            rw [World.cell?_of_block (w := w6) (a := ⟨gp, k, none⟩) (HGk.out.block gp HPL.out.lt (by intro e; injection e with e; omega))]
            exact HPL.out.cl k (by omega)
          have hp := HVP.out k (by omega)
          have hul := upTo_len (quoL total W l) (remL total W l) n k
          obtain ⟨ca, fa⟩ := HOk.out.cells (i := fp k) (by rw [hul]; exact hp)
          have hyb := HUP.out k (fp k) hp
          have HS : Hid (OwnL (wr.setCell ⟨ga, fp k, none⟩ (.int .i64 ((upTo (quoL total W l) (remL total W l) n k).getD (fp k) 0 + 1))) (.slice (some ⟨ga, 0, none⟩) n n) (upTo (quoL total W l) (remL total W l) n (k + 1)) (some ga)) := by
            have := HOk.out.set (fp k) (by rw [hul]; exact hp) ((upTo (quoL total W l) (remL total W l) n k).getD (fp k) 0 + 1) (by unfold I64; omega)
            rw [upTo_step HPL.out.perm HPL.out.srt (by omega)] at this
            exact this
          have HG : Hid (∀ x, w6.grownBy (wr.setCell ⟨ga, fp k, none⟩ (.int .i64 x)) (some ga)) := fun x => ⟨HGk.out.os, HGk.out.tape, HGk.out.output, by rw [World.size_setCell]; exact HGk.out.size, fun j hj hne => by
            rw [Below.heap_setCell _ _ _ _ (by intro e; exact hne (by rw [e]))]; exact HGk.out.block j hj hne⟩
          generalize (upTo (quoL total W l) (remL total W l) n k).getD (fp k) 0 = y at *
          generalize fp k = p at *
          have hpi : (p : Int) < (n : Int) := by omega
          clear hul HOk
          go_wp2
          refine ⟨⟨k + 1, by simp, hB, HS, HG.out _⟩, ?_⟩
          simp [intOf]; omega
        · have hkb : ¬ (k : Int) < (LF : Int) := by omega
          have hke : k = LF := by omega
          have HF : Hid (SpPost total l w (.returned (.tuple #[.slice (some ⟨ga, 0, none⟩) n n, .int .i64 0])) wr) := by
            refine ⟨fun _ => ⟨_, some ga, rfl, ?_, fun g e => by injection e with e; omega⟩, fun h => absurd HSP.out h, HB6.out.grown HGk.out HB6.out.size (fun q hq => by injection hq with hq; omega)⟩
            have h1 := HOk.out
            rw [hke] at h1
            have h2 := upTo_end (l := l) HLF.out
            rw [HNE.out] at h2
            rw [h2] at h1
            rw [HWE.out]
            exact h1
          clear hke
          go_wp2
          refine bodyPost_ret (v := .tuple #[.slice (some ⟨ga, 0, none⟩) n n, .int .i64 0]) ?_ rfl HF.out
          simp only [results, hresQspread]
          go_simp
end Go.Proofs.Ytbeaefokpggmpab
