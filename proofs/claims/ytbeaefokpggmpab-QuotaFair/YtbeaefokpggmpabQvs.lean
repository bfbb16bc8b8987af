import Derived.Test.YtbeaefokpggmpabQvr
/-! quota: the program's Shares. -/
namespace Go.Proofs.Ytbeaefokpggmpab
open Go.RowKit Plain
set_option linter.unusedVariables false

theorem shOk_iff {total : Int} {l : List Int} : ShOk total l ↔ mayB total l 1099511627776 = true := by
  unfold mayB
  simp only [Bool.and_eq_true, decide_eq_true_eq]
  constructor
  · intro h
    exact ⟨h.len, inR_true ⟨h.t0, h.t1⟩, allIn_iff.mpr h.asks⟩
  · rintro ⟨h1, h2, h3⟩
    exact ⟨h1, (inR_is h2).1, (inR_is h2).2, allIn_iff.mp h3⟩
def minL (l : List Int) (V : Int) : List Int := l.map fun a => min a V
theorem minL_len (l : List Int) (V : Int) : (minL l V).length = l.length := by simp [minL]
theorem minL_get (l : List Int) (V : Int) {k : Nat} (h : k < l.length) : (minL l V).getD k 0 = min (l.getD k 0) V := by simp [minL, List.getD_eq_getElem?_getD, h]
theorem set_same (l : List Int) {k : Nat} (h : k < l.length) : l.set k (l.getD k 0) = l := list_ext_getD (by simp) fun j hj => by
  rw [getD_set l k j _ (by simpa using hj)]
  split
  · rename_i e; rw [e]
  · rfl
theorem overL_keep {A B : List Int} (h : B.length = A.length) (k : Nat) (hk : k < A.length) (e : B.getD k 0 = A.getD k 0) : overL B A (k + 1) = overL B A k := by
  rw [← overL_set h k hk, e, ← overL_get h k hk, set_same _ (by rw [overL_len h k (by omega)]; exact hk)]
theorem drop_head {R T : List Int} {k : Nat} {y : Int} (h : R.drop k = y :: T) : R.getD k 0 = y ∧ R.drop (k + 1) = T := by
  have h1 : R[k]? = some y := by
    have := congrArg (fun z => z[0]?) h
    simpa using this
  refine ⟨by rw [List.getD_eq_getElem?_getD, h1]; rfl, ?_⟩
  rw [← List.drop_drop, h]
  rfl
theorem capsum_take {l : List Int} (h : AskOk l) {V : Int} (hV : 0 ≤ V) (k : Nat) : 0 ≤ capsum (l.take k) V ∧ capsum (l.take k) V ≤ capsum l V := by
  have hnn : ∀ m : List Int, (∀ a ∈ m, 0 ≤ a) → 0 ≤ capsum m V := fun m hm => sum_nn _ (fun b hb => by obtain ⟨a, ha, rfl⟩ := List.mem_map.mp hb; have := hm a ha; omega)
  have h1 := hnn (l.take k) (fun a ha => (h a (List.mem_of_mem_take ha)).1)
  have h2 := hnn (l.drop k) (fun a ha => (h a (List.mem_of_mem_drop ha)).1)
  have h3 : capsum l V = capsum (l.take k) V + capsum (l.drop k) V := by rw [← capsum_app, List.take_append_drop]
  omega
theorem hresQshares : Try.f7.results = #[.tmp 4, .tmp 5] := by kernel_rfl
set_option maxHeartbeats 8000000 in
set_option maxRecDepth 1000000 in
theorem sharesOf (total : Int) (v : Value) (l : List Int) (w : World) (ht : I64 total) (h : NumsAt w v l) : Calls Try.prog 7 #[.int .i64 total, v] w (ShPost total l w) := by
  obtain ⟨a, cap, rfl, hm⟩ := h.shp
  have HN : Hid (NumsAt w (.slice a l.length cap) l) := h
  have HMAY : Hid (Calls Try.prog 16 #[.int .i64 total, .slice a l.length cap, .int .i64 1099511627776] w fun e w' => e = .returned (.bool (mayB total l 1099511627776)) ∧ Below w.heap.size w w') := mayShareOf total _ l 1099511627776 w h
  cases hmay : mayB total l 1099511627776 with
  | false =>
    have HB : Hid (¬ ShOk total l) := fun k => by have := shOk_iff.mp k; rw [hmay] at this; simp at this
    rw [hmay] at HMAY
    clear h
    go_enter Try.func7, Try.ntmps7
    go_wp2_with fail
    refine HMAY.out.mono ?_
    rintro e w1 ⟨rfl, hb1⟩
    have HB1 : Hid (Below w.heap.size w w1) := hb1
    clear hb1
    go_wp2
    refine bodyPost_ret (v := .tuple #[.slice none 0 0, .int .i64 131]) ?_ rfl (ShPost.bad HB.out HB1.out)
    simp only [results, hresQshares]
    go_simp
  | true =>
  rw [hmay] at HMAY
  have HSP : Hid (ShOk total l) := shOk_iff.mpr hmay
  have hlen := HSP.out.len
  have ht0 := HSP.out.t0
  have ht1 := HSP.out.t1
  have HO : Hid (AskOk l) := HSP.out.asks
  have HLV : Hid (∀ u, Below w.heap.size w u → Calls Try.prog 17 #[.int .i64 total, .slice a l.length cap] u fun e w' => ∃ V, e = .returned (.int .i64 V) ∧ LvP total l V ∧ Below u.heap.size u w') := fun u hu => levelOf' total _ l u (HN.out.later hu) HSP.out
  obtain ⟨n, hn⟩ : ∃ n, l.length = n := ⟨_, rfl⟩
  have HNE : Hid (l.length = n) := hn
  rw [hn] at hlen HN HMAY HLV ⊢
  obtain ⟨i, hi, hz0, hz1, hz2⟩ := info_parts Try.info2
  have HI : Hid (Try.prog.info? 2 = some i ∧ i.zero = some (.int .i64 0) ∧ i.size = 1 ∧ i.bytes = 8) := ⟨hi, hz0, hz1, hz2⟩
  clear h hmay hn hi hz0 hz1 hz2 hm
  go_enter Try.func7, Try.ntmps7
  go_wp2_with fail
  refine HMAY.out.mono ?_
  rintro e w1 ⟨rfl, hb1⟩
  have HB1 : Hid (Below w.heap.size w w1) := hb1
  clear hb1
  go_wp2_with fail
  refine (HLV.out _ HB1.out).mono ?_
  rintro e w2 ⟨V, rfl, hlv, hb2⟩
  have HB2 : Hid (Below w.heap.size w w2) := HB1.out.trans (hb2.mono HB1.out.size)
  have HLP : Hid (LvP total l V) := hlv
  have hV0 := hlv.v0
  have hV1 := hlv.v1
  clear hb2 hlv
  go_wp2_with (at_make; refine wpList_make_full _ rfl _ _ 22 rfl w2.heap.size 2 i _ 1 Try.underlying22 HI.out.1 HI.out.2.1 HI.out.2.2.1 .i64 .i64 _ _ n rfl rfl rfl rfl (by rw [HI.out.2.2.2]; omega) (by unfold maxLen; omega) (by simp) ?_)
  intro w3 ho3 hg3
  have hq3 := OwnL.made ho3 (by unfold maxLen; omega)
  obtain ⟨ga, hga⟩ : ∃ g, w2.heap.size = g := ⟨_, rfl⟩
  rw [hga] at hq3 ⊢
  have HA3 : Hid (OwnL w3 (.slice (some ⟨ga, 0, none⟩) n n) (List.replicate n 0) (some ga)) := hq3.1
  have HB3 : Hid (Below w.heap.size w w3) := HB2.out.grown hg3 HB2.out.size (by simp)
  have HGA : Hid (w.heap.size ≤ ga) := by have := HB2.out.size; unfold Hid; omega
  clear ho3 hg3 hq3 hga
  have HZL : Hid ((List.replicate n (0 : Int)).length = n) := List.length_replicate
  have HML : Hid ((minL l V).length = (List.replicate n (0 : Int)).length) := by unfold Hid; rw [minL_len, HZL.out, HNE.out]
  have HCT : Hid (∀ k, 0 ≤ capsum (l.take k) V ∧ capsum (l.take k) V ≤ capsum l V) := fun k => capsum_take HO.out hV0 k
  go_wp2
  go_loopw [8, 26] (fun c t wr => ∃ (k : Nat) (lf : Int), c = .int .i64 lf ∧ t = .int .i64 k ∧ k ≤ n ∧ 0 ≤ lf ∧ lf ≤ 1099511627776 ∧ Hid (lf = total - capsum (l.take k) V) ∧ Hid (OwnL wr (.slice (some ⟨ga, 0, none⟩) n n) (overL (minL l V) (List.replicate n 0) k) (some ga)) ∧ Hid (Below w.heap.size w wr)) (fun _ t _ => n - (intOf t).toNat)
  case atStart => exact ⟨0, total, rfl, rfl, by omega, ht0, ht1, by unfold Hid; simp [capsum], by unfold Hid overL; simpa using HA3.out, HB3⟩
  case round =>
    obtain ⟨k, lf, rfl, rfl, hk, hlf0, hlf1, HLF, HOk, HBk⟩ := hrel
    by_cases hA : k < n
    · have hki : (k : Int) < (n : Int) := by omega
      have hkl : k < l.length := by have := HNE.out; omega
      obtain ⟨b, off, cap', e, hc⟩ := HN.out.get hkl
      rw [HNE.out] at e
      simp only [Value.slice.injEq] at e
      obtain ⟨rfl, -, rfl⟩ := e
      have c0 := hc wr HBk.out
      have hx := HO.out _ (getD_mem hkl)
      have HS : Hid (capsum (l.take (k + 1)) V = capsum (l.take k) V + min (l.getD k 0) V) := capsum_snoc l V k hkl
      have HMG : Hid ((minL l V).getD k 0 = min (l.getD k 0) V) := minL_get l V hkl
      have hct := HCT.out (k + 1)
      have hle := HLP.out.le
      generalize l.getD k 0 = x at *
      clear hc
      obtain ⟨m, hme⟩ : ∃ m, (if V < x then V else x) = m := ⟨_, rfl⟩
      have hmm : min x V = m := by rw [← hme]; split <;> omega
      have HM : Hid ((if V < x then V else x) = m) := hme
      rw [hmm] at HS HMG
      have hm0 : 0 ≤ m ∧ m ≤ 1099511627776 := by omega
      have hlm : 0 ≤ lf - m := by have := HLF.out; have := HS.out; omega
      have HL2 : Hid (lf - m = total - capsum (l.take (k + 1)) V) := by have := HLF.out; have := HS.out; unfold Hid; omega
      have hol : (overL (minL l V) (List.replicate n 0) k).length = n := by rw [overL_len HML.out k (by rw [HZL.out]; exact hk), HZL.out]
      obtain ⟨ca, fa⟩ := HOk.out.cells (i := k) (by rw [hol]; exact hA)
      have HO2 : Hid (OwnL (wr.setCell ⟨ga, k, none⟩ (.int .i64 m)) (.slice (some ⟨ga, 0, none⟩) n n) (overL (minL l V) (List.replicate n 0) (k + 1)) (some ga)) := by
        have := HOk.out.set k (by rw [hol]; exact hA) m (by unfold I64; omega)
        rw [← HMG.out, overL_set HML.out k (by rw [HZL.out]; exact hA), HMG.out] at this
        exact this
      have HB4 : Hid (Below w.heap.size w (wr.setCell ⟨ga, k, none⟩ (.int .i64 m))) := HBk.out.setCell (p := ⟨ga, k, none⟩) HGA.out _
      generalize (overL (minL l V) (List.replicate n 0) k).getD k 0 = o1 at ca
      have cz : (wr.setCell ⟨ga, k, none⟩ (.int .i64 m)).cell? ⟨ga, k, none⟩ = some (.int .i64 m) := World.cell?_setCell_same _ _ _ ca
      clear hme hmm hol hct hle hx
      go_wp2_with (first | refine wpList_mnN (by with_reducible rfl) _ _ 2 2 _ _ _ (by with_reducible rfl) (by rfl) (by rfl) HM.out ?_ | fail)
      refine ⟨⟨k + 1, lf - m, rfl, by simp, hA, hlm, by omega, HL2, HO2, HB4⟩, ?_⟩
      simp [intOf]; omega
    · have hki : ¬ (k : Int) < (n : Int) := by omega
      have hke : k = n := by omega
      have HOM : Hid (OwnL wr (.slice (some ⟨ga, 0, none⟩) n n) (minL l V) (some ga)) := by
        have := HOk.out
        have e1 := overL_all HML.out
        rw [HZL.out] at e1
        rw [hke, e1] at this
        exact this
      have HLF2 : Hid (lf = total - capsum l V) := by
        have := HLF.out
        rw [hke, ← HNE.out, List.take_length] at this
        exact this
      obtain ⟨R, hR⟩ : ∃ R, sharesL V lf l = R := ⟨_, rfl⟩
      have HRL : Hid (R.length = (minL l V).length) := by unfold Hid; rw [← hR, sharesL_len, minL_len]
      have HRD : Hid (R.drop 0 = sharesL V lf (l.drop 0)) := by unfold Hid; rw [List.drop_zero, List.drop_zero, hR]
      have HRR : Hid (sharesL V lf l = R) := hR
      have HMN : Hid ((minL l V).length = n) := by unfold Hid; rw [minL_len, HNE.out]
      clear hke HOk HLF hR
      have HFIN : Hid (∀ u, OwnL u (.slice (some ⟨ga, 0, none⟩) n n) R (some ga) → Below w.heap.size w u → ShPost total l w (.returned (.tuple #[.slice (some ⟨ga, 0, none⟩) n n, .int .i64 0])) u) := fun u hu hb => by
        obtain ⟨L, hL1, hL2⟩ := HLP.out.same
        refine ⟨fun _ => ⟨L, _, some ga, hL1, rfl, ?_, fun g e => by injection e with e; have := HGA.out; omega⟩, fun h => absurd HSP.out h, hb⟩
        rw [← hL2, ← HLF2.out, HRR.out]
        exact hu
      have HOV : Hid (OwnL wr (.slice (some ⟨ga, 0, none⟩) n n) (overL R (minL l V) 0) (some ga)) := by unfold Hid overL; simpa using HOM.out
      clear HOM HRR HLF2
      go_wp2
      go_loopw [8, 46] (fun c t wq => ∃ (q : Nat) (lf : Int), c = .int .i64 lf ∧ t = .int .i64 q ∧ q ≤ n ∧ 0 ≤ lf ∧ lf ≤ 1099511627776 ∧ Hid (R.drop q = sharesL V lf (l.drop q)) ∧ Hid (OwnL wq (.slice (some ⟨ga, 0, none⟩) n n) (overL R (minL l V) q) (some ga)) ∧ Hid (Below w.heap.size w wq)) (fun _ t _ => n - (intOf t).toNat)
      case atStart => exact ⟨0, lf, rfl, rfl, by omega, hlf0, hlf1, HRD, HOV, HBk⟩
      case round =>
        clear HRD HOV HBk hlf0 hlf1
        obtain ⟨q, lg, rfl, rfl, hq, hlg0, hlg1, HRD, HOq, HBq⟩ := hrel
        by_cases hB : q < n
        · have hkb : (q : Int) < (n : Int) := by omega
          have hkl : q < l.length := by have := HNE.out; omega
          obtain ⟨b, off, cap', e, hc⟩ := HN.out.get hkl
          rw [HNE.out] at e
          simp only [Value.slice.injEq] at e
          obtain ⟨rfl, -, rfl⟩ := e
          have c0 := hc wr HBq.out
          have HDC : Hid (l.drop q = l.getD q 0 :: l.drop (q + 1)) := drop_cons l hkl
          have HMG : Hid ((minL l V).getD q 0 = min (l.getD q 0) V) := minL_get l V hkl
          generalize l.getD q 0 = x at *
          clear hc
          have hol : (overL R (minL l V) q).length = n := by rw [overL_len HRL.out q (by rw [HMN.out]; exact hq), HMN.out]
          obtain ⟨ca, fa⟩ := HOq.out.cells (i := q) (by rw [hol]; exact hB)
          rw [overL_get HRL.out q (by rw [HMN.out]; exact hB), HMG.out] at ca
          by_cases hup : V < x
          · rw [show min x V = V by omega] at ca HMG
            by_cases hup2 : 0 < lg
            · have hd := HRD.out
              rw [HDC.out, sharesL_up _ ⟨hup, hup2⟩] at hd
              obtain ⟨hd1, hd2⟩ := drop_head hd
              have HD2 : Hid (R.drop (q + 1) = sharesL V (lg - 1) (l.drop (q + 1))) := hd2
              have HO2 : Hid (OwnL (wr.setCell ⟨ga, q, none⟩ (.int .i64 (V + 1))) (.slice (some ⟨ga, 0, none⟩) n n) (overL R (minL l V) (q + 1)) (some ga)) := by
                have := HOq.out.set q (by rw [hol]; exact hB) (V + 1) (by unfold I64; omega)
                rw [← hd1, overL_set HRL.out q (by rw [HMN.out]; exact hB), hd1] at this
                exact this
              have HB4 : Hid (Below w.heap.size w (wr.setCell ⟨ga, q, none⟩ (.int .i64 (V + 1)))) := HBq.out.setCell (p := ⟨ga, q, none⟩) HGA.out _
              clear hd hd1 hd2 hol
              go_wp2
              refine ⟨⟨q + 1, lg - 1, rfl, by simp, hB, by omega, by omega, HD2, HO2, HB4⟩, ?_⟩
              simp [intOf]; omega
            · have hd := HRD.out
              rw [HDC.out, sharesL_down _ (by omega), show min x V = V by omega] at hd
              obtain ⟨hd1, hd2⟩ := drop_head hd
              have HD2 : Hid (R.drop (q + 1) = sharesL V lg (l.drop (q + 1))) := hd2
              have HO2 : Hid (OwnL wr (.slice (some ⟨ga, 0, none⟩) n n) (overL R (minL l V) (q + 1)) (some ga)) := by
                unfold Hid
                rw [overL_keep HRL.out q (by rw [HMN.out]; exact hB) (by rw [hd1, HMG.out])]
                exact HOq.out
              clear hd hd1 hd2 hol
              go_wp2
              refine ⟨⟨q + 1, lg, rfl, by simp, hB, hlg0, hlg1, HD2, HO2, HBq⟩, ?_⟩
              simp [intOf]; omega
          · have hd := HRD.out
            rw [HDC.out, sharesL_down _ (by omega)] at hd
            obtain ⟨hd1, hd2⟩ := drop_head hd
            have HD2 : Hid (R.drop (q + 1) = sharesL V lg (l.drop (q + 1))) := hd2
            have HO2 : Hid (OwnL wr (.slice (some ⟨ga, 0, none⟩) n n) (overL R (minL l V) (q + 1)) (some ga)) := by
              unfold Hid
              rw [overL_keep HRL.out q (by rw [HMN.out]; exact hB) (by rw [hd1, HMG.out])]
              exact HOq.out
            clear hd hd1 hd2 hol ca
            go_wp2
            refine ⟨⟨q + 1, lg, rfl, by simp, hB, hlg0, hlg1, HD2, HO2, HBq⟩, ?_⟩
            simp [intOf]; omega
        · have hkb : ¬ (q : Int) < (n : Int) := by omega
          have hqe : q = n := by omega
          have HF : Hid (ShPost total l w (.returned (.tuple #[.slice (some ⟨ga, 0, none⟩) n n, .int .i64 0])) wr) := by
            have := HOq.out
            have e1 := overL_all HRL.out
            rw [HMN.out] at e1
            rw [hqe, e1] at this
            exact HFIN.out wr this HBq.out
          clear hqe
          go_wp2
          refine bodyPost_ret (v := .tuple #[.slice (some ⟨ga, 0, none⟩) n n, .int .i64 0]) ?_ rfl HF.out
          simp only [results, hresQshares]
          go_simp
end Go.Proofs.Ytbeaefokpggmpab
