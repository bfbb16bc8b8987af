import Derived.Test.YtpclicimakgpdaaCfh
/-! cursor: the program's Fold: its walk. -/
namespace Go.Proofs.Ytpclicimakgpdaa
open Go.RowKit Go.Maps Go.Sort Go.Shelf Plain
set_option linter.unusedVariables false
set_option linter.unusedSimpArgs false

/-- The map that is being filled, in a new block. -/
structure MpNew (w wr : World) (L : List Pp) : Prop where
  map : MapQ wr w.heap.size L
  below : Below w.heap.size w wr
theorem MpNew.alloc {w wr : World} {L : List Pp} (h : MpNew w wr L) (o : Obj) : MpNew w (wr.alloc o) L := ⟨h.map.later (bel_al _ _), below_step h.below (bel_al _ _)⟩
theorem MpNew.turned {w wr w1 : World} {L L' : List Pp} (h : MpNew w wr L) (hm : MapQ w1 w.heap.size L') (hg : wr.grownBy w1 (some w.heap.size)) : MpNew w w1 L' :=
  ⟨hm, h.below.trans (grow_below hg h.below.size (fun g e => by cases e; exact Nat.le_refl _))⟩
set_option maxHeartbeats 8000000 in
set_option maxRecDepth 100000 in
theorem foldOf (va : Value) (st : List Pp) (vr : Value) (rs : List Rc) (w : World) (ha : PpsAt w va st) (hr : RecsAt w vr rs) (n1 : st.length ≤ 1048576) (n2 : rs.length ≤ 1048576) :
    Calls Try.prog 4 #[va, vr] w fun e w' => ∃ z r, e = .returned z ∧ PpNew w w' z (foldP st rs) r := by
  obtain ⟨a, cap, rfl, hcl, hok, hcells⟩ := ha
  obtain ⟨a', cap', rfl, hcl', hok', hcells'⟩ := hr
  have HC : Hid (∀ u m, Below w.heap.size w u → m < st.length → ∃ b off, a = some ⟨b, off, none⟩ ∧ Pp.CellsAt u b (off + m * 4) (st.getD m Pp.zero)) := fun u m hu hm => by
    obtain ⟨b, off, e, hc⟩ := hcells (by intro e; rw [e] at hm; simp at hm)
    exact ⟨b, off, e, (hc m hm).block (hu.block _ (hc m hm).lt)⟩
  have HR : Hid (∀ u m, Below w.heap.size w u → m < rs.length → ∃ b off, a' = some ⟨b, off, none⟩ ∧ CellsAt u b (off + m * 7) (rs.getD m Rc.none)) := fun u m hu hm => by
    obtain ⟨b, off, e, hc⟩ := hcells' (by intro e; rw [e] at hm; simp at hm)
    exact ⟨b, off, e, (hc m hm).block (hu.block _ (hc m hm).lt)⟩
  have HOA : Hid (∀ m, m < st.length → (st.getD m Pp.zero).Ok) := fun m hm => getD_ok hok hm
  have HOR : Hid (∀ m, m < rs.length → (rs.getD m Rc.none).Ok) := fun m hm => getD_ok hok' hm
  have HS1 : Hid (∀ n, n < st.length → startP st (n + 1) = layP (startP st n) (st.getD n Pp.zero)) := fun n hn => startP_succ hn
  have HL1 : Hid (∀ n, n ≤ st.length → (startP st n).length ≤ n) := fun n hn => startP_len st n hn
  have HS2 : Hid (∀ n, n < rs.length → recsP st rs (n + 1) = stepF (recsP st rs n) (rs.getD n Rc.none)) := fun n hn => recsP_succ hn
  have HL2 : Hid (∀ n, n ≤ rs.length → (recsP st rs n).length ≤ st.length + n) := fun n hn => recsP_len st rs n hn
  have HOF : Hid (∀ x ∈ foldP st rs, x.Ok) := recsP_ok hok hok' _ (Nat.le_refl _)
  have HUP : Hid (UpP (foldP st rs)) := recsP_up st rs _ (Nat.le_refl _)
  have HZ1 : Hid (startP st 0 = []) := rfl
  have HZ2 : Hid (recsP st rs 0 = startP st st.length) := rfl
  have HF : Hid (foldP st rs = recsP st rs rs.length) := rfl
  obtain ⟨i, hi, hz0, hz1, hz2⟩ := info_parts Try.info29
  have HI : Hid (Try.prog.info? 29 = some i ∧ i.zero = some Pp.zero.agg ∧ i.size = 4 ∧ i.bytes = 48) := ⟨hi, hz0, hz1, hz2⟩
  clear hcells hok hcells' hok' hi hz0 hz1 hz2
  have hmm := @run_makeMap Try.prog
  go_enter Try.func4, Try.ntmps4
  go_wp2
  go_loopw [16] (fun s16 wr => ∃ k : Nat, k ≤ st.length ∧ s16 = .int .i64 k ∧ Hid (MpNew w wr (startP st k)))
    (fun i _ => st.length - (intOf i).toNat)
  case atStart => exact ⟨0, Nat.zero_le _, rfl, ⟨MapQ.made w, bel_al _ _⟩⟩
  case round =>
    obtain ⟨k, hk, rfl, HM⟩ := hrel
    have hll := HL1.out k hk
    by_cases hlt : k < st.length
    · obtain ⟨b, off, rfl, hc⟩ := HC.out wr k HM.out.below hlt
      have HN : Hid (startP st (k + 1) = layP (startP st k) (st.getD k Pp.zero)) := HS1.out k hlt
      have hkey : keyOf Try.prog 9 (.string (st.getD k Pp.zero).key) = some (.string (kb (st.getD k Pp.zero).key)) := key_strP (HOA.out k hlt).key
      have HRQ : Hid (Rq (st.getD k Pp.zero).agg = some ((st.getD k Pp.zero).d, [])) := Rq_agg _
      generalize st.getD k Pp.zero = xx at hc HN hkey HRQ
      obtain ⟨xk, xv, xo, xt⟩ := xx
      obtain ⟨c0, c1, c2, c3⟩ := hc
      simp only at c0 c1 c2 c3 hkey
      have hki : (k : Int) < (st.length : Int) := by omega
      go_wp2_with (at_mapUpdate; refine wpList_mapUpdate_own _ rfl _ _ _ 33 rfl 9 29 keyed9 Try.underlying33 Rq w.heap.size (startP st k).length (toQ (startP st k)) rfl (HM.out.alloc _).map (by unfold maxLen; omega) _ _ _ rfl rfl hkey _ [] HRQ.out ?_)
      intro w1 hown1 hgrow1
      have HM1 : Hid (MpNew w w1 (startP st (k + 1))) := by
        unfold Hid
        rw [HN.out]
        exact (HM.out.alloc _).turned (MapQ.putP (p := ⟨xk, xv, xo, xt⟩) hown1) hgrow1
      clear hown1 hgrow1
      go_wp2
      go_roundw
      case rel => exact ⟨k + 1, by omega, by go_num, HM1.out⟩
      case measure => simp [intOf]; omega
    · obtain rfl : k = st.length := by omega
      have HM0 : Hid (MpNew w wr (recsP st rs 0)) := HM.out
      clear HM HC HOA HS1 HL1 HZ1
      go_wp2
      go_loopw [27] (fun s27 wr => ∃ k : Nat, k ≤ rs.length ∧ s27 = .int .i64 k ∧ Hid (MpNew w wr (recsP st rs k)))
        (fun i _ => rs.length - (intOf i).toNat)
      case atStart => exact ⟨0, Nat.zero_le _, rfl, HM0.out⟩
      case round =>
        clear HM0
        obtain ⟨k, hk, rfl, HM⟩ := hrel
        have hll := HL2.out k hk
        by_cases hlt : k < rs.length
        · obtain ⟨b, off, rfl, hc⟩ := HR.out wr k HM.out.below hlt
          have HN : Hid (recsP st rs (k + 1) = stepF (recsP st rs k) (rs.getD k Rc.none)) := HS2.out k hlt
          have hkey : keyOf Try.prog 9 (.string (rs.getD k Rc.none).key) = some (.string (kb (rs.getD k Rc.none).key)) := key_strP (HOR.out k hlt).key
          have HRQ : Hid (Rq (pairOf (rs.getD k Rc.none)).agg = some ((pairOf (rs.getD k Rc.none)).d, [])) := Rq_agg _
          generalize rs.getD k Rc.none = xx at hc HN hkey HRQ
          obtain ⟨xk, xo, xt, xp, xq, xkey, xval⟩ := xx
          obtain ⟨c0, c1, c2, c3, c4, c5, c6⟩ := hc
          simp only at c0 c1 c2 c3 c4 c5 c6 hkey
          have hki : (k : Int) < (rs.length : Int) := by omega
          by_cases hk2 : xk = 2
          · have HN2 : Hid (recsP st rs (k + 1) = delP (recsP st rs k) (kb xkey)) := by
              unfold Hid
              rw [HN.out]
              show (if xk = 2 then _ else _) = _
              rw [if_pos hk2]
            subst hk2
            go_wp2_with (at_delete; go_must (refine wpList_delete_own _ rfl _ _ 33 9 rfl 29 keyed9 Try.underlying33 Rq w.heap.size _ (toQ (recsP st rs k)) rfl (HM.out.alloc _).map _ _ rfl hkey ?_))
            intro w1 hown1 hgrow1
            have HM1 : Hid (MpNew w w1 (recsP st rs (k + 1))) := by
              unfold Hid
              rw [HN2.out]
              exact (HM.out.alloc _).turned (MapQ.delP hown1) hgrow1.grown
            clear hown1 hgrow1
            go_wp2
            go_roundw
            case rel => exact ⟨k + 1, by omega, by go_num, HM1.out⟩
            case measure => simp [intOf]; omega
          · have HN2 : Hid (recsP st rs (k + 1) = layP (recsP st rs k) ⟨xkey, xval, xo, xt⟩) := by
              unfold Hid
              rw [HN.out]
              show (if xk = 2 then _ else _) = _
              rw [if_neg hk2]
              rfl
            have hb2 : (xk == 2) = false := by simpa using hk2
            go_wp2_with (at_mapUpdate; refine wpList_mapUpdate_own _ rfl _ _ _ 33 rfl 9 29 keyed9 Try.underlying33 Rq w.heap.size (recsP st rs k).length (toQ (recsP st rs k)) rfl (HM.out.alloc _).map (by unfold maxLen; omega) _ _ _ rfl rfl hkey _ [] HRQ.out ?_)
            intro w1 hown1 hgrow1
            have HM1 : Hid (MpNew w w1 (recsP st rs (k + 1))) := by
              unfold Hid
              rw [HN2.out]
              exact (HM.out.alloc _).turned (MapQ.putP (p := ⟨xkey, xval, xo, xt⟩) hown1) hgrow1
            clear hown1 hgrow1
            go_wp2
            go_roundw
            case rel => exact ⟨k + 1, by omega, by go_num, HM1.out⟩
            case measure => simp [intOf]; omega
        · obtain rfl : k = rs.length := by omega
          have HMF : Hid (MpNew w wr (foldP st rs)) := HM.out
          have hFl : (foldP st rs).length ≤ st.length + rs.length := hll
          clear HM HR HOR HS2 HL2 HZ2 HF hll
          obtain ⟨L, hLg⟩ : ∃ L, foldP st rs = L := ⟨_, rfl⟩
          have HEQ : Hid (foldP st rs = L) := hLg
          rw [hLg] at HMF hFl HOF HUP
          clear hLg
          go_wp2_with (first
            | (at_len; refine wpList_len_own _ rfl _ 33 rfl 9 29 Try.underlying33 Rq w.heap.size L.length (toQ L) rfl HMF.out.map ?_; rw [toQ_size])
            | (at_make; refine wpList_make_own _ rfl _ _ 22 rfl 0 29 i _ 4 Try.underlying22 HI.out.1 HI.out.2.1 HI.out.2.2.1 .i64 .i64 _ L.length rfl rfl rfl (by rw [HI.out.2.2.2]; omega) (by unfold maxLen; omega) (Nat.zero_le _) ?_; intro w1 hor1 hg1))
          have hws := HMF.out.below.size
          have hmlt := HMF.out.map.lt
          have hgs := hg1.size
          have HO1 : Hid (OwnPp w1 (.slice (some ⟨wr.heap.size, 0, none⟩) 0 L.length) [] (some wr.heap.size)) := OwnPp.of_made hor1
          have HM1 : Hid (MpNew w w1 L) := ⟨HMF.out.map.of_block (hg1.block _ hmlt (by simp)), HMF.out.below.trans (grow_below hg1 hws (by simp))⟩
          have hlt1 := HO1.out.lt
          have HKE : Hid (Calls Try.prog 9 #[.func (.func 15) #[] #[.pointer (some ⟨w1.heap.size, 0, none⟩)]] (w1.alloc (.cells #[.map (some w.heap.size)] 33)) fun e w' => ∃ (a : Option Addr) (c : Nat), e = .returned (.slice a L.length c) ∧ L.length ≤ c ∧ c ≤ maxLen ∧ Below w1.heap.size w1 w' ∧ ∀ j, j < L.length → ∃ g, a = some ⟨g, 0, none⟩ ∧ w1.heap.size ≤ g ∧ g < w'.heap.size ∧ w'.cell? ⟨g, j, none⟩ = some (.string (L.getD j Pp.zero).key)) := keysOf _ L w1 HM1.out.map HUP.out (by omega)
          obtain ⟨g0, hg0⟩ : ∃ g0, wr.heap.size = g0 := ⟨_, rfl⟩
          rw [hg0] at HO1 hlt1 hws hmlt ⊢
          clear hor1 hg1 HMF hgs
          go_wp2_with fail
          refine (mkeysOf _ w1).mono ?_
          rintro e w' ⟨rfl, rfl⟩
          go_wp2_with fail
          refine HKE.out.mono ?_
          rintro e w2 ⟨ak, ck, rfl, hck1, hck2, hb2, hkeys⟩
          unfold maxLen at hck2
          have HKS : Hid (∀ j, j < L.length → ∃ g, ak = some ⟨g, 0, none⟩ ∧ w1.heap.size ≤ g ∧ g < w2.heap.size ∧ w2.cell? ⟨g, j, none⟩ = some (.string (L.getD j Pp.zero).key)) := hkeys
          have HM2 : Hid (MpNew w w2 L) := ⟨HM1.out.map.later hb2, below_step HM1.out.below hb2⟩
          have HO2 : Hid (OwnPp w2 (.slice (some ⟨g0, 0, none⟩) 0 L.length) [] (some g0)) := HO1.out.later hb2
          have hs2 := hb2.size
          clear hkeys HKE HM1 HO1 hb2
          go_wp2
          have HW0 : Hid (w.heap.size < g0) := hmlt
          have HG0 : Hid (g0 < w1.heap.size) := hlt1
          have HLK : Hid (∀ (u : World) (k : Nat), k < L.length → MapQ u w.heap.size L → (Instr.lookup 33 (.map (some w.heap.size)) (.string (L.getD k Pp.zero).key) false).run Try.prog u = .ok (.agg #[.string (L.getD k Pp.zero).key, .string (L.getD k Pp.zero).val, .int .i64 (L.getD k Pp.zero).off, .int .i64 (L.getD k Pp.zero).time]) u) := fun u k hk hm => lookS u _ L hm _ (getD_ok (P := Pp.Ok) HOF.out hk).key _ (up_look HUP.out hk)
          have HTK : Hid (∀ k, k < L.length → L.take (k + 1) = L.take k ++ [L.getD k Pp.zero]) := fun k hk => take_succ' L k Pp.zero hk
          have HTL : Hid (L.take L.length = L) := List.take_length
          have HT0 : Hid (L.take 0 = []) := rfl
          go_loopw [10, 57] (fun s10 s57 wx => ∃ (k : Nat) (M : List Pp) (x : Option Addr) (c : Nat) (r : Option Nat), k ≤ L.length ∧ s57 = .int .i64 k ∧ s10 = .slice x M.length c ∧ M.length = k ∧ Hid (M = L.take k) ∧ Hid (OwnPp wx (.slice x M.length c) M r) ∧ Hid (Chg (fun z => z = g0) w2 wx) ∧ Hid (∀ g, r = some g → g = g0 ∨ w2.heap.size ≤ g))
            (fun _ i _ => L.length - (intOf i).toNat)
          case atStart => exact ⟨0, [], _, _, some g0, Nat.zero_le _, rfl, rfl, rfl, HT0.out.symm, HO2.out, Chg.refl _ _, fun g e => by cases e; exact .inl rfl⟩
          case round =>
            obtain ⟨k, M, x, c, r, hk, rfl, rfl, hMk, HMT, HOW, HCH, HRG⟩ := hrel
            by_cases hlt : k < L.length
            · obtain ⟨g, rfl, hgk1, hgk2, hkc⟩ := HKS.out k hlt
              have hgne : ¬ g = g0 := by have := HG0.out; omega
              have hkc' : wr.cell? ⟨g, k, none⟩ = some (.string (L.getD k Pp.zero).key) := (World.cell?_of_block (w := w2) (a := ⟨g, k, none⟩) (HCH.out.block g hgk2 hgne)).trans hkc
              have hmapr : MapQ wr w.heap.size L := HM2.out.map.of_block (HCH.out.block _ HM2.out.map.lt (by have := HW0.out; omega))
              have hrun := HLK.out wr k hlt hmapr
              have HN : Hid (L.take (k + 1) = M ++ [L.getD k Pp.zero]) := by unfold Hid; rw [HMT.out]; exact HTK.out k hlt
              have HSR : Hid (Src Try.prog 4 22 (.slice (some ⟨wr.heap.size, 0, none⟩) 1 1) [L.getD k Pp.zero].length (ppcells [L.getD k Pp.zero]) (wr.alloc (.cells #[.string (L.getD k Pp.zero).key, .string (L.getD k Pp.zero).val, .int .i64 (L.getD k Pp.zero).off, .int .i64 (L.getD k Pp.zero).time] 29))) := src_pp wr _
              generalize L.getD k Pp.zero = xx at hkc' hrun HN HSR
              obtain ⟨xk, xv, xo, xt⟩ := xx
              simp only at hkc' hrun HSR
              have hki : (k : Int) < (L.length : Int) := by omega
              clear hkc hmapr
              go_wp2_with (at_builtin; refine wpList_append_pp _ rfl _ _ rfl _ _ M [⟨xk, xv, xo, xt⟩] r rfl rfl ?hOwna ?hSrca ?hLena ?hRa ?_)
              case hOwna => exact HOW.out.later (bel_al _ _)
              case hSrca => exact HSR.out
              case hLena => simp; omega
              case hRa => exact .inr (by simp)
              intro v8 w8 g8 ho8 hg8 hr8
              have hlen8 : (M ++ [(⟨xk, xv, xo, xt⟩ : Pp)]).length = M.length + 1 := by simp
              obtain ⟨x8, c8, rfl, -, -⟩ := ho8.shape
              have HA8 : Hid (OwnPp w8 (.slice x8 (M ++ [(⟨xk, xv, xo, xt⟩ : Pp)]).length c8) (M ++ [⟨xk, xv, xo, xt⟩]) (some g8) ∧ Chg (fun z => z = g0) w2 w8 ∧ ∀ g, some g8 = some g → g = g0 ∨ w2.heap.size ≤ g) := by
                refine ⟨ho8, (HCH.out.more (bel_al _ _)).grown hg8 (fun g e => HRG.out g e), fun g e => ?_⟩
                cases e
                rcases hr8 with h | h
                · exact HRG.out g8 h.symm
                · right
                  have := HCH.out.size
                  first | omega | (simp at h; omega)
              clear ho8 hg8 hr8
              generalize hM8 : M ++ [(⟨xk, xv, xo, xt⟩ : Pp)] = M8 at HA8 HN hlen8
              clear hM8 HSR
              go_wp2
              go_roundw
              case rel => exact ⟨k + 1, M8, x8, c8, some g8, by omega, by go_num, by rw [hlen8], by omega, HN.out.symm, HA8.out.1, HA8.out.2.1, HA8.out.2.2⟩
              case measure => simp [intOf]; omega
            · obtain rfl : k = L.length := by omega
              have hML : M = L := by rw [HMT.out, HTL.out]
              have HEM : Hid (foldP st rs = M) := by unfold Hid; rw [hML]; exact HEQ.out
              clear hML
              have HFI : Hid (PpNew w wr (.slice x M.length c) M r) := by
                have hb := HM2.out.below
                have h0 := HW0.out
                refine ⟨HOW.out, fun g e => ?_, hb.trans (HCH.out.below hb.size (fun z e => by omega))⟩
                have := hb.size
                rcases HRG.out g e with h | h <;> omega
              go_wp2
              go_ret
              refine ⟨_, r, rfl, ?_⟩
              rw [HEM.out]
              exact HFI.out
end Go.Proofs.Ytpclicimakgpdaa
