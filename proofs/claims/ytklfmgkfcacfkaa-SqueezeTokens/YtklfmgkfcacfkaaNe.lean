import Derived.Test.YtklfmgkfcacfkaaNd
/-! The document's Read: the walk. -/
namespace Go.Proofs.Ytklfmgkfcacfkaa
open Go.RowKit Plain
set_option linter.unusedVariables false
set_option linter.unusedSimpArgs false

set_option maxHeartbeats 4000000 in
set_option maxRecDepth 100000 in
theorem refReadOf (vb : Value) (l : List Nat) (w : World) (h : BytesAt w vb l) (hl : l.length ≤ 1048576) : Calls Try.prog 30 #[vb] w (RdPost w l) := by
  have HV : Hid (BytesAt w vb l) := h
  obtain ⟨a, cap, rfl, hlc, hcm, hby, hcells⟩ := h
  unfold maxLen at hcm
  have HC : Hid (l ≠ [] → ∃ b off, a = some ⟨b, off, none⟩ ∧ ∀ j, j < l.length → w.cell? ⟨b, off + j, none⟩ = some (.int .u8 ((l.getD j 0 : Nat) : Int))) := hcells
  have HBY : Hid (∀ c ∈ l, c < 256) := hby
  clear hcells hby
  go_enter Try.func30, Try.ntmps30
  go_wp2_with fail
  refine (refNumberAt0 _ l w HV.out (by omega)).mono ?_
  rintro e w1 ⟨⟨m0, rfl⟩, hres⟩
  rcases hres with ⟨v0, u0, rfl, hv0, hn0⟩ | ⟨rfl, hn0⟩
  case inr =>
    have HN : Hid (∀ k ts, ¬ Sol l k ts) := lf_none hn0
    clear hn0
    go_wp2
    go_ret2
    exact ⟨below_drewN (Below.refl _ _) m0, .inr ⟨rfl, HN.out⟩⟩
  have HR0 : Hid (Rr l w (w.drewN m0) (.slice none 0 0) [] none u0) := ⟨GRow.nil _ _, below_drewN (Below.refl _ _) m0, lf_start hn0, by simp, hn0.le HBY.out⟩
  have hu0 : u0 ≤ 3 := hn0.2.2
  clear hn0 hv0
  go_wp2
  go_loopw [5, 7] (fun s5 s7 wr => ∃ (p : Nat) (tg : List Tg) (r : Option Nat) (a7 : Option Addr) (n7 c7 : Nat), s5 = .int .i64 p ∧ s7 = .slice a7 n7 c7 ∧ Rr l w wr (.slice a7 n7 c7) tg r p) (fun s _ _ => l.length - (intOf s).toNat)
  case atStart => exact ⟨u0, [], none, none, 0, 0, rfl, rfl, HR0.out⟩
  case round =>
    obtain ⟨p, tg, r, a7, n7, c7, rfl, rfl, hrr⟩ := hrel
    have HS : Hid (Rr l w wr (.slice a7 n7 c7) tg r p) := hrr
    have hpl := hrr.pl
    clear hrr HR0 hu0
    by_cases hlt : p < l.length
    · go_wp2_with fail
      refine (refNumberAt _ l p wr (HV.out.later HS.out.be) hpl (by omega)).mono ?_
      rintro e w1 ⟨⟨m, rfl⟩, hres⟩
      have HSD : Hid (Rr l w (wr.drewN m) (.slice a7 n7 c7) tg r p) := HS.out.drew m
      obtain ⟨wo, hwo⟩ : ∃ wo, wr.drewN m = wo := ⟨_, rfl⟩
      rw [hwo] at HSD ⊢
      clear hwo HS
      rcases hres with ⟨hd, u, rfl, hhd, hnum⟩ | ⟨rfl, hno⟩
      case inr =>
        have HN : Hid (∀ k ts, ¬ Sol l k ts) := lf_bad HSD.out.lf hlt hno
        clear hno
        go_wp2
        go_ret2
        exact ⟨HSD.out.be, .inr ⟨rfl, HN.out⟩⟩
      have HNU : Hid (Num3 (l.drop p) hd u) := hnum
      have hq : p + u ≤ l.length := hnum.le_drop HBY.out
      have hu1 : 1 ≤ u := hnum.2.1
      clear hnum
      obtain ⟨q, hqd⟩ : ∃ q, p + u = q := ⟨_, rfl⟩
      have HQ : Hid (p + u = q) := hqd
      rw [hqd] at hq ⊢
      have hpq : p < q := by omega
      obtain ⟨N, hN⟩ : ∃ N, hd / 2 = N := ⟨_, rfl⟩
      have HNN : Hid (hd / 2 = N) := hN
      have hNb : N < 1048576 := by omega
      have eN1 : (hd : Int).tdiv 2 = (N : Int) := by rw [Int.tdiv_eq_ediv_of_nonneg (by omega)]; omega
      have eN2 : (hd : Int) / 2 = (N : Int) := by omega
      clear hqd hN
      rcases Nat.mod_two_eq_zero_or_one hd with hpar | hpar
      · have HPar : Hid (hd % 2 = 0) := hpar
        have ep1 : (hd : Int).tmod 2 = 0 := by rw [Int.tmod_eq_emod_of_nonneg (by omega)]; omega
        have ep2 : (hd : Int) % 2 = 0 := by omega
        have ep3 : ((hd : Int) % 2 == 0) = true := by simp; omega
        clear hpar
        by_cases hfit : q + N ≤ l.length
        · have hng : ¬ ((N : Int) > (l.length : Int) - (q : Int)) := by omega
          have HEnd : Hid (p + u + hd / 2 = q + N) := by have := HQ.out; have := HNN.out; unfold Hid; omega
          obtain ⟨Lt, hLt⟩ : ∃ Lt, (l.drop (p + u)).take (hd / 2) = Lt := ⟨_, rfl⟩
          have HLE : Hid (Lt = (l.drop q).take N) := by unfold Hid; rw [← hLt, HQ.out, HNN.out]
          have HLIT : Hid (∀ (wx w' : World) (lv v' : Value) (g : Nat) (qq : Option Nat), Gw wo wx lv Lt qq → OwnG w' v' (tg ++ [⟨lv, Lt, 0, 0⟩]) (some g) → wx.grownBy w' r → (some g = r ∨ wx.heap.size ≤ g) → Rr l w w' v' (tg ++ [⟨lv, Lt, 0, 0⟩]) (some g) (q + N)) := fun wx w' lv v' g qq h0 h1 h2 h3 => by
            have h9 := HSD.out.lit (v' := v') (lv := lv) (g := g) hlt HNU.out HPar.out (by rw [HEnd.out]; exact hfit) hl (by rw [hLt]; exact h0) (by rw [hLt]; exact h1) h2 h3
            rw [hLt, HEnd.out] at h9
            exact h9
          have HCT : Hid (tg.length ≤ 3518437208880) := by have := HSD.out.cnt; unfold Hid; omega
          clear hLt
          go_wp2
          go_loopw [12, 13] (fun s12 s13 wx => ∃ (k : Nat) (qq : Option Nat) (a2 : Option Addr) (n2 c2 : Nat), s13 = .int .i64 k ∧ k ≤ N ∧ s12 = .slice a2 n2 c2 ∧ Gw wo wx (.slice a2 n2 c2) ((l.drop q).take k) qq) (fun _ s _ => N - (intOf s).toNat)
          case atStart => exact ⟨0, none, none, 0, 0, rfl, by omega, rfl, ⟨by simpa using Own.nil _, by simp, Below.refl _ _⟩⟩
          case round =>
            obtain ⟨k, qq, a2, n2, c2, rfl, hk, rfl, hgw⟩ := hrel
            have HG : Hid (Gw wo wr (.slice a2 n2 c2) ((l.drop q).take k) qq) := hgw
            clear hgw
            by_cases hkN : k < N
            · obtain ⟨z, hz⟩ : ∃ z, q + k = z := ⟨_, rfl⟩
              have ez : (q : Int) + (k : Int) = (z : Int) := by omega
              have hzl : z < l.length := by omega
              obtain ⟨b, off, rfl, hc⟩ := HC.out (by rintro rfl; simp at hlt)
              have hcz := hc z hzl
              have hbl := cell_lt hcz
              simp only at hbl
              have hcz' : wr.cell? ⟨b, off + z, none⟩ = some (.int .u8 ((l.getD z 0 : Nat) : Int)) := by rw [(below_on HSD.out.be HG.out.be).cell (p := ⟨b, off + z, none⟩) hbl]; exact hcz
              have hy : l.getD z 0 < 256 := HBY.out _ (by rw [List.getD_eq_getElem?_getD, List.getElem?_eq_getElem hzl]; exact List.getElem_mem _)
              have HST : Hid ((l.drop q).take (k + 1) = (l.drop q).take k ++ [l.getD z 0]) := by
                unfold Hid
                rw [List.take_succ_eq_append_getElem (by rw [List.length_drop]; omega)]
                congr 2
                rw [List.getElem_drop]
                simp [hz, hzl]
              have HLT : Hid (((l.drop q).take k).length = k) := by unfold Hid; rw [List.length_take, List.length_drop]; omega
              generalize l.getD z 0 = y at hcz' HST hy
              generalize (l.drop q).take k = X at HG HST HLT
              clear hz hc hcz
              go_wp2_with (at_builtin; refine wpList_append_row _ rfl _ _ 22 22 rfl Try.underlying22 _ _ X [y] qq rfl rfl ?hOwn ?hByte ?hSrc ?hLen ?_)
              case hOwn => exact HG.out.ow.later ((Below.refl _ _).alloc (Nat.le_refl _) _)
              case hByte => first | exact hy | (intro u hu; rw [List.mem_singleton] at hu; omega)
              case hSrc => exact src_one wr y 22 5 Try.underlying22
              case hLen => have := HLT.out; simp; omega
              intro v' w3 r3 ho3 hg3 hr3 hn3
              obtain ⟨a3, c3, rfl⟩ := ho3.isSlice
              have HG3 : Hid (Gw wo w3 (.slice a3 (X ++ [y]).length c3) ((l.drop q).take (k + 1)) r3) := by unfold Hid; rw [HST.out]; exact HG.out.more ((Below.refl _ _).alloc (Nat.le_refl _) _) ho3 hg3 (by simpa using hr3)
              generalize (X ++ [y]).length = n3 at HG3 ⊢
              clear ho3 hg3 hr3 hn3
              go_wp2
              go_roundw
              case rel => exact ⟨k + 1, r3, a3, n3, c3, by go_num, by omega, rfl, HG3.out⟩
              case measure => simp [intOf]; omega
            · obtain rfl : k = N := by omega
              have HGL : Hid (Gw wo wr (.slice a2 n2 c2) Lt qq) := by unfold Hid; rw [HLE.out]; exact HG.out
              have HOT : Hid (OwnG wr (.slice a7 n7 c7) tg r) := (HSD.out.row.kept (below_grow HG.out.be none) (by simp)).own
              clear HC HG hkN hk
              go_wp2_with (at_builtin; refine wpList_append_tg _ rfl _ _ rfl _ _ tg ⟨.slice a2 n2 c2, Lt, 0, 0⟩ r rfl rfl ?hOwnT ?hSrcT ?hLenT ?_)
              case hOwnT => exact HOT.out.kept (World.grownBy_alloc _ _ none) (by cases r <;> simp)
              case hSrcT => exact src_tg wr ⟨.slice a2 n2 c2, Lt, 0, 0⟩ (.slice a2 n2 c2) (.int .i64 0) (.int .i64 0) rfl rfl 28
              case hLenT => exact HCT.out
              intro v6 w6 g6 ho6 hg6 hr6
              have HS6 : Hid (Rr l w w6 v6 (tg ++ [⟨.slice a2 n2 c2, Lt, 0, 0⟩]) (some g6) (q + k)) := HLIT.out _ _ _ _ _ _ HGL.out ho6 (grow_trans (World.grownBy_alloc _ _ r) hg6 (.inl rfl)) (by
                rcases hr6 with e | e
                · first | exact .inl e | exact .inl (by rw [e])
                · exact .inr (by rw [e]; simp))
              obtain ⟨a6, n6, c6, rfl⟩ : ∃ a6 n6 c6, v6 = .slice a6 n6 c6 := by
                rcases ho6 with ⟨e, _, _⟩ | ⟨_, _, _, e, _⟩
                · exact ⟨_, _, _, e⟩
                · exact ⟨_, _, _, e⟩
              clear ho6 hg6 hr6
              go_wp2
              go_roundw
              case rel => exact ⟨q + k, _, some g6, a6, n6, c6, by go_num, rfl, HS6.out⟩
              case measure => simp [intOf]; omega
        · have HN : Hid (∀ k ts, ¬ Sol l k ts) := lf_litbad HSD.out.lf hlt HNU.out HPar.out (by have := HQ.out; have := HNN.out; omega)
          have hng : (N : Int) > (l.length : Int) - (q : Int) := by omega
          go_wp2
          go_ret2
          exact ⟨HSD.out.be, .inr ⟨rfl, HN.out⟩⟩
      · have HPar : Hid (hd % 2 = 1) := hpar
        have ep1 : (hd : Int).tmod 2 = 1 := by rw [Int.tmod_eq_emod_of_nonneg (by omega)]; omega
        have ep2 : (hd : Int) % 2 = 1 := by omega
        have ep3 : ((hd : Int) % 2 == 0) = false := by simp; omega
        clear hpar
        go_wp2_with fail
        refine (refNumberAt _ l q wo (HV.out.later HSD.out.be) hq (by omega)).mono ?_
        rintro e w2 ⟨⟨m2, rfl⟩, hres⟩
        have HSE : Hid (Rr l w (wo.drewN m2) (.slice a7 n7 c7) tg r p) := HSD.out.drew m2
        obtain ⟨wp, hwp⟩ : ∃ wp, wo.drewN m2 = wp := ⟨_, rfl⟩
        rw [hwp] at HSE ⊢
        clear hwp HSD
        rcases hres with ⟨d, x, rfl, hdb, hdn⟩ | ⟨rfl, hno⟩
        · have hqx : q + x ≤ l.length := hdn.le_drop HBY.out
          have HMT : Hid (∀ (w' : World) (v' : Value) (g : Nat), OwnG w' v' (tg ++ [⟨.slice none 0 0, [], (d : Int), (N : Int)⟩]) (some g) → wp.grownBy w' r → (some g = r ∨ wp.heap.size ≤ g) → Rr l w w' v' (tg ++ [⟨.slice none 0 0, [], (d : Int), (N : Int)⟩]) (some g) (q + x)) := fun w' v' g h1 h2 h3 => by
            have h9 := HSE.out.mat (v' := v') (g := g) hlt HNU.out HPar.out hhd (by rw [HQ.out]; exact hdn) hdb (by rw [HQ.out]; exact hqx) (by rw [HNN.out]; exact h1) h2 h3
            rw [HNN.out, HQ.out] at h9
            exact h9
          have HCT : Hid (tg.length ≤ 3518437208880) := by have := HSE.out.cnt; unfold Hid; omega
          obtain ⟨z, hz⟩ : ∃ z, q + x = z := ⟨_, rfl⟩
          rw [hz] at HMT hqx ⊢
          have hpz : p < z := by omega
          clear hdn hz
          go_wp2_with (at_builtin; refine wpList_append_tg _ rfl _ _ rfl _ _ tg ⟨.slice none 0 0, [], (d : Int), (N : Int)⟩ r rfl rfl ?hOwnM ?hSrcM ?hLenM ?_)
          case hOwnM => exact (HSE.out.row.kept (World.grownBy_alloc _ _ none) (by simp)).own
          case hSrcM => exact src_tg wp ⟨.slice none 0 0, [], (d : Int), (N : Int)⟩ (.slice none 0 0) (.int .i64 d) (.int .i64 N) rfl rfl 28
          case hLenM => exact HCT.out
          intro v6 w6 g6 ho6 hg6 hr6
          have HS6 : Hid (Rr l w w6 v6 (tg ++ [⟨.slice none 0 0, [], (d : Int), (N : Int)⟩]) (some g6) z) := HMT.out _ _ _ ho6 (grow_trans (World.grownBy_alloc _ _ r) hg6 (.inl rfl)) (by
            rcases hr6 with e | e
            · first | exact .inl e | exact .inl (by rw [e])
            · exact .inr (by rw [e]; simp))
          obtain ⟨a6, n6, c6, rfl⟩ : ∃ a6 n6 c6, v6 = .slice a6 n6 c6 := by
            rcases ho6 with ⟨e, _, _⟩ | ⟨_, _, _, e, _⟩
            · exact ⟨_, _, _, e⟩
            · exact ⟨_, _, _, e⟩
          clear ho6 hg6 hr6
          go_wp2
          go_roundw
          case rel => exact ⟨z, _, some g6, a6, n6, c6, rfl, rfl, HS6.out⟩
          case measure => simp [intOf]; omega
        · have HN : Hid (∀ k ts, ¬ Sol l k ts) := lf_matbad HSE.out.lf hlt HNU.out HPar.out (by rw [HQ.out]; exact hno)
          clear hno
          go_wp2
          go_ret2
          exact ⟨HSE.out.be, .inr ⟨rfl, HN.out⟩⟩
    · obtain rfl : p = l.length := by omega
      clear HC hpl hlt
      go_wp2_with fail
      refine (refWriteAny _ tg wr HS.out.row.rd).mono ?_
      rintro e w1 ⟨he, hb1⟩
      have HB1 : Hid (Below w.heap.size w w1) := below_on HS.out.be hb1
      have HRW : Hid (GRow w.heap.size w1 (.slice a7 n7 c7) tg r) := HS.out.row.kept (below_grow hb1 none) (by simp)
      clear hb1
      rcases he with ⟨h0, rfl⟩ | ⟨h0, vx, rx, rfl, hox, _⟩
      · have HN : Hid (∀ k ts, ¬ Sol l k ts) := fin_bad HS.out.lf (Nat.le_refl _) (.inl h0)
        obtain ⟨z, hz⟩ : ∃ z, (tlen tg 0).2 = z := ⟨_, rfl⟩
        rw [hz]
        have hne : (((z : Nat) : Int) != 0) = true := by simp; omega
        have hne2 : (((z : Nat) : Int) == 0) = false := by simp; omega
        clear h0 hz HS
        go_wp2
        go_ret2
        exact ⟨HB1.out, .inr ⟨rfl, HN.out⟩⟩
      · obtain ⟨M, hM⟩ : ∃ M, tlen tg 0 = (M, 0) := ⟨(tlen tg 0).1, Prod.ext rfl h0⟩
        rw [hM] at hox
        simp only at hox
        have HFB : Hid (blkG M tg ≠ l → ∀ k ts, ¬ Sol l k ts) := fun hne => fin_bad HS.out.lf (Nat.le_refl _) (.inr (by rw [hM]; exact hne))
        have HFO : Hid (blkG M tg = l → ∃ ts, Sims tg ts ∧ Sol l M ts) := fun he => fin_ok hM he
        obtain ⟨Bk, hBk⟩ : ∃ Bk, blkG M tg = Bk := ⟨_, rfl⟩
        rw [hBk] at hox HFB HFO
        obtain ⟨ax, cx, rfl⟩ := hox.isSlice
        have HOX : Hid (Own w1 (.slice ax Bk.length cx) Bk rx) := hox
        clear hox h0 hM hBk HS
        go_wp2_with fail
        refine (refSame _ _ Bk l w1 HOX.out.bytes (HV.out.later HB1.out)).mono ?_
        rintro e w2 ⟨rfl, n2, rfl⟩
        by_cases heq : Bk = l
        · have HT : Hid (∃ ts, Sims tg ts ∧ Sol l M ts) := HFO.out heq
          rw [decide_eq_true heq]
          clear heq
          go_wp2
          go_ret2
          obtain ⟨ts, s1, s2⟩ := HT.out
          exact ⟨below_drewN HB1.out _, .inl ⟨_, tg, r, M, ts, rfl, s2, s1, HRW.out.kept (grow_drewN (below_grow (Below.refl _ _) none) _) (by simp)⟩⟩
        · have HN : Hid (∀ k ts, ¬ Sol l k ts) := HFB.out heq
          rw [decide_eq_false heq]
          clear heq
          go_wp2
          go_ret2
          exact ⟨below_drewN HB1.out _, .inr ⟨rfl, HN.out⟩⟩
end Go.Proofs.Ytklfmgkfcacfkaa
