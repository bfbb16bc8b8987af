import Derived.Test.YtmhaodcgognhiaaMgv
/-! merge: the law of Compact. -/
namespace Go.Proofs.Ytmhaodcgognhiaa
open Go.RowKit Plain Go.WideMaps Go.Maps
set_option linter.unusedVariables false
set_option linter.unusedSimpArgs false

theorem src_mkW (W : World) (z y : Int) : Src Try.prog 7 26 (.slice (some ⟨W.heap.size, 0, none⟩) 1 1) [mkR z y].length (rcells [mkR z y]) (W.alloc (.cells #[.int .i64 z, .int .i64 y, .int .i64 0, .int .i64 0, .int .i64 0, .string ⟨#[]⟩, .string ⟨#[]⟩] 33)) := src_recJ W (mkR z y)

/-- What stays as it is while the first answer is written over. -/
structure Rest (w u : World) (se la L : List Rc) (vw vt : Value) (ga gb n0 n1 : Nat) : Prop where
  bel : Below w.heap.size w u
  want : RecsAt u vw L
  two : RecsAt u vt L
  a : OwnR u (.slice (some ⟨ga, 0, none⟩) n0 n0) (se ++ [mkR 77 0]) (some ga)
  b : OwnR u (.slice (some ⟨gb, 0, none⟩) n1 n1) (la ++ [mkR 77 0]) (some gb)

set_option maxHeartbeats 60000000 in
theorem mcompactWalk (v0 v1 : Value) (se la : List Rc) (now hz : Int) (w : World) (h0 : RecsAt w v0 se) (h1 : RecsAt w v1 la) (hn : I64 now) (hh : I64 hz) :
    Calls Try.prog 5 #[v0, v1, .int .i64 now, .int .i64 hz] w fun e w' => e = .returned (.bool true) ∧ Below w.heap.size w w' := by
  have HR0 : Hid (RecsAt w v0 se) := h0
  have HR1 : Hid (RecsAt w v1 la) := h1
  have HN : Hid (I64 now) := hn
  have HH : Hid (I64 hz) := hh
  obtain ⟨a, cap, rfl, hcl, hok, -⟩ := h0
  obtain ⟨a', cap', rfl, hcl', hok', -⟩ := h1
  have HOK : Hid (∀ x ∈ se, x.Ok) := hok
  have HOK' : Hid (∀ x ∈ la, x.Ok) := hok'
  obtain ⟨L, m, c, hR⟩ : ∃ L m c, mcomp se la now hz = (L, m, c) := ⟨_, _, _, rfl⟩
  have HM : Hid (mcomp se la now hz = (L, m, c)) := hR
  have HF : Hid (L.length ≤ 2199023255000 ∧ ∀ x ∈ L, x.Ok) := by have := mcomp_fine hR hok hok'; exact ⟨by omega, this.2⟩
  have hLl : L.length ≤ 2199023255000 := HF.out.1
  obtain ⟨N0, hN0⟩ : ∃ N, se.length + 1 = N := ⟨_, rfl⟩
  obtain ⟨N1, hN1⟩ : ∃ N, la.length + 1 = N := ⟨_, rfl⟩
  have HN0 : Hid (se.length + 1 = N0) := hN0
  have HN1 : Hid (la.length + 1 = N1) := hN1
  have hlN0 : se.length < N0 := by omega
  have hlN1 : la.length < N1 := by omega
  have hbN0 : N0 ≤ 2199023255001 := by omega
  have hbN1 : N1 ≤ 2199023255001 := by omega
  have q1 : (m != m) = false := by simp
  have q2 : (c != c) = false := by simp
  clear hok hok' hn hh hR hN0 hN1
  go_enter Try.func5, Try.ntmps5
  go_wp2_with fail
  refine (rmcompactOf _ _ se la now hz HN.out HH.out w HR0.out HR1.out).mono ?_
  intro e w1 hp1
  obtain ⟨vw, rw', rfl, how, hrw, hb1⟩ := hp1.out HM.out
  obtain ⟨aw, cw, rfl, -, -⟩ := how.shape
  have HW1 : Hid (RecsAt w1 (.slice aw L.length cw) L) := how.recs HF.out.1 HF.out.2
  have HB1 : Hid (Below w.heap.size w w1) := hb1
  clear hp1 how hrw hb1
  go_wp2_with fail
  refine (spareOf _ se w1 (HR0.out.later HB1.out)).mono ?_
  rintro e w2 ⟨rfl, hoa, hb2⟩
  rw [HN0.out] at hoa ⊢
  have HA2 : Hid (OwnR w2 (.slice (some ⟨w1.heap.size, 0, none⟩) N0 N0) (se ++ [mkR 77 0]) (some w1.heap.size)) := hoa
  have HB2 : Hid (Below w1.heap.size w1 w2) := hb2
  clear hoa hb2
  go_wp2_with fail
  refine (spareOf _ la w2 (HR1.out.later (below_on HB1.out HB2.out))).mono ?_
  rintro e w3 ⟨rfl, hob, hb3⟩
  rw [HN1.out] at hob ⊢
  obtain ⟨ga, hga⟩ : ∃ g, w1.heap.size = g := ⟨_, rfl⟩
  obtain ⟨gb, hgb⟩ : ∃ g, w2.heap.size = g := ⟨_, rfl⟩
  have HD3 : Hid (DuoR w1 w3 ga gb N0 N1 (se ++ [mkR 77 0]) (la ++ [mkR 77 0])) := by
    have h1 := HA2.out.later hb3
    have h2 := HA2.out.lt
    rw [hga] at h1
    rw [hgb] at hob
    exact ⟨h1, hob, below_on HB2.out hb3, by omega, by omega, by omega⟩
  have HLT : Hid (ga < w3.heap.size ∧ gb < w3.heap.size) := ⟨HD3.out.a.lt, HD3.out.b.lt⟩
  have HS1 : Hid (w1.heap.size ≤ w3.heap.size) := HD3.out.bel.size
  rw [hga, hgb]
  clear hob hb3 HA2 HB2 hga hgb
  have HA3 : Hid (RecsAt w3 (.slice (some ⟨ga, 0, none⟩) se.length N0) se) := HD3.out.a.headN rfl hcl HOK.out
  have HB3 : Hid (RecsAt w3 (.slice (some ⟨gb, 0, none⟩) la.length N1) la) := HD3.out.b.headN rfl hcl' HOK'.out
  go_wp2_with fail
  go_region_with (
    (go_at_call 13
     refine (mcompactOf _ _ se la now hz HN.out HH.out _ (HA3.out.later (Below.drew (Below.refl _ _))) (HB3.out.later (Below.drew (Below.refl _ _)))).mono ?_
     intro e w4 hp4
     obtain ⟨vo, ro, rfl, hoo, hro, hb4'⟩ := hp4.out HM.out
     have hb4 : Below w3.heap.size w3 w4 := Below.trans (Below.drew (Below.refl _ _)) hb4'
     obtain ⟨ao, co, rfl, hco, hlo⟩ := hoo.shape
     have HO4 : Hid (OwnR w4 (.slice ao L.length co) L ro) := hoo
     have HRO : Hid (∀ q, ro = some q → w3.heap.size ≤ q) := fun q hq => hro q hq
     have HB4 : Hid (Below w3.heap.size w3 w4) := hb4
     clear hp4 hoo hro hb4 hb4'))
  all_goals
    have HA4 : Hid (RecsAt w4 (.slice (some ⟨ga, 0, none⟩) se.length N0) se) := HA3.out.later HB4.out
    have HC4 : Hid (RecsAt w4 (.slice (some ⟨gb, 0, none⟩) la.length N1) la) := HB3.out.later HB4.out
    clear HA3 HB3
    go_wp2_with fail
    go_region_with (
      (go_at_call 13
       refine (mcompactOf _ _ se la now hz HN.out HH.out _ (HA4.out.later (Below.drew (Below.refl _ _))) (HC4.out.later (Below.drew (Below.refl _ _)))).mono ?_
       intro e w5 hp5
       obtain ⟨vt, rt, rfl, hot, hrt, hb5'⟩ := hp5.out HM.out
       have hb5 : Below w4.heap.size w4 w5 := Below.trans (Below.drew (Below.refl _ _)) hb5'
       obtain ⟨aT, ct, rfl, -, -⟩ := hot.shape
       have HT5 : Hid (OwnR w5 (.slice aT L.length ct) L rt) := hot
       have HRT : Hid (∀ q, rt = some q → w4.heap.size ≤ q) := fun q hq => hrt q hq
       have HB5 : Hid (Below w4.heap.size w4 w5) := hb5
       clear hp5 hot hrt hb5 hb5'))
    all_goals
      have HO5 : Hid (OwnR w5 (.slice ao L.length co) L ro) := HO4.out.later HB5.out
      have HOL : Hid (∀ q, ro = some q → q < w4.heap.size) := fun q hq => by have h9 := HO4.out; rw [hq] at h9; exact h9.lt
      have HB35 : Hid (Below w3.heap.size w3 w5) := below_on HB4.out HB5.out
      have HD5 : Hid (DuoR w1 w5 ga gb N0 N1 (se ++ [mkR 77 0]) (la ++ [mkR 77 0])) := HD3.out.later HB35.out
      have HW5 : Hid (RecsAt w5 (.slice aw L.length cw) L) := HW1.out.later HD5.out.bel
      have HO5R : Hid (RecsAt w5 (.slice ao L.length co) L) := HO5.out.recs HF.out.1 HF.out.2
      have HRST : Hid (∀ u : World, w5.grownBy u ro → Rest w u se la L (.slice aw L.length cw) (.slice aT L.length ct) ga gb N0 N1) := fun u hu => by
        have hb3u : Below w3.heap.size w3 u := HB35.out.trans (grow_below hu HB35.out.size HRO.out)
        have hne : rt = none ∨ rt ≠ ro := by
          cases hrt : rt with
          | none => exact .inl rfl
          | some q =>
            refine .inr fun e9 => ?_
            have h1 := HRT.out q hrt
            have h2 := HOL.out q e9.symm
            omega
        have hna : some ga ≠ ro := fun e9 => by have h1 := HRO.out ga e9.symm; have := HLT.out; omega
        have hnb : some gb ≠ ro := fun e9 => by have h1 := HRO.out gb e9.symm; have := HLT.out; omega
        exact ⟨HB1.out.trans ((HD3.out.bel.trans (hb3u.mono HS1.out)).mono HB1.out.size), HW1.out.later (HD3.out.bel.trans (hb3u.mono HS1.out)), (HT5.out.kept hu hne).recs HF.out.1 HF.out.2, HD5.out.a.kept hu (.inr hna), HD5.out.b.kept hu (.inr hnb)⟩
      clear HO4 HT5 HRT HB5 HB4 HA4 HC4 HD3 HLT HS1 HOL HB35 HD5 HW1 HB1
      unfold maxLen at hco
      go_wp2_with fail
      refine (alikeYes _ _ L w5 HO5R.out HW5.out).mono ?_
      rintro e w6 ⟨rfl, n6, hn6⟩
      have HG6 : Hid (w5.grownBy w6 ro) := by subst hn6; exact grow_drewN (below_grow (Below.refl _ _) _) _
      have HO6 : Hid (OwnR w6 (.slice ao L.length co) L ro) := by subst hn6; exact HO5.out.later (below_dnM (Below.refl _ _) _)
      clear hn6 HO5 HO5R HW5
      go_wp2
      go_loopw [20] (fun i wr => ∃ (k : Nat) (us : List Rc), k ≤ L.length ∧ i = .int .i64 k ∧ us.length = L.length ∧ OwnR wr (.slice ao L.length co) us ro ∧ w5.grownBy wr ro) (fun i _ => L.length - (intOf i).toNat)
      case atStart => exact ⟨0, L, by omega, rfl, rfl, HO6.out, HG6.out⟩
      case round =>
        obtain ⟨k, us, hk, rfl, hus, hown, hgr⟩ := hrel
        have HU : Hid (us.length = L.length) := hus
        have HOW : Hid (OwnR wr (.slice ao L.length co) us ro) := hown
        have HG : Hid (w5.grownBy wr ro) := hgr
        by_cases hlt : k < L.length
        · obtain ⟨g, hrg, hag⟩ : ∃ g, ro = some g ∧ ao = some ⟨g, 0, none⟩ := by
            rcases hown with ⟨_, h0, _⟩ | ⟨g, cap', e, e2, _⟩
            · rw [h0] at hus; simp at hus; omega
            · injection e2 with e3 _ _; exact ⟨g, e, e3⟩
          subst hrg hag
          clear hus hown hgr HO6 HG6
          obtain ⟨⟨y, hy⟩, f0, f1, f2, f3, f4, f5, f6⟩ := HOW.out.open (j := k) (by rw [HU.out]; exact hlt)
          have HNN : Hid (OwnR (wr.setCells g (k * 7) (mkR 78 0).cells) (.slice (some ⟨g, 0, none⟩) L.length co) (us.set k (mkR 78 0)) (some g)) := HOW.out.putAll (by rw [HU.out]; exact hlt) _
          have HG2 : Hid (w5.grownBy (wr.setCells g (k * 7) (mkR 78 0).cells) (some g)) := grow_trans HG.out (grow_setCells wr g _ _) (.inl rfl)
          have HU2 : Hid ((us.set k (mkR 78 0)).length = L.length) := by unfold Hid; rw [List.length_set]; exact HU.out
          obtain ⟨yk, yo, yt, yp, yq, ykey, yval⟩ := y
          obtain ⟨d0, d1, d2, d3, d4, d5, d6⟩ := hy
          simp only at d0 d1 d2 d3 d4 d5 d6
          go_wp2
          go_roundw
          case rel => exact ⟨k + 1, _, by omega, by go_num, HU2.out, HNN.out, HG2.out⟩
          case measure => simp [intOf]; omega
        · obtain rfl : k = L.length := by omega
          clear hus hown hgr HO6 HG6 hlt hk
          go_wp2
          go_loopw [14, 21] (fun s0 s4 wx => ∃ (k : Nat) (a2 : Option Addr) (n2 c2 : Nat) (us2 : List Rc) (r2 : Option Nat), k ≤ 64 ∧ s4 = .int .i64 k ∧ s0 = .slice a2 n2 c2 ∧ n2 = L.length + k ∧ us2.length = n2 ∧ OwnR wx (.slice a2 n2 c2) us2 r2 ∧ (r2 = ro ∨ ∃ g, r2 = some g ∧ w5.heap.size ≤ g) ∧ w5.grownBy wx ro) (fun _ i _ => 64 - (intOf i).toNat)
          case atStart => exact ⟨0, ao, L.length, co, us, ro, by omega, rfl, rfl, rfl, HU.out, HOW.out, .inl rfl, HG.out⟩
          case round =>
            obtain ⟨k, a2, n2, c2, us2, r2, hk, rfl, rfl, hn2, hus2, hown2, hr2, hgr2⟩ := hrel
            have HOW2 : Hid (OwnR wr (.slice a2 n2 c2) us2 r2) := hown2
            have HG2 : Hid (w5.grownBy wr ro) := hgr2
            have HR2 : Hid (r2 = ro ∨ ∃ g, r2 = some g ∧ w5.heap.size ≤ g) := hr2
            have HU2 : Hid (us2.length = n2) := hus2
            clear HOW HG HU hown2 hgr2 hr2 hus2
            by_cases hlt : k < 64
            · go_wp2_with (at_builtin; refine wpList_append_recs _ rfl _ _ rfl _ _ us2 [mkR 79 0] r2 rfl rfl ?hOwn ?hSrc ?hLen ?hR ?_)
              case hOwn => exact HOW2.out.later ((Below.refl _ _).alloc (Nat.le_refl _) _)
              case hSrc => exact src_mkW wr 79 0
              case hLen => have := HU2.out; simp; omega
              case hR => exact .inr (by simp)
              intro v' w7 g3 ho3 hg3 hr3
              obtain ⟨a3, c3', rfl, hm3, -⟩ := ho3.shape
              have hl3 : (us2 ++ [mkR 79 0]).length = n2 + 1 := by have := HU2.out; simp; omega
              rw [hl3] at ho3 ⊢
              have HO3 : Hid (OwnR w7 (.slice a3 (n2 + 1) c3') (us2 ++ [mkR 79 0]) (some g3)) := ho3
              have HL3 : Hid ((us2 ++ [mkR 79 0]).length = n2 + 1) := hl3
              have HR3 : Hid (some g3 = ro ∨ ∃ g, some g3 = some g ∧ w5.heap.size ≤ g) := by
                have hs := HG2.out.size
                rcases hr3 with e | rfl
                · rcases HR2.out with h | h
                  · exact .inl (e.trans h)
                  · obtain ⟨g, h1, h2⟩ := h
                    exact .inr ⟨g, e.trans h1, h2⟩
                · exact .inr ⟨_, rfl, Nat.le_succ_of_le hs⟩
              have HG3 : Hid (w5.grownBy w7 ro) := by
                refine grow_trans (grow_trans HG2.out (World.grownBy_alloc wr _ none) (.inr (.inl rfl))) hg3 ?_
                rcases HR2.out with h | h
                · exact .inl h
                · exact .inr (.inr h)
              clear ho3 hg3 hr3 hl3 hm3
              go_wp2
              go_roundw
              case rel => exact ⟨k + 1, a3, n2 + 1, c3', _, _, by omega, by go_num, rfl, by omega, HL3.out, HO3.out, HR3.out, HG3.out⟩
              case measure => simp [intOf]; omega
            · obtain rfl : k = 64 := by omega
              have HT : Hid (Rest w wr se la L (.slice aw L.length cw) (.slice aT L.length ct) ga gb N0 N1) := HRST.out wr HG2.out
              clear HRST HOW2 HG2 HR2 HU2 hlt hk HRO
              go_wp2_with fail
              refine (alikeYes _ _ L wr HT.out.two HT.out.want).mono ?_
              rintro e w7 ⟨rfl, n7, hn7⟩
              have HB7 : Hid (Below wr.heap.size wr w7) := by subst hn7; exact below_dnM (Below.refl _ _) _
              clear hn7
              go_wp2_with fail
              have HK0 := mkeptOf ga (.slice a se.length cap) se w7 (by rw [HN0.out]; exact HT.out.a.later HB7.out) (HR0.out.later (below_on HT.out.bel HB7.out))
              rw [HN0.out] at HK0
              refine HK0.mono ?_
              rintro e w8 ⟨rfl, n8, hn8⟩
              have HB8 : Hid (Below wr.heap.size wr w8) := by subst hn8; exact below_on HB7.out (below_dnM (Below.refl _ _) _)
              clear hn8 HB7 HK0
              go_wp2_with fail
              have HK1 := mkeptOf gb (.slice a' la.length cap') la w8 (by rw [HN1.out]; exact HT.out.b.later HB8.out) (HR1.out.later (below_on HT.out.bel HB8.out))
              rw [HN1.out] at HK1
              refine HK1.mono ?_
              rintro e w9 ⟨rfl, n9, hn9⟩
              have HB9 : Hid (Below w.heap.size w w9) := by subst hn9; exact below_on HT.out.bel (below_on HB8.out (below_dnM (Below.refl _ _) _))
              clear hn9 HB8 HK1 HT
              go_wp2_with fail
              refine (compactPlacedOf _ _ se la now hz HN.out HH.out w9 (HR0.out.later HB9.out) (HR1.out.later HB9.out)).mono ?_
              rintro e w10 ⟨rfl, hb10⟩
              have HB10 : Hid (Below w.heap.size w w10) := below_on HB9.out hb10
              clear hb10
              go_wp2
              go_ret
              exact ⟨by simp, HB10.out⟩
end Go.Proofs.Ytmhaodcgognhiaa
