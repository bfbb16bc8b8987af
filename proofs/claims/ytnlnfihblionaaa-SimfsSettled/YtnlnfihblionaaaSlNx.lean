import Derived.Test.YtnlnfihblionaaaQa
import Derived.Deep.CutRange
/-! SimfsSettled: the law's walk. -/
namespace Go.Proofs.Ytnlnfihblionaaa
open Go.RowKit Go.Maps Plain
set_option linter.unusedVariables false
set_option linter.unusedSimpArgs false

theorem nm_sz {s : Nm} (h : nmL s = true) : (str s).size ≤ maxLen := by
  refine Decidable.byContradiction fun hc => ?_
  have h2 := nm_size (s := str s) (.inr (by unfold maxLen at hc; omega))
  rw [str_list] at h2
  rw [h2] at h
  cases h
theorem imK_len' (k : Dk) : (imK k).length = k.L.length := by
  have := congrArg List.length (imK_names k)
  rw [List.length_map, nms_len] at this
  exact this

set_option maxHeartbeats 100000000 in
set_option maxRecDepth 1000000 in
theorem settledWalk (q : Int) (hq : I64 q) (v v' : Value) (st st' : List Sp) (ap : Option Addr) (mp cp : Nat) (ps : List Int) (w : World) (h : ScrAt w v st) (h' : ScrAt w v' st') (hps : PicksAt w (.slice ap mp cp) ps) (hpo : PicksOff w.heap.size (.slice ap mp cp)) :
    Calls Try.prog 6 #[.int .i64 q, v, v', .slice ap mp cp] w fun e w' => e = .returned (.bool true) ∧ Below w.heap.size w w' := by
  obtain ⟨a, cap, rfl, hlc, hcm, hlen, hok, hcells⟩ := h
  obtain ⟨a', cap', rfl, hlc', hcm', hlen', hok', hcells'⟩ := h'
  unfold maxLen at hcm hcm'
  have HC : Hid (st ≠ [] → ∃ b off, a = some ⟨b, off, none⟩ ∧ ∀ j, j < st.length → SpAt w b (off + j * 7) (st.getD j Sp.none)) := hcells
  have HOK : Hid (∀ s ∈ st, s.Ok) := hok
  have HC' : Hid (st' ≠ [] → ∃ b off, a' = some ⟨b, off, none⟩ ∧ ∀ j, j < st'.length → SpAt w b (off + j * 7) (st'.getD j Sp.none)) := hcells'
  have HOK' : Hid (∀ s ∈ st', s.Ok) := hok'
  have HPK : Hid (∀ w', Below w.heap.size w w' → PicksAt w' (.slice ap mp cp) ps ∧ PicksOff w'.heap.size (.slice ap mp cp)) := fun w' hb => picksLater hps hpo hb
  have HBG : Hid (∀ w', Calls Try.prog 18 #[.int .i64 q] w' (BgPost q w')) := fun w' => begunOf q hq w'
  obtain ⟨hqa, hqb⟩ := hq
  clear hcells hok hcells' hok' hps hpo
  go_enter Try.func6, Try.ntmps6
  go_wp2_with fail
  refine (HBG.out w).mono ?_
  rintro e w1 (⟨_, rfl, hb⟩ | ⟨d, G0, rfl, hd, q0, q1⟩)
  · have HF : Hid (Below w.heap.size w w1) := hb
    clear hb
    go_wp2
    go_ret
    exact ⟨rfl, HF.out⟩
  have H0 : Hid (∃ k, Dsk w d k w1 ∧ SInv k (2 + 0) ∧ k.quota = q) := ⟨_, hd, bg_inv q G0 ⟨bg_dok q G0 q0 q1, bg_sum q G0 q0 q1, bg_on q G0⟩, bg_quota q G0⟩
  clear hd HBG
  go_wp2
  go_loopg [11] st.length (fun gk s11 wx => ∃ (i : Nat), i + gk = st.length ∧ s11 = .int .i64 i ∧ Hid (∃ k, Dsk w d k wx ∧ SInv k (2 + i) ∧ k.quota = q))
  case atStart => exact ⟨0, by omega, rfl, H0.out⟩
  case round =>
    clear H0
    obtain ⟨i, hig, rfl, HV⟩ := hrel
    cases gk with
    | succ gk1 =>
      obtain ⟨k, hD, hI, hQ⟩ := HV.out
      have hi : i < st.length := by omega
      have hne : st ≠ [] := by rintro rfl; simp at hi
      obtain ⟨b, off, rfl, hc⟩ := HC.out hne
      have hsp := hc i hi
      have hsok := HOK.out (st.getD i Sp.none) (by simp [hi])
      have hspr := hsp.later hD.1
      generalize st.getD i Sp.none = x at hsp hsok hspr
      obtain ⟨kd, nm, tto, at', sn, vb, vp, data⟩ := x
      obtain ⟨c0, c1, c2, c3, c4, c5, c6, _⟩ := hspr
      obtain ⟨s1, s2, s3, s4, s5, s6⟩ := hsok
      have hrow := hsp.row
      simp only at c0 c1 c2 c3 c4 c5 c6 s1 s2 s3 s4 s5 s6 hrow
      obtain ⟨xp, yp, zp, rfl⟩ := s6
      have HROW : Hid (BytesAt w vb data) := hrow
      obtain ⟨ab, cb, hvb, hb1, hb2, _⟩ := hrow
      unfold maxLen at hb2
      subst hvb
      have HSP : Hid (SpAt w b (off + i * 7) ⟨kd, nm, tto, at', sn, .slice ab data.length cb, .slice xp yp zp, data⟩) := hsp
      obtain ⟨s1a, s1b⟩ := s1
      clear hc hne hsp
      by_cases hk1 : kd < 1
      · have hk1d : decide (1 ≤ kd) = false := decide_eq_false (by omega)
        have HN : Hid (∃ k, Dsk w d k wr ∧ SInv k (2 + (i + 1)) ∧ k.quota = q) := ⟨k, hD, hI.mono (by omega), hQ⟩
        clear hD hI hQ HV HROW HSP s2 s3 s4
        go_wp2
        go_roundg gk1
        case measure => omega
        case rel => exact ⟨i + 1, by omega, by go_num, HN.out⟩
      · by_cases hk7 : 7 < kd
        · have hk1' : 1 ≤ kd := by omega
          have hk7d : decide (kd ≤ 7) = false := decide_eq_false (by omega)
          have HN : Hid (∃ k, Dsk w d k wr ∧ SInv k (2 + (i + 1)) ∧ k.quota = q) := ⟨k, hD, hI.mono (by omega), hQ⟩
          clear hD hI hQ HV HROW HSP s2 s3 s4
          go_wp2
          go_roundg gk1
          case measure => omega
          case rel => exact ⟨i + 1, by omega, by go_num, HN.out⟩
        · have hk1' : 1 ≤ kd := by omega
          have hk7' : kd ≤ 7 := by omega
          have HCH : Hid (Calls Try.prog 23 #[.pointer (some ⟨d, 0, none⟩), .agg #[.int .i64 kd, .string nm, .string tto, .int .i64 at', .int .i64 sn, .slice ab data.length cb, .slice xp yp zp]] wr fun e w2 => ∃ ez, e = .returned (.tuple #[.int .i64 ez, .bool true]) ∧ ∃ k, Dsk w d k w2 ∧ SInv k (2 + (i + 1)) ∧ k.quota = q) := by
            refine (changeAll kd nm tto at' sn _ _ data hk1' hk7' hD s3 s4 s2 HROW.out s5 hI.good.dok hI.good.sum.uok (by omega)).mono ?_
            rintro e w2 ⟨G, hG, rfl, hD2⟩
            refine ⟨_, rfl, _, hD2, (hI.chK s3 s4 (by omega) (fun hl => ?_)).mono (by omega), by rw [chK_quota]; exact hQ⟩
            have := hD.asP.liveLt hl
            omega
          clear hD hI hQ HV HROW HSP s2 s3 s4
          go_wp2_with fail
          refine HCH.out.mono ?_
          rintro e w2 ⟨ez, rfl, hn⟩
          have HN : Hid (∃ k, Dsk w d k w2 ∧ SInv k (2 + (i + 1)) ∧ k.quota = q) := hn
          clear hn HCH
          go_wp2
          go_roundg gk1
          case measure => omega
          case rel => exact ⟨i + 1, by omega, by go_num, HN.out⟩
    | zero =>
      obtain ⟨wo, hwo⟩ : ∃ wo, wo = wr := ⟨_, rfl⟩
      subst hwo
      obtain ⟨k, hD, hI, hQ⟩ := HV.out
      obtain rfl : i = st.length := by omega
      have HLS : Hid (Calls Try.prog 28 #[.pointer (some ⟨d, 0, none⟩)] wo fun e w' => ∃ v, e = .returned (.tuple #[v, .int .i64 0]) ∧ NmsPost k.L wo v w') := by
        obtain ⟨_, S, h2, _⟩ := hD
        exact listLive (St.start h2) hI.good.on.dead (by have := hI.good.dok.few; omega)
      have HD : Hid (Dsk w d k wo) := hD
      have HI : Hid (SInv k (2 + st.length)) := hI
      have HQ : Hid (k.quota = q) := hQ
      clear hD hI hQ HV
      go_wp2_with fail
      refine HLS.out.mono ?_
      rintro e w2 ⟨vn, rfl, hn⟩
      obtain ⟨an, cn, rn, rfl, hn1, hn2, hn3, hn4, hn5⟩ := hn
      have HB2 : Hid (Below wo.heap.size wo w2) := hn5
      have HRN : Hid (∀ wx, Keep (fun x => x < w.heap.size ∨ (wo.heap.size ≤ x ∧ x < w2.heap.size)) w2 wx → OwnV wx (.slice an (nms k.L).length cn) ((nms k.L).map encStr) rn) := fun wx hk => hn3.of_block hk.size (fun g e => hk.block g (.inr ⟨hn4 g e, by subst e; exact hn3.lt⟩))
      have H1 : Hid (∃ k', DskP (fun x => x < w.heap.size ∨ (wo.heap.size ≤ x ∧ x < w2.heap.size)) w2 d k' w2 ∧ SyI k.L 0 (2 + st.length) k' ∧ Up k'.Ld ∧ k'.quota = q) := ⟨k, HD.out.guardP hn5, SyI.start HI.out.good HI.out.past HI.out.nmd, HI.out.up, HQ.out⟩
      have hfew : (nms k.L).length ≤ 65536 := by rw [nms_len]; exact HI.out.good.dok.few
      clear hn3 hn4 hn5 HLS
      go_wp2
      go_loopg [16] (nms k.L).length (fun gk s16 wx => ∃ (j : Nat), j + gk = (nms k.L).length ∧ s16 = .int .i64 j ∧ Hid (∃ k', DskP (fun x => x < w.heap.size ∨ (wo.heap.size ≤ x ∧ x < w2.heap.size)) w2 d k' wx ∧ SyI k.L j (2 + st.length) k' ∧ Up k'.Ld ∧ k'.quota = q))
      case atStart => exact ⟨0, by omega, rfl, H1.out⟩
      case round =>
        clear H1
        obtain ⟨wr2, hw2⟩ : ∃ u, u = wr := ⟨_, rfl⟩
        subst hw2
        obtain ⟨j, hjg, rfl, HV⟩ := hrel
        cases gk with
        | succ gk2 =>
          obtain ⟨k', hP, hS, hU, hQ⟩ := HV.out
          have hj : j < (nms k.L).length := by omega
          obtain ⟨s, hs⟩ : ∃ s, (nms k.L)[j]? = some s := ⟨_, List.getElem?_eq_getElem hj⟩
          obtain ⟨g, hg, ha, hcell⟩ := (HRN.out wr2 hP.1).get (j := j) (u := encStr s) (by rw [List.getElem?_map, hs]; rfl)
          subst ha
          have hcel : wr2.cell? ⟨g, j, none⟩ = some (.string (str s)) := hcell
          have hz : (str s).size ≤ maxLen := nm_sz (HI.out.nmd _ (fileOf_mem (List.mem_of_getElem? hs)))
          have HSY : Hid (Calls Try.prog 12 #[.pointer (some ⟨d, 0, none⟩), .string (str s)] wr2 fun e w3 => e = .returned (.int .i64 0) ∧ ∃ k', DskP (fun x => x < w.heap.size ∨ (wo.heap.size ≤ x ∧ x < w2.heap.size)) w2 d k' w3 ∧ SyI k.L (j + 1) (2 + st.length) k' ∧ Up k'.Ld ∧ k'.quota = q) := by
            have next := hS.next hs (G := wr2.heap.size) (fun hl => by have := hP.liveLt hl; omega) (by omega) hz
            refine (syncP hP hz hS.good.dok (by omega)).mono ?_
            rintro e w3 ⟨rfl, h3⟩
            have hch : chK k' 4 (str s) (str s) 0 [] 0 = syncK k' (str s) := rfl
            rw [next.1]
            refine ⟨rfl, _, h3, next.2, ?_, ?_⟩
            · rw [← hch]; exact chK_upd hS.good.dok hU
            · rw [← hch, chK_quota]; exact hQ
          clear hP hS hU hQ HV hcell hz hs hg
          generalize str s = sk at *
          go_wp2_with fail
          refine HSY.out.mono ?_
          rintro e w3 ⟨rfl, hn⟩
          have HN : Hid (∃ k', DskP (fun x => x < w.heap.size ∨ (wo.heap.size ≤ x ∧ x < w2.heap.size)) w2 d k' w3 ∧ SyI k.L (j + 1) (2 + st.length) k' ∧ Up k'.Ld ∧ k'.quota = q) := hn
          clear hn HSY
          go_wp2
          go_roundg gk2
          case measure => omega
          case rel => exact ⟨j + 1, by omega, by go_num, HN.out⟩
        | zero =>
          obtain ⟨k', hP, hS, hU, hQ⟩ := HV.out
          obtain rfl : j = (nms k.L).length := by omega
          have HSD : Hid (Calls Try.prog 13 #[.pointer (some ⟨d, 0, none⟩)] wr2 fun e w3 => e = .returned (.int .i64 0) ∧ ∃ k', Dsk w d k' w3 ∧ k'.Still ∧ SInv k' (2 + st.length + (nms k.L).length + 1) ∧ k'.quota = q) := by
            have fin := hS.finish hU (G := wr2.heap.size) (fun hl => by have := hP.liveLt hl; omega) (by omega)
            refine (syncDirP hP hS.good.dok (by omega)).mono ?_
            rintro e w3 ⟨rfl, h3⟩
            have hch : chK k' 5 (str []) (str []) 0 [] 0 = syncDirK k' := rfl
            rw [fin.1]
            refine ⟨rfl, _, h3.backR (HD.out.1.trans (HB2.out.mono HD.out.1.size)), fin.2.1, fin.2.2, ?_⟩
            rw [← hch, chK_quota]; exact hQ
          clear hP hS hU hQ HV HI HQ HRN HD HB2 hn1 hn2
          go_wp2_with fail
          refine HSD.out.mono ?_
          rintro e w3 ⟨rfl, k1, hD3, hst, hI3, hQ3⟩
          have HD3 : Hid (Dsk w d k1 w3) := hD3
          have HST : Hid (k1.Still) := hst
          have HI3 : Hid (SInv k1 (2 + st.length + (nms k.L).length + 1)) := hI3
          have HQ3 : Hid (k1.quota = q) := hQ3
          have HIM : Hid (Calls Try.prog 25 #[.pointer (some ⟨d, 0, none⟩)] w3 fun e w' => ∃ x l c, e = .returned (.slice x l c) ∧ ImgAt w' (.slice x l c) (imK k1) w3.heap.size ∧ Below w3.heap.size w3 w') := by
            refine (imageP hD3.asP hI3.good.dok).mono ?_
            rintro e w' ⟨x, l, c, rfl, h1, _, h2⟩
            exact ⟨x, l, c, rfl, h1, h2⟩
          clear hD3 hst hI3 hQ3 HSD
          go_wp2_with fail
          refine HIM.out.mono ?_
          rintro e w4 ⟨x4, l4, c4, rfl, hi4, hb4⟩
          have HI4 : Hid (ImgAt w4 (.slice x4 l4 c4) (imK k1) w3.heap.size) := hi4
          have HB4 : Hid (Below w3.heap.size w3 w4) := hb4
          have HCR : Hid (∀ (u : World) (x : Option Addr) (m c : Nat) (pl : List Int), Below w3.heap.size w3 u → PicksAt u (.slice x m c) pl ∧ PicksOff u.heap.size (.slice x m c) → Calls Try.prog 15 #[.pointer (some ⟨d, 0, none⟩), .slice x m c] u fun e w' => ∃ x l c, e = .returned (.slice x l c) ∧ ImgAt w' (.slice x l c) (imK k1) u.heap.size ∧ Below u.heap.size u w') := fun u x m c pl hu hp => by
            have := crashPc (HD3.out.later hu).asP HI3.out.good.dok HI3.out.past (by rw [HST.out.dir]; simp) hp
            rw [HST.out.crash HI3.out.good.dok pl] at this
            exact this
          have HSI : Hid (∀ (u : World) (x : Option Addr) (l c lo : Nat), Below w4.heap.size w4 u → ImgAt u (.slice x l c) (imK k1) lo → Calls Try.prog 26 #[.slice x l c, .slice x4 l4 c4] u fun e w' => e = .returned (.bool true) ∧ Below u.heap.size u w') := fun u x l c lo hu hi => sameImageEq _ _ (imK k1) u hi.read (HI4.out.later hu).read
          have HC5 : Hid (Calls Try.prog 15 #[.pointer (some ⟨d, 0, none⟩), .slice ap mp cp] w4 fun e w' => ∃ x l c, e = .returned (.slice x l c) ∧ ImgAt w' (.slice x l c) (imK k1) w4.heap.size ∧ Below w4.heap.size w4 w') := HCR.out w4 _ _ _ ps hb4 (HPK.out w4 (HD3.out.later hb4).1)
          clear hi4 hb4 HIM
          go_wp2_with fail
          refine HC5.out.mono ?_
          rintro e w5 ⟨x5, l5, c5, rfl, hi5, hb5⟩
          have HB5 : Hid (Below w4.heap.size w4 w5) := hb5
          have HS6 : Hid (Calls Try.prog 26 #[.slice x5 l5 c5, .slice x4 l4 c4] w5 fun e w' => e = .returned (.bool true) ∧ Below w5.heap.size w5 w') := HSI.out w5 _ _ _ _ hb5 hi5
          clear hi5 hb5 HC5
          go_wp2_with fail
          refine HS6.out.mono ?_
          rintro e w6 ⟨rfl, hb6⟩
          have HB6 : Hid (Below w4.heap.size w4 w6) := HB5.out.trans (hb6.mono HB5.out.size)
          have HB36 : Hid (Below w3.heap.size w3 w6) := HB4.out.trans (HB6.out.mono HB4.out.size)
          have HC7 : Hid (Calls Try.prog 15 #[.pointer (some ⟨d, 0, none⟩), .slice none 0 0] w6 fun e w' => ∃ x l c, e = .returned (.slice x l c) ∧ ImgAt w' (.slice x l c) (imK k1) w6.heap.size ∧ Below w6.heap.size w6 w') := HCR.out w6 _ _ _ [] HB36.out (noPicks w6)
          clear hb6 HS6 HB5
          go_wp2_with fail
          refine HC7.out.mono ?_
          rintro e w7 ⟨x7, l7, c7, rfl, hi7, hb7⟩
          have HB7 : Hid (Below w4.heap.size w4 w7) := HB6.out.trans (hb7.mono HB6.out.size)
          have HS8 : Hid (Calls Try.prog 26 #[.slice x7 l7 c7, .slice x4 l4 c4] w7 fun e w' => e = .returned (.bool true) ∧ Below w7.heap.size w7 w') := HSI.out w7 _ _ _ _ HB7.out hi7
          clear hi7 hb7 HC7 HB36 HB6
          go_wp2_with fail
          refine HS8.out.mono ?_
          rintro e w8 ⟨rfl, hb8⟩
          have HB8 : Hid (Below w4.heap.size w4 w8) := HB7.out.trans (hb8.mono HB7.out.size)
          have HTW : Hid (Calls Try.prog 30 #[.slice x4 l4 c4] w8 fun e w' => ∃ x l c, e = .returned (.slice x l c) ∧ ImgAt w' (.slice x l c) (imK k1) w8.heap.size ∧ Below w8.heap.size w8 w') := twinOf _ _ w8 (HI4.out.later HB8.out).read (by rw [imK_len' k1]; exact HI3.out.good.dok.few) HI3.out.good.dataLen
          clear hb8 HS8 HB7 HCR HSI
          go_wp2_with fail
          refine HTW.out.mono ?_
          rintro e w9 ⟨x9, l9, c9, rfl, hi9, hb9⟩
          have HB9 : Hid (Below w4.heap.size w4 w9) := HB8.out.trans (hb9.mono HB8.out.size)
          have HLD : Hid (Calls Try.prog 29 #[.slice x9 l9 c9, .int .i64 q] w9 fun e w' => ∃ xs k d, xs.map (·.1) = imK k1 ∧ LdI q xs k ∧ e = .returned (.tuple #[.pointer (some ⟨d, 0, none⟩), .int .i64 0]) ∧ Dsk w9 d k.settled w') := loadIm q (by simp [qB, q0, q1]) _ _ w9 hi9.read (Dk.imOk HI3.out.good HI3.out.nmd)
          clear hi9 hb9 HTW HB8
          go_wp2_with fail
          refine HLD.out.mono ?_
          rintro e w10 ⟨xs, k2, dq, hxs, hL, rfl, hDq⟩
          have HB39 : Hid (Below w3.heap.size w3 w9) := HB4.out.trans (HB9.out.mono HB4.out.size)
          obtain ⟨hDuo, hB10⟩ := HD3.out.duoG HB39.out hDq
          have hT := TInv.begin HI3.out HST.out hxs hL HQ3.out
          obtain ⟨g1, g2, g3, g4⟩ := hL.done
          have hxl : xs.length ≤ 65536 := by
            have := congrArg List.length hxs
            rw [List.length_map, imK_len' k1] at this
            rw [this]; exact HI3.out.good.dok.few
          have HIMG : Hid (∀ wx, Keep (fun x => x < w.heap.size ∨ (w3.heap.size ≤ x ∧ x < w9.heap.size)) w10 wx → ImR wx (.slice x4 l4 c4) (imK k1)) := fun wx hk => by
            refine ((HI4.out.later HB9.out).hold (w := wx) (Nat.le_trans hDq.1.size hk.size) (fun x h1 h2 => ?_)).read
            rw [hk.block x (.inr ⟨h1, h2⟩)]
            exact hDq.1.block x h2
          have hKQ : ∀ wx, Below w10.heap.size w10 wx → Keep (fun x => x < w.heap.size ∨ (w3.heap.size ≤ x ∧ x < w9.heap.size)) w10 wx := fun wx hb => ⟨hb.os, hb.tape, hb.output, hb.size, fun x hx => by
            have h1 := hDq.1.size
            have h2 := hB10.size
            rcases hx with hx | hx <;> omega, fun x hx => hb.block x (by
            have h1 := hDq.1.size
            have h2 := hB10.size
            rcases hx with hx | hx <;> omega)⟩
          have HKQ : Hid (∀ wx, Below w10.heap.size w10 wx → Keep (fun x => x < w.heap.size ∨ (w3.heap.size ≤ x ∧ x < w9.heap.size)) w10 wx) := hKQ
          have HDU : Hid (Duo (fun x => x < w.heap.size ∨ (w3.heap.size ≤ x ∧ x < w9.heap.size)) d dq k1 k2.settled w10) := hDuo
          have HBT : Hid (Below w.heap.size w w10) := hB10
          have HT : Hid (TInv (imK k1) k1 k2.settled (2 + st.length + (nms k.L).length + 1) xs.length) := hT
          have HIB : Hid (∀ u, Below w10.heap.size w10 u → Calls Try.prog 25 #[.pointer (some ⟨dq, 0, none⟩)] u fun e w' => ∃ x l c, e = .returned (.slice x l c) ∧ ImgAt w' (.slice x l c) (imK k1) u.heap.size ∧ Below u.heap.size u w') := fun u hu => by
            obtain ⟨R, hR⟩ := hT.sib
            have := (hDuo.later hu).imageB g1.dok
            rw [← hR.image] at this
            exact this
          have HCB : Hid (∀ u, Below w10.heap.size w10 u → Calls Try.prog 15 #[.pointer (some ⟨dq, 0, none⟩), .slice ap mp cp] u fun e w' => ∃ x l c, e = .returned (.slice x l c) ∧ ImgAt w' (.slice x l c) (imK k1) u.heap.size ∧ Below u.heap.size u w') := fun u hu => by
            obtain ⟨R, hR⟩ := hT.sib
            have := (hDuo.later hu).crashB (ps := ps) g1.dok g2 (by omega) (HPK.out u (hB10.trans (hu.mono hB10.size)))
            rw [g4.crash g1.dok, ← hR.image] at this
            exact this
          have HSB : Hid (∀ (u : World) (x : Option Addr) (l c lo : Nat), Below w10.heap.size w10 u → ImgAt u (.slice x l c) (imK k1) lo → Calls Try.prog 26 #[.slice x l c, .slice x4 l4 c4] u fun e w' => e = .returned (.bool true) ∧ Below u.heap.size u w') := fun u x l c lo hu hi => sameImageEq _ _ (imK k1) u hi.read (HIMG.out u (hKQ u hu))
          have HI11 : Hid (Calls Try.prog 25 #[.pointer (some ⟨dq, 0, none⟩)] w10 fun e w' => ∃ x l c, e = .returned (.slice x l c) ∧ ImgAt w' (.slice x l c) (imK k1) w10.heap.size ∧ Below w10.heap.size w10 w') := HIB.out w10 (Below.refl _ _)
          clear hxs hL hDq hDuo hB10 hT g1 g2 g3 g4 HLD HB4 HB9 HB39 HI4 HST HI3 HQ3 HD3 HIB hKQ
          go_wp2_with fail
          refine HI11.out.mono ?_
          rintro e w11 ⟨x11, l11, c11, rfl, hi11, hb11⟩
          have HB11 : Hid (Below w10.heap.size w10 w11) := hb11
          have HS12 : Hid (Calls Try.prog 26 #[.slice x11 l11 c11, .slice x4 l4 c4] w11 fun e w' => e = .returned (.bool true) ∧ Below w11.heap.size w11 w') := HSB.out w11 _ _ _ _ hb11 hi11
          clear hi11 hb11 HI11
          go_wp2_with fail
          refine HS12.out.mono ?_
          rintro e w12 ⟨rfl, hb12⟩
          have HB12 : Hid (Below w10.heap.size w10 w12) := HB11.out.trans (hb12.mono HB11.out.size)
          have HC13 : Hid (Calls Try.prog 15 #[.pointer (some ⟨dq, 0, none⟩), .slice ap mp cp] w12 fun e w' => ∃ x l c, e = .returned (.slice x l c) ∧ ImgAt w' (.slice x l c) (imK k1) w12.heap.size ∧ Below w12.heap.size w12 w') := HCB.out w12 HB12.out
          clear hb12 HS12 HB11
          go_wp2_with fail
          refine HC13.out.mono ?_
          rintro e w13 ⟨x13, l13, c13, rfl, hi13, hb13⟩
          have HB13 : Hid (Below w10.heap.size w10 w13) := HB12.out.trans (hb13.mono HB12.out.size)
          have HS14 : Hid (Calls Try.prog 26 #[.slice x13 l13 c13, .slice x4 l4 c4] w13 fun e w' => e = .returned (.bool true) ∧ Below w13.heap.size w13 w') := HSB.out w13 _ _ _ _ HB13.out hi13
          clear hi13 hb13 HC13 HB12 HCB HSB
          go_wp2_with fail
          refine HS14.out.mono ?_
          rintro e w14 ⟨rfl, hb14⟩
          have hb14' : Below w10.heap.size w10 w14 := HB13.out.trans (hb14.mono HB13.out.size)
          have H3 : Hid (∃ ka kb, Duo (fun x => x < w.heap.size ∨ (w3.heap.size ≤ x ∧ x < w9.heap.size)) d dq ka kb w14 ∧ Keep (fun x => x < w.heap.size ∨ (w3.heap.size ≤ x ∧ x < w9.heap.size)) w10 w14 ∧ TInv (imK k1) ka kb (2 + st.length + (nms k.L).length + 1 + 0) (xs.length + 0)) := ⟨_, _, HDU.out.later hb14', HKQ.out w14 hb14', HT.out⟩
          clear hb14 hb14' HS14 HB13 HDU HT HKQ
          go_wp2
          go_loopg [20] st'.length (fun gk s20 wx => ∃ (m : Nat), m + gk = st'.length ∧ s20 = .int .i64 m ∧ Hid (∃ ka kb, Duo (fun x => x < w.heap.size ∨ (w3.heap.size ≤ x ∧ x < w9.heap.size)) d dq ka kb wx ∧ Keep (fun x => x < w.heap.size ∨ (w3.heap.size ≤ x ∧ x < w9.heap.size)) w10 wx ∧ TInv (imK k1) ka kb (2 + st.length + (nms k.L).length + 1 + m) (xs.length + m)))
          case atStart => exact ⟨0, by omega, rfl, H3.out⟩
          case round =>
            clear H3
            obtain ⟨wr3, hw3⟩ : ∃ u, u = wr := ⟨_, rfl⟩
            subst hw3
            obtain ⟨m, hmg, rfl, HV⟩ := hrel
            cases gk with
            | succ gk3 =>
              obtain ⟨ka, kb, hD, hK, hI⟩ := HV.out
              have hi : m < st'.length := by omega
              have hne : st' ≠ [] := by rintro rfl; simp at hi
              obtain ⟨b, off, rfl, hc⟩ := HC'.out hne
              have hsp := hc m hi
              have hsok := HOK'.out (st'.getD m Sp.none) (by simp [hi])
              have hspr := hsp.later (HBT.out.trans (hK.below (fun x hx => .inl hx)))
              generalize st'.getD m Sp.none = x at hsp hsok hspr
              obtain ⟨kd, nm, tto, at', sn, vb, vp, data⟩ := x
              obtain ⟨c0, c1, c2, c3, c4, c5, c6, _⟩ := hspr
              obtain ⟨s1, s2, s3, s4, s5, s6⟩ := hsok
              have hrow := hsp.row
              simp only at c0 c1 c2 c3 c4 c5 c6 s1 s2 s3 s4 s5 s6 hrow
              obtain ⟨xp, yp, zp, rfl⟩ := s6
              have HROW : Hid (BytesAt w vb data) := hrow
              obtain ⟨ab, cb, hvb, hb1, hb2, _⟩ := hrow
              unfold maxLen at hb2
              subst hvb
              have HSP : Hid (SpAt w b (off + m * 7) ⟨kd, nm, tto, at', sn, .slice ab data.length cb, .slice xp yp zp, data⟩) := hsp
              obtain ⟨s1a, s1b⟩ := s1
              clear hc hne hsp
              by_cases hk1 : kd < 1
              · have hk1d : decide (1 ≤ kd) = false := decide_eq_false (by omega)
                have HN : Hid (∃ ka kb, Duo (fun x => x < w.heap.size ∨ (w3.heap.size ≤ x ∧ x < w9.heap.size)) d dq ka kb wr3 ∧ Keep (fun x => x < w.heap.size ∨ (w3.heap.size ≤ x ∧ x < w9.heap.size)) w10 wr3 ∧ TInv (imK k1) ka kb (2 + st.length + (nms k.L).length + 1 + (m + 1)) (xs.length + (m + 1))) := ⟨ka, kb, hD, hK, hI.mono (by omega) (by omega)⟩
                clear hD hK hI HV HROW HSP s2 s3 s4
                go_wp2
                go_roundg gk3
                case measure => omega
                case rel => exact ⟨m + 1, by omega, by go_num, HN.out⟩
              · by_cases hk7 : 7 < kd
                · have hk1' : 1 ≤ kd := by omega
                  have hk7d : decide (kd ≤ 7) = false := decide_eq_false (by omega)
                  have HN : Hid (∃ ka kb, Duo (fun x => x < w.heap.size ∨ (w3.heap.size ≤ x ∧ x < w9.heap.size)) d dq ka kb wr3 ∧ Keep (fun x => x < w.heap.size ∨ (w3.heap.size ≤ x ∧ x < w9.heap.size)) w10 wr3 ∧ TInv (imK k1) ka kb (2 + st.length + (nms k.L).length + 1 + (m + 1)) (xs.length + (m + 1))) := ⟨ka, kb, hD, hK, hI.mono (by omega) (by omega)⟩
                  clear hD hK hI HV HROW HSP s2 s3 s4
                  go_wp2
                  go_roundg gk3
                  case measure => omega
                  case rel => exact ⟨m + 1, by omega, by go_num, HN.out⟩
                · by_cases hk4 : kd = 4
                  · subst hk4
                    have HN : Hid (∃ ka kb, Duo (fun x => x < w.heap.size ∨ (w3.heap.size ≤ x ∧ x < w9.heap.size)) d dq ka kb wr3 ∧ Keep (fun x => x < w.heap.size ∨ (w3.heap.size ≤ x ∧ x < w9.heap.size)) w10 wr3 ∧ TInv (imK k1) ka kb (2 + st.length + (nms k.L).length + 1 + (m + 1)) (xs.length + (m + 1))) := ⟨ka, kb, hD, hK, hI.mono (by omega) (by omega)⟩
                    clear hD hK hI HV HROW HSP s2 s3 s4
                    go_wp2
                    go_roundg gk3
                    case measure => omega
                    case rel => exact ⟨m + 1, by omega, by go_num, HN.out⟩
                  · by_cases hk5 : kd = 5
                    · subst hk5
                      have HN : Hid (∃ ka kb, Duo (fun x => x < w.heap.size ∨ (w3.heap.size ≤ x ∧ x < w9.heap.size)) d dq ka kb wr3 ∧ Keep (fun x => x < w.heap.size ∨ (w3.heap.size ≤ x ∧ x < w9.heap.size)) w10 wr3 ∧ TInv (imK k1) ka kb (2 + st.length + (nms k.L).length + 1 + (m + 1)) (xs.length + (m + 1))) := ⟨ka, kb, hD, hK, hI.mono (by omega) (by omega)⟩
                      clear hD hK hI HV HROW HSP s2 s3 s4
                      go_wp2
                      go_roundg gk3
                      case measure => omega
                      case rel => exact ⟨m + 1, by omega, by go_num, HN.out⟩
                    · have hk1' : 1 ≤ kd := by omega
                      have hk7' : kd ≤ 7 := by omega
                      have hb4 : (kd != 4) = true := by simp [hk4]
                      have hb5 : (kd != 5) = true := by simp [hk5]
                      have HS : Hid (I64 sn ∧ nm.size ≤ maxLen ∧ tto.size ≤ maxLen ∧ data.length ≤ 140737488351232) := ⟨s2, s3, s4, s5⟩
                      have HI : Hid (TInv (imK k1) ka kb (2 + st.length + (nms k.L).length + 1 + m) (xs.length + m)) := hI
                      have HK : Hid (Keep (fun x => x < w.heap.size ∨ (w3.heap.size ≤ x ∧ x < w9.heap.size)) w10 wr3) := hK
                      have HCA : Hid (Calls Try.prog 23 #[.pointer (some ⟨d, 0, none⟩), .agg #[.int .i64 kd, .string nm, .string tto, .int .i64 at', .int .i64 sn, .slice ab data.length cb, .slice xp yp zp]] wr3 fun e w' => ∃ G, ¬ ka.live G ∧ e = .returned (.tuple #[.int .i64 (chK ka kd nm tto sn data G).1, .bool true]) ∧ Duo (fun x => x < w.heap.size ∨ (w3.heap.size ≤ x ∧ x < w9.heap.size)) d dq (chK ka kd nm tto sn data G).2 kb w' ∧ Keep (fun x => x < w.heap.size ∨ (w3.heap.size ≤ x ∧ x < w9.heap.size)) wr3 w') := hD.changeA kd nm tto at' sn _ _ data hk1' hk7' s3 s4 s2 (fun u hk => HROW.out.later (HBT.out.trans ((hK.trans hk).below (fun x hx => .inl hx)))) s5 hI.one.good.dok hI.one.good.sum.uok (by omega)
                      clear hD hK hI HV s2 s3 s4
                      go_wp2_with fail
                      refine HCA.out.mono ?_
                      rintro e wa ⟨A, hA, rfl, hDa, hKa⟩
                      have hKa' : Keep (fun x => x < w.heap.size ∨ (w3.heap.size ≤ x ∧ x < w9.heap.size)) w10 wa := HK.out.trans hKa
                      have HKA : Hid (Keep (fun x => x < w.heap.size ∨ (w3.heap.size ≤ x ∧ x < w9.heap.size)) w10 wa) := hKa'
                      have HA : Hid (¬ ka.live A) := hA
                      obtain ⟨d0, d1, d2, d3, d4, d5, d6, _⟩ := HSP.out.later (HBT.out.trans (hKa'.below (fun x hx => .inl hx)))
                      simp only at d0 d1 d2 d3 d4 d5 d6
                      have HCC : Hid (Calls Try.prog 23 #[.pointer (some ⟨dq, 0, none⟩), .agg #[.int .i64 kd, .string nm, .string tto, .int .i64 at', .int .i64 sn, .slice ab data.length cb, .slice xp yp zp]] wa fun e w' => ∃ G, ¬ kb.live G ∧ e = .returned (.tuple #[.int .i64 (chK kb kd nm tto sn data G).1, .bool true]) ∧ Duo (fun x => x < w.heap.size ∨ (w3.heap.size ≤ x ∧ x < w9.heap.size)) d dq (chK ka kd nm tto sn data A).2 (chK kb kd nm tto sn data G).2 w' ∧ Keep (fun x => x < w.heap.size ∨ (w3.heap.size ≤ x ∧ x < w9.heap.size)) wa w') := hDa.changeB kd nm tto at' sn _ _ data hk1' hk7' HS.out.2.1 HS.out.2.2.1 HS.out.1 (fun u hk => HROW.out.later (HBT.out.trans ((HKA.out.trans hk).below (fun x hx => .inl hx)))) HS.out.2.2.2 HI.out.two.good.dok HI.out.two.good.sum.uok (by omega)
                      obtain ⟨ea, hea⟩ : ∃ z, (chK ka kd nm tto sn data A).1 = z := ⟨_, rfl⟩
                      have HEA : Hid ((chK ka kd nm tto sn data A).1 = ea) := hea
                      rw [hea]
                      clear hea hA hDa hKa hKa' HCA c0 c1 c2 c3 c4 c5 c6
                      go_wp2_with fail
                      refine HCC.out.mono ?_
                      rintro e wb ⟨B, hB, rfl, hDb, hKb⟩
                      obtain ⟨e1, hI3⟩ := HI.out.step (kd := kd) (m := sn) (nm := nm) (to' := tto) (l := data) HS.out.2.1 HS.out.2.2.1 (by omega) (by omega) HA.out hB hk4 hk5
                      rw [HEA.out] at e1
                      rw [← e1]
                      have HN : Hid (∃ ka kb, Duo (fun x => x < w.heap.size ∨ (w3.heap.size ≤ x ∧ x < w9.heap.size)) d dq ka kb wb ∧ Keep (fun x => x < w.heap.size ∨ (w3.heap.size ≤ x ∧ x < w9.heap.size)) w10 wb ∧ TInv (imK k1) ka kb (2 + st.length + (nms k.L).length + 1 + (m + 1)) (xs.length + (m + 1))) := ⟨_, _, hDb, HKA.out.trans hKb, hI3⟩
                      clear hDb hKb hB hI3 e1 HCC HEA d0 d1 d2 d3 d4 d5 d6
                      go_wp2
                      go_roundg gk3
                      case measure => omega
                      case rel => exact ⟨m + 1, by omega, by go_num, HN.out⟩
            | zero =>
              obtain ⟨ka, kb, hD, hK, hI⟩ := HV.out
              obtain rfl : m = st'.length := by omega
              have ends := hI.ends ps
              have hcl := hI.chgLen
              have HV0 : Hid (Below wr3.heap.size wr3 wr3) := Below.refl _ _
              have HCA : Hid (∀ (u : World) (x : Option Addr) (m c : Nat) (pl : List Int), Below wr3.heap.size wr3 u → PicksAt u (.slice x m c) pl ∧ PicksOff u.heap.size (.slice x m c) → Calls Try.prog 15 #[.pointer (some ⟨d, 0, none⟩), .slice x m c] u fun e w' => ∃ x l c, e = .returned (.slice x l c) ∧ ImgAt w' (.slice x l c) (crK ka pl) u.heap.size ∧ Below u.heap.size u w') := fun u x m c pl hu hp => (hD.later hu).crashAc hI.one.good.dok hI.one.past (by omega) hp
              have HCB : Hid (∀ (u : World) (x : Option Addr) (m c : Nat) (pl : List Int), Below wr3.heap.size wr3 u → PicksAt u (.slice x m c) pl ∧ PicksOff u.heap.size (.slice x m c) → Calls Try.prog 15 #[.pointer (some ⟨dq, 0, none⟩), .slice x m c] u fun e w' => ∃ x l c, e = .returned (.slice x l c) ∧ ImgAt w' (.slice x l c) (crK kb pl) u.heap.size ∧ Below u.heap.size u w') := fun u x m c pl hu hp => (hD.later hu).crashB hI.two.good.dok hI.two.past (by omega) hp
              have HIA : Hid (∀ u, Below wr3.heap.size wr3 u → Calls Try.prog 25 #[.pointer (some ⟨d, 0, none⟩)] u fun e w' => ∃ x l c, e = .returned (.slice x l c) ∧ ImgAt w' (.slice x l c) (imK ka) u.heap.size ∧ Below u.heap.size u w') := fun u hu => (hD.later hu).imageA hI.one.good.dok
              have HIB : Hid (∀ u, Below wr3.heap.size wr3 u → Calls Try.prog 25 #[.pointer (some ⟨dq, 0, none⟩)] u fun e w' => ∃ x l c, e = .returned (.slice x l c) ∧ ImgAt w' (.slice x l c) (imK ka) u.heap.size ∧ Below u.heap.size u w') := fun u hu => by
                have := (hD.later hu).imageB hI.two.good.dok
                rw [← ends.2.2.1] at this
                exact this
              have HEN : Hid (crK ka [] = imK k1 ∧ crK kb [] = imK k1 ∧ imK ka = imK kb ∧ crK ka ps = crK kb ps) := ends
              have HIR : Hid (∀ u, Below wr3.heap.size wr3 u → ImR u (.slice x4 l4 c4) (imK k1)) := fun u hu => (HIMG.out wr3 hK).after hu
              have HPS : Hid (∀ u, Below wr3.heap.size wr3 u → PicksAt u (.slice ap mp cp) ps ∧ PicksOff u.heap.size (.slice ap mp cp)) := fun u hu => by
                have hb := HBT.out.trans (hK.below (fun x hx => .inl hx))
                exact HPK.out u (hb.trans (hu.mono hb.size))
              have HBF : Hid (∀ u, Below wr3.heap.size wr3 u → Below w.heap.size w u) := fun u hu => by
                have hb := HBT.out.trans (hK.below (fun x hx => .inl hx))
                exact hb.trans (hu.mono hb.size)
              clear hD hK hI ends HV HIMG HBT hcl
              have HX1 : Hid (Calls Try.prog 15 #[.pointer (some ⟨d, 0, none⟩), .slice none 0 0] wr3 fun e w' => ∃ x l c, e = .returned (.slice x l c) ∧ ImgAt w' (.slice x l c) (imK k1) wr3.heap.size ∧ Below wr3.heap.size wr3 w') := by
                have := HCA.out wr3 _ _ _ [] HV0.out (noPicks _)
                rw [HEN.out.1] at this
                exact this
              go_wp2_with fail
              refine HX1.out.mono ?_
              rintro e v1 ⟨x1, l1, c1, rfl, hi1, hb1⟩
              have HR1 : Hid (ImgAt v1 (.slice x1 l1 c1) (imK k1) wr3.heap.size) := hi1
              have HV1 : Hid (Below wr3.heap.size wr3 v1) := HV0.out.trans (hb1.mono HV0.out.size)
              have HW1 : Hid (Below wr3.heap.size wr3 v1) := hb1
              clear hi1 hb1 HX1
              have HX2 : Hid (Calls Try.prog 26 #[.slice x1 l1 c1, .slice x4 l4 c4] v1 fun e w' => e = .returned (.bool true) ∧ Below v1.heap.size v1 w') := sameImageEq _ _ (imK k1) v1 HR1.out.read (HIR.out v1 HV1.out)
              go_wp2_with fail
              refine HX2.out.mono ?_
              rintro e v2 ⟨rfl, hb2⟩
              have HV2 : Hid (Below wr3.heap.size wr3 v2) := HV1.out.trans (hb2.mono HV1.out.size)
              clear hb2 HX2
              have HX3 : Hid (Calls Try.prog 15 #[.pointer (some ⟨dq, 0, none⟩), .slice none 0 0] v2 fun e w' => ∃ x l c, e = .returned (.slice x l c) ∧ ImgAt w' (.slice x l c) (imK k1) v2.heap.size ∧ Below v2.heap.size v2 w') := by
                have := HCB.out v2 _ _ _ [] HV2.out (noPicks _)
                rw [HEN.out.2.1] at this
                exact this
              go_wp2_with fail
              refine HX3.out.mono ?_
              rintro e v3 ⟨x3, l3, c3, rfl, hi3, hb3⟩
              have HR3 : Hid (ImgAt v3 (.slice x3 l3 c3) (imK k1) v2.heap.size) := hi3
              have HV3 : Hid (Below wr3.heap.size wr3 v3) := HV2.out.trans (hb3.mono HV2.out.size)
              have HW3 : Hid (Below v2.heap.size v2 v3) := hb3
              clear hi3 hb3 HX3
              have HX4 : Hid (Calls Try.prog 26 #[.slice x3 l3 c3, .slice x4 l4 c4] v3 fun e w' => e = .returned (.bool true) ∧ Below v3.heap.size v3 w') := sameImageEq _ _ (imK k1) v3 HR3.out.read (HIR.out v3 HV3.out)
              go_wp2_with fail
              refine HX4.out.mono ?_
              rintro e v4 ⟨rfl, hb4⟩
              have HV4 : Hid (Below wr3.heap.size wr3 v4) := HV3.out.trans (hb4.mono HV3.out.size)
              clear hb4 HX4
              have HX5 : Hid (Calls Try.prog 25 #[.pointer (some ⟨d, 0, none⟩)] v4 fun e w' => ∃ x l c, e = .returned (.slice x l c) ∧ ImgAt w' (.slice x l c) (imK ka) v4.heap.size ∧ Below v4.heap.size v4 w') := HIA.out v4 HV4.out
              go_wp2_with fail
              refine HX5.out.mono ?_
              rintro e v5 ⟨x5, l5, c5, rfl, hi5, hb5⟩
              have HR5 : Hid (ImgAt v5 (.slice x5 l5 c5) (imK ka) v4.heap.size) := hi5
              have HV5 : Hid (Below wr3.heap.size wr3 v5) := HV4.out.trans (hb5.mono HV4.out.size)
              have HW5 : Hid (Below v4.heap.size v4 v5) := hb5
              clear hi5 hb5 HX5
              have HX6 : Hid (Calls Try.prog 25 #[.pointer (some ⟨dq, 0, none⟩)] v5 fun e w' => ∃ x l c, e = .returned (.slice x l c) ∧ ImgAt w' (.slice x l c) (imK ka) v5.heap.size ∧ Below v5.heap.size v5 w') := HIB.out v5 HV5.out
              go_wp2_with fail
              refine HX6.out.mono ?_
              rintro e v6 ⟨x6, l6, c6, rfl, hi6, hb6⟩
              have HR6 : Hid (ImgAt v6 (.slice x6 l6 c6) (imK ka) v5.heap.size) := hi6
              have HV6 : Hid (Below wr3.heap.size wr3 v6) := HV5.out.trans (hb6.mono HV5.out.size)
              have HW6 : Hid (Below v5.heap.size v5 v6) := hb6
              clear hi6 hb6 HX6
              have HX7 : Hid (Calls Try.prog 26 #[.slice x5 l5 c5, .slice x6 l6 c6] v6 fun e w' => e = .returned (.bool true) ∧ Below v6.heap.size v6 w') := sameImageEq _ _ (imK ka) v6 (HR5.out.later HW6.out).read HR6.out.read
              go_wp2_with fail
              refine HX7.out.mono ?_
              rintro e v7 ⟨rfl, hb7⟩
              have HV7 : Hid (Below wr3.heap.size wr3 v7) := HV6.out.trans (hb7.mono HV6.out.size)
              clear hb7 HX7
              have HX8 : Hid (Calls Try.prog 15 #[.pointer (some ⟨d, 0, none⟩), .slice ap mp cp] v7 fun e w' => ∃ x l c, e = .returned (.slice x l c) ∧ ImgAt w' (.slice x l c) (crK ka ps) v7.heap.size ∧ Below v7.heap.size v7 w') := HCA.out v7 _ _ _ ps HV7.out (HPS.out v7 HV7.out)
              go_wp2_with fail
              refine HX8.out.mono ?_
              rintro e v8 ⟨x8, l8, c8, rfl, hi8, hb8⟩
              have HR8 : Hid (ImgAt v8 (.slice x8 l8 c8) (crK ka ps) v7.heap.size) := hi8
              have HV8 : Hid (Below wr3.heap.size wr3 v8) := HV7.out.trans (hb8.mono HV7.out.size)
              have HW8 : Hid (Below v7.heap.size v7 v8) := hb8
              clear hi8 hb8 HX8
              have HX9 : Hid (Calls Try.prog 15 #[.pointer (some ⟨dq, 0, none⟩), .slice ap mp cp] v8 fun e w' => ∃ x l c, e = .returned (.slice x l c) ∧ ImgAt w' (.slice x l c) (crK ka ps) v8.heap.size ∧ Below v8.heap.size v8 w') := by
                have := HCB.out v8 _ _ _ ps HV8.out (HPS.out v8 HV8.out)
                rw [← HEN.out.2.2.2] at this
                exact this
              go_wp2_with fail
              refine HX9.out.mono ?_
              rintro e v9 ⟨x9, l9, c9, rfl, hi9, hb9⟩
              have HR9 : Hid (ImgAt v9 (.slice x9 l9 c9) (crK ka ps) v8.heap.size) := hi9
              have HV9 : Hid (Below wr3.heap.size wr3 v9) := HV8.out.trans (hb9.mono HV8.out.size)
              have HW9 : Hid (Below v8.heap.size v8 v9) := hb9
              clear hi9 hb9 HX9
              have HX10 : Hid (Calls Try.prog 26 #[.slice x8 l8 c8, .slice x9 l9 c9] v9 fun e w' => e = .returned (.bool true) ∧ Below v9.heap.size v9 w') := sameImageEq _ _ (crK ka ps) v9 (HR8.out.later HW9.out).read HR9.out.read
              go_wp2_with fail
              refine HX10.out.mono ?_
              rintro e v10 ⟨rfl, hb10⟩
              have HV10 : Hid (Below wr3.heap.size wr3 v10) := HV9.out.trans (hb10.mono HV9.out.size)
              clear hb10 HX10
              have HF : Hid (Below w.heap.size w v10) := HBF.out v10 HV10.out
              go_wp2
              go_ret
              exact ⟨rfl, HF.out⟩
end Go.Proofs.Ytnlnfihblionaaa
