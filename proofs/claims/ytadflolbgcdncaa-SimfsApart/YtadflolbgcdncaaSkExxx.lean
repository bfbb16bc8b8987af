import Derived.Test.YtadflolbgcdncaaQc
import Derived.Deep.CutRange
/-! The law on three disks: its walk. -/
namespace Go.Proofs.Ytadflolbgcdncaa
open Go.RowKit Go.Maps Plain
set_option linter.unusedVariables false
set_option linter.unusedSimpArgs false

set_option maxHeartbeats 100000000 in
set_option maxRecDepth 1000000 in
theorem apartWalk (q : Int) (hq : I64 q) (v v' : Value) (st st' : List Sp) (w : World) (h : ScrAt w v st) (h' : ScrAt w v' st') :
    Calls Try.prog 5 #[.int .i64 q, v, v'] w fun e w' => e = .returned (.bool true) ∧ Below w.heap.size w w' := by
  obtain ⟨a, cap, rfl, hlc, hcm, hlen, hok, hcells⟩ := h
  obtain ⟨a', cap', rfl, hlc', hcm', hlen', hok', hcells'⟩ := h'
  unfold maxLen at hcm hcm'
  have HC : Hid (st ≠ [] → ∃ b off, a = some ⟨b, off, none⟩ ∧ ∀ j, j < st.length → SpAt w b (off + j * 7) (st.getD j Sp.none)) := hcells
  have HOK : Hid (∀ s ∈ st, s.Ok) := hok
  have HC' : Hid (st' ≠ [] → ∃ b off, a' = some ⟨b, off, none⟩ ∧ ∀ j, j < st'.length → SpAt w b (off + j * 7) (st'.getD j Sp.none)) := hcells'
  have HOK' : Hid (∀ s ∈ st', s.Ok) := hok'
  have HBG : Hid (∀ w', Calls Try.prog 18 #[.int .i64 q] w' (BgPost q w')) := fun w' => begunOf q hq w'
  clear hcells hok hcells' hok'
  go_enter Try.func5, Try.ntmps5
  go_wp2_with fail
  refine (HBG.out w).mono ?_
  rintro e w1 (⟨_, rfl, hb⟩ | ⟨da, Ga, rfl, hda, q0, q1⟩)
  · have HF : Hid (Below w.heap.size w w1) := hb
    clear hb
    go_wp2
    go_ret
    exact ⟨rfl, HF.out⟩
  have HDA : Hid (Dsk w da (bg q Ga) w1) := hda
  clear hda
  go_wp2_with fail
  refine (HBG.out w1).mono ?_
  rintro e w2 (⟨hqb, rfl, hb⟩ | ⟨db, Gb, rfl, hdb, _, _⟩)
  · exact absurd hqb (by simp [qB, q0, q1])
  have HDB : Hid (Dsk w1 db (bg q Gb) w2) := hdb
  clear hdb
  go_wp2_with fail
  refine (HBG.out w2).mono ?_
  rintro e w3 (⟨hqb, rfl, hb⟩ | ⟨dc, Gc, rfl, hdc, _, _⟩)
  · exact absurd hqb (by simp [qB, q0, q1])
  have H0 : Hid (∃ ka kb kc, Trio (fun x => x < w.heap.size) da db dc ka kb kc w3 ∧ Below w.heap.size w w3 ∧ AInv ka kb kc (2 + 0) (2 + 0)) := by
    obtain ⟨t1, t2⟩ := HDA.out.trio HDB.out hdc
    exact ⟨_, _, _, t1, t2, AInv.begin q Ga Gb Gc q0 q1⟩
  clear hdc HDA HDB HBG
  obtain ⟨M, hM1, hM2, hM3⟩ : ∃ M, st.length ≤ M ∧ st'.length ≤ M ∧ (M = st.length ∨ M = st'.length) := by
    by_cases hx : st.length ≤ st'.length
    · exact ⟨st'.length, hx, Nat.le_refl _, .inr rfl⟩
    · exact ⟨st.length, Nat.le_refl _, by omega, .inl rfl⟩
  go_wp2
  go_loopg [13] M (fun gk s13 wx => ∃ (i : Nat), i + gk = M ∧ s13 = .int .i64 i ∧ Hid (∃ ka kb kc, Trio (fun x => x < w.heap.size) da db dc ka kb kc wx ∧ Below w.heap.size w wx ∧ AInv ka kb kc (2 + i) (2 + i)))
  case atStart => exact ⟨0, by omega, rfl, H0.out⟩
  case round =>
    obtain ⟨i, hig, rfl, HV⟩ := hrel
    cases gk with
    | zero =>
      have h1d : decide ((i : Int) < (st.length : Int)) = false := decide_eq_false (by omega)
      have h2d : decide ((i : Int) < (st'.length : Int)) = false := decide_eq_false (by omega)
      have h1n : ¬ (i : Int) < (st.length : Int) := by omega
      have h2n : ¬ (i : Int) < (st'.length : Int) := by omega
      obtain ⟨ka, kb, kc, hT, hB, hI⟩ := HV.out
      obtain ⟨R, hR⟩ := hI.sib
      have HT : Hid (Trio (fun x => x < w.heap.size) da db dc ka kb kc wr) := hT
      have HB : Hid (Below w.heap.size w wr) := hB
      have HI : Hid (AInv ka kb kc (2 + i) (2 + i)) := hI
      have HSB : Hid (imK ka = imK kc ∧ crK ka [] = crK kc [] ∧ ka.used = kc.used) := ⟨hR.image, hR.crash [], hR.used⟩
      have HIA : Hid (Calls Try.prog 25 #[.pointer (some ⟨da, 0, none⟩)] wr fun e w' => ∃ x l c, e = .returned (.slice x l c) ∧ ImgAt w' (.slice x l c) (imK ka) wr.heap.size ∧ Below wr.heap.size wr w') := hT.imageA hI.ag.dok
      clear hT hB hI hR HV
      go_wp2_with fail
      refine HIA.out.mono ?_
      rintro e w5 ⟨x5, l5, c5, rfl, hi5, hb5⟩
      have HI5 : Hid (ImgAt w5 (.slice x5 l5 c5) (imK ka) wr.heap.size) := hi5
      have HB5 : Hid (Below wr.heap.size wr w5) := hb5
      have HIC : Hid (Calls Try.prog 25 #[.pointer (some ⟨dc, 0, none⟩)] w5 fun e w' => ∃ x l c, e = .returned (.slice x l c) ∧ ImgAt w' (.slice x l c) (imK kc) w5.heap.size ∧ Below w5.heap.size w5 w') := (HT.out.later hb5).imageC HI.out.cg.dok
      clear hi5 hb5 HIA
      go_wp2_with fail
      refine HIC.out.mono ?_
      rintro e w6 ⟨x6, l6, c6, rfl, hi6, hb6⟩
      have HB6 : Hid (Below wr.heap.size wr w6) := HB5.out.trans (hb6.mono HB5.out.size)
      have HSI : Hid (Calls Try.prog 26 #[.slice x5 l5 c5, .slice x6 l6 c6] w6 fun e w' => e = .returned (.bool true) ∧ Below w6.heap.size w6 w') := by
        rw [← HSB.out.1] at hi6
        exact sameImageEq _ _ (imK ka) w6 (HI5.out.later hb6).read hi6.read
      clear hi6 hb6 HIC HI5 HB5
      go_wp2_with fail
      refine HSI.out.mono ?_
      rintro e w7 ⟨rfl, hb7⟩
      have HB7 : Hid (Below wr.heap.size wr w7) := HB6.out.trans (hb7.mono HB6.out.size)
      have HCA : Hid (Calls Try.prog 15 #[.pointer (some ⟨da, 0, none⟩), .slice none 0 0] w7 fun e w' => ∃ x l c, e = .returned (.slice x l c) ∧ ImgAt w' (.slice x l c) (crK ka []) w7.heap.size ∧ Below w7.heap.size w7 w') := (HT.out.later HB7.out).crashA HI.out.ag.dok HI.out.ap (by omega)
      clear hb7 HSI HB6
      go_wp2_with fail
      refine HCA.out.mono ?_
      rintro e w8 ⟨x8, l8, c8, rfl, hi8, hb8⟩
      have HI8 : Hid (ImgAt w8 (.slice x8 l8 c8) (crK ka []) w7.heap.size) := hi8
      have HB8 : Hid (Below wr.heap.size wr w8) := HB7.out.trans (hb8.mono HB7.out.size)
      have HCC : Hid (Calls Try.prog 15 #[.pointer (some ⟨dc, 0, none⟩), .slice none 0 0] w8 fun e w' => ∃ x l c, e = .returned (.slice x l c) ∧ ImgAt w' (.slice x l c) (crK kc []) w8.heap.size ∧ Below w8.heap.size w8 w') := (HT.out.later HB8.out).crashC HI.out.cg.dok HI.out.cp (by omega)
      clear hi8 hb8 HCA HB7
      go_wp2_with fail
      refine HCC.out.mono ?_
      rintro e w9 ⟨x9, l9, c9, rfl, hi9, hb9⟩
      have HB9 : Hid (Below wr.heap.size wr w9) := HB8.out.trans (hb9.mono HB8.out.size)
      have HSI : Hid (Calls Try.prog 26 #[.slice x8 l8 c8, .slice x9 l9 c9] w9 fun e w' => e = .returned (.bool true) ∧ Below w9.heap.size w9 w') := by
        rw [← HSB.out.2.1] at hi9
        exact sameImageEq _ _ (crK ka []) w9 (HI8.out.later hb9).read hi9.read
      clear hi9 hb9 HCC HI8 HB8
      go_wp2_with fail
      refine HSI.out.mono ?_
      rintro e w10 ⟨rfl, hb10⟩
      have HB10 : Hid (Below wr.heap.size wr w10) := HB9.out.trans (hb10.mono HB9.out.size)
      obtain ⟨uu, huu⟩ : ∃ z, ka.used = z := ⟨_, rfl⟩
      have HUA : Hid (Calls Try.prog 21 #[.pointer (some ⟨da, 0, none⟩)] w10 fun e w' => e = .returned (.int .i64 uu) ∧ w10 = w') := by
        refine (HT.out.later HB10.out).usedA.mono ?_
        rintro e w' ⟨rfl, rfl⟩
        rw [huu]
        exact ⟨rfl, rfl⟩
      have HUC : Hid (Calls Try.prog 21 #[.pointer (some ⟨dc, 0, none⟩)] w10 fun e w' => e = .returned (.int .i64 uu) ∧ w10 = w') := by
        refine (HT.out.later HB10.out).usedC.mono ?_
        rintro e w' ⟨rfl, rfl⟩
        rw [← HSB.out.2.2, huu]
        exact ⟨rfl, rfl⟩
      have HF : Hid (Below w.heap.size w w10) := HB.out.trans (HB10.out.mono HB.out.size)
      clear hb10 HSI HB9 huu
      go_wp2_with fail
      refine HUA.out.mono ?_
      rintro e w11 ⟨rfl, rfl⟩
      go_wp2_with fail
      refine HUC.out.mono ?_
      rintro e w11 ⟨rfl, rfl⟩
      go_wp2
      go_ret
      exact ⟨rfl, HF.out⟩
    | succ gk1 =>
      have hlt : i < M := by omega
      have hor : i < st.length ∨ i < st'.length := by omega
      go_upto_region 7 with fail
      go_cut [51] from 42 to 131 (fun s51 wx => s51 = .bool true ∧ wx = wr)
      case first =>
        by_cases h1 : i < st.length
        · go_wp2_with fail
          go_meet
          case rel => exact ⟨rfl, rfl⟩
        · have h2 : i < st'.length := by omega
          have h1d : decide ((i : Int) < (st.length : Int)) = false := decide_eq_false (by omega)
          go_wp2_with fail
          go_meet
          case rel => exact ⟨rfl, rfl⟩
      case rest =>
        obtain ⟨rfl, rfl⟩ := hcut
        go_upto_region 9 with fail
        go_cut [73] from 42 to 131 (fun s73 wx => ∃ d : Bool, s73 = .bool d ∧ (d = true → i < st.length ∧ 1 ≤ (st.getD i Sp.none).kd ∧ (st.getD i Sp.none).kd ≤ 7) ∧ wx = wc)
        case first =>
          obtain ⟨ka, kb, kc, hT, hB, hI⟩ := HV.out
          by_cases h1 : i < st.length
          · have hne : st ≠ [] := by rintro rfl; simp at h1
            obtain ⟨b, off, rfl, hc⟩ := HC.out hne
            have hsp := hc i h1
            have hsok := HOK.out (st.getD i Sp.none) (by simp [h1])
            have hspr := hsp.later hB
            generalize st.getD i Sp.none = x at *
            obtain ⟨kd, nm, tto, at', sn, vb, vp, data⟩ := x
            obtain ⟨c0, c1, c2, c3, c4, c5, c6, _⟩ := hspr
            obtain ⟨s1, s2, s3, s4, s5, s6⟩ := hsok
            have hrow := hsp.row
            simp only at c0 c1 c2 c3 c4 c5 c6 s1 s2 s3 s4 s5 s6 hrow
            obtain ⟨xp, yp, zp, rfl⟩ := s6
            have HROW : Hid (BytesAt w vb data) := hrow
            obtain ⟨ab, cb, hvb, hb1, hb2, _⟩ := hrow
            unfold maxLen at hb2
            subst hvb
            have HSP : Hid (SpAt w b (off + i * 7) ⟨kd, nm, tto, at', sn, .slice ab data.length cb, .slice xp yp zp, data⟩) := hsp
            clear hc hne hsp
            clear hT hB hI HROW HSP
            by_cases hk1 : kd < 1
            · have hk1d : decide (1 ≤ kd) = false := decide_eq_false (by omega)
              go_wp2_with fail
              go_meet
              case rel => exact ⟨false, rfl, by simp, rfl⟩
            · by_cases hk7 : 7 < kd
              · have hk1' : 1 ≤ kd := by omega
                have hk7d : decide (kd ≤ 7) = false := decide_eq_false (by omega)
                go_wp2_with fail
                go_meet
                case rel => exact ⟨false, rfl, by simp, rfl⟩
              · have hk1' : 1 ≤ kd := by omega
                have hk7' : kd ≤ 7 := by omega
                go_wp2_with fail
                go_meet
                case rel => exact ⟨true, rfl, fun _ => ⟨h1, hk1', hk7'⟩, rfl⟩
          · have h1d : decide ((i : Int) < (st.length : Int)) = false := decide_eq_false (by omega)
            clear hT hB hI
            go_wp2_with fail
            go_meet
            case rel => exact ⟨false, rfl, by simp, rfl⟩
        case rest =>
          obtain ⟨d, rfl, hd, rfl⟩ := hcut
          go_upto_if 73 with fail
          go_cut [14, 15, 16, 17] from 42 to 131 (fun s14 s15 s16 s17 wx => Hid (∃ ka kb kc, Trio (fun x => x < w.heap.size) da db dc ka kb kc wx ∧ Below w.heap.size w wx ∧ AInv ka kb kc (2 + i + 1) (2 + i)))
          case first =>
            cases d with
            | false =>
              have HN : Hid (∃ ka kb kc, Trio (fun x => x < w.heap.size) da db dc ka kb kc wc ∧ Below w.heap.size w wc ∧ AInv ka kb kc (2 + i + 1) (2 + i)) := by
                obtain ⟨ka, kb, kc, hT, hB, hI⟩ := HV.out
                exact ⟨ka, kb, kc, hT, hB, hI.mono (by omega) (by omega)⟩
              clear HV hd
              go_wp2_with fail
              go_meet
              case rel => exact HN.out
            | true =>
              obtain ⟨h1, hk1, hk7⟩ := hd rfl
              obtain ⟨ka, kb, kc, hT, hB, hI⟩ := HV.out
              clear hd
              have hne : st ≠ [] := by rintro rfl; simp at h1
              obtain ⟨b, off, rfl, hc⟩ := HC.out hne
              have hsp := hc i h1
              have hsok := HOK.out (st.getD i Sp.none) (by simp [h1])
              have hspr := hsp.later hB
              generalize st.getD i Sp.none = x at *
              obtain ⟨kd, nm, tto, at', sn, vb, vp, data⟩ := x
              obtain ⟨c0, c1, c2, c3, c4, c5, c6, _⟩ := hspr
              obtain ⟨s1, s2, s3, s4, s5, s6⟩ := hsok
              have hrow := hsp.row
              simp only at c0 c1 c2 c3 c4 c5 c6 s1 s2 s3 s4 s5 s6 hrow
              obtain ⟨xp, yp, zp, rfl⟩ := s6
              have HROW : Hid (BytesAt w vb data) := hrow
              obtain ⟨ab, cb, hvb, hb1, hb2, _⟩ := hrow
              unfold maxLen at hb2
              subst hvb
              have HSP : Hid (SpAt w b (off + i * 7) ⟨kd, nm, tto, at', sn, .slice ab data.length cb, .slice xp yp zp, data⟩) := hsp
              clear hc hne hsp
              have HS : Hid (I64 sn ∧ nm.size ≤ maxLen ∧ tto.size ≤ maxLen ∧ data.length ≤ 140737488351232) := ⟨s2, s3, s4, s5⟩
              have HI : Hid (AInv ka kb kc (2 + i) (2 + i)) := hI
              have HBW : Hid (Below w.heap.size w wc) := hB
              have HCA : Hid (Calls Try.prog 23 #[.pointer (some ⟨da, 0, none⟩), .agg #[.int .i64 kd, .string nm, .string tto, .int .i64 at', .int .i64 sn, .slice ab data.length cb, .slice xp yp zp]] wc fun e w' => ∃ G, ¬ ka.live G ∧ e = .returned (.tuple #[.int .i64 (chK ka kd nm tto sn data G).1, .bool true]) ∧ Trio (fun x => x < w.heap.size) da db dc (chK ka kd nm tto sn data G).2 kb kc w' ∧ Keep (fun x => x < w.heap.size) wc w') := hT.changeA kd nm tto at' sn _ _ data hk1 hk7 s3 s4 s2 (fun u hk => HROW.out.later (hB.trans (hk.below (fun x hx => hx)))) s5 hI.ag.dok hI.ag.sum.uok (by omega)
              clear hT hB hI HV s2 s3 s4
              go_wp2_with fail
              refine HCA.out.mono ?_
              rintro e w2 ⟨A, hA, rfl, hT2, hk2⟩
              have hB2 : Below w.heap.size w w2 := HBW.out.trans (hk2.below (fun x hx => hx))
              have HB2 : Hid (Below w.heap.size w w2) := hB2
              have HA : Hid (¬ ka.live A) := hA
              obtain ⟨d0, d1, d2, d3, d4, d5, d6, _⟩ := HSP.out.later hB2
              simp only at d0 d1 d2 d3 d4 d5 d6
              have HCC : Hid (Calls Try.prog 23 #[.pointer (some ⟨dc, 0, none⟩), .agg #[.int .i64 kd, .string nm, .string tto, .int .i64 at', .int .i64 sn, .slice ab data.length cb, .slice xp yp zp]] w2 fun e w' => ∃ G, ¬ kc.live G ∧ e = .returned (.tuple #[.int .i64 (chK kc kd nm tto sn data G).1, .bool true]) ∧ Trio (fun x => x < w.heap.size) da db dc (chK ka kd nm tto sn data A).2 kb (chK kc kd nm tto sn data G).2 w' ∧ Keep (fun x => x < w.heap.size) w2 w') := hT2.changeC kd nm tto at' sn _ _ data hk1 hk7 HS.out.2.1 HS.out.2.2.1 HS.out.1 (fun u hk => HROW.out.later (HB2.out.trans (hk.below (fun x hx => hx)))) HS.out.2.2.2 HI.out.cg.dok HI.out.cg.sum.uok (by omega)
              obtain ⟨ea, hea⟩ : ∃ z, (chK ka kd nm tto sn data A).1 = z := ⟨_, rfl⟩
              have HEA : Hid ((chK ka kd nm tto sn data A).1 = ea) := hea
              rw [hea]
              clear hea hA hT2 hk2 hB2 HCA c0 c1 c2 c3 c4 c5 c6
              go_wp2_with fail
              refine HCC.out.mono ?_
              rintro e w3 ⟨C, hC, rfl, hT3, hk3⟩
              obtain ⟨e1, hI3⟩ := HI.out.step (kd := kd) (mm := sn) (nm := nm) (l := data) HS.out.2.1 HS.out.2.2.1 (by omega) HA.out hC
              rw [HEA.out] at e1
              rw [← e1]
              have HN : Hid (∃ ka kb kc, Trio (fun x => x < w.heap.size) da db dc ka kb kc w3 ∧ Below w.heap.size w w3 ∧ AInv ka kb kc (2 + i + 1) (2 + i)) := ⟨_, _, _, hT3, HB2.out.trans (hk3.below (fun x hx => hx)), hI3⟩
              clear hT3 hk3 hC hI3 e1 HCC HEA d0 d1 d2 d3 d4 d5 d6
              go_wp2_with fail
              go_meet
              case rel => exact HN.out
          case rest =>
            clear HV
            have HV : Hid (∃ ka kb kc, Trio (fun x => x < w.heap.size) da db dc ka kb kc wc ∧ Below w.heap.size w wc ∧ AInv ka kb kc (2 + i + 1) (2 + i)) := hcut.out
            clear hcut hd
            go_upto_region 14 with fail
            go_cut [114] from 42 to 131 (fun s114 wx => ∃ d : Bool, s114 = .bool d ∧ (d = true → i < st'.length ∧ 1 ≤ (st'.getD i Sp.none).kd ∧ (st'.getD i Sp.none).kd ≤ 7) ∧ wx = wc)
            case first =>
              obtain ⟨ka, kb, kc, hT, hB, hI⟩ := HV.out
              by_cases h1 : i < st'.length
              · have hne : st' ≠ [] := by rintro rfl; simp at h1
                obtain ⟨b, off, rfl, hc⟩ := HC'.out hne
                have hsp := hc i h1
                have hsok := HOK'.out (st'.getD i Sp.none) (by simp [h1])
                have hspr := hsp.later hB
                generalize st'.getD i Sp.none = x at *
                obtain ⟨kd, nm, tto, at', sn, vb, vp, data⟩ := x
                obtain ⟨c0, c1, c2, c3, c4, c5, c6, _⟩ := hspr
                obtain ⟨s1, s2, s3, s4, s5, s6⟩ := hsok
                have hrow := hsp.row
                simp only at c0 c1 c2 c3 c4 c5 c6 s1 s2 s3 s4 s5 s6 hrow
                obtain ⟨xp, yp, zp, rfl⟩ := s6
                have HROW : Hid (BytesAt w vb data) := hrow
                obtain ⟨ab, cb, hvb, hb1, hb2, _⟩ := hrow
                unfold maxLen at hb2
                subst hvb
                have HSP : Hid (SpAt w b (off + i * 7) ⟨kd, nm, tto, at', sn, .slice ab data.length cb, .slice xp yp zp, data⟩) := hsp
                clear hc hne hsp
                clear hT hB hI HROW HSP
                by_cases hk1 : kd < 1
                · have hk1d : decide (1 ≤ kd) = false := decide_eq_false (by omega)
                  go_wp2_with fail
                  go_meet
                  case rel => exact ⟨false, rfl, by simp, rfl⟩
                · by_cases hk7 : 7 < kd
                  · have hk1' : 1 ≤ kd := by omega
                    have hk7d : decide (kd ≤ 7) = false := decide_eq_false (by omega)
                    go_wp2_with fail
                    go_meet
                    case rel => exact ⟨false, rfl, by simp, rfl⟩
                  · have hk1' : 1 ≤ kd := by omega
                    have hk7' : kd ≤ 7 := by omega
                    go_wp2_with fail
                    go_meet
                    case rel => exact ⟨true, rfl, fun _ => ⟨h1, hk1', hk7'⟩, rfl⟩
              · have h1d : decide ((i : Int) < (st'.length : Int)) = false := decide_eq_false (by omega)
                clear hT hB hI
                go_wp2_with fail
                go_meet
                case rel => exact ⟨false, rfl, by simp, rfl⟩
            case rest =>
              obtain ⟨d, rfl, hd, rfl⟩ := hcut
              go_upto_if 114 with fail
              go_cut [] from 42 to 131 (fun wx => Hid (∃ ka kb kc, Trio (fun x => x < w.heap.size) da db dc ka kb kc wx ∧ Below w.heap.size w wx ∧ AInv ka kb kc (2 + (i + 1)) (2 + (i + 1))))
              case first =>
                cases d with
                | false =>
                  have HN : Hid (∃ ka kb kc, Trio (fun x => x < w.heap.size) da db dc ka kb kc wc ∧ Below w.heap.size w wc ∧ AInv ka kb kc (2 + (i + 1)) (2 + (i + 1))) := by
                    obtain ⟨ka, kb, kc, hT, hB, hI⟩ := HV.out
                    exact ⟨ka, kb, kc, hT, hB, hI.mono (by omega) (by omega)⟩
                  clear HV hd
                  go_wp2_with fail
                  go_meet
                  case rel => exact HN.out
                | true =>
                  obtain ⟨h1, hk1, hk7⟩ := hd rfl
                  obtain ⟨ka, kb, kc, hT, hB, hI⟩ := HV.out
                  clear hd
                  have hne : st' ≠ [] := by rintro rfl; simp at h1
                  obtain ⟨b, off, rfl, hc⟩ := HC'.out hne
                  have hsp := hc i h1
                  have hsok := HOK'.out (st'.getD i Sp.none) (by simp [h1])
                  have hspr := hsp.later hB
                  generalize st'.getD i Sp.none = x at *
                  obtain ⟨kd, nm, tto, at', sn, vb, vp, data⟩ := x
                  obtain ⟨c0, c1, c2, c3, c4, c5, c6, _⟩ := hspr
                  obtain ⟨s1, s2, s3, s4, s5, s6⟩ := hsok
                  have hrow := hsp.row
                  simp only at c0 c1 c2 c3 c4 c5 c6 s1 s2 s3 s4 s5 s6 hrow
                  obtain ⟨xp, yp, zp, rfl⟩ := s6
                  have HROW : Hid (BytesAt w vb data) := hrow
                  obtain ⟨ab, cb, hvb, hb1, hb2, _⟩ := hrow
                  unfold maxLen at hb2
                  subst hvb
                  have HSP : Hid (SpAt w b (off + i * 7) ⟨kd, nm, tto, at', sn, .slice ab data.length cb, .slice xp yp zp, data⟩) := hsp
                  clear hc hne hsp
                  have HI : Hid (AInv ka kb kc (2 + i + 1) (2 + i)) := hI
                  have HS : Hid (nm.size ≤ maxLen ∧ tto.size ≤ maxLen) := ⟨s3, s4⟩
                  have HBW : Hid (Below w.heap.size w wc) := hB
                  have HCB : Hid (Calls Try.prog 23 #[.pointer (some ⟨db, 0, none⟩), .agg #[.int .i64 kd, .string nm, .string tto, .int .i64 at', .int .i64 sn, .slice ab data.length cb, .slice xp yp zp]] wc fun e w' => ∃ G, ¬ kb.live G ∧ e = .returned (.tuple #[.int .i64 (chK kb kd nm tto sn data G).1, .bool true]) ∧ Trio (fun x => x < w.heap.size) da db dc ka (chK kb kd nm tto sn data G).2 kc w' ∧ Keep (fun x => x < w.heap.size) wc w') := hT.changeB kd nm tto at' sn _ _ data hk1 hk7 s3 s4 s2 (fun u hk => HROW.out.later (hB.trans (hk.below (fun x hx => hx)))) s5 hI.bg.dok hI.bg.sum.uok (by omega)
                  clear hT hB hI HV s2 s3 s4
                  go_wp2_with fail
                  refine HCB.out.mono ?_
                  rintro e w2 ⟨G, hG, rfl, hT2, hk2⟩
                  have HN : Hid (∃ ka kb kc, Trio (fun x => x < w.heap.size) da db dc ka kb kc w2 ∧ Below w.heap.size w w2 ∧ AInv ka kb kc (2 + (i + 1)) (2 + (i + 1))) := ⟨_, _, _, hT2, HBW.out.trans (hk2.below (fun x hx => hx)), (HI.out.stepB HS.out.1 HS.out.2 (by omega) hG).mono (by omega) (by omega)⟩
                  generalize (chK kb kd nm tto sn data G).1 = ez
                  clear hT2 hk2 hG HCB
                  go_wp2_with fail
                  go_meet
                  case rel => exact HN.out
              case rest =>
                clear HV
                obtain ⟨ka, kb, kc, hT, hB, hI⟩ := hcut.out
                have HT : Hid (Trio (fun x => x < w.heap.size) da db dc ka kb kc wc) := hT
                have HB : Hid (Below w.heap.size w wc) := hB
                have HI : Hid (AInv ka kb kc (2 + (i + 1)) (2 + (i + 1))) := hI
                have HIA : Hid (Calls Try.prog 25 #[.pointer (some ⟨da, 0, none⟩)] wc fun e w' => ∃ x l c, e = .returned (.slice x l c) ∧ ImgAt w' (.slice x l c) (imK ka) wc.heap.size ∧ Below wc.heap.size wc w') := hT.imageA hI.ag.dok
                clear hT hB hI hcut hd
                go_wp2_with fail
                refine HIA.out.mono ?_
                rintro e w5 ⟨x5, l5, c5, rfl, hi5, hb5⟩
                have HI5 : Hid (ImgAt w5 (.slice x5 l5 c5) (imK ka) wc.heap.size) := hi5
                have HB5 : Hid (Below wc.heap.size wc w5) := hb5
                have HIC : Hid (Calls Try.prog 25 #[.pointer (some ⟨dc, 0, none⟩)] w5 fun e w' => ∃ x l c, e = .returned (.slice x l c) ∧ ImgAt w' (.slice x l c) (imK kc) w5.heap.size ∧ Below w5.heap.size w5 w') := (HT.out.later hb5).imageC HI.out.cg.dok
                clear hi5 hb5 HIA
                go_wp2_with fail
                refine HIC.out.mono ?_
                rintro e w6 ⟨x6, l6, c6, rfl, hi6, hb6⟩
                have HB6 : Hid (Below wc.heap.size wc w6) := HB5.out.trans (hb6.mono HB5.out.size)
                have HI6 : Hid (ImgAt w6 (.slice x5 l5 c5) (imK ka) wc.heap.size) := HI5.out.later hb6
                have HSI : Hid (Calls Try.prog 26 #[.slice x5 l5 c5, .slice x6 l6 c6] w6 fun e w' => e = .returned (.bool true) ∧ Below w6.heap.size w6 w') := by
                  obtain ⟨R, hR⟩ := HI.out.sib
                  rw [← hR.image] at hi6
                  exact sameImageEq _ _ (imK ka) w6 HI6.out.read hi6.read
                clear hi6 hb6 HIC HI5 HB5
                go_wp2_with fail
                refine HSI.out.mono ?_
                rintro e w7 ⟨rfl, hb7⟩
                have HB7 : Hid (Below wc.heap.size wc w7) := HB6.out.trans (hb7.mono HB6.out.size)
                have HSP : Hid (Calls Try.prog 27 #[.slice x5 l5 c5] w7 fun e w' => e = .returned (.bool true) ∧ Below wc.heap.size w7 w') := spoilOf w7 x5 l5 c5 (imK ka) wc.heap.size (HI6.out.later hb7) HB7.out.size (imK_len HI.out.ag.dok) HI.out.ag.eachLen
                clear hb7 HSI HI6 HB6
                go_wp2_with fail
                refine HSP.out.mono ?_
                rintro e w8 ⟨rfl, hb8⟩
                have HN : Hid (∃ ka kb kc, Trio (fun x => x < w.heap.size) da db dc ka kb kc w8 ∧ Below w.heap.size w w8 ∧ AInv ka kb kc (2 + (i + 1)) (2 + (i + 1))) := by
                  have hb : Below wc.heap.size wc w8 := HB7.out.trans hb8
                  exact ⟨ka, kb, kc, HT.out.later hb, HB.out.trans (hb.mono HB.out.size), HI.out⟩
                clear hb8 HSP
                go_wp2
                go_roundg gk1
                case measure => omega
                case rel => exact ⟨i + 1, by omega, by go_num, HN.out⟩
end Go.Proofs.Ytadflolbgcdncaa
