import Derived.Test.YtadflolbgcdncaaQb
/-! The law on the fuse: its walk. -/
namespace Go.Proofs.Ytadflolbgcdncaa
open Go.RowKit Go.Maps Plain
set_option linter.unusedVariables false
set_option linter.unusedSimpArgs false

theorem rem50b (f : Int) (t : Int) (ht : f.tmod 50 = t) : -50 < t ∧ t < 50 := by
  have h1 := Int.tmod_lt_of_pos f (show (0 : Int) < 50 by omega)
  have h2 := Int.lt_tmod_of_pos f (show (0 : Int) < 50 by omega)
  omega

set_option maxHeartbeats 100000000 in
set_option maxRecDepth 1000000 in
theorem fuseWalk2 (q : Int) (hq : I64 q) (v : Value) (st : List Sp) (f : Int) (hf : I64 f) (hsgn : ¬ f.tmod 50 < 0) (ap : Option Addr) (mp cp : Nat) (ps : List Int) (w : World) (h : ScrAt w v st) (hps : PicksAt w (.slice ap mp cp) ps) (hpo : PicksOff w.heap.size (.slice ap mp cp)) :
    Calls Try.prog 8 #[.int .i64 q, v, .int .i64 f, .slice ap mp cp] w fun e w' => e = .returned (.bool true) ∧ Below w.heap.size w w' := by
  obtain ⟨a, cap, rfl, hlc, hcm, hlen, hok, hcells⟩ := h
  unfold maxLen at hcm
  have HC : Hid (st ≠ [] → ∃ b off, a = some ⟨b, off, none⟩ ∧ ∀ j, j < st.length → SpAt w b (off + j * 7) (st.getD j Sp.none)) := hcells
  have HOK : Hid (∀ s ∈ st, s.Ok) := hok
  have HPK : Hid (∀ w', Below w.heap.size w w' → PicksAt w' (.slice ap mp cp) ps ∧ PicksOff w'.heap.size (.slice ap mp cp)) := fun w' hb => picksLater hps hpo hb
  have HBG : Hid (∀ w', Calls Try.prog 18 #[.int .i64 q] w' (BgPost q w')) := fun w' => begunOf q hq w'
  obtain ⟨t, ht⟩ : ∃ t, f.tmod 50 = t := ⟨_, rfl⟩
  obtain ⟨t1, t2⟩ := rem50b f t ht
  rw [ht] at hsgn
  obtain ⟨hf1, hf2⟩ := hf
  clear hcells hok hps hpo
  go_enter Try.func8, Try.ntmps8
  go_wp2_with fail
  refine (HBG.out w).mono ?_
  rintro e w1 (⟨_, rfl, hb⟩ | ⟨da, Ga, rfl, hda, q0, q1⟩)
  · have HF : Hid (Below w.heap.size w w1) := hb
    clear hb
    go_wp2
    go_ret
    exact ⟨rfl, HF.out⟩
  have HDA : Hid (Dsk w da (bg q Ga) w1) := hda
  clear hda
  go_wp2_with fail
  refine (HBG.out w1).mono ?_
  rintro e w2 (⟨hqb, rfl, hb⟩ | ⟨db, Gb, rfl, hdb, _, _⟩)
  · exact absurd hqb (by simp [qB, q0, q1])
  obtain ⟨hduo, hbel⟩ := HDA.out.duo hdb
  obtain ⟨n, hn0, hn50, hnt⟩ : ∃ n : Int, 0 ≤ n ∧ n < 50 ∧ ((t < 0 ∧ n = t + 50) ∨ (0 ≤ t ∧ n = t)) := by
    by_cases h : t < 0
    · exact ⟨t + 50, by omega, by omega, .inl ⟨h, rfl⟩⟩
    · exact ⟨t, by omega, by omega, .inr ⟨by omega, rfl⟩⟩
  have HFU : Hid (Calls Try.prog 31 #[.pointer (some ⟨db, 0, none⟩), .int .i64 n] w2 fun e w' => e = .returned (.tuple #[]) ∧ Duo (fun x => x < w.heap.size) da db (bg q Ga) (fuseK (bg q Gb) n) w' ∧ Keep (fun x => x < w.heap.size) w2 w') := hduo.fuseB n ⟨by omega, by omega⟩
  have HI0 : Hid (FInv (bg q Ga) (fuseK (bg q Gb) n) n (bg q Gb).ops 2) := FInv.begin q Ga Gb q0 q1 n ⟨hn0, hn50⟩
  have HBL : Hid (Below w.heap.size w w2) := hbel
  clear hduo hbel hdb HDA
  obtain ⟨base, hbase⟩ : ∃ z, (bg q Gb).ops = z := ⟨_, rfl⟩
  have HBS : Hid ((fuseK (bg q Gb) n).ops = base) := by unfold Hid; rw [fuseK_ops, hbase]
  rw [hbase] at HI0
  clear hbase
  generalize hka : bg q Ga = ka0 at *
  generalize hkb : fuseK (bg q Gb) n = kb0 at *
  clear hka hkb
  have hb0 := HI0.out.base0
  obtain ⟨hb0a, hb0b⟩ := hb0
  have htn : ¬ t < 0 := by omega
  have hnn : t = n := by omega
  have htn2 : 0 ≤ t := by omega
  clear hnt hsgn
  go_wp2_with fail
  try rw [hnn]
  clear hnn htn htn2
  refine HFU.out.mono ?_
  rintro e w3 ⟨rfl, hd3, hk3⟩
  have HD3 : Hid (Duo (fun x => x < w.heap.size) da db ka0 kb0 w3 ∧ Below w.heap.size w w3) := ⟨hd3, HBL.out.trans (hk3.below (fun x hx => hx))⟩
  have HOP : Hid (Calls Try.prog 32 #[.pointer (some ⟨db, 0, none⟩)] w3 fun e w' => e = .returned (.int .i64 base) ∧ w3 = w') := by
    refine hd3.opsB.mono ?_
    rintro e w' ⟨rfl, rfl⟩
    rw [HBS.out]
    exact ⟨rfl, rfl⟩
  clear hd3 hk3 HFU
  go_wp2_with fail
  refine HOP.out.mono ?_
  rintro e w4 ⟨rfl, rfl⟩
  have H0 : Hid (∃ ka kb, Duo (fun x => x < w.heap.size) da db ka kb w3 ∧ Below w.heap.size w w3 ∧ FInv ka kb n base (2 + 0)) := ⟨_, _, HD3.out.1, HD3.out.2, HI0.out⟩
  clear HD3 HI0 HBS HOP HBL
  go_wp2
  go_loopg [15] st.length (fun gk s15 wx => ∃ (i : Nat), i + gk = st.length ∧ s15 = .int .i64 i ∧ Hid (∃ ka kb, Duo (fun x => x < w.heap.size) da db ka kb wx ∧ Below w.heap.size w wx ∧ FInv ka kb n base (2 + i)))
  case atStart => exact ⟨0, by omega, rfl, H0.out⟩
  case round =>
    obtain ⟨i, hig, rfl, HV⟩ := hrel
    cases gk with
    | zero =>
      obtain ⟨ka, kb, hD, hB, hI⟩ := HV.out
      obtain rfl : i = st.length := by omega
      obtain ⟨o1, o2⟩ := hI.opsle
      have hge := hI.ge
      have hph : (kb.dead = false ∧ ka.ops - base ≤ n) ∨ (kb.dead = true ∧ ka.ops - base = n + 1) := by
        rcases hI.ph with ⟨p1, _, _, _, p5, _⟩ | ⟨p1, p2⟩
        · exact .inl ⟨p1, p5⟩
        · exact .inr ⟨p1, p2⟩
      have HFB : Hid (Calls Try.prog 31 #[.pointer (some ⟨db, 0, none⟩), .int .i64 (-1)] wr fun e w' => e = .returned (.tuple #[]) ∧ Duo (fun x => x < w.heap.size) da db ka (fuseK kb (-1)) w' ∧ Keep (fun x => x < w.heap.size) wr w') := hD.fuseB (-1) ⟨by omega, by omega⟩
      have HBB : Hid (Below w.heap.size w wr) := hB
      obtain ⟨oa, hoa⟩ : ∃ z, ka.ops = z := ⟨_, rfl⟩
      have HOE : Hid (ka.ops = oa) := hoa
      rw [hoa] at o1 o2 hge hph
      clear hoa hD hI HV
      go_wp2_with fail
      refine HFB.out.mono ?_
      rintro e w5 ⟨rfl, hd5, hk5⟩
      have HF5 : Hid (Below w.heap.size w w5) := HBB.out.trans (hk5.below (fun x hx => hx))
      have HDE : Hid (Calls Try.prog 33 #[.pointer (some ⟨db, 0, none⟩)] w5 fun e w' => e = .returned (.bool kb.dead) ∧ w5 = w') := by
        refine hd5.deadB.mono ?_
        rintro e w' ⟨rfl, rfl⟩
        rw [fuseK_dead]
        exact ⟨rfl, rfl⟩
      have HOA : Hid (Calls Try.prog 32 #[.pointer (some ⟨da, 0, none⟩)] w5 fun e w' => e = .returned (.int .i64 oa) ∧ w5 = w') := by
        refine hd5.opsA.mono ?_
        rintro e w' ⟨rfl, rfl⟩
        rw [HOE.out]
        exact ⟨rfl, rfl⟩
      clear hd5 hk5 HFB
      rcases hph with ⟨hd, hle⟩ | ⟨hd, heq⟩
      · rw [hd] at HDE
        have hcmp : decide (n < oa - base) = false := decide_eq_false (by omega)
        have hcmp2 : ¬ n < oa - base := by omega
        go_wp2_with fail
        refine HDE.out.mono ?_
        rintro e w6 ⟨rfl, rfl⟩
        go_wp2_with fail
        refine HOA.out.mono ?_
        rintro e w6 ⟨rfl, rfl⟩
        go_wp2_with fail
        refine HOA.out.mono ?_
        rintro e w6 ⟨rfl, rfl⟩
        go_wp2
        go_ret
        exact ⟨rfl, HF5.out⟩
      · rw [hd] at HDE
        have hcmp2 : n < oa - base := by omega
        go_wp2_with fail
        refine HDE.out.mono ?_
        rintro e w6 ⟨rfl, rfl⟩
        go_wp2_with fail
        refine HOA.out.mono ?_
        rintro e w6 ⟨rfl, rfl⟩
        go_wp2_with fail
        refine HOA.out.mono ?_
        rintro e w6 ⟨rfl, rfl⟩
        go_wp2
        go_ret
        exact ⟨rfl, HF5.out⟩
    | succ gk1 =>
      obtain ⟨ka, kb, hD, hB, hI⟩ := HV.out
      have hi : i < st.length := by omega
      have hne : st ≠ [] := by rintro rfl; simp at hi
      obtain ⟨b, off, rfl, hc⟩ := HC.out hne
      have hsp := (hc i hi)
      have hsok := HOK.out (st.getD i Sp.none) (by simp [hi])
      have hspr := hsp.later hB
      generalize st.getD i Sp.none = x at hsp hsok hspr
      obtain ⟨kd, nm, to, at', sn, vb, vp, data⟩ := x
      obtain ⟨c0, c1, c2, c3, c4, c5, c6, _⟩ := hspr
      obtain ⟨s1, s2, s3, s4, s5, s6⟩ := hsok
      have hrow := hsp.row
      simp only at c0 c1 c2 c3 c4 c5 c6 s1 s2 s3 s4 s5 s6 hrow
      obtain ⟨xp, yp, zp, rfl⟩ := s6
      obtain ⟨ab, cb, hvb, hb1, hb2, _⟩ := hrow
      unfold maxLen at hb2
      have HROW : Hid (BytesAt w vb data) := hsp.row
      subst hvb
      obtain ⟨W1, hW1⟩ : ∃ W1, wr.alloc (.cells #[.int .i64 kd, .string nm, .string to, .int .i64 at', .int .i64 sn, .slice ab data.length cb, .slice xp yp zp] 44) = W1 := ⟨_, rfl⟩
      have hBW : Below wr.heap.size wr W1 := by rw [← hW1]; exact (Below.refl _ _).alloc (Nat.le_refl _) _
      have hWs : W1.heap.size = wr.heap.size + 1 := by rw [← hW1]; simp
      have HBW : Hid (Below wr.heap.size wr W1) := hBW
      have HBK : Hid (Below w.heap.size w W1) := hB.trans (hBW.mono hB.size)
      have HD1 : Hid (Duo (fun x => x < w.heap.size) da db ka kb W1) := hD.later hBW
      have HD : Hid (Duo (fun x => x < w.heap.size) da db ka kb wr) := hD
      have HI : Hid (FInv ka kb n base (2 + i)) := hI
      have HWB : Hid (Below w.heap.size w wr) := hB
      have z0 : W1.cell? ⟨wr.heap.size, 0, none⟩ = some (.int .i64 kd) := by rw [← hW1, World.cell?_alloc_at _ _ _ _ rfl]; rfl
      have z1 : W1.cell? ⟨wr.heap.size, 1, none⟩ = some (.string nm) := by rw [← hW1, World.cell?_alloc_at _ _ _ _ rfl]; rfl
      have z2 : W1.cell? ⟨wr.heap.size, 2, none⟩ = some (.string to) := by rw [← hW1, World.cell?_alloc_at _ _ _ _ rfl]; rfl
      have z3 : W1.cell? ⟨wr.heap.size, 3, none⟩ = some (.int .i64 at') := by rw [← hW1, World.cell?_alloc_at _ _ _ _ rfl]; rfl
      have z4 : W1.cell? ⟨wr.heap.size, 4, none⟩ = some (.int .i64 sn) := by rw [← hW1, World.cell?_alloc_at _ _ _ _ rfl]; rfl
      have z5 : W1.cell? ⟨wr.heap.size, 5, none⟩ = some (.slice ab data.length cb) := by rw [← hW1, World.cell?_alloc_at _ _ _ _ rfl]; rfl
      have z6 : W1.cell? ⟨wr.heap.size, 6, none⟩ = some (.slice xp yp zp) := by rw [← hW1, World.cell?_alloc_at _ _ _ _ rfl]; rfl
      have HS : Hid (I64 sn ∧ nm.size ≤ maxLen ∧ to.size ≤ maxLen ∧ data.length ≤ 140737488351232) := ⟨s2, s3, s4, s5⟩
      obtain ⟨s1a, s1b⟩ := s1
      clear hD hB hI hc hsp hBW hne HV s2 s3 s4
      by_cases h1 : kd < 1
      · have HN : Hid (∃ ka kb, Duo (fun x => x < w.heap.size) da db ka kb W1 ∧ Below w.heap.size w W1 ∧ FInv ka kb n base (2 + (i + 1))) := ⟨_, _, HD1.out, HBK.out, HI.out.mono (by omega)⟩
        go_wp2
        go_roundg gk1
        case measure => omega
        case rel => exact ⟨i + 1, by omega, by go_num, HN.out⟩
      · by_cases h7 : 7 < kd
        · have HN : Hid (∃ ka kb, Duo (fun x => x < w.heap.size) da db ka kb W1 ∧ Below w.heap.size w W1 ∧ FInv ka kb n base (2 + (i + 1))) := ⟨_, _, HD1.out, HBK.out, HI.out.mono (by omega)⟩
          go_wp2
          go_roundg gk1
          case measure => omega
          case rel => exact ⟨i + 1, by omega, by go_num, HN.out⟩
        · have hk1 : 1 ≤ kd := by omega
          have hk7 : kd ≤ 7 := by omega
          have HDE : Hid (Calls Try.prog 33 #[.pointer (some ⟨db, 0, none⟩)] W1 fun e w' => e = .returned (.bool kb.dead) ∧ W1 = w') := by
            refine HD1.out.deadB.mono ?_
            rintro e w' ⟨rfl, rfl⟩
            exact ⟨rfl, rfl⟩
          clear h1 h7
          cases hdead : kb.dead with
          | true =>
            rw [hdead] at HDE
            have HCB : Hid (Calls Try.prog 23 #[.pointer (some ⟨db, 0, none⟩), .agg #[.int .i64 kd, .string nm, .string to, .int .i64 at', .int .i64 sn, .slice ab data.length cb, .slice xp yp zp]] W1 fun e w' => e = .returned (.tuple #[.int .i64 34, .bool true]) ∧ Duo (fun x => x < w.heap.size) da db ka kb w' ∧ Below w.heap.size w w') := by
              refine (HD1.out.changeB kd nm to at' sn _ _ data hk1 hk7 HS.out.2.1 HS.out.2.2.1 HS.out.1 (fun w' hk => HROW.out.later (HBK.out.trans (hk.below (fun x hx => hx)))) HS.out.2.2.2 HI.out.bd HI.out.bsum.uok (by omega)).mono ?_
              rintro e w' ⟨G, _, rfl, h2, hk⟩
              rw [HI.out.off hdead] at h2 ⊢
              exact ⟨rfl, h2, HBK.out.trans (hk.below (fun x hx => hx))⟩
            go_wp2_with fail
            refine HDE.out.mono ?_
            rintro e w2 ⟨rfl, rfl⟩
            go_wp2_with fail
            refine HCB.out.mono ?_
            rintro e w2 ⟨rfl, h2, hb2⟩
            have HN : Hid (∃ ka kb, Duo (fun x => x < w.heap.size) da db ka kb w2 ∧ Below w.heap.size w w2 ∧ FInv ka kb n base (2 + (i + 1))) := ⟨_, _, h2, hb2, HI.out.mono (by omega)⟩
            clear h2 hb2 HCB
            go_wp2
            go_roundg gk1
            case measure => omega
            case rel => exact ⟨i + 1, by omega, by go_num, HN.out⟩
          | false =>
            rw [hdead] at HDE
            have HDD : Hid (kb.dead = false) := hdead
            clear hdead
            go_wp2_with fail
            refine HDE.out.mono ?_
            rintro e w2 ⟨rfl, rfl⟩
            have HIA : Hid (Calls Try.prog 25 #[.pointer (some ⟨da, 0, none⟩)] W1 fun e w' => ∃ x l c, e = .returned (.slice x l c) ∧ ImgAt w' (.slice x l c) (imK ka) W1.heap.size ∧ Below W1.heap.size W1 w') := HD1.out.imageA HI.out.ad
            go_wp2_with fail
            refine HIA.out.mono ?_
            rintro e w2 ⟨x2, l2, c2', rfl, hi2, hb2⟩
            have HI2 : Hid (ImgAt w2 (.slice x2 l2 c2') (imK ka) W1.heap.size) := hi2
            have HB2 : Hid (Below W1.heap.size W1 w2) := hb2
            have HCA : Hid (Calls Try.prog 15 #[.pointer (some ⟨da, 0, none⟩), .slice ap mp cp] w2 fun e w' => ∃ x l c, e = .returned (.slice x l c) ∧ ImgAt w' (.slice x l c) (crK ka ps) w2.heap.size ∧ Below w2.heap.size w2 w') := (HD1.out.later hb2).crashA HI.out.ad HI.out.ap (by omega) (HPK.out w2 (HBK.out.trans (hb2.mono HBK.out.size)))
            have hsz2 := hb2.size
            clear hi2 hb2 HIA HDE
            go_wp2_with fail
            refine HCA.out.mono ?_
            rintro e w3 ⟨x3, l3, c3', rfl, hi3, hb3⟩
            have HI3 : Hid (ImgAt w3 (.slice x3 l3 c3') (crK ka ps) w2.heap.size) := hi3
            have hsz3 := hb3.size
            have HB13 : Hid (Below W1.heap.size W1 w3) := HB2.out.trans (hb3.mono hsz2)
            have HBR3 : Hid (Below wr.heap.size wr w3) := HBW.out.trans (HB13.out.mono HBW.out.size)
            have HBK3 : Hid (Below w.heap.size w w3) := HBK.out.trans (HB13.out.mono HBK.out.size)
            have HIM2 : Hid (ImgAt w3 (.slice x2 l2 c2') (imK ka) W1.heap.size) := HI2.out.later hb3
            have HDQ : Hid (Duo (fun x => x < w.heap.size ∨ (wr.heap.size ≤ x ∧ x < w3.heap.size)) da db ka kb w3) := HD.out.guard HBR3.out
            have y0 : w3.cell? ⟨wr.heap.size, 0, none⟩ = some (.int .i64 kd) := by rw [HB13.out.cell (cell_lt z0)]; exact z0
            have y1 : w3.cell? ⟨wr.heap.size, 1, none⟩ = some (.string nm) := by rw [HB13.out.cell (cell_lt z1)]; exact z1
            have y2 : w3.cell? ⟨wr.heap.size, 2, none⟩ = some (.string to) := by rw [HB13.out.cell (cell_lt z2)]; exact z2
            have y3 : w3.cell? ⟨wr.heap.size, 3, none⟩ = some (.int .i64 at') := by rw [HB13.out.cell (cell_lt z3)]; exact z3
            have y4 : w3.cell? ⟨wr.heap.size, 4, none⟩ = some (.int .i64 sn) := by rw [HB13.out.cell (cell_lt z4)]; exact z4
            have y5 : w3.cell? ⟨wr.heap.size, 5, none⟩ = some (.slice ab data.length cb) := by rw [HB13.out.cell (cell_lt z5)]; exact z5
            have y6 : w3.cell? ⟨wr.heap.size, 6, none⟩ = some (.slice xp yp zp) := by rw [HB13.out.cell (cell_lt z6)]; exact z6
            have HY : Hid (w3.cell? ⟨wr.heap.size, 0, none⟩ = some (.int .i64 kd) ∧ w3.cell? ⟨wr.heap.size, 1, none⟩ = some (.string nm) ∧ w3.cell? ⟨wr.heap.size, 2, none⟩ = some (.string to) ∧ w3.cell? ⟨wr.heap.size, 3, none⟩ = some (.int .i64 at') ∧ w3.cell? ⟨wr.heap.size, 4, none⟩ = some (.int .i64 sn) ∧ w3.cell? ⟨wr.heap.size, 5, none⟩ = some (.slice ab data.length cb) ∧ w3.cell? ⟨wr.heap.size, 6, none⟩ = some (.slice xp yp zp)) := ⟨y0, y1, y2, y3, y4, y5, y6⟩
            have HDAT : Hid (∀ u, Keep (fun x => x < w.heap.size ∨ (wr.heap.size ≤ x ∧ x < w3.heap.size)) w3 u → BytesAt u (.slice ab data.length cb) data) := fun u hk => HROW.out.later (HBK3.out.trans (hk.below (fun x hx => .inl hx)))
            have hlo : wr.heap.size < w3.heap.size := by omega
            have HCHA : Hid (Calls Try.prog 23 #[.pointer (some ⟨da, 0, none⟩), .agg #[.int .i64 kd, .string nm, .string to, .int .i64 at', .int .i64 sn, .slice ab data.length cb, .slice xp yp zp]] w3 fun e w' => ∃ G, ¬ ka.live G ∧ e = .returned (.tuple #[.int .i64 (chK ka kd nm to sn data G).1, .bool true]) ∧ Duo (fun x => x < w.heap.size ∨ (wr.heap.size ≤ x ∧ x < w3.heap.size)) da db (chK ka kd nm to sn data G).2 kb w' ∧ Keep (fun x => x < w.heap.size ∨ (wr.heap.size ≤ x ∧ x < w3.heap.size)) w3 w') := HDQ.out.changeA kd nm to at' sn _ _ data hk1 hk7 HS.out.2.1 HS.out.2.2.1 HS.out.1 HDAT.out HS.out.2.2.2 HI.out.ad HI.out.asum.uok (by omega)
            clear hi3 hb3 HCA HI2 HB2 z0 z1 z2 z3 z4 z5 z6
            go_wp2_with fail
            refine HCHA.out.mono ?_
            rintro e w4 ⟨A, hA, rfl, hd4, hk4⟩
            have HK4 : Hid (Keep (fun x => x < w.heap.size ∨ (wr.heap.size ≤ x ∧ x < w3.heap.size)) w3 w4) := hk4
            have HCHB : Hid (Calls Try.prog 23 #[.pointer (some ⟨db, 0, none⟩), .agg #[.int .i64 kd, .string nm, .string to, .int .i64 at', .int .i64 sn, .slice ab data.length cb, .slice xp yp zp]] w4 fun e w' => ∃ G, ¬ kb.live G ∧ e = .returned (.tuple #[.int .i64 (chK kb kd nm to sn data G).1, .bool true]) ∧ Duo (fun x => x < w.heap.size ∨ (wr.heap.size ≤ x ∧ x < w3.heap.size)) da db (chK ka kd nm to sn data A).2 (chK kb kd nm to sn data G).2 w' ∧ Keep (fun x => x < w.heap.size ∨ (wr.heap.size ≤ x ∧ x < w3.heap.size)) w4 w') := hd4.changeB kd nm to at' sn _ _ data hk1 hk7 HS.out.2.1 HS.out.2.2.1 HS.out.1 (fun u hk => HDAT.out u (hk4.trans hk)) HS.out.2.2.2 HI.out.bd HI.out.bsum.uok (by omega)
            have u0 : w4.cell? ⟨wr.heap.size, 0, none⟩ = some (.int .i64 kd) := hk4.cell (.inr ⟨Nat.le_refl _, hlo⟩) HY.out.1
            have u1 : w4.cell? ⟨wr.heap.size, 1, none⟩ = some (.string nm) := hk4.cell (.inr ⟨Nat.le_refl _, hlo⟩) HY.out.2.1
            have u2 : w4.cell? ⟨wr.heap.size, 2, none⟩ = some (.string to) := hk4.cell (.inr ⟨Nat.le_refl _, hlo⟩) HY.out.2.2.1
            have u3 : w4.cell? ⟨wr.heap.size, 3, none⟩ = some (.int .i64 at') := hk4.cell (.inr ⟨Nat.le_refl _, hlo⟩) HY.out.2.2.2.1
            have u4 : w4.cell? ⟨wr.heap.size, 4, none⟩ = some (.int .i64 sn) := hk4.cell (.inr ⟨Nat.le_refl _, hlo⟩) HY.out.2.2.2.2.1
            have u5 : w4.cell? ⟨wr.heap.size, 5, none⟩ = some (.slice ab data.length cb) := hk4.cell (.inr ⟨Nat.le_refl _, hlo⟩) HY.out.2.2.2.2.2.1
            have u6 : w4.cell? ⟨wr.heap.size, 6, none⟩ = some (.slice xp yp zp) := hk4.cell (.inr ⟨Nat.le_refl _, hlo⟩) HY.out.2.2.2.2.2.2
            have HA : Hid (¬ ka.live A) := hA
            clear hA hd4 hk4 HCHA y0 y1 y2 y3 y4 y5 y6
            obtain ⟨ea, hea⟩ : ∃ z, (chK ka kd nm to sn data A).1 = z := ⟨_, rfl⟩
            rw [hea]
            have HEA : Hid ((chK ka kd nm to sn data A).1 = ea) := hea
            clear hea
            go_wp2_with fail
            refine HCHB.out.mono ?_
            rintro e w5 ⟨Bf, hBf, rfl, hd5, hk5⟩
            obtain ⟨hI5, hres⟩ := HI.out.step (kd := kd) (mm := sn) (nm := nm) (to := to) (l := data) HDD.out HS.out.2.1 HS.out.2.2.1 (by omega) HA.out hBf
            have HK5 : Hid (Keep (fun x => x < w.heap.size ∨ (wr.heap.size ≤ x ∧ x < w3.heap.size)) w3 w5) := HK4.out.trans hk5
            have HB5 : Hid (Below w.heap.size w w5) := HBK3.out.trans (HK5.out.below (fun x hx => .inl hx))
            have HIM5 : Hid (ImgAt w5 (.slice x2 l2 c2') (imK ka) W1.heap.size ∧ ImgAt w5 (.slice x3 l3 c3') (crK ka ps) w2.heap.size) := ⟨HIM2.out.hold HK5.out.size (fun x hx1 hx2 => HK5.out.block x (.inr ⟨by omega, hx2⟩)), HI3.out.hold HK5.out.size (fun x hx1 hx2 => HK5.out.block x (.inr ⟨by omega, hx2⟩))⟩
            generalize hka5 : (chK ka kd nm to sn data A).2 = ka5 at *
            generalize hRb : chK kb kd nm to sn data Bf = Rb at *
            obtain ⟨eb, kb5⟩ := Rb
            simp only at hI5 hres hd5 ⊢
            rw [HEA.out] at hres
            have HD5 : Hid (Duo (fun x => x < w.heap.size) da db ka5 kb5 w5) := hd5.unguard (fun x hx => .inl hx)
            have HDQ5 : Hid (Duo (fun x => x < w.heap.size ∨ (wr.heap.size ≤ x ∧ x < w3.heap.size)) da db ka5 kb5 w5) := hd5
            have HI5 : Hid (FInv ka5 kb5 n base (2 + i + 1)) := hI5
            obtain ⟨o1, o2⟩ := hI5.opsle
            obtain ⟨oa, hoa⟩ : ∃ z, ka5.ops = z := ⟨_, rfl⟩
            have HOA : Hid (Calls Try.prog 32 #[.pointer (some ⟨da, 0, none⟩)] w5 fun e w' => e = .returned (.int .i64 oa) ∧ w5 = w') := by
              refine hd5.opsA.mono ?_
              rintro e w' ⟨rfl, rfl⟩
              rw [hoa]
              exact ⟨rfl, rfl⟩
            rw [hoa] at o1 o2 hres
            have HNX : Hid (∀ u, Below w5.heap.size w5 u → ∃ ka kb, Duo (fun x => x < w.heap.size) da db ka kb u ∧ Below w.heap.size w u ∧ FInv ka kb n base (2 + (i + 1))) := fun u hu => ⟨_, _, HD5.out.later hu, HB5.out.trans (hu.mono HB5.out.size), HI5.out.mono (by omega)⟩
            have HRB : Hid (kb5.ops = kb5.ops) := rfl
            have HOE : Hid (ka5.ops = oa) := hoa
            clear hI5 hd5 hk5 hBf hoa hka5 hRb HCHB u0 u1 u2 u3 u4 u5 u6 HEA HK4
            rcases hres with ⟨r1, r2, r3, r4, r5, r6⟩ | ⟨r1, r2, r3, r4, r5, r6⟩
            · subst r1
              subst r3
              have HSM : Hid (imK kb5 = imK ka ∧ ∀ ps, crK kb5 ps = crK ka ps) := ⟨r5, r6⟩
              have HLI : Hid (Calls Try.prog 28 #[.pointer (some ⟨db, 0, none⟩)] w5 fun e w' => e = .returned (.tuple #[.slice none 0 0, .int .i64 34]) ∧ w5 = w') := (HD5.out.listB r4).mono fun e w' h => ⟨h.1, h.2.symm⟩
              have HRD : Hid (Calls Try.prog 17 #[.pointer (some ⟨db, 0, none⟩), .string ⟨#[102, 105, 114, 115, 116]⟩, .int .i64 0, .int .i64 0] w5 fun e w' => e = .returned (.tuple #[.slice none 0 0, .int .i64 34]) ∧ Below w5.heap.size w5 w') := HD5.out.readB r4 nmF szF 0 0
              have HDT : Hid (kb5.dead = true) := r4
              have hcmp : oa - base = n + 1 := r2
              clear r5 r6 r4 r2
              go_wp2_with fail
              refine HOA.out.mono ?_
              rintro e w6 ⟨rfl, rfl⟩
              go_wp2_with fail
              refine HLI.out.mono ?_
              rintro e w6 ⟨rfl, rfl⟩
              go_wp2_with fail
              refine HRD.out.mono ?_
              rintro e w6 ⟨rfl, hb6⟩
              have HB6 : Hid (Below w5.heap.size w5 w6) := hb6
              have HDQ6 : Hid (Duo (fun x => x < w.heap.size ∨ (wr.heap.size ≤ x ∧ x < w3.heap.size)) da db ka5 kb5 w6) := HDQ5.out.later hb6
              have HSZ : Hid (Calls Try.prog 22 #[.pointer (some ⟨db, 0, none⟩), .string ⟨#[102, 105, 114, 115, 116]⟩] w6 fun e w' => e = .returned (.tuple #[.int .i64 0, .int .i64 34]) ∧ Duo (fun x => x < w.heap.size ∨ (wr.heap.size ≤ x ∧ x < w3.heap.size)) da db ka5 kb5 w' ∧ Keep (fun x => x < w.heap.size ∨ (wr.heap.size ≤ x ∧ x < w3.heap.size)) w6 w') := by
                have := HDQ6.out.sizeB HI5.out.bd nmF szF
                rw [szK_dead HDT.out] at this
                exact this
              have HK6 : Hid (Keep (fun x => x < w.heap.size ∨ (wr.heap.size ≤ x ∧ x < w3.heap.size)) w3 w6) := HK5.out.later hb6
              clear hb6 HRD HLI HOA
              go_wp2_with fail
              refine HSZ.out.mono ?_
              rintro e w7 ⟨rfl, hd7, hk7⟩
              have HK7 : Hid (Keep (fun x => x < w.heap.size ∨ (wr.heap.size ≤ x ∧ x < w3.heap.size)) w3 w7) := HK6.out.trans hk7
              have HB7 : Hid (Below w.heap.size w w7) := HBK3.out.trans (HK7.out.below (fun x hx => .inl hx))
              have HIM7 : Hid (ImgAt w7 (.slice x2 l2 c2') (imK ka) W1.heap.size ∧ ImgAt w7 (.slice x3 l3 c3') (crK ka ps) w2.heap.size) := ⟨HIM2.out.hold HK7.out.size (fun x hx1 hx2 => HK7.out.block x (.inr ⟨by omega, hx2⟩)), HI3.out.hold HK7.out.size (fun x hx1 hx2 => HK7.out.block x (.inr ⟨by omega, hx2⟩))⟩
              have HD7 : Hid (Duo (fun x => x < w.heap.size) da db ka5 kb5 w7) := hd7.unguard (fun x hx => .inl hx)
              have HDE : Hid (Calls Try.prog 33 #[.pointer (some ⟨db, 0, none⟩)] w7 fun e w' => e = .returned (.bool true) ∧ w7 = w') := by
                refine HD7.out.deadB.mono ?_
                rintro e w' ⟨rfl, rfl⟩
                rw [HDT.out]
                exact ⟨rfl, rfl⟩
              have HIB : Hid (Calls Try.prog 25 #[.pointer (some ⟨db, 0, none⟩)] w7 fun e w' => ∃ x l c, e = .returned (.slice x l c) ∧ ImgAt w' (.slice x l c) (imK kb5) w7.heap.size ∧ Below w7.heap.size w7 w') := HD7.out.imageB HI5.out.bd
              clear hd7 hk7 HSZ HK6 HDQ6 HDQ5
              go_wp2_with fail
              refine HDE.out.mono ?_
              rintro e w8 ⟨rfl, rfl⟩
              go_wp2_with fail
              refine HIB.out.mono ?_
              rintro e w8 ⟨x8, l8, c8, rfl, hi8, hb8⟩
              have HSI : Hid (Calls Try.prog 26 #[.slice x8 l8 c8, .slice x2 l2 c2'] w8 fun e w' => e = .returned (.bool true) ∧ Below w8.heap.size w8 w') := by
                rw [HSM.out.1] at hi8
                exact sameImageEq _ _ (imK ka) w8 hi8.read (HIM7.out.1.later hb8).read
              have HB8 : Hid (Below w7.heap.size w7 w8) := hb8
              clear hi8 hb8 HIB
              go_wp2_with fail
              refine HSI.out.mono ?_
              rintro e w9 ⟨rfl, hb9⟩
              have HB9 : Hid (Below w7.heap.size w7 w9) := HB8.out.trans (hb9.mono HB8.out.size)
              have HCB : Hid (Calls Try.prog 15 #[.pointer (some ⟨db, 0, none⟩), .slice ap mp cp] w9 fun e w' => ∃ x l c, e = .returned (.slice x l c) ∧ ImgAt w' (.slice x l c) (crK kb5 ps) w9.heap.size ∧ Below w9.heap.size w9 w') := (HD7.out.later HB9.out).crashB HI5.out.bd HI5.out.bp (by omega) (HPK.out w9 (HB7.out.trans (HB9.out.mono HB7.out.size)))
              clear hb9 HSI
              go_wp2_with fail
              refine HCB.out.mono ?_
              rintro e w10 ⟨x10, l10, c10, rfl, hi10, hb10⟩
              have HB10 : Hid (Below w7.heap.size w7 w10) := HB9.out.trans (hb10.mono HB9.out.size)
              have HSI : Hid (Calls Try.prog 26 #[.slice x10 l10 c10, .slice x3 l3 c3'] w10 fun e w' => e = .returned (.bool true) ∧ Below w10.heap.size w10 w') := by
                rw [HSM.out.2] at hi10
                exact sameImageEq _ _ (crK ka ps) w10 hi10.read (HIM7.out.2.later HB10.out).read
              clear hi10 hb10 HCB
              go_wp2_with fail
              refine HSI.out.mono ?_
              rintro e w11 ⟨rfl, hb11⟩
              have HN : Hid (∃ ka kb, Duo (fun x => x < w.heap.size) da db ka kb w11 ∧ Below w.heap.size w w11 ∧ FInv ka kb n base (2 + (i + 1))) := by
                have hb : Below w7.heap.size w7 w11 := HB10.out.trans (hb11.mono HB10.out.size)
                exact ⟨_, _, HD7.out.later hb, HB7.out.trans (hb.mono HB7.out.size), HI5.out.mono (by omega)⟩
              clear hb11 HSI
              go_wp2
              go_roundg gk1
              case measure => omega
              case rel => exact ⟨i + 1, by omega, by go_num, HN.out⟩
            · subst r2
              have HSM : Hid (imK kb5 = imK ka5 ∧ ∀ ps, crK kb5 ps = crK ka5 ps) := ⟨r5, r6⟩
              have HDE : Hid (Calls Try.prog 33 #[.pointer (some ⟨db, 0, none⟩)] w5 fun e w' => e = .returned (.bool false) ∧ w5 = w') := by
                refine HD5.out.deadB.mono ?_
                rintro e w' ⟨rfl, rfl⟩
                rw [r3]
                exact ⟨rfl, rfl⟩
              have HOB : Hid (Calls Try.prog 32 #[.pointer (some ⟨db, 0, none⟩)] w5 fun e w' => e = .returned (.int .i64 oa) ∧ w5 = w') := by
                refine HD5.out.opsB.mono ?_
                rintro e w' ⟨rfl, rfl⟩
                rw [r4]
                exact ⟨rfl, rfl⟩
              have HIA : Hid (Calls Try.prog 25 #[.pointer (some ⟨da, 0, none⟩)] w5 fun e w' => ∃ x l c, e = .returned (.slice x l c) ∧ ImgAt w' (.slice x l c) (imK ka5) w5.heap.size ∧ Below w5.heap.size w5 w') := HD5.out.imageA HI5.out.ad
              clear r3 r4 r5 r6 HDQ5 HK5 HIM5 HIM2 HI3
              by_cases hea : ea = 0
              · subst hea
                have hne : ¬ oa - base = n + 1 := by
                  rcases r1 with r1 | r1
                  · exact absurd rfl r1
                  · exact r1
                have hned : decide (oa - base = n + 1) = false := decide_eq_false hne
                clear r1
                go_wp2_with fail
                refine HOA.out.mono ?_
                rintro e w6 ⟨rfl, rfl⟩
                go_wp2_with fail
                refine HDE.out.mono ?_
                rintro e w6 ⟨rfl, rfl⟩
                go_wp2_with fail
                refine HOB.out.mono ?_
                rintro e w6 ⟨rfl, rfl⟩
                go_wp2_with fail
                refine HOA.out.mono ?_
                rintro e w6 ⟨rfl, rfl⟩
                go_wp2_with fail
                refine HIA.out.mono ?_
                rintro e w6 ⟨x6, l6, c6', rfl, hi6, hb6⟩
                have HI6 : Hid (ImgAt w6 (.slice x6 l6 c6') (imK ka5) w5.heap.size) := hi6
                have HB6 : Hid (Below w5.heap.size w5 w6) := hb6
                have HIB : Hid (Calls Try.prog 25 #[.pointer (some ⟨db, 0, none⟩)] w6 fun e w' => ∃ x l c, e = .returned (.slice x l c) ∧ ImgAt w' (.slice x l c) (imK kb5) w6.heap.size ∧ Below w6.heap.size w6 w') := (HD5.out.later hb6).imageB HI5.out.bd
                clear hi6 hb6 HIA HDE HOB HOA
                go_wp2_with fail
                refine HIB.out.mono ?_
                rintro e w7 ⟨x7, l7, c7', rfl, hi7, hb7⟩
                have HB7 : Hid (Below w5.heap.size w5 w7) := HB6.out.trans (hb7.mono HB6.out.size)
                have HSI : Hid (Calls Try.prog 26 #[.slice x6 l6 c6', .slice x7 l7 c7'] w7 fun e w' => e = .returned (.bool true) ∧ Below w7.heap.size w7 w') := by
                  rw [HSM.out.1] at hi7
                  exact sameImageEq _ _ (imK ka5) w7 (HI6.out.later hb7).read hi7.read
                clear hi7 hb7 HIB HI6 HB6
                go_wp2_with fail
                refine HSI.out.mono ?_
                rintro e w8 ⟨rfl, hb8⟩
                have HB8 : Hid (Below w5.heap.size w5 w8) := HB7.out.trans (hb8.mono HB7.out.size)
                have HCA : Hid (Calls Try.prog 15 #[.pointer (some ⟨da, 0, none⟩), .slice ap mp cp] w8 fun e w' => ∃ x l c, e = .returned (.slice x l c) ∧ ImgAt w' (.slice x l c) (crK ka5 ps) w8.heap.size ∧ Below w8.heap.size w8 w') := (HD5.out.later HB8.out).crashA HI5.out.ad HI5.out.ap (by omega) (HPK.out w8 (HB5.out.trans (HB8.out.mono HB5.out.size)))
                clear hb8 HSI HB7
                go_wp2_with fail
                refine HCA.out.mono ?_
                rintro e w9 ⟨x9, l9, c9', rfl, hi9, hb9⟩
                have HI9 : Hid (ImgAt w9 (.slice x9 l9 c9') (crK ka5 ps) w8.heap.size) := hi9
                have HB9 : Hid (Below w5.heap.size w5 w9) := HB8.out.trans (hb9.mono HB8.out.size)
                have HCB : Hid (Calls Try.prog 15 #[.pointer (some ⟨db, 0, none⟩), .slice ap mp cp] w9 fun e w' => ∃ x l c, e = .returned (.slice x l c) ∧ ImgAt w' (.slice x l c) (crK kb5 ps) w9.heap.size ∧ Below w9.heap.size w9 w') := (HD5.out.later HB9.out).crashB HI5.out.bd HI5.out.bp (by omega) (HPK.out w9 (HB5.out.trans (HB9.out.mono HB5.out.size)))
                clear hi9 hb9 HCA HB8
                go_wp2_with fail
                refine HCB.out.mono ?_
                rintro e w10 ⟨x10, l10, c10', rfl, hi10, hb10⟩
                have HB10 : Hid (Below w5.heap.size w5 w10) := HB9.out.trans (hb10.mono HB9.out.size)
                have HSI : Hid (Calls Try.prog 26 #[.slice x9 l9 c9', .slice x10 l10 c10'] w10 fun e w' => e = .returned (.bool true) ∧ Below w10.heap.size w10 w') := by
                  rw [HSM.out.2] at hi10
                  exact sameImageEq _ _ (crK ka5 ps) w10 (HI9.out.later hb10).read hi10.read
                clear hi10 hb10 HCB HI9 HB9
                go_wp2_with fail
                refine HSI.out.mono ?_
                rintro e w11 ⟨rfl, hb11⟩
                have HN : Hid (∃ ka kb, Duo (fun x => x < w.heap.size) da db ka kb w11 ∧ Below w.heap.size w w11 ∧ FInv ka kb n base (2 + (i + 1))) := HNX.out w11 (HB10.out.trans (hb11.mono HB10.out.size))
                clear hb11 HSI
                go_wp2
                go_roundg gk1
                case measure => omega
                case rel => exact ⟨i + 1, by omega, by go_num, HN.out⟩
              · have hea2 : decide (ea = 0) = false := decide_eq_false hea
                clear r1
                go_wp2_with fail
                refine HDE.out.mono ?_
                rintro e w6 ⟨rfl, rfl⟩
                go_wp2_with fail
                refine HOB.out.mono ?_
                rintro e w6 ⟨rfl, rfl⟩
                go_wp2_with fail
                refine HOA.out.mono ?_
                rintro e w6 ⟨rfl, rfl⟩
                go_wp2_with fail
                refine HIA.out.mono ?_
                rintro e w6 ⟨x6, l6, c6', rfl, hi6, hb6⟩
                have HI6 : Hid (ImgAt w6 (.slice x6 l6 c6') (imK ka5) w5.heap.size) := hi6
                have HB6 : Hid (Below w5.heap.size w5 w6) := hb6
                have HIB : Hid (Calls Try.prog 25 #[.pointer (some ⟨db, 0, none⟩)] w6 fun e w' => ∃ x l c, e = .returned (.slice x l c) ∧ ImgAt w' (.slice x l c) (imK kb5) w6.heap.size ∧ Below w6.heap.size w6 w') := (HD5.out.later hb6).imageB HI5.out.bd
                clear hi6 hb6 HIA HDE HOB HOA
                go_wp2_with fail
                refine HIB.out.mono ?_
                rintro e w7 ⟨x7, l7, c7', rfl, hi7, hb7⟩
                have HB7 : Hid (Below w5.heap.size w5 w7) := HB6.out.trans (hb7.mono HB6.out.size)
                have HSI : Hid (Calls Try.prog 26 #[.slice x6 l6 c6', .slice x7 l7 c7'] w7 fun e w' => e = .returned (.bool true) ∧ Below w7.heap.size w7 w') := by
                  rw [HSM.out.1] at hi7
                  exact sameImageEq _ _ (imK ka5) w7 (HI6.out.later hb7).read hi7.read
                clear hi7 hb7 HIB HI6 HB6
                go_wp2_with fail
                refine HSI.out.mono ?_
                rintro e w8 ⟨rfl, hb8⟩
                have HB8 : Hid (Below w5.heap.size w5 w8) := HB7.out.trans (hb8.mono HB7.out.size)
                have HCA : Hid (Calls Try.prog 15 #[.pointer (some ⟨da, 0, none⟩), .slice ap mp cp] w8 fun e w' => ∃ x l c, e = .returned (.slice x l c) ∧ ImgAt w' (.slice x l c) (crK ka5 ps) w8.heap.size ∧ Below w8.heap.size w8 w') := (HD5.out.later HB8.out).crashA HI5.out.ad HI5.out.ap (by omega) (HPK.out w8 (HB5.out.trans (HB8.out.mono HB5.out.size)))
                clear hb8 HSI HB7
                go_wp2_with fail
                refine HCA.out.mono ?_
                rintro e w9 ⟨x9, l9, c9', rfl, hi9, hb9⟩
                have HI9 : Hid (ImgAt w9 (.slice x9 l9 c9') (crK ka5 ps) w8.heap.size) := hi9
                have HB9 : Hid (Below w5.heap.size w5 w9) := HB8.out.trans (hb9.mono HB8.out.size)
                have HCB : Hid (Calls Try.prog 15 #[.pointer (some ⟨db, 0, none⟩), .slice ap mp cp] w9 fun e w' => ∃ x l c, e = .returned (.slice x l c) ∧ ImgAt w' (.slice x l c) (crK kb5 ps) w9.heap.size ∧ Below w9.heap.size w9 w') := (HD5.out.later HB9.out).crashB HI5.out.bd HI5.out.bp (by omega) (HPK.out w9 (HB5.out.trans (HB9.out.mono HB5.out.size)))
                clear hi9 hb9 HCA HB8
                go_wp2_with fail
                refine HCB.out.mono ?_
                rintro e w10 ⟨x10, l10, c10', rfl, hi10, hb10⟩
                have HB10 : Hid (Below w5.heap.size w5 w10) := HB9.out.trans (hb10.mono HB9.out.size)
                have HSI : Hid (Calls Try.prog 26 #[.slice x9 l9 c9', .slice x10 l10 c10'] w10 fun e w' => e = .returned (.bool true) ∧ Below w10.heap.size w10 w') := by
                  rw [HSM.out.2] at hi10
                  exact sameImageEq _ _ (crK ka5 ps) w10 (HI9.out.later hb10).read hi10.read
                clear hi10 hb10 HCB HI9 HB9
                go_wp2_with fail
                refine HSI.out.mono ?_
                rintro e w11 ⟨rfl, hb11⟩
                have HN : Hid (∃ ka kb, Duo (fun x => x < w.heap.size) da db ka kb w11 ∧ Below w.heap.size w w11 ∧ FInv ka kb n base (2 + (i + 1))) := HNX.out w11 (HB10.out.trans (hb11.mono HB10.out.size))
                clear hb11 HSI
                go_wp2
                go_roundg gk1
                case measure => omega
                case rel => exact ⟨i + 1, by omega, by go_num, HN.out⟩
end Go.Proofs.Ytadflolbgcdncaa
