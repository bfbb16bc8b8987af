import Derived.Test.YtadflolbgcdncaaQa
/-! The law on the quota: its walk. -/
namespace Go.Proofs.Ytadflolbgcdncaa
open Go.RowKit Go.Maps Plain
set_option linter.unusedVariables false
set_option linter.unusedSimpArgs false

theorem img_used {k : Dk} {n : Nat} (h : k.Good n) : (imT (imK k) : Int) = k.used ∧ imT (imK k) ≤ 4611686018427387904 ∧ (imK k).length ≤ 2199023255552 ∧ 0 ≤ k.used ∧ k.used ≤ 1073741824 ∧ 0 ≤ k.quota ∧ k.quota ≤ 1073741824 := by
  have h1 := imK_total h.sum.keys
  have h2 := h.sum.used
  have h3 := h.sum.lim
  have h4 := imK_len h.dok
  have h5 := h.sum.quota
  refine ⟨by rw [h1, h2], ?_, by omega, by omega, h3, h5.1, h5.2⟩
  rw [h1]; omega
theorem szK_le {k : Dk} {n : Nat} (h : k.Good n) (s : ByteArray) : (szK k s).1 ≤ 1073741824 := by
  have h1 := look_sum h.sum.uok s
  have h2 := h.sum.lim
  unfold szK
  split
  · show sizeK k s ≤ _; omega
  · exact Nat.zero_le _

set_option maxHeartbeats 40000000 in
set_option maxRecDepth 1000000 in
theorem quotaWalk (q : Int) (hq : I64 q) (v : Value) (st : List Sp) (w : World) (h : ScrAt w v st) : Calls Try.prog 4 #[.int .i64 q, v] w fun e w' => e = .returned (.bool true) ∧ Below w.heap.size w w' := by
  obtain ⟨a, cap, rfl, hlc, hcm, hlen, hok, hcells⟩ := h
  unfold maxLen at hcm
  have HC : Hid (st ≠ [] → ∃ b off, a = some ⟨b, off, none⟩ ∧ ∀ j, j < st.length → SpAt w b (off + j * 7) (st.getD j Sp.none)) := hcells
  have HOK : Hid (∀ s ∈ st, s.Ok) := hok
  have HBG : Hid (Calls Try.prog 18 #[.int .i64 q] w (BgPost q w)) := begunOf q hq w
  clear hcells hok
  go_enter Try.func4, Try.ntmps4
  go_wp2_with fail
  refine HBG.out.mono ?_
  rintro e w1 (⟨_, rfl, hb⟩ | ⟨d, G0, rfl, hd, q0, q1⟩)
  · have HF : Hid (Below w.heap.size w w1) := hb
    clear hb
    go_wp2
    go_ret
    exact ⟨rfl, HF.out⟩
  have H0 : Hid (∃ k, Dsk w d k w1 ∧ k.Good (2 + 0)) := ⟨_, hd, bg_dok q G0 q0 q1, bg_sum q G0 q0 q1, bg_on q G0⟩
  clear hd
  go_wp2
  go_loopg [7] st.length (fun gk s7 wx => ∃ (i : Nat), i + gk = st.length ∧ s7 = .int .i64 i ∧ Hid (∃ k, Dsk w d k wx ∧ k.Good (2 + i)))
  case atStart => exact ⟨0, by omega, rfl, H0.out⟩
  case round =>
    obtain ⟨i, hig, rfl, HV⟩ := hrel
    cases gk with
    | zero =>
      have HF : Hid (Below w.heap.size w wr) := by
        obtain ⟨k, h1, _⟩ := HV.out
        exact h1.1
      obtain rfl : i = st.length := by omega
      go_wp2
      go_ret
      exact ⟨rfl, HF.out⟩
    | succ gk1 =>
      obtain ⟨k, hD, hGd⟩ := HV.out
      have hi : i < st.length := by omega
      have hne : st ≠ [] := by rintro rfl; simp at hi
      obtain ⟨b, off, rfl, hc⟩ := HC.out hne
      have hsp := (hc i hi)
      have hsok := HOK.out (st.getD i Sp.none) (by simp [hi])
      have hspr := hsp.later hD.1
      generalize st.getD i Sp.none = x at hsp hsok hspr
      obtain ⟨kd, nm, to, at', n, vb, vp, data⟩ := x
      obtain ⟨c0, c1, c2, c3, c4, c5, c6, _⟩ := hspr
      obtain ⟨o1, o2, o3, o4, o5, o6⟩ := hsok
      have hrow := hsp.row
      simp only at c0 c1 c2 c3 c4 c5 c6 o1 o2 o3 o4 o5 o6 hrow
      obtain ⟨ap, mp, cp, rfl⟩ := o6
      obtain ⟨ab, cb, hvb, hb1, hb2, _⟩ := hrow
      unfold maxLen at hb2
      have HROW : Hid (BytesAt w vb data) := hsp.row
      subst hvb
      obtain ⟨W1, hW1⟩ : ∃ W1, wr.alloc (.cells #[.int .i64 kd, .string nm, .string to, .int .i64 at', .int .i64 n, .slice ab data.length cb, .slice ap mp cp] 44) = W1 := ⟨_, rfl⟩
      have hBW : Below wr.heap.size wr W1 := by rw [← hW1]; exact (Below.refl _ _).alloc (Nat.le_refl _) _
      have hWs : W1.heap.size = wr.heap.size + 1 := by rw [← hW1]; simp
      have HP1 : Hid (DskP (fun x => x < w.heap.size ∨ x = wr.heap.size) W1 d k W1) := hD.toP hBW (Nat.le_refl _) (by omega)
      have HBK : Hid (Below w.heap.size w W1) := hD.1.trans (hBW.mono hD.1.size)
      have HW : Hid (∀ w', Keep (fun x => x < w.heap.size ∨ x = wr.heap.size) W1 w' → BytesAt w' (.slice ab data.length cb) data) := fun w' hk => HROW.out.later (HBK.out.trans (hk.below (fun x hx => .inl hx)))
      have Z : Hid (W1.cell? ⟨wr.heap.size, 0, none⟩ = some (.int .i64 kd) ∧ W1.cell? ⟨wr.heap.size, 1, none⟩ = some (.string nm) ∧ W1.cell? ⟨wr.heap.size, 2, none⟩ = some (.string to) ∧ W1.cell? ⟨wr.heap.size, 3, none⟩ = some (.int .i64 at') ∧ W1.cell? ⟨wr.heap.size, 4, none⟩ = some (.int .i64 n) ∧ W1.cell? ⟨wr.heap.size, 5, none⟩ = some (.slice ab data.length cb) ∧ W1.cell? ⟨wr.heap.size, 6, none⟩ = some (.slice ap mp cp)) := by
        unfold Hid
        rw [← hW1]
        refine ⟨?_, ?_, ?_, ?_, ?_, ?_, ?_⟩ <;> (rw [World.cell?_alloc_at _ _ _ _ rfl]; rfl)
      have HG : Hid (k.Good (2 + i)) := hGd
      have HD : Hid (Dsk w d k wr) := hD
      obtain ⟨o1a, o1b⟩ := o1
      obtain ⟨o2a, o2b⟩ := o2
      have HO2 : Hid (I64 n) := ⟨o2a, o2b⟩
      have HO3 : Hid (nm.size ≤ maxLen) := o3
      have HO4 : Hid (to.size ≤ maxLen) := o4
      obtain ⟨z0, z1, z2, z3, z4, z5, z6⟩ := Z.out
      clear hD hGd hc hsp hBW hne HV o3 o4
      by_cases h11 : kd = 11
      · subst h11
        have HSQ : Hid (Calls Try.prog 19 #[.pointer (some ⟨d, 0, none⟩), .int .i64 n] W1 fun e w2 => (qB n = true ∧ e = .returned (.int .i64 0) ∧ DskP (fun x => x < w.heap.size ∨ x = wr.heap.size) W1 d (k.quotas n) w2) ∨ (qB n = false ∧ e = .returned (.int .i64 3) ∧ DskP (fun x => x < w.heap.size ∨ x = wr.heap.size) W1 d k w2)) := setqP HP1.out n HO2.out
        go_wp2_with fail
        refine HSQ.out.mono ?_
        rintro e w2 (⟨hqb, rfl, h2⟩ | ⟨hqb, rfl, h2⟩)
        · have HP2 : Hid (DskP (fun x => x < w.heap.size ∨ x = wr.heap.size) W1 d (k.quotas n) w2) := h2
          have HN : Hid (∀ w3, Below w2.heap.size w2 w3 → ∃ k', Dsk w d k' w3 ∧ k'.Good (2 + (i + 1))) := fun w3 hb => ⟨_, (HP2.out.back HBK.out).later hb, (HG.out.quotas hqb).mono (by omega)⟩
          have hn0 : 0 ≤ n ∧ n ≤ 1073741824 := by simpa [qB] using hqb
          obtain ⟨hn0a, hn0b⟩ := hn0
          have HQ : Hid (∀ nn, Calls Try.prog 20 #[.pointer (some ⟨d, 0, none⟩)] (w2.drewN nn) fun e w3 => e = .returned (.int .i64 n) ∧ w3 = w2.drewN nn) := fun nn => quotaP (HP2.out.later (below_drewN' w2 nn))
          have y0 : w2.cell? ⟨wr.heap.size, 0, none⟩ = some (.int .i64 11) := HP2.out.1.cell (.inr rfl) Z.out.1
          have y1 : w2.cell? ⟨wr.heap.size, 1, none⟩ = some (.string nm) := HP2.out.1.cell (.inr rfl) Z.out.2.1
          have y2 : w2.cell? ⟨wr.heap.size, 2, none⟩ = some (.string to) := HP2.out.1.cell (.inr rfl) Z.out.2.2.1
          have y3 : w2.cell? ⟨wr.heap.size, 3, none⟩ = some (.int .i64 at') := HP2.out.1.cell (.inr rfl) Z.out.2.2.2.1
          have y4 : w2.cell? ⟨wr.heap.size, 4, none⟩ = some (.int .i64 n) := HP2.out.1.cell (.inr rfl) Z.out.2.2.2.2.1
          have y5 : w2.cell? ⟨wr.heap.size, 5, none⟩ = some (.slice ab data.length cb) := HP2.out.1.cell (.inr rfl) Z.out.2.2.2.2.2.1
          have y6 : w2.cell? ⟨wr.heap.size, 6, none⟩ = some (.slice ap mp cp) := HP2.out.1.cell (.inr rfl) Z.out.2.2.2.2.2.2
          clear h2 hqb HSQ z0 z1 z2 z3 z4 z5 z6
          go_wp2
          go_quiet (first | (go_at_call 20; exact Calls.quiet_of_same (HQ.out _)))
          go_wp2
          go_roundg gk1
          case measure => omega
          case rel => exact ⟨i + 1, by omega, by go_num, HN.out _ (below_drewN' _ _)⟩
        · have HP2 : Hid (DskP (fun x => x < w.heap.size ∨ x = wr.heap.size) W1 d k w2) := h2
          have HN : Hid (∀ w3, Below w2.heap.size w2 w3 → ∃ k', Dsk w d k' w3 ∧ k'.Good (2 + (i + 1))) := fun w3 hb => ⟨_, (HP2.out.back HBK.out).later hb, HG.out.mono (by omega)⟩
          have hn0 : ¬ (0 ≤ n ∧ n ≤ 1073741824) := by simpa [qB] using hqb
          have y0 : w2.cell? ⟨wr.heap.size, 0, none⟩ = some (.int .i64 11) := HP2.out.1.cell (.inr rfl) Z.out.1
          have y1 : w2.cell? ⟨wr.heap.size, 1, none⟩ = some (.string nm) := HP2.out.1.cell (.inr rfl) Z.out.2.1
          have y2 : w2.cell? ⟨wr.heap.size, 2, none⟩ = some (.string to) := HP2.out.1.cell (.inr rfl) Z.out.2.2.1
          have y3 : w2.cell? ⟨wr.heap.size, 3, none⟩ = some (.int .i64 at') := HP2.out.1.cell (.inr rfl) Z.out.2.2.2.1
          have y4 : w2.cell? ⟨wr.heap.size, 4, none⟩ = some (.int .i64 n) := HP2.out.1.cell (.inr rfl) Z.out.2.2.2.2.1
          have y5 : w2.cell? ⟨wr.heap.size, 5, none⟩ = some (.slice ab data.length cb) := HP2.out.1.cell (.inr rfl) Z.out.2.2.2.2.2.1
          have y6 : w2.cell? ⟨wr.heap.size, 6, none⟩ = some (.slice ap mp cp) := HP2.out.1.cell (.inr rfl) Z.out.2.2.2.2.2.2
          clear h2 hqb HSQ z0 z1 z2 z3 z4 z5 z6
          by_cases hneg : n < 0
          · have hd1 : decide (0 ≤ n) = false := decide_eq_false (by omega)
            clear hn0
            go_wp2
            go_quiet (fail)
            go_wp2
            go_roundg gk1
            case measure => omega
            case rel => exact ⟨i + 1, by omega, by go_num, HN.out _ (below_drewN' _ _)⟩
          · have hn1 : decide (n ≤ 1073741824) = false := decide_eq_false (by omega)
            have hn2 : 0 ≤ n := by omega
            clear hn0 hneg
            go_wp2
            go_quiet (fail)
            go_wp2
            go_roundg gk1
            case measure => omega
            case rel => exact ⟨i + 1, by omega, by go_num, HN.out _ (below_drewN' _ _)⟩
      · by_cases h1 : kd < 1
        · have HN : Hid (∃ k', Dsk w d k' W1 ∧ k'.Good (2 + (i + 1))) := ⟨_, HP1.out.back HBK.out, HG.out.mono (by omega)⟩
          go_wp2
          go_roundg gk1
          case measure => omega
          case rel => exact ⟨i + 1, by omega, by go_num, HN.out⟩
        · by_cases h7 : 7 < kd
          · have HN : Hid (∃ k', Dsk w d k' W1 ∧ k'.Good (2 + (i + 1))) := ⟨_, HP1.out.back HBK.out, HG.out.mono (by omega)⟩
            go_wp2
            go_roundg gk1
            case measure => omega
            case rel => exact ⟨i + 1, by omega, by go_num, HN.out⟩
          · have hk1 : 1 ≤ kd := by omega
            have hk7 : kd ≤ 7 := by omega
            clear h1 h7
            obtain ⟨u1, u2, u3, u4, u5, u6, u7⟩ := img_used HG.out
            have hszl := szK_le HG.out nm
            have HSZ : Hid (Calls Try.prog 22 #[.pointer (some ⟨d, 0, none⟩), .string nm] W1 fun e w2 => e = .returned (.tuple #[.int .i64 ((szK k nm).1 : Int), .int .i64 (szK k nm).2]) ∧ DskP (fun x => x < w.heap.size ∨ x = wr.heap.size) W1 d k w2) := sizeP HP1.out HO3.out HG.out.dok
            obtain ⟨was, hwas⟩ : ∃ z, (szK k nm).1 = z := ⟨_, rfl⟩
            obtain ⟨gg, hgg⟩ : ∃ z, (szK k nm).2 = z := ⟨_, rfl⟩
            obtain ⟨uu, huu⟩ : ∃ z, k.used = z := ⟨_, rfl⟩
            have HUS : Hid (Calls Try.prog 21 #[.pointer (some ⟨d, 0, none⟩)] W1 fun e w2 => e = .returned (.int .i64 k.used) ∧ W1 = w2) := (usedP HP1.out).mono fun e w2 h => ⟨h.1, h.2.symm⟩
            rw [huu] at HUS u4 u5
            rw [hwas, hgg] at HSZ
            rw [hwas] at hszl
            have HE : Hid ((szK k nm).1 = was ∧ (szK k nm).2 = gg ∧ k.used = uu) := ⟨hwas, hgg, huu⟩
            clear hwas hgg huu u1 u2 u3
            go_wp2_with fail
            refine HUS.out.mono ?_
            rintro e w2 ⟨rfl, rfl⟩
            go_wp2_with fail
            refine HSZ.out.mono ?_
            rintro e w2 ⟨rfl, h2⟩
            have HP2 : Hid (DskP (fun x => x < w.heap.size ∨ x = wr.heap.size) W1 d k w2) := h2
            have y0 : w2.cell? ⟨wr.heap.size, 0, none⟩ = some (.int .i64 kd) := HP2.out.1.cell (.inr rfl) Z.out.1
            have y1 : w2.cell? ⟨wr.heap.size, 1, none⟩ = some (.string nm) := HP2.out.1.cell (.inr rfl) Z.out.2.1
            have y2 : w2.cell? ⟨wr.heap.size, 2, none⟩ = some (.string to) := HP2.out.1.cell (.inr rfl) Z.out.2.2.1
            have y3 : w2.cell? ⟨wr.heap.size, 3, none⟩ = some (.int .i64 at') := HP2.out.1.cell (.inr rfl) Z.out.2.2.2.1
            have y4 : w2.cell? ⟨wr.heap.size, 4, none⟩ = some (.int .i64 n) := HP2.out.1.cell (.inr rfl) Z.out.2.2.2.2.1
            have y5 : w2.cell? ⟨wr.heap.size, 5, none⟩ = some (.slice ab data.length cb) := HP2.out.1.cell (.inr rfl) Z.out.2.2.2.2.2.1
            have y6 : w2.cell? ⟨wr.heap.size, 6, none⟩ = some (.slice ap mp cp) := HP2.out.1.cell (.inr rfl) Z.out.2.2.2.2.2.2
            clear h2 HSZ HUS z0 z1 z2 z3 z4 z5 z6
            have HCH : Hid (Calls Try.prog 23 #[.pointer (some ⟨d, 0, none⟩), .agg #[.int .i64 kd, .string nm, .string to, .int .i64 at', .int .i64 n, .slice ab data.length cb, .slice ap mp cp]] w2 (ChPostP (fun x => x < w.heap.size ∨ x = wr.heap.size) W1 d (chK k kd nm to n data) w2)) := changeAllP kd nm to at' n _ _ data hk1 hk7 HP2.out HO3.out HO4.out HO2.out HW.out o5 HG.out.dok HG.out.sum.uok (by omega)
            go_wp2_with fail
            refine HCH.out.mono ?_
            rintro e w3 ⟨G, hG, rfl, h3⟩
            obtain ⟨R, hR⟩ : ∃ R, chK k kd nm to n data G = R := ⟨_, rfl⟩
            have hGd3 : (chK k kd nm to n data G).2.Good (2 + i + 1) := HG.out.chK HO3.out HO4.out (by omega) (fun hl => by have := HP2.out.liveLt hl; omega)
            have HQT : Hid (R.2.quota = k.quota) := by rw [← hR]; exact HG.out.on.chK.2
            rw [hR] at h3 hGd3 ⊢
            have HR : Hid (chK k kd nm to n data G = R) := hR
            have HP3 : Hid (DskP (fun x => x < w.heap.size ∨ x = wr.heap.size) W1 d R.2 w3) := h3
            have HG3 : Hid (R.2.Good (2 + i + 1)) := hGd3
            obtain ⟨v1, v2, v3, v4, v5, v6, v7⟩ := img_used hGd3
            have hszl2 := szK_le hGd3 nm
            obtain ⟨ee, hee⟩ : ∃ z, R.1 = z := ⟨_, rfl⟩
            obtain ⟨now, hnow⟩ : ∃ z, (szK R.2 nm).1 = z := ⟨_, rfl⟩
            obtain ⟨hh, hhh⟩ : ∃ z, (szK R.2 nm).2 = z := ⟨_, rfl⟩
            obtain ⟨u', hu'⟩ : ∃ z, R.2.used = z := ⟨_, rfl⟩
            have HE2 : Hid (R.1 = ee ∧ (szK R.2 nm).1 = now ∧ (szK R.2 nm).2 = hh ∧ R.2.used = u') := ⟨hee, hnow, hhh, hu'⟩
            have HSZ : Hid (Calls Try.prog 22 #[.pointer (some ⟨d, 0, none⟩), .string nm] w3 fun e w2 => e = .returned (.tuple #[.int .i64 (now : Int), .int .i64 hh]) ∧ DskP (fun x => x < w.heap.size ∨ x = wr.heap.size) W1 d R.2 w2) := by
              have := sizeP HP3.out HO3.out HG3.out.dok
              rw [hnow, hhh] at this
              exact this
            have HTL : Hid (imT (imK R.2) ≤ 4611686018427387904 ∧ (imK R.2).length ≤ 2199023255552 ∧ (imT (imK R.2) : Int) = u') := ⟨v2, v3, by rw [v1, hu']⟩
            rw [hnow] at hszl2
            rw [hu'] at v4 v5
            rw [hee]
            have ya0 : w3.cell? ⟨wr.heap.size, 0, none⟩ = some (.int .i64 kd) := HP3.out.1.cell (.inr rfl) Z.out.1
            have ya1 : w3.cell? ⟨wr.heap.size, 1, none⟩ = some (.string nm) := HP3.out.1.cell (.inr rfl) Z.out.2.1
            have ya2 : w3.cell? ⟨wr.heap.size, 2, none⟩ = some (.string to) := HP3.out.1.cell (.inr rfl) Z.out.2.2.1
            have ya3 : w3.cell? ⟨wr.heap.size, 3, none⟩ = some (.int .i64 at') := HP3.out.1.cell (.inr rfl) Z.out.2.2.2.1
            have ya4 : w3.cell? ⟨wr.heap.size, 4, none⟩ = some (.int .i64 n) := HP3.out.1.cell (.inr rfl) Z.out.2.2.2.2.1
            have ya5 : w3.cell? ⟨wr.heap.size, 5, none⟩ = some (.slice ab data.length cb) := HP3.out.1.cell (.inr rfl) Z.out.2.2.2.2.2.1
            have ya6 : w3.cell? ⟨wr.heap.size, 6, none⟩ = some (.slice ap mp cp) := HP3.out.1.cell (.inr rfl) Z.out.2.2.2.2.2.2
            clear h3 hGd3 hG hR hee hnow hhh hu' v1 v2 v3 v6 v7 HCH y0 y1 y2 y3 y4 y5 y6
            go_wp2_with fail
            refine HSZ.out.mono ?_
            rintro e w4 ⟨rfl, h4⟩
            have HP4 : Hid (DskP (fun x => x < w.heap.size ∨ x = wr.heap.size) W1 d R.2 w4) := h4
            have yb0 : w4.cell? ⟨wr.heap.size, 0, none⟩ = some (.int .i64 kd) := HP4.out.1.cell (.inr rfl) Z.out.1
            have yb1 : w4.cell? ⟨wr.heap.size, 1, none⟩ = some (.string nm) := HP4.out.1.cell (.inr rfl) Z.out.2.1
            have yb2 : w4.cell? ⟨wr.heap.size, 2, none⟩ = some (.string to) := HP4.out.1.cell (.inr rfl) Z.out.2.2.1
            have yb3 : w4.cell? ⟨wr.heap.size, 3, none⟩ = some (.int .i64 at') := HP4.out.1.cell (.inr rfl) Z.out.2.2.2.1
            have yb4 : w4.cell? ⟨wr.heap.size, 4, none⟩ = some (.int .i64 n) := HP4.out.1.cell (.inr rfl) Z.out.2.2.2.2.1
            have yb5 : w4.cell? ⟨wr.heap.size, 5, none⟩ = some (.slice ab data.length cb) := HP4.out.1.cell (.inr rfl) Z.out.2.2.2.2.2.1
            have yb6 : w4.cell? ⟨wr.heap.size, 6, none⟩ = some (.slice ap mp cp) := HP4.out.1.cell (.inr rfl) Z.out.2.2.2.2.2.2
            have HIM : Hid (Calls Try.prog 25 #[.pointer (some ⟨d, 0, none⟩)] w4 fun e w2 => ∃ a l c, e = .returned (.slice a l c) ∧ ImgAt w2 (.slice a l c) (imK R.2) w4.heap.size ∧ DskP (fun x => x < w.heap.size ∨ x = wr.heap.size) W1 d R.2 w2 ∧ Below w4.heap.size w4 w2) := imageP HP4.out HG3.out.dok
            clear h4 HSZ ya0 ya1 ya2 ya3 ya4 ya5 ya6
            go_wp2_with fail
            refine HIM.out.mono ?_
            rintro e w5 ⟨a5, l5, c5, rfl, hi5, h5, _⟩
            have HP5 : Hid (DskP (fun x => x < w.heap.size ∨ x = wr.heap.size) W1 d R.2 w5) := h5
            have ye0 : w5.cell? ⟨wr.heap.size, 0, none⟩ = some (.int .i64 kd) := HP5.out.1.cell (.inr rfl) Z.out.1
            have ye1 : w5.cell? ⟨wr.heap.size, 1, none⟩ = some (.string nm) := HP5.out.1.cell (.inr rfl) Z.out.2.1
            have ye2 : w5.cell? ⟨wr.heap.size, 2, none⟩ = some (.string to) := HP5.out.1.cell (.inr rfl) Z.out.2.2.1
            have ye3 : w5.cell? ⟨wr.heap.size, 3, none⟩ = some (.int .i64 at') := HP5.out.1.cell (.inr rfl) Z.out.2.2.2.1
            have ye4 : w5.cell? ⟨wr.heap.size, 4, none⟩ = some (.int .i64 n) := HP5.out.1.cell (.inr rfl) Z.out.2.2.2.2.1
            have ye5 : w5.cell? ⟨wr.heap.size, 5, none⟩ = some (.slice ab data.length cb) := HP5.out.1.cell (.inr rfl) Z.out.2.2.2.2.2.1
            have ye6 : w5.cell? ⟨wr.heap.size, 6, none⟩ = some (.slice ap mp cp) := HP5.out.1.cell (.inr rfl) Z.out.2.2.2.2.2.2
            have HTO : Hid (Calls Try.prog 24 #[.slice a5 l5 c5] w5 fun e w' => e = .returned (.int .i64 u') ∧ w' = w5) := by
              have := totalOf w5 a5 l5 c5 (imK R.2) _ hi5 HTL.out.2.1 HTL.out.1
              rw [HTL.out.2.2] at this
              exact this
            have HUS : Hid (Calls Try.prog 21 #[.pointer (some ⟨d, 0, none⟩)] w5 fun e w2 => e = .returned (.int .i64 u') ∧ w2 = w5) := by
              have := usedP HP5.out
              rw [HE2.out.2.2.2] at this
              exact this
            clear h5 hi5 HIM yb0 yb1 yb2 yb3 yb4 yb5 yb6
            go_wp2_with fail
            refine HTO.out.mono ?_
            rintro e w6 ⟨rfl, rfl⟩
            go_wp2_with fail
            refine HUS.out.mono ?_
            rintro e w7 ⟨rfl, rfl⟩
            have HN : Hid (∀ w8, Below w7.heap.size w7 w8 → ∃ k', Dsk w d k' w8 ∧ k'.Good (2 + (i + 1))) := fun w8 hb => ⟨_, (HP5.out.back HBK.out).later hb, HG3.out.mono (by omega)⟩
            clear HTO HUS HTL
            by_cases hkd : kd = 2
            · subst hkd
              have HAP : Hid (appendK k nm data = R) := HR.out
              have HQO : Hid (∀ nn, Calls Try.prog 20 #[.pointer (some ⟨d, 0, none⟩)] (w7.drewN nn) fun e w3 => e = .returned (.int .i64 k.quota) ∧ w3 = w7.drewN nn) := fun nn => by
                have := quotaP (HP5.out.later (below_drewN' w7 nn))
                rw [HQT.out] at this
                exact this
              obtain ⟨qq, hqq⟩ : ∃ z, k.quota = z := ⟨_, rfl⟩
              rw [hqq] at HQO u6 u7
              have HQE : Hid (k.quota = qq) := hqq
              clear hqq
              have HFIN : Hid ((gg ≠ 0 → ee = gg ∧ u' = uu) ∧ (gg = 0 → (0 < data.length ∧ qq < uu + data.length → ee = 33 ∧ u' = uu ∧ now = was) ∧ (¬ (0 < data.length ∧ qq < uu + data.length) → ee = 0 ∧ hh = 0 ∧ now = was + data.length ∧ u' = uu + data.length))) := by
                obtain ⟨p1, p2, p3⟩ := HE.out
                obtain ⟨p4, p5, p6, p7⟩ := HE2.out
                refine ⟨fun hg0 => ?_, fun hg0 => ⟨fun hov => ?_, fun hov => ?_⟩⟩
                · have := append_refused (k := k) (s := nm) (b := data) (by rw [p2]; exact hg0)
                  rw [HAP.out] at this
                  rw [← p4, ← p7, this, p2, p3]
                  exact ⟨rfl, rfl⟩
                · have := append_over (k := k) (s := nm) (b := data) (by rw [p2]; exact hg0) (by rw [HQE.out, p3]; omega)
                  rw [HAP.out] at this
                  rw [← p4, ← p5, ← p7, this, p1, p3]
                  exact ⟨rfl, rfl, rfl⟩
                · have := append_done (k := k) (s := nm) (b := data) HG.out.on (by rw [p2]; exact hg0) (by rw [HQE.out, p3]; omega)
                  rw [HAP.out, p4, p5, p6, p7, p1, p3] at this
                  exact ⟨this.1, this.2.1, this.2.2.1, this.2.2.2⟩
              clear HAP HR
              by_cases hg0 : gg = 0
              · obtain ⟨f1, f2⟩ := HFIN.out.2 hg0
                subst hg0
                by_cases hl : 0 < data.length
                · have hl1 : (0 : Int) < (data.length : Int) := by omega
                  by_cases hov : qq < uu + data.length
                  · obtain ⟨r1, r2, r3⟩ := f1 ⟨hl, hov⟩
                    subst r1 r2 r3
                    clear f1 f2 HFIN
                    go_wp2
                    go_quiet (first | (go_at_call 20; exact Calls.quiet_of_same (HQO.out _)))
                    go_wp2
                    go_roundg gk1
                    case measure => omega
                    case rel => exact ⟨i + 1, by omega, by go_num, HN.out _ (below_drewN' _ _)⟩
                  · obtain ⟨r1, r2, r3, r4⟩ := f2 (by omega)
                    subst r1 r2 r3 r4
                    have hov2 : uu + data.length ≤ qq := by omega
                    clear f1 f2 HFIN hov
                    go_wp2
                    go_quiet (first | (go_at_call 20; exact Calls.quiet_of_same (HQO.out _)))
                    go_wp2
                    go_roundg gk1
                    case measure => omega
                    case rel => exact ⟨i + 1, by omega, by go_num, HN.out _ (below_drewN' _ _)⟩
                · obtain ⟨r1, r2, r3, r4⟩ := f2 (by omega)
                  subst r1 r2 r3 r4
                  have hl2 : decide ((0 : Int) < (data.length : Int)) = false := decide_eq_false (by omega)
                  have hl3 : data.length = 0 := by omega
                  clear f1 f2 HFIN
                  go_wp2
                  go_quiet (fail)
                  go_wp2
                  go_roundg gk1
                  case measure => omega
                  case rel => exact ⟨i + 1, by omega, by go_num, HN.out _ (below_drewN' _ _)⟩
              · obtain ⟨r1, r2⟩ := HFIN.out.1 hg0
                subst r1 r2
                by_cases hl : 0 < data.length
                · have hl1 : (0 : Int) < (data.length : Int) := by omega
                  by_cases hov : qq < u' + data.length
                  · clear HFIN
                    go_wp2
                    go_quiet (first | (go_at_call 20; exact Calls.quiet_of_same (HQO.out _)))
                    go_wp2
                    go_roundg gk1
                    case measure => omega
                    case rel => exact ⟨i + 1, by omega, by go_num, HN.out _ (below_drewN' _ _)⟩
                  · have hov2 : u' + data.length ≤ qq := by omega
                    clear HFIN hov
                    go_wp2
                    go_quiet (first | (go_at_call 20; exact Calls.quiet_of_same (HQO.out _)))
                    go_wp2
                    go_roundg gk1
                    case measure => omega
                    case rel => exact ⟨i + 1, by omega, by go_num, HN.out _ (below_drewN' _ _)⟩
                · have hl2 : decide ((0 : Int) < (data.length : Int)) = false := decide_eq_false (by omega)
                  have hl3 : data.length = 0 := by omega
                  clear HFIN
                  go_wp2
                  go_quiet (fail)
                  go_wp2
                  go_roundg gk1
                  case measure => omega
                  case rel => exact ⟨i + 1, by omega, by go_num, HN.out _ (below_drewN' _ _)⟩
            · have HLS : Hid (ee ≠ 33 ∧ u' ≤ uu) := by
                obtain ⟨p1, p2, p3⟩ := HE.out
                obtain ⟨p4, p5, p6, p7⟩ := HE2.out
                have := chK_less (k := k) (G := G) (m := n) (nm := nm) (to := to) (l := data) hkd
                rw [HR.out, p4, p7, p3] at this
                exact this
              obtain ⟨l1, l2⟩ := HLS.out
              have l3 : decide (ee = 33) = false := decide_eq_false l1
              have l4 : decide (uu < u') = false := decide_eq_false (by omega)
              have l5 : ¬ ee = 33 := l1
              have l6 : ¬ uu < u' := by omega
              clear HLS l1
              go_wp2
              go_roundg gk1
              case measure => omega
              case rel => exact ⟨i + 1, by omega, by go_num, HN.out _ (Below.refl _ _)⟩
end Go.Proofs.Ytadflolbgcdncaa
