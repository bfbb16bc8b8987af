import Derived.Test.YtelhjdplghpnbaaSyC
/-! The program's Class, walked. -/
namespace Go.Proofs.Ytelhjdplghpnbaa
open Go.RowKit Plain
set_option linter.unusedVariables false
set_option linter.unusedSimpArgs false

set_option maxHeartbeats 8000000 in
set_option maxRecDepth 1000000 in
theorem qclassOf (c : Nat → Int) (b : Nat → Bool) (pick : Int) (w : World) : Calls Try.prog 9 #[clsV c, wrkV b, .int .i64 pick] w fun e w' => e = .returned (.tuple #[clsV (classL c b pick).1, .int .i64 (classL c b pick).2]) ∧ Below w.heap.size w w' := by
  obtain ⟨w1, hw1⟩ : ∃ w1, w.alloc (.cells #[.int .i64 (c 0), .int .i64 (c 1), .int .i64 (c 2), .int .i64 (c 3)] 26) = w1 := ⟨_, rfl⟩
  obtain ⟨w2, hw2⟩ : ∃ w2, w1.alloc (.cells #[.bool (b 0), .bool (b 1), .bool (b 2), .bool (b 3)] 27) = w2 := ⟨_, rfl⟩
  obtain ⟨w3, hw3⟩ : ∃ w3, w2.alloc (.cells #[.int .i64 0, .int .i64 0, .int .i64 0, .int .i64 0] 26) = w3 := ⟨_, rfl⟩
  obtain ⟨w4, hw4⟩ : ∃ w4, w3.alloc (.cells #[.int .i64 0, .int .i64 0, .int .i64 0, .int .i64 0] 24) = w4 := ⟨_, rfl⟩
  have s1 : w1.heap.size = w.heap.size + 1 := by rw [← hw1]; simp
  have s2 : w2.heap.size = w.heap.size + 2 := by rw [← hw2]; simp [s1]
  have s3 : w3.heap.size = w.heap.size + 3 := by rw [← hw3]; simp [s2]
  have s4 : w4.heap.size = w.heap.size + 4 := by rw [← hw4]; simp [s3]
  have b1 : Below w.heap.size w w1 := by rw [← hw1]; exact (Below.refl _ _).alloc (Nat.le_refl _) _
  have b2 : Below w1.heap.size w1 w2 := by rw [← hw2]; exact (Below.refl _ _).alloc (Nat.le_refl _) _
  have b3 : Below w2.heap.size w2 w3 := by rw [← hw3]; exact (Below.refl _ _).alloc (Nat.le_refl _) _
  have b4 : Below w3.heap.size w3 w4 := by rw [← hw4]; exact (Below.refl _ _).alloc (Nat.le_refl _) _
  have x2 : w2.heap[w1.heap.size]? = some (.cells #[.bool (b 0), .bool (b 1), .bool (b 2), .bool (b 3)] 27) := by rw [← hw2]; show (w1.heap.push _)[w1.heap.size]? = _; simp
  have y2 := ((b4.block w1.heap.size (by omega)).trans (b3.block w1.heap.size (by omega))).trans x2
  have H0 : Hid (QcB w w4 w.heap.size w1.heap.size w2.heap.size w3.heap.size c b (fun j => if j < 0 then maskL b (fun j => clampW (c j)) j else 0)) := by
    have e1 : Bx4 w w1 w.heap.size c := by rw [← hw1]; exact Bx4.new (Nat.le_refl _) _ _ _ _ _ c ⟨rfl, rfl, rfl, rfl⟩
    have e3 : Bx4 w w3 w2.heap.size (fun _ => 0) := by rw [← hw3]; exact Bx4.new (by omega) _ _ _ _ _ _ ⟨rfl, rfl, rfl, rfl⟩
    have e4 : Bx4 w w4 w3.heap.size (fun j => if j < 0 then maskL b (fun j => clampW (c j)) j else 0) := by rw [← hw4]; exact Bx4.new (by omega) _ _ _ _ _ _ (by simp)
    refine ⟨((e1.later b2).later b3).later b4, four _ ?_ ?_ ?_ ?_, by omega, e3.later b4, e4, ((b1.trans (b2.mono (by omega))).trans (b3.mono (by omega))).trans (b4.mono (by omega)), by omega, by omega, by omega⟩
    all_goals simp [World.cell?, y2]
  unfold clsV wrkV
  clear x2 y2 b1 b2 b3 b4 s1 s2 s3 s4
  obtain ⟨B, hB⟩ : ∃ B, w.heap.size = B := ⟨_, rfl⟩
  obtain ⟨D, hD⟩ : ∃ D, w1.heap.size = D := ⟨_, rfl⟩
  obtain ⟨R, hR⟩ : ∃ R, w2.heap.size = R := ⟨_, rfl⟩
  obtain ⟨X, hX⟩ : ∃ X, w3.heap.size = X := ⟨_, rfl⟩
  rw [hB, hD, hR, hX] at H0
  have HS0 : Hid (w4.heap.size = w4.heap.size) := rfl
  obtain ⟨F, hF⟩ : ∃ F : Nat → Int, (fun j => clampW (c j)) = F := ⟨_, rfl⟩
  have HFI : Hid (∀ i, F i = clampW (c i)) := fun i => by rw [← hF]
  have HMB : Hid (∀ i, 0 ≤ maskL b F i ∧ maskL b F i ≤ 16) := fun i => by
    have := HFI.out i
    unfold maskL
    unfold clampW at this
    split <;> omega
  have HCI := Hid.mkS (fun K => class_is c b pick K F hF.symm)
  rw [hF] at H0
  clear hF
  have d0 := H0.out.w 0 (by omega)
  have d1 := H0.out.w 1 (by omega)
  have d2 := H0.out.w 2 (by omega)
  have d3 := H0.out.w 3 (by omega)
  have HPK := Hid.mkS (fun w => qpickedOf b pick w)
  obtain ⟨e0, he0⟩ : ∃ e, b 0 = e := ⟨_, rfl⟩
  obtain ⟨e1, he1⟩ : ∃ e, b 1 = e := ⟨_, rfl⟩
  obtain ⟨e2, he2⟩ : ∃ e, b 2 = e := ⟨_, rfl⟩
  obtain ⟨e3, he3⟩ : ∃ e, b 3 = e := ⟨_, rfl⟩
  rw [he0, he1, he2, he3]
  rw [he0, he1, he2, he3] at hw2 HPK
  rw [he0] at d0
  rw [he1] at d1
  rw [he2] at d2
  rw [he3] at d3
  have HE0 := Hid.mkS he0
  have HE1 := Hid.mkS he1
  have HE2 := Hid.mkS he2
  have HE3 := Hid.mkS he3
  clear he0 he1 he2 he3
  have t0 := ixB0 e0 e1 e2 e3
  have t1 := ixB1 e0 e1 e2 e3
  have t2 := ixB2 e0 e1 e2 e3
  have t3 := ixB3 e0 e1 e2 e3
  go_enter Try.func9, Try.ntmps9
  go_wp2
  clear d0 d1 d2 d3
  go_loopg [16] 4 (fun gk s16 wx => ∃ (i : Nat), i + gk = 4 ∧ s16 = .int .i64 i ∧ Hid (QcB w wx B D R X c b (fun j => if j < i then maskL b F j else 0)))
  case atStart => exact ⟨0, by omega, rfl, H0.out⟩
  case round =>
    obtain ⟨i, hi, rfl, HV⟩ := hrel
    cases gk with
    | succ gk1 =>
      have hi4 : i < 4 := by omega
      have hc := HV.out.c.c i hi4
      have hx := HV.out.x.c i hi4
      have hxf := HV.out.x.fz i hi4
      simp only [Nat.lt_irrefl, if_false] at hx
      have HST : Hid (b i = true → QcB w (wr.setCell ⟨X, i, none⟩ (.int .i64 (F i))) B D R X c b (fun j => if j < i + 1 then maskL b F j else 0)) := fun hb => HV.out.set hi4 (F i) (fun j hj => by
        by_cases e : j = i
        · subst e; simp [maskL, hb]
        · simp only [if_neg e]
          by_cases e2 : j < i
          · rw [if_pos e2, if_pos (by omega)]
          · rw [if_neg e2, if_neg (by omega)])
      have HSF : Hid (b i = false → QcB w wr B D R X c b (fun j => if j < i + 1 then maskL b F j else 0)) := fun hb => by
        have h := HV.out
        refine ⟨h.c, h.w, h.dl, h.r, ⟨fun j hj => ?_, h.x.fz, h.x.ge, h.x.lt⟩, h.below, h.nb, h.nd, h.nr⟩
        have := h.x.c j hj
        rw [this]
        by_cases e : j = i
        · subst e; simp [maskL, hb]
        · by_cases e2 : j < i
          · simp only [if_pos e2, if_pos (show j < i + 1 by omega)]
          · simp only [if_neg e2, if_neg (show ¬ j < i + 1 by omega)]
      have hF3 : (c i < 0 ∧ F i = 0) ∨ (0 ≤ c i ∧ c i ≤ 16 ∧ F i = c i) ∨ (16 < c i ∧ F i = 16) := by
        have := HFI.out i
        unfold clampW at this
        omega
      clear HV H0
      have hi5 : i = 0 ∨ i = 1 ∨ i = 2 ∨ i = 3 := by omega
      rcases hi5 with rfl | rfl | rfl | rfl
      · cases e0 with
        | true =>
          have HS := Hid.mkS (HST.out HE0.out)
          clear HST HSF
          rcases hF3 with ⟨q1, q2⟩ | ⟨q1, q2, q3⟩ | ⟨q1, q2⟩
          · rw [q2] at HS
            go_wp2
            try any_goals (exfalso; omega)
            go_roundg gk1
            case measure => omega
            case rel => exact ⟨0 + 1, by omega, rfl, HS.out⟩
          · rw [q3] at HS
            go_wp2
            try any_goals (exfalso; omega)
            go_roundg gk1
            case measure => omega
            case rel => exact ⟨0 + 1, by omega, rfl, HS.out⟩
          · rw [q2] at HS
            go_wp2
            try any_goals (exfalso; omega)
            go_roundg gk1
            case measure => omega
            case rel => exact ⟨0 + 1, by omega, rfl, HS.out⟩
        | false =>
          have HS := Hid.mkS (HSF.out HE0.out)
          clear HST HSF
          go_wp2
          go_roundg gk1
          case measure => omega
          case rel => exact ⟨0 + 1, by omega, rfl, HS.out⟩
      · cases e1 with
        | true =>
          have HS := Hid.mkS (HST.out HE1.out)
          clear HST HSF
          rcases hF3 with ⟨q1, q2⟩ | ⟨q1, q2, q3⟩ | ⟨q1, q2⟩
          · rw [q2] at HS
            go_wp2
            try any_goals (exfalso; omega)
            go_roundg gk1
            case measure => omega
            case rel => exact ⟨1 + 1, by omega, rfl, HS.out⟩
          · rw [q3] at HS
            go_wp2
            try any_goals (exfalso; omega)
            go_roundg gk1
            case measure => omega
            case rel => exact ⟨1 + 1, by omega, rfl, HS.out⟩
          · rw [q2] at HS
            go_wp2
            try any_goals (exfalso; omega)
            go_roundg gk1
            case measure => omega
            case rel => exact ⟨1 + 1, by omega, rfl, HS.out⟩
        | false =>
          have HS := Hid.mkS (HSF.out HE1.out)
          clear HST HSF
          go_wp2
          go_roundg gk1
          case measure => omega
          case rel => exact ⟨1 + 1, by omega, rfl, HS.out⟩
      · cases e2 with
        | true =>
          have HS := Hid.mkS (HST.out HE2.out)
          clear HST HSF
          rcases hF3 with ⟨q1, q2⟩ | ⟨q1, q2, q3⟩ | ⟨q1, q2⟩
          · rw [q2] at HS
            go_wp2
            try any_goals (exfalso; omega)
            go_roundg gk1
            case measure => omega
            case rel => exact ⟨2 + 1, by omega, rfl, HS.out⟩
          · rw [q3] at HS
            go_wp2
            try any_goals (exfalso; omega)
            go_roundg gk1
            case measure => omega
            case rel => exact ⟨2 + 1, by omega, rfl, HS.out⟩
          · rw [q2] at HS
            go_wp2
            try any_goals (exfalso; omega)
            go_roundg gk1
            case measure => omega
            case rel => exact ⟨2 + 1, by omega, rfl, HS.out⟩
        | false =>
          have HS := Hid.mkS (HSF.out HE2.out)
          clear HST HSF
          go_wp2
          go_roundg gk1
          case measure => omega
          case rel => exact ⟨2 + 1, by omega, rfl, HS.out⟩
      · cases e3 with
        | true =>
          have HS := Hid.mkS (HST.out HE3.out)
          clear HST HSF
          rcases hF3 with ⟨q1, q2⟩ | ⟨q1, q2, q3⟩ | ⟨q1, q2⟩
          · rw [q2] at HS
            go_wp2
            try any_goals (exfalso; omega)
            go_roundg gk1
            case measure => omega
            case rel => exact ⟨3 + 1, by omega, rfl, HS.out⟩
          · rw [q3] at HS
            go_wp2
            try any_goals (exfalso; omega)
            go_roundg gk1
            case measure => omega
            case rel => exact ⟨3 + 1, by omega, rfl, HS.out⟩
          · rw [q2] at HS
            go_wp2
            try any_goals (exfalso; omega)
            go_roundg gk1
            case measure => omega
            case rel => exact ⟨3 + 1, by omega, rfl, HS.out⟩
        | false =>
          have HS := Hid.mkS (HSF.out HE3.out)
          clear HST HSF
          go_wp2
          go_roundg gk1
          case measure => omega
          case rel => exact ⟨3 + 1, by omega, rfl, HS.out⟩
    | zero =>
      have hii : i = 4 := by omega
      subst hii
      have HV1 : Hid (QcB w wr B D R X c b (maskL b F)) := by
        have h := HV.out
        refine ⟨h.c, h.w, h.dl, h.r, ⟨fun j hj => ?_, h.x.fz, h.x.ge, h.x.lt⟩, h.below, h.nb, h.nd, h.nr⟩
        have := h.x.c j hj
        simp only [if_pos hj] at this
        exact this
      have m0 := HV1.out.x.c 0 (by omega)
      have m1 := HV1.out.x.c 1 (by omega)
      have m2 := HV1.out.x.c 2 (by omega)
      have m3 := HV1.out.x.c 3 (by omega)
      have HOV := Hid.mkS (fun u => qoverdueOf (maskL b F) u)
      clear HV H0
      obtain ⟨O, hO⟩ : ∃ O, overL (maskL b F) = O := ⟨_, rfl⟩
      rw [hO] at HOV HCI
      clear hO
      go_wp2_with fail
      refine (HOV.out _).mono ?_
      rintro e u1 ⟨rfl, hb1⟩
      have HV2 := Hid.mkS (HV1.out.later hb1)
      clear HV1 HOV hb1 m0 m1 m2 m3
      by_cases hO0 : O < 0
      · rw [if_pos hO0] at HCI
        have HC2 := Hid.mkS (HCI.out _ rfl)
        have d0 := HV2.out.w 0 (by omega)
        have d1 := HV2.out.w 1 (by omega)
        have d2 := HV2.out.w 2 (by omega)
        have d3 := HV2.out.w 3 (by omega)
        rw [HE0.out] at d0
        rw [HE1.out] at d1
        rw [HE2.out] at d2
        rw [HE3.out] at d3
        go_wp2_with fail
        refine (HPK.out _).mono ?_
        rintro e u2 ⟨rfl, hb2⟩
        have HV3 := Hid.mkS (HV2.out.later hb2)
        clear HV2 hb2 d0 d1 d2 d3 HPK
        obtain ⟨KP, hKP⟩ : ∃ KP, fromZ b (pick % 4).toNat = KP := ⟨_, rfl⟩
        rw [hKP] at HC2 ⊢
        clear hKP
        obtain ⟨G, hG⟩ : ∃ G : Nat → Int, (classL c b pick).1 = G := ⟨_, rfl⟩
        rw [hG] at HC2
        have HK2 := Hid.mkS HC2.out.1
        have HGI := Hid.mkS HC2.out.2
        clear HC2 HCI
        have HG := Hid.mkS hG
        clear hG
        obtain ⟨w5, hw5⟩ : ∃ w5, u2.alloc (.cells #[.int .i64 0, .int .i64 0, .int .i64 0, .int .i64 0] 26) = w5 := ⟨_, rfl⟩
        have HY : Hid (QcC w w5 B D R X u2.heap.size c b (maskL b F) (fun j => if j < 0 then G j else 0)) := by
          have := QcC.new HV3.out 26 (fun j => if j < 0 then G j else 0) (fun j _ => by simp)
          rw [hw5] at this
          exact this
        obtain ⟨Y, hY⟩ : ∃ Y, u2.heap.size = Y := ⟨_, rfl⟩
        rw [hY] at HY
        have d0 := HY.out.q.w 0 (by omega)
        have d1 := HY.out.q.w 1 (by omega)
        have d2 := HY.out.q.w 2 (by omega)
        have d3 := HY.out.q.w 3 (by omega)
        rw [HE0.out] at d0
        rw [HE1.out] at d1
        rw [HE2.out] at d2
        rw [HE3.out] at d3
        clear HV3
        go_wp2
        clear d0 d1 d2 d3
        go_loopg [38] 4 (fun gk s38 wx => ∃ (i : Nat), i + gk = 4 ∧ s38 = .int .i64 i ∧ Hid (QcC w wx B D R X Y c b (maskL b F) (fun j => if j < i then G j else 0)))
        case atStart => exact ⟨0, by omega, rfl, HY.out⟩
        case round =>
          obtain ⟨i, hi, rfl, HV⟩ := hrel
          cases gk with
          | succ gk1 =>
            have hi4 : i < 4 := by omega
            have hx := HV.out.q.x.c i hi4
            have hy := HV.out.y.c i hi4
            have hyf := HV.out.y.fz i hi4
            simp only [Nat.lt_irrefl, if_false] at hy
            have HST : Hid (QcC w (wr.setCell ⟨Y, i, none⟩ (.int .i64 (G i))) B D R X Y c b (maskL b F) (fun j => if j < i + 1 then G j else 0)) := HV.out.set hi4 (G i) (fun j hj => by
              by_cases e : j = i
              · subst e; simp
              · simp only [if_neg e]
                by_cases e2 : j < i
                · rw [if_pos e2, if_pos (by omega)]
                · rw [if_neg e2, if_neg (by omega)])
            have HSF : Hid (G i = 0 → QcC w wr B D R X Y c b (maskL b F) (fun j => if j < i + 1 then G j else 0)) := fun hb => by
              have h := HV.out
              refine ⟨h.q, ⟨fun j hj => ?_, h.y.fz, h.y.ge, h.y.lt⟩, h.n1, h.n2, h.n3, h.n4⟩
              have := h.y.c j hj
              rw [this]
              by_cases e : j = i
              · subst e; simp [hb]
              · by_cases e2 : j < i
                · simp only [if_pos e2, if_pos (show j < i + 1 by omega)]
                · simp only [if_neg e2, if_neg (show ¬ j < i + 1 by omega)]
            have hGi := HGI.out i hi4
            have hm := HMB.out i
            clear HV HY
            have hi5 : i = 0 ∨ i = 1 ∨ i = 2 ∨ i = 3 := by omega
            rcases hi5 with rfl | rfl | rfl | rfl
            · cases e0 with
              | true =>
                by_cases hk : (0 : Int) = KP
                · rw [if_neg (fun x => x.2 (by simpa using hk))] at hGi
                  have HS := Hid.mkS (HSF.out hGi)
                  clear HST HSF
                  subst hk
                  go_wp2
                  try any_goals (exfalso; omega)
                  go_roundg gk1
                  case measure => omega
                  case rel => exact ⟨0 + 1, by omega, rfl, HS.out⟩
                · rw [if_pos ⟨HE0.out, by simpa using hk⟩] at hGi
                  have HS := HST
                  rw [hGi] at HS
                  clear HST HSF
                  have hkd : decide ((0 : Int) ≠ KP) = true := by simpa using hk
                  obtain ⟨z, hz⟩ : ∃ z, maskL b F 0 = z := ⟨_, rfl⟩
                  rw [hz] at hx HS hm hGi
                  clear hz hGi
                  go_wp2
                  try any_goals (exfalso; omega)
                  go_roundg gk1
                  case measure => omega
                  case rel => exact ⟨0 + 1, by omega, rfl, HS.out⟩
              | false =>
                rw [if_neg (fun x => by rw [HE0.out] at x; cases x.1)] at hGi
                have HS := Hid.mkS (HSF.out hGi)
                clear HST HSF
                go_wp2
                go_roundg gk1
                case measure => omega
                case rel => exact ⟨0 + 1, by omega, rfl, HS.out⟩
            · cases e1 with
              | true =>
                by_cases hk : (1 : Int) = KP
                · rw [if_neg (fun x => x.2 (by simpa using hk))] at hGi
                  have HS := Hid.mkS (HSF.out hGi)
                  clear HST HSF
                  subst hk
                  go_wp2
                  try any_goals (exfalso; omega)
                  go_roundg gk1
                  case measure => omega
                  case rel => exact ⟨1 + 1, by omega, rfl, HS.out⟩
                · rw [if_pos ⟨HE1.out, by simpa using hk⟩] at hGi
                  have HS := HST
                  rw [hGi] at HS
                  clear HST HSF
                  have hkd : decide ((1 : Int) ≠ KP) = true := by simpa using hk
                  obtain ⟨z, hz⟩ : ∃ z, maskL b F 1 = z := ⟨_, rfl⟩
                  rw [hz] at hx HS hm hGi
                  clear hz hGi
                  go_wp2
                  try any_goals (exfalso; omega)
                  go_roundg gk1
                  case measure => omega
                  case rel => exact ⟨1 + 1, by omega, rfl, HS.out⟩
              | false =>
                rw [if_neg (fun x => by rw [HE1.out] at x; cases x.1)] at hGi
                have HS := Hid.mkS (HSF.out hGi)
                clear HST HSF
                go_wp2
                go_roundg gk1
                case measure => omega
                case rel => exact ⟨1 + 1, by omega, rfl, HS.out⟩
            · cases e2 with
              | true =>
                by_cases hk : (2 : Int) = KP
                · rw [if_neg (fun x => x.2 (by simpa using hk))] at hGi
                  have HS := Hid.mkS (HSF.out hGi)
                  clear HST HSF
                  subst hk
                  go_wp2
                  try any_goals (exfalso; omega)
                  go_roundg gk1
                  case measure => omega
                  case rel => exact ⟨2 + 1, by omega, rfl, HS.out⟩
                · rw [if_pos ⟨HE2.out, by simpa using hk⟩] at hGi
                  have HS := HST
                  rw [hGi] at HS
                  clear HST HSF
                  have hkd : decide ((2 : Int) ≠ KP) = true := by simpa using hk
                  obtain ⟨z, hz⟩ : ∃ z, maskL b F 2 = z := ⟨_, rfl⟩
                  rw [hz] at hx HS hm hGi
                  clear hz hGi
                  go_wp2
                  try any_goals (exfalso; omega)
                  go_roundg gk1
                  case measure => omega
                  case rel => exact ⟨2 + 1, by omega, rfl, HS.out⟩
              | false =>
                rw [if_neg (fun x => by rw [HE2.out] at x; cases x.1)] at hGi
                have HS := Hid.mkS (HSF.out hGi)
                clear HST HSF
                go_wp2
                go_roundg gk1
                case measure => omega
                case rel => exact ⟨2 + 1, by omega, rfl, HS.out⟩
            · cases e3 with
              | true =>
                by_cases hk : (3 : Int) = KP
                · rw [if_neg (fun x => x.2 (by simpa using hk))] at hGi
                  have HS := Hid.mkS (HSF.out hGi)
                  clear HST HSF
                  subst hk
                  go_wp2
                  try any_goals (exfalso; omega)
                  go_roundg gk1
                  case measure => omega
                  case rel => exact ⟨3 + 1, by omega, rfl, HS.out⟩
                · rw [if_pos ⟨HE3.out, by simpa using hk⟩] at hGi
                  have HS := HST
                  rw [hGi] at HS
                  clear HST HSF
                  have hkd : decide ((3 : Int) ≠ KP) = true := by simpa using hk
                  obtain ⟨z, hz⟩ : ∃ z, maskL b F 3 = z := ⟨_, rfl⟩
                  rw [hz] at hx HS hm hGi
                  clear hz hGi
                  go_wp2
                  try any_goals (exfalso; omega)
                  go_roundg gk1
                  case measure => omega
                  case rel => exact ⟨3 + 1, by omega, rfl, HS.out⟩
              | false =>
                rw [if_neg (fun x => by rw [HE3.out] at x; cases x.1)] at hGi
                have HS := Hid.mkS (HSF.out hGi)
                clear HST HSF
                go_wp2
                go_roundg gk1
                case measure => omega
                case rel => exact ⟨3 + 1, by omega, rfl, HS.out⟩
          | zero =>
            have hii : i = 4 := by omega
            subst hii
            have y0 := HV.out.y.c 0 (by omega)
            have y1 := HV.out.y.c 1 (by omega)
            have y2 := HV.out.y.c 2 (by omega)
            have y3 := HV.out.y.c 3 (by omega)
            simp only [show (0 : Nat) < 4 from by omega, show (1 : Nat) < 4 from by omega, show (2 : Nat) < 4 from by omega, show (3 : Nat) < 4 from by omega, if_true] at y0 y1 y2 y3
            have r0 := HV.out.q.r.c 0 (by omega)
            have r1 := HV.out.q.r.c 1 (by omega)
            have r2 := HV.out.q.r.c 2 (by omega)
            have r3 := HV.out.q.r.c 3 (by omega)
            have f0 := HV.out.q.r.fz 0 (by omega)
            have f1 := HV.out.q.r.fz 1 (by omega)
            have f2 := HV.out.q.r.fz 2 (by omega)
            have f3 := HV.out.q.r.fz 3 (by omega)
            obtain ⟨k0, k1, k2, k3, kb⟩ := HV.out.q.r.store HV.out.q.below (G 0) (G 1) (G 2) (G 3)
            have HKB := Hid.mkS kb
            clear HV HY kb
            go_wp2
            refine bodyPost_ret (v := .tuple #[.agg #[.int .i64 (G 0), .int .i64 (G 1), .int .i64 (G 2), .int .i64 (G 3)], .int .i64 KP]) ?hres rfl ?_
            case hres =>
              rw [results_cell_tmp rfl]
              go_simp
            exact ⟨by rw [HG.out, HK2.out], by first | exact HKB.out | (rw [← hB]; exact HKB.out)⟩
      · rw [if_neg hO0] at HCI
        have HC2 := Hid.mkS (HCI.out _ rfl)
        clear HPK
        obtain ⟨G, hG⟩ : ∃ G : Nat → Int, (classL c b pick).1 = G := ⟨_, rfl⟩
        rw [hG] at HC2
        have HK2 := Hid.mkS HC2.out.1
        have HGI := Hid.mkS HC2.out.2
        clear HC2 HCI
        have HG := Hid.mkS hG
        clear hG
        obtain ⟨w5, hw5⟩ : ∃ w5, u1.alloc (.cells #[.int .i64 0, .int .i64 0, .int .i64 0, .int .i64 0] 26) = w5 := ⟨_, rfl⟩
        have HY : Hid (QcC w w5 B D R X u1.heap.size c b (maskL b F) (fun j => if j < 0 then G j else 0)) := by
          have := QcC.new HV2.out 26 (fun j => if j < 0 then G j else 0) (fun j _ => by simp)
          rw [hw5] at this
          exact this
        obtain ⟨Y, hY⟩ : ∃ Y, u1.heap.size = Y := ⟨_, rfl⟩
        rw [hY] at HY
        have d0 := HY.out.q.w 0 (by omega)
        have d1 := HY.out.q.w 1 (by omega)
        have d2 := HY.out.q.w 2 (by omega)
        have d3 := HY.out.q.w 3 (by omega)
        rw [HE0.out] at d0
        rw [HE1.out] at d1
        rw [HE2.out] at d2
        rw [HE3.out] at d3
        clear HV2
        go_wp2
        clear d0 d1 d2 d3
        go_loopg [38] 4 (fun gk s38 wx => ∃ (i : Nat), i + gk = 4 ∧ s38 = .int .i64 i ∧ Hid (QcC w wx B D R X Y c b (maskL b F) (fun j => if j < i then G j else 0)))
        case atStart => exact ⟨0, by omega, rfl, HY.out⟩
        case round =>
          obtain ⟨i, hi, rfl, HV⟩ := hrel
          cases gk with
          | succ gk1 =>
            have hi4 : i < 4 := by omega
            have hx := HV.out.q.x.c i hi4
            have hy := HV.out.y.c i hi4
            have hyf := HV.out.y.fz i hi4
            simp only [Nat.lt_irrefl, if_false] at hy
            have HST : Hid (QcC w (wr.setCell ⟨Y, i, none⟩ (.int .i64 (G i))) B D R X Y c b (maskL b F) (fun j => if j < i + 1 then G j else 0)) := HV.out.set hi4 (G i) (fun j hj => by
              by_cases e : j = i
              · subst e; simp
              · simp only [if_neg e]
                by_cases e2 : j < i
                · rw [if_pos e2, if_pos (by omega)]
                · rw [if_neg e2, if_neg (by omega)])
            have HSF : Hid (G i = 0 → QcC w wr B D R X Y c b (maskL b F) (fun j => if j < i + 1 then G j else 0)) := fun hb => by
              have h := HV.out
              refine ⟨h.q, ⟨fun j hj => ?_, h.y.fz, h.y.ge, h.y.lt⟩, h.n1, h.n2, h.n3, h.n4⟩
              have := h.y.c j hj
              rw [this]
              by_cases e : j = i
              · subst e; simp [hb]
              · by_cases e2 : j < i
                · simp only [if_pos e2, if_pos (show j < i + 1 by omega)]
                · simp only [if_neg e2, if_neg (show ¬ j < i + 1 by omega)]
            have hGi := HGI.out i hi4
            have hm := HMB.out i
            clear HV HY
            have hi5 : i = 0 ∨ i = 1 ∨ i = 2 ∨ i = 3 := by omega
            rcases hi5 with rfl | rfl | rfl | rfl
            · cases e0 with
              | true =>
                by_cases hk : (0 : Int) = O
                · rw [if_neg (fun x => x.2 (by simpa using hk))] at hGi
                  have HS := Hid.mkS (HSF.out hGi)
                  clear HST HSF
                  subst hk
                  go_wp2
                  try any_goals (exfalso; omega)
                  go_roundg gk1
                  case measure => omega
                  case rel => exact ⟨0 + 1, by omega, rfl, HS.out⟩
                · rw [if_pos ⟨HE0.out, by simpa using hk⟩] at hGi
                  have HS := HST
                  rw [hGi] at HS
                  clear HST HSF
                  have hkd : decide ((0 : Int) ≠ O) = true := by simpa using hk
                  obtain ⟨z, hz⟩ : ∃ z, maskL b F 0 = z := ⟨_, rfl⟩
                  rw [hz] at hx HS hm hGi
                  clear hz hGi
                  go_wp2
                  try any_goals (exfalso; omega)
                  go_roundg gk1
                  case measure => omega
                  case rel => exact ⟨0 + 1, by omega, rfl, HS.out⟩
              | false =>
                rw [if_neg (fun x => by rw [HE0.out] at x; cases x.1)] at hGi
                have HS := Hid.mkS (HSF.out hGi)
                clear HST HSF
                go_wp2
                go_roundg gk1
                case measure => omega
                case rel => exact ⟨0 + 1, by omega, rfl, HS.out⟩
            · cases e1 with
              | true =>
                by_cases hk : (1 : Int) = O
                · rw [if_neg (fun x => x.2 (by simpa using hk))] at hGi
                  have HS := Hid.mkS (HSF.out hGi)
                  clear HST HSF
                  subst hk
                  go_wp2
                  try any_goals (exfalso; omega)
                  go_roundg gk1
                  case measure => omega
                  case rel => exact ⟨1 + 1, by omega, rfl, HS.out⟩
                · rw [if_pos ⟨HE1.out, by simpa using hk⟩] at hGi
                  have HS := HST
                  rw [hGi] at HS
                  clear HST HSF
                  have hkd : decide ((1 : Int) ≠ O) = true := by simpa using hk
                  obtain ⟨z, hz⟩ : ∃ z, maskL b F 1 = z := ⟨_, rfl⟩
                  rw [hz] at hx HS hm hGi
                  clear hz hGi
                  go_wp2
                  try any_goals (exfalso; omega)
                  go_roundg gk1
                  case measure => omega
                  case rel => exact ⟨1 + 1, by omega, rfl, HS.out⟩
              | false =>
                rw [if_neg (fun x => by rw [HE1.out] at x; cases x.1)] at hGi
                have HS := Hid.mkS (HSF.out hGi)
                clear HST HSF
                go_wp2
                go_roundg gk1
                case measure => omega
                case rel => exact ⟨1 + 1, by omega, rfl, HS.out⟩
            · cases e2 with
              | true =>
                by_cases hk : (2 : Int) = O
                · rw [if_neg (fun x => x.2 (by simpa using hk))] at hGi
                  have HS := Hid.mkS (HSF.out hGi)
                  clear HST HSF
                  subst hk
                  go_wp2
                  try any_goals (exfalso; omega)
                  go_roundg gk1
                  case measure => omega
                  case rel => exact ⟨2 + 1, by omega, rfl, HS.out⟩
                · rw [if_pos ⟨HE2.out, by simpa using hk⟩] at hGi
                  have HS := HST
                  rw [hGi] at HS
                  clear HST HSF
                  have hkd : decide ((2 : Int) ≠ O) = true := by simpa using hk
                  obtain ⟨z, hz⟩ : ∃ z, maskL b F 2 = z := ⟨_, rfl⟩
                  rw [hz] at hx HS hm hGi
                  clear hz hGi
                  go_wp2
                  try any_goals (exfalso; omega)
                  go_roundg gk1
                  case measure => omega
                  case rel => exact ⟨2 + 1, by omega, rfl, HS.out⟩
              | false =>
                rw [if_neg (fun x => by rw [HE2.out] at x; cases x.1)] at hGi
                have HS := Hid.mkS (HSF.out hGi)
                clear HST HSF
                go_wp2
                go_roundg gk1
                case measure => omega
                case rel => exact ⟨2 + 1, by omega, rfl, HS.out⟩
            · cases e3 with
              | true =>
                by_cases hk : (3 : Int) = O
                · rw [if_neg (fun x => x.2 (by simpa using hk))] at hGi
                  have HS := Hid.mkS (HSF.out hGi)
                  clear HST HSF
                  subst hk
                  go_wp2
                  try any_goals (exfalso; omega)
                  go_roundg gk1
                  case measure => omega
                  case rel => exact ⟨3 + 1, by omega, rfl, HS.out⟩
                · rw [if_pos ⟨HE3.out, by simpa using hk⟩] at hGi
                  have HS := HST
                  rw [hGi] at HS
                  clear HST HSF
                  have hkd : decide ((3 : Int) ≠ O) = true := by simpa using hk
                  obtain ⟨z, hz⟩ : ∃ z, maskL b F 3 = z := ⟨_, rfl⟩
                  rw [hz] at hx HS hm hGi
                  clear hz hGi
                  go_wp2
                  try any_goals (exfalso; omega)
                  go_roundg gk1
                  case measure => omega
                  case rel => exact ⟨3 + 1, by omega, rfl, HS.out⟩
              | false =>
                rw [if_neg (fun x => by rw [HE3.out] at x; cases x.1)] at hGi
                have HS := Hid.mkS (HSF.out hGi)
                clear HST HSF
                go_wp2
                go_roundg gk1
                case measure => omega
                case rel => exact ⟨3 + 1, by omega, rfl, HS.out⟩
          | zero =>
            have hii : i = 4 := by omega
            subst hii
            have y0 := HV.out.y.c 0 (by omega)
            have y1 := HV.out.y.c 1 (by omega)
            have y2 := HV.out.y.c 2 (by omega)
            have y3 := HV.out.y.c 3 (by omega)
            simp only [show (0 : Nat) < 4 from by omega, show (1 : Nat) < 4 from by omega, show (2 : Nat) < 4 from by omega, show (3 : Nat) < 4 from by omega, if_true] at y0 y1 y2 y3
            have r0 := HV.out.q.r.c 0 (by omega)
            have r1 := HV.out.q.r.c 1 (by omega)
            have r2 := HV.out.q.r.c 2 (by omega)
            have r3 := HV.out.q.r.c 3 (by omega)
            have f0 := HV.out.q.r.fz 0 (by omega)
            have f1 := HV.out.q.r.fz 1 (by omega)
            have f2 := HV.out.q.r.fz 2 (by omega)
            have f3 := HV.out.q.r.fz 3 (by omega)
            obtain ⟨k0, k1, k2, k3, kb⟩ := HV.out.q.r.store HV.out.q.below (G 0) (G 1) (G 2) (G 3)
            have HKB := Hid.mkS kb
            clear HV HY kb
            go_wp2
            refine bodyPost_ret (v := .tuple #[.agg #[.int .i64 (G 0), .int .i64 (G 1), .int .i64 (G 2), .int .i64 (G 3)], .int .i64 O]) ?hres rfl ?_
            case hres =>
              rw [results_cell_tmp rfl]
              go_simp
            exact ⟨by rw [HG.out, HK2.out], by first | exact HKB.out | (rw [← hB]; exact HKB.out)⟩
theorem classOk : ClassOk := fun c b pick u hp hc => qclassOf c b pick u
end Go.Proofs.Ytelhjdplghpnbaa
