import Derived.Test.YtlnppgjppfkocaaGreatDoorGp18
/-! ShellPrints's walk. -/
namespace Go.Proofs.YtlnppgjppfkocaaGreatDoor.Xs
open Go.RowKit Plain
set_option linter.unusedVariables false
set_option linter.unusedSimpArgs false

theorem by_ext {x y : By} (hl : x.length = y.length) (h : ∀ j, j < y.length → x.getD j 0 = y.getD j 0) : x = y := by
  refine List.ext_getElem hl fun j h1 h2 => ?_
  have := h j h2
  rw [List.getD_eq_getElem?_getD, List.getD_eq_getElem?_getD, List.getElem?_eq_getElem h1, List.getElem?_eq_getElem h2] at this
  exact this
theorem in_ext {x y : List Int} (hl : x.length = y.length) (h : ∀ j, j < y.length → x.getD j 0 = y.getD j 0) : x = y := by
  refine List.ext_getElem hl fun j h1 h2 => ?_
  have := h j h2
  rw [List.getD_eq_getElem?_getD, List.getD_eq_getElem?_getD, List.getElem?_eq_getElem h1, List.getElem?_eq_getElem h2] at this
  exact this
theorem set_step {α : Type} {x y : List α} {d : α} {k : Nat} (hk : k < x.length) (h : ∀ j, j < k → x.getD j d = y.getD j d) : ∀ j, j < k + 1 → (x.set k (y.getD k d)).getD j d = y.getD j d := fun j hj => by
  by_cases e : j = k
  · subst e
    rw [List.getD_eq_getElem?_getD (l := x.set _ _), List.getElem?_set_self hk]; rfl
  · rw [List.getD_eq_getElem?_getD (l := x.set _ _), List.getElem?_set_ne (Ne.symm e), ← List.getD_eq_getElem?_getD]
    exact h j (by omega)

set_option maxHeartbeats 16000000 in
set_option maxRecDepth 100000 in
theorem printsWalk {Tb : World → Prop} (hTb : Kept Tb) (hP : PrintOk Tb) (c : Cm) (vr vp : Value) (w : World) (h1 : BysAt w vr c.raw) (h2 : PksAt w vp c.picks) (hw : WfC c) (hz : SzC c) (ht : Tb w) :
    Calls Tryz.prog 5 #[cmV c vr vp] w fun e w' => e = .returned (.bool true) ∧ Below w.heap.size w w' := by
  have hl1 : c.raw.length ≤ 140737488352000 := by obtain ⟨_, _, _, _, h, _⟩ := h1; exact h
  have hl2 : c.picks.length ≤ 17592186044000 := by obtain ⟨_, _, _, _, h, _⟩ := h2; exact h
  have HTB : Hid (∀ u, Below w.heap.size w u → Tb u) := fun u hu => hTb w u ht hu
  have H1 := mkH h1
  have H2 := mkH h2
  have HW := mkH hw
  have HZ := mkH hz
  have HP := mkH hP
  obtain ⟨ar, kr, rfl, _⟩ := h1
  obtain ⟨ap, kp, rfl, _⟩ := h2
  clear hw hz hP
  have hx1 := cmBox w c (.slice ar c.raw.length kr) (.slice ap c.picks.length kp) 28
  obtain ⟨W1, hW1⟩ : ∃ u, w.alloc (.cells #[.int .i64 c.verb, .int .i64 c.conn, .int .u32 c.req.id, .int .i64 c.req.op, .string (ba c.req.topic), .string (ba c.req.key), .string (ba c.req.value), .int .i64 c.req.offset, .int .i64 c.req.number, .int .i64 c.req.pid, .int .i64 c.req.seq, .slice ar c.raw.length kr, .int .i64 c.n, .slice ap c.picks.length kp] 28) = u := ⟨_, rfl⟩
  rw [hW1] at hx1
  obtain ⟨X0, hX0⟩ : ∃ X, w.heap.size = X := ⟨_, rfl⟩
  have HB1 : Hid (Below w.heap.size w W1) := hx1.1
  have HX1 : Hid (∀ u, Below W1.heap.size W1 u → CmAt u X0 c (.slice ar c.raw.length kr) (.slice ap c.picks.length kp)) := fun u hu => by rw [← hX0]; exact hx1.2.later hu
  have HRD : Hid (∀ u, Below W1.heap.size W1 u → BysAt u (.slice ar c.raw.length kr) c.raw ∧ PksAt u (.slice ap c.picks.length kp) c.picks) := fun u hu => ⟨(H1.out.later HB1.out).later hu, (H2.out.later HB1.out).later hu⟩
  have HCP : Hid (Calls Tryz.prog 13 #[cmV c (.slice ar c.raw.length kr) (.slice ap c.picks.length kp)] W1 fun e w' => (∃ g h cr cp, e = .returned (cmV c (.slice (some ⟨g, 0, none⟩) c.raw.length cr) (.slice (some ⟨h, 0, none⟩) c.picks.length cp)) ∧ CpL W1 w' c.raw c.picks g h cr cp) ∧ Below W1.heap.size W1 w') := lcopiedOf c _ _ W1 (HRD.out W1 (Below.refl _ _)).1 (HRD.out W1 (Below.refl _ _)).2
  obtain ⟨z0, z1, z2, z3, z4, z5, z6, z7, z8, z9, z10, z11, z12, z13⟩ := HX1.out W1 (Below.refl _ _)
  clear hx1 H1 H2
  go_enter Tryz.func5, Tryz.ntmps5
  go_wp2_with fail
  refine HCP.out.mono ?_
  rintro e w2 ⟨⟨g, h, cr, cp, rfl, hcp⟩, hb2⟩
  have hx3 := cmBox w2 c (.slice (some ⟨g, 0, none⟩) c.raw.length cr) (.slice (some ⟨h, 0, none⟩) c.picks.length cp) 28
  obtain ⟨W3, hW3⟩ : ∃ u, w2.alloc (.cells #[.int .i64 c.verb, .int .i64 c.conn, .int .u32 c.req.id, .int .i64 c.req.op, .string (ba c.req.topic), .string (ba c.req.key), .string (ba c.req.value), .int .i64 c.req.offset, .int .i64 c.req.number, .int .i64 c.req.pid, .int .i64 c.req.seq, .slice (some ⟨g, 0, none⟩) c.raw.length cr, .int .i64 c.n, .slice (some ⟨h, 0, none⟩) c.picks.length cp] 28) = u := ⟨_, rfl⟩
  rw [hW3] at hx3
  obtain ⟨Xd, hXd⟩ : ∃ X, w2.heap.size = X := ⟨_, rfl⟩
  have HS0 : Hid (PrS W1 W3 Xd c g h cr cp c.raw c.picks) := by
    have e1 := Own.lt hcp.r
    have e2 := OwnV.lt hcp.p
    exact ⟨hcp.later hx3.1, by rw [← hXd]; exact hx3.2, below_on hb2 hx3.1, rfl, rfl, HW.out.picks, by omega, by omega⟩
  clear HCP hcp hb2 hx3 z0 z1 z2 z3 z4 z5 z6 z7 z8 z9 z10 z11 z12 z13 hW1
  go_wp2
  clear hW3
  go_loopw [4] (fun i wl => ∃ (k : Nat) (X : By) (P : List Int), k ≤ c.raw.length ∧ i = .int .i64 k ∧ Hid (PrS W1 wl Xd c g h cr cp X P)) (fun i _ => c.raw.length - (intOf i).toNat)
  case atStart => exact ⟨0, _, _, Nat.zero_le _, rfl, HS0⟩
  case round =>
    clear HS0
    obtain ⟨k, X, P, hk, rfl, HS⟩ := hrel
    obtain ⟨z0, z1, z2, z3, z4, z5, z6, z7, z8, z9, z10, z11, z12, z13⟩ := HS.out.box
    by_cases hp : k < c.raw.length
    · have hki : (k : Int) < (c.raw.length : Int) := by omega
      have hkx : k < X.length := by rw [HS.out.lx]; exact hp
      obtain ⟨q1, q2, _⟩ := HS.out.l.setB hkx 0
      have hxo := xor255 (X.getD k 0)
      have HN : Hid (PrS W1 (wr.setCell ⟨g, k, none⟩ (.int .u8 ((UInt8.ofNat (255 - (X.getD k 0).toNat)).toNat : Int))).drew Xd c g h cr cp (X.set k (UInt8.ofNat (255 - (X.getD k 0).toNat))) P) := HS.out.setB hkx _
      have hq := HS.out.l.caps
      rw [HS.out.lx, HS.out.lp] at hq
      generalize UInt8.ofNat (255 - (X.getD k 0).toNat) = y at *
      generalize X.getD k 0 = x0 at *
      clear HS hkx
      go_wp2
      go_region
      all_goals go_wp2
      exact ⟨⟨k + 1, _, P, by omega, by go_num, HN⟩, by simp [intOf]; omega⟩
    · have hki : ¬ (k : Int) < (c.raw.length : Int) := by omega
      have HS1 := HS
      clear HS
      go_wp2
      clear z0 z1 z2 z3 z4 z5 z6 z7 z8 z9 z10 z11 z12 z13
      go_loopw [5] (fun i wl => ∃ (k : Nat) (X : By) (P : List Int), k ≤ c.picks.length ∧ i = .int .i64 k ∧ Hid (PrS W1 wl Xd c g h cr cp X P)) (fun i _ => c.picks.length - (intOf i).toNat)
      case atStart => exact ⟨0, _, _, Nat.zero_le _, rfl, HS1⟩
      case round =>
        clear HS1
        obtain ⟨k, X, P, hk, rfl, HS⟩ := hrel
        obtain ⟨z0, z1, z2, z3, z4, z5, z6, z7, z8, z9, z10, z11, z12, z13⟩ := HS.out.box
        by_cases hp : k < c.picks.length
        · have hki : (k : Int) < (c.picks.length : Int) := by omega
          have hkx : k < P.length := by rw [HS.out.lp]; exact hp
          obtain ⟨q1, q2, _⟩ := HS.out.l.setP hkx 0
          have HN : Hid (∀ y, I64 y → PrS W1 (wr.setCell ⟨h, k, none⟩ (.int .i64 y)).drew Xd c g h cr cp X (P.set k y)) := fun y hy => HS.out.setP hkx y hy
          have hq := HS.out.l.caps
          rw [HS.out.lx, HS.out.lp] at hq
          generalize P.getD k 0 = x0 at *
          clear HS hkx
          go_wp2
          go_region
          all_goals go_wp2
          exact ⟨⟨k + 1, X, _, by omega, by go_num, HN.out _ (wrapI _)⟩, by simp [intOf]; omega⟩
        · have hki : ¬ (k : Int) < (c.picks.length : Int) := by omega
          have hlx := HS.out.lx
          have hlp := HS.out.lp
          have HPR : Hid (Calls Tryz.prog 8 #[cmV c (.slice (some ⟨g, 0, none⟩) c.raw.length cr) (.slice (some ⟨h, 0, none⟩) c.picks.length cp)] wr fun e w' => (∃ l z, e = .returned (.tuple #[.string (ba l), .int .i64 z]) ∧ PriA ⟨c.verb, c.conn, c.req, X, c.n, P⟩ l z) ∧ Below wr.heap.size wr w') := by
            have b1 := HS.out.l.bys (by rw [hlx]; exact hl1)
            have b2 := HS.out.l.pks (by rw [hlp]; exact hl2)
            rw [hlx] at b1
            rw [hlp] at b2
            exact HP.out ⟨c.verb, c.conn, c.req, X, c.n, P⟩ _ _ wr (HTB.out _ (below_on HB1.out HS.out.be)) b1 b2 ⟨HW.out.verb, HW.out.conn, HW.out.req, HW.out.n, HS.out.ok⟩ ⟨HZ.out.topic, HZ.out.key, HZ.out.value⟩
          go_wp2_with fail
          refine HPR.out.mono ?_
          rintro e w6 ⟨⟨l6, v6, rfl, _⟩, hb6⟩
          have HS2 : Hid (PrS W1 w6 Xd c g h cr cp X P) := HS.out.later hb6
          clear HS HPR hb6 hlx hlp z0 z1 z2 z3 z4 z5 z6 z7 z8 z9 z10 z11 z12 z13
          go_wp2
          go_loopw [6] (fun i wl => ∃ (k : Nat) (X : By) (P : List Int), k ≤ c.raw.length ∧ i = .int .i64 k ∧ Hid (∀ j, j < k → X.getD j 0 = c.raw.getD j 0) ∧ Hid (PrS W1 wl Xd c g h cr cp X P)) (fun i _ => c.raw.length - (intOf i).toNat)
          case atStart => exact ⟨0, _, _, Nat.zero_le _, rfl, fun j hj => absurd hj (Nat.not_lt_zero _), HS2⟩
          case round =>
            clear HS2
            obtain ⟨k, X, P, hk, rfl, HE, HS⟩ := hrel
            obtain ⟨z0, z1, z2, z3, z4, z5, z6, z7, z8, z9, z10, z11, z12, z13⟩ := HS.out.box
            obtain ⟨y0, y1, y2, y3, y4, y5, y6, y7, y8, y9, y10, y11, y12, y13⟩ := HX1.out wr HS.out.be
            by_cases hp : k < c.raw.length
            · have hki : (k : Int) < (c.raw.length : Int) := by omega
              have hkx : k < X.length := by rw [HS.out.lx]; exact hp
              obtain ⟨q1, q2, _⟩ := HS.out.l.setB hkx 0
              obtain ⟨_, _, e0, _, _, hc0⟩ := (HRD.out wr HS.out.be).1
              cases e0
              obtain ⟨br, obr, rfl, hcr⟩ := hc0 (fun e => by rw [e] at hp; simp at hp)
              have c0 := hcr k hp
              have HN : Hid (PrS W1 (wr.setCell ⟨g, k, none⟩ (.int .u8 ((c.raw.getD k 0).toNat : Int))).drew Xd c g h cr cp (X.set k (c.raw.getD k 0)) P) := HS.out.setB hkx _
              have HE2 : Hid (∀ j, j < k + 1 → (X.set k (c.raw.getD k 0)).getD j 0 = c.raw.getD j 0) := set_step hkx HE.out
              have hq := HS.out.l.caps
              rw [HS.out.lx, HS.out.lp] at hq
              clear HS hkx HE hcr hc0
              generalize X.set k (c.raw.getD k 0) = X2 at *
              generalize (c.raw.getD k 0).toNat = x0 at *
              generalize (X.getD k 0).toNat = x1 at *
              go_wp2
              go_region
              all_goals go_wp2
              exact ⟨⟨k + 1, X2, P, by omega, by go_num, HE2, HN⟩, by simp [intOf]; omega⟩
            · have hki : ¬ (k : Int) < (c.raw.length : Int) := by omega
              have hkn : k = c.raw.length := by omega
              have hXe : X = c.raw := by_ext HS.out.lx (fun j hj => HE.out j (by rw [hkn]; exact hj))
              subst hXe
              have HS3 := HS
              clear HS HE hkn
              go_wp2
              clear z0 z1 z2 z3 z4 z5 z6 z7 z8 z9 z10 z11 z12 z13 y0 y1 y2 y3 y4 y5 y6 y7 y8 y9 y10 y11 y12 y13
              go_loopw [7] (fun i wl => ∃ (k : Nat) (P : List Int), k ≤ c.picks.length ∧ i = .int .i64 k ∧ Hid (∀ j, j < k → P.getD j 0 = c.picks.getD j 0) ∧ Hid (PrS W1 wl Xd c g h cr cp c.raw P)) (fun i _ => c.picks.length - (intOf i).toNat)
              case atStart => exact ⟨0, _, Nat.zero_le _, rfl, fun j hj => absurd hj (Nat.not_lt_zero _), HS3⟩
              case round =>
                clear HS3
                obtain ⟨k, P, hk, rfl, HE, HS⟩ := hrel
                obtain ⟨z0, z1, z2, z3, z4, z5, z6, z7, z8, z9, z10, z11, z12, z13⟩ := HS.out.box
                obtain ⟨y0, y1, y2, y3, y4, y5, y6, y7, y8, y9, y10, y11, y12, y13⟩ := HX1.out wr HS.out.be
                by_cases hp : k < c.picks.length
                · have hki : (k : Int) < (c.picks.length : Int) := by omega
                  have hkx : k < P.length := by rw [HS.out.lp]; exact hp
                  obtain ⟨q1, q2, _⟩ := HS.out.l.setP hkx 0
                  obtain ⟨_, _, e0, _, _, hc0⟩ := (HRD.out wr HS.out.be).2
                  cases e0
                  obtain ⟨br, obr, rfl, hcr⟩ := hc0 (fun e => by rw [e] at hp; simp at hp)
                  have c0 := hcr k hp
                  have hi0 : I64 (c.picks.getD k 0) := HW.out.picks _ (by rw [List.getD_eq_getElem?_getD, List.getElem?_eq_getElem hp]; exact List.getElem_mem hp)
                  have HN : Hid (PrS W1 (wr.setCell ⟨h, k, none⟩ (.int .i64 (c.picks.getD k 0))).drew Xd c g h cr cp c.raw (P.set k (c.picks.getD k 0))) := HS.out.setP hkx _ hi0
                  have HE2 : Hid (∀ j, j < k + 1 → (P.set k (c.picks.getD k 0)).getD j 0 = c.picks.getD j 0) := set_step hkx HE.out
                  have hq := HS.out.l.caps
                  rw [HS.out.lp] at hq
                  clear HS hkx HE hcr hc0 hi0
                  generalize P.set k (c.picks.getD k 0) = P2 at *
                  generalize c.picks.getD k 0 = x0 at *
                  generalize P.getD k 0 = x1 at *
                  go_wp2
                  go_region
                  all_goals go_wp2
                  exact ⟨⟨k + 1, P2, by omega, by go_num, HE2, HN⟩, by simp [intOf]; omega⟩
                · have hki : ¬ (k : Int) < (c.picks.length : Int) := by omega
                  have hkn : k = c.picks.length := by omega
                  have hPe : P = c.picks := in_ext HS.out.lp (fun j hj => HE.out j (by rw [hkn]; exact hj))
                  subst hPe
                  have HPR : Hid (Calls Tryz.prog 8 #[cmV c (.slice (some ⟨g, 0, none⟩) c.raw.length cr) (.slice (some ⟨h, 0, none⟩) c.picks.length cp)] wr fun e w' => (∃ l z, e = .returned (.tuple #[.string (ba l), .int .i64 z]) ∧ PriA c l z) ∧ Below wr.heap.size wr w') := HP.out c _ _ wr (HTB.out _ (below_on HB1.out HS.out.be)) (HS.out.l.bys hl1) (HS.out.l.pks hl2) HW.out HZ.out
                  clear HE hkn
                  go_wp2_with fail
                  refine HPR.out.mono ?_
                  rintro e w7 ⟨⟨l7, v7, rfl, hp7⟩, hb7⟩
                  have HS7 : Hid (PrS W1 w7 Xd c g h cr cp c.raw c.picks) := HS.out.later hb7
                  have HP7 := mkH hp7
                  clear HS HPR hb7 hp7 z0 z1 z2 z3 z4 z5 z6 z7 z8 z9 z10 z11 z12 z13 y0 y1 y2 y3 y4 y5 y6 y7 y8 y9 y10 y11 y12 y13
                  obtain ⟨y0, y1, y2, y3, y4, y5, y6, y7, y8, y9, y10, y11, y12, y13⟩ := HX1.out w7 HS7.out.be
                  have HPS : Hid (Calls Tryz.prog 14 #[cmV c (.slice ar c.raw.length kr) (.slice ap c.picks.length kp)] w7 fun e w' => (∃ l z, e = .returned (.tuple #[.string (ba l), .int .i64 z]) ∧ PriA c l z) ∧ Below w7.heap.size w7 w') := rprintOf c _ _ w7 (HRD.out w7 HS7.out.be).1 (HRD.out w7 HS7.out.be).2 HW.out HZ.out
                  go_wp2_with fail
                  refine HPS.out.mono ?_
                  rintro e w8 ⟨⟨l8, v8, rfl, hp8⟩, hb8⟩
                  obtain ⟨rfl, rfl⟩ := HP7.out.one hp8
                  have HS8 : Hid (PrS W1 w8 Xd c g h cr cp c.raw c.picks) := HS7.out.later hb8
                  clear HS7 HPS hb8 hp8 HP7 y0 y1 y2 y3 y4 y5 y6 y7 y8 y9 y10 y11 y12 y13
                  have HKE : Hid (Calls Tryz.prog 15 #[cmV c (.slice (some ⟨g, 0, none⟩) c.raw.length cr) (.slice (some ⟨h, 0, none⟩) c.picks.length cp), cmV c (.slice ar c.raw.length kr) (.slice ap c.picks.length kp)] w8 fun e w' => e = .returned (.bool true) ∧ Below w8.heap.size w8 w') := lkeptOf c _ _ g h cr cp W1 w8 HS8.out.l (HRD.out w8 HS8.out.be).1 (HRD.out w8 HS8.out.be).2
                  obtain ⟨z0, z1, z2, z3, z4, z5, z6, z7, z8, z9, z10, z11, z12, z13⟩ := HS8.out.box
                  obtain ⟨y0, y1, y2, y3, y4, y5, y6, y7, y8, y9, y10, y11, y12, y13⟩ := HX1.out w8 HS8.out.be
                  have HB8 : Hid (Below w.heap.size w w8) := below_on HB1.out HS8.out.be
                  clear HS8 HX1 HRD
                  go_wp2_with fail
                  refine HKE.out.mono ?_
                  rintro e w9 ⟨rfl, hb9⟩
                  have HB9 : Hid (Below w.heap.size w w9) := below_on HB8.out hb9
                  clear HKE hb9 HB8 z0 z1 z2 z3 z4 z5 z6 z7 z8 z9 z10 z11 z12 z13 y0 y1 y2 y3 y4 y5 y6 y7 y8 y9 y10 y11 y12 y13
                  go_wp2
                  go_ret
                  exact ⟨rfl, HB9.out⟩
end Go.Proofs.YtlnppgjppfkocaaGreatDoor.Xs
