import Derived.Test.YtlnppgjppfkocaaGreatDoorGq42
/-! ShellRound's walk. -/
namespace Go.Proofs.YtlnppgjppfkocaaGreatDoor.Xs
open Go.RowKit Plain
set_option linter.unusedVariables false
set_option linter.unusedSimpArgs false

theorem par_zero_same : BysAt = BysAt := rfl
set_option maxHeartbeats 16000000 in
set_option maxRecDepth 100000 in
theorem roundWalk {Tb : World → Prop} (hTb : Kept Tb) (hP : PrintOk Tb) (hR : ParseOk Tb) (c : Cm) (vr vp : Value) (line : By) (w : World) (h1 : BysAt w vr c.raw) (h2 : PksAt w vp c.picks) (hw : WfC c) (hz : SzC c) (hl : line.length ≤ 1125899906842624) (ht : Tb w) :
    Calls Tryz.prog 4 #[cmV c vr vp, .string (ba line)] w fun e w' => e = .returned (.bool true) ∧ Below w.heap.size w w' := by
  have HTB : Hid (∀ u, Below w.heap.size w u → Tb u) := fun u hu => hTb w u ht hu
  have H1 := mkH h1
  have H2 := mkH h2
  have HW := mkH hw
  have HZ := mkH hz
  obtain ⟨ar, cr, rfl, _⟩ := h1
  obtain ⟨ap, cp, rfl, _⟩ := h2
  clear hw hz
  have hx1 := cmBox w c (.slice ar c.raw.length cr) (.slice ap c.picks.length cp) 28
  obtain ⟨W1, hW1⟩ : ∃ u, w.alloc (.cells #[.int .i64 c.verb, .int .i64 c.conn, .int .u32 c.req.id, .int .i64 c.req.op, .string (ba c.req.topic), .string (ba c.req.key), .string (ba c.req.value), .int .i64 c.req.offset, .int .i64 c.req.number, .int .i64 c.req.pid, .int .i64 c.req.seq, .slice ar c.raw.length cr, .int .i64 c.n, .slice ap c.picks.length cp] 28) = u := ⟨_, rfl⟩
  rw [hW1] at hx1
  have HB1 : Hid (Below w.heap.size w W1) := hx1.1
  have HX1 : Hid (∀ u, Below W1.heap.size W1 u → CmAt u w.heap.size c (.slice ar c.raw.length cr) (.slice ap c.picks.length cp)) := fun u hu => hx1.2.later hu
  have HWK := mkH (fun u (hu : Tb u) => lworksOf hTb hP hR u hu)
  have HPR : Hid (∀ u, Below W1.heap.size W1 u → Calls Tryz.prog 8 #[cmV c (.slice ar c.raw.length cr) (.slice ap c.picks.length cp)] u fun e w' => (∃ l z, e = .returned (.tuple #[.string (ba l), .int .i64 z]) ∧ PriA c l z) ∧ Below u.heap.size u w') := fun u hu => hP c _ _ u (HTB.out u (below_on HB1.out hu)) ((H1.out.later HB1.out).later hu) ((H2.out.later HB1.out).later hu) HW.out HZ.out
  have HRD : Hid (∀ u, Below W1.heap.size W1 u → BysAt u (.slice ar c.raw.length cr) c.raw ∧ PksAt u (.slice ap c.picks.length cp) c.picks) := fun u hu => ⟨(H1.out.later HB1.out).later hu, (H2.out.later HB1.out).later hu⟩
  have HP := mkH hP
  have HR := mkH hR
  clear hx1 H1 H2 hP hR
  go_enter Tryz.func4, Tryz.ntmps4
  go_wp2_with fail
  refine (HWK.out _ (HTB.out _ HB1.out)).mono ?_
  rintro e w2 ⟨rfl, hb2⟩
  obtain ⟨z0, z1, z2, z3, z4, z5, z6, z7, z8, z9, z10, z11, z12, z13⟩ := HX1.out w2 hb2
  have HB2 := mkH hb2
  clear hb2 HWK hW1
  go_wp2_with fail
  refine (HPR.out _ HB2.out).mono ?_
  rintro e w3 ⟨⟨s, z, rfl, hpr⟩, hb3⟩
  have HB3 : Hid (Below W1.heap.size W1 w3) := below_on HB2.out hb3
  clear hb3 HPR HB2 z0 z1 z2 z3 z4 z5 z6 z7 z8 z9 z10 z11 z12 z13
  rcases hpr with ⟨hs, hz0⟩ | ⟨hs, hs2, hz0⟩
  · subst hz0
    have hsl : s.length ≤ 4096 := hs.2.2
    have HV : Hid (∀ u, Calls Tryz.prog 12 #[.string (ba s)] u fun e w' => e = .returned (.bool true) ∧ w' = u) := fun u => lvisibleOf s (by omega) hs.vis u
    have hne : ¬ s = [] := hs.ne
    have HS := mkH hs
    clear hs
    go_wp2_with fail
    refine (HR.out s _ (HTB.out _ (below_on HB1.out HB3.out)) (by omega)).mono ?_
    rintro e w4 ⟨⟨d, vd, vq, z2, rfl, hwd, hpd, hnd⟩, hb4⟩
    have hrd := mkH (hnd.reads hpd)
    obtain ⟨rfl, rfl⟩ := hpd.one hwd (.inl ⟨HS.out, rfl⟩) HW.out
    have HB4 : Hid (Below W1.heap.size W1 w4) := below_on HB3.out hb4
    clear hnd hb4 HB3 hpd hwd
    obtain ⟨a4, c4, rfl, _⟩ := hrd.out.1
    obtain ⟨b4, d4, rfl, _⟩ := hrd.out.2
    have hx5 := cmBox w4 d (.slice a4 d.raw.length c4) (.slice b4 d.picks.length d4) 28
    obtain ⟨W5, hW5⟩ : ∃ u, w4.alloc (.cells #[.int .i64 d.verb, .int .i64 d.conn, .int .u32 d.req.id, .int .i64 d.req.op, .string (ba d.req.topic), .string (ba d.req.key), .string (ba d.req.value), .int .i64 d.req.offset, .int .i64 d.req.number, .int .i64 d.req.pid, .int .i64 d.req.seq, .slice a4 d.raw.length c4, .int .i64 d.n, .slice b4 d.picks.length d4] 28) = u := ⟨_, rfl⟩
    rw [hW5] at hx5
    have HB5 : Hid (Below W1.heap.size W1 W5) := below_on HB4.out hx5.1
    have HSA : Hid (Calls Tryz.prog 11 #[cmV d (.slice a4 d.raw.length c4) (.slice b4 d.picks.length d4), cmV d (.slice ar d.raw.length cr) (.slice ap d.picks.length cp)] W5 fun e w' => e = .returned (.bool true) ∧ Below W5.heap.size W5 w') := lsameOf d _ _ _ _ W5 (hrd.out.1.later hx5.1) (hrd.out.2.later hx5.1) (HRD.out W5 HB5.out).1 (HRD.out W5 HB5.out).2
    obtain ⟨y0, y1, y2, y3, y4, y5, y6, y7, y8, y9, y10, y11, y12, y13⟩ := hx5.2
    obtain ⟨z0, z1, z2, z3, z4, z5, z6, z7, z8, z9, z10, z11, z12, z13⟩ := HX1.out W5 HB5.out
    clear hrd hx5 HB4 HRD
    go_wp2_with fail
    refine HSA.out.mono ?_
    rintro e w6 ⟨rfl, hb6⟩
    have HB6 : Hid (Below W1.heap.size W1 w6) := below_on HB5.out hb6
    clear hb6 HSA HB5 hW5 z0 z1 z2 z3 z4 z5 z6 z7 z8 z9 z10 z11 z12 z13 y0 y1 y2 y3 y4 y5 y6 y7 y8 y9 y10 y11 y12 y13
    go_wp2_with fail
    refine (HV.out _).mono ?_
    rintro e w7 ⟨rfl, rfl⟩
    have hsz : (ba s).size = s.length := rfl
    have hsi : ¬ (4096 : Int) < (s.length : Int) := by omega
    have hn2 : (s == []) = false := by simpa using hne
    have hn3 : s.isEmpty = false := by simpa using hne
    clear HV HS
    go_wp2_with fail
    refine (HR.out line _ (HTB.out _ (below_on HB1.out HB6.out)) hl).mono ?_
    rintro e w8 ⟨⟨d, vd, vq, z3, rfl, hwd, hpd, hnd⟩, hb8⟩
    have hrd := mkH (hnd.reads hpd)
    have HB8 : Hid (Below W1.heap.size W1 w8) := below_on HB6.out hb8
    have hsz := (par_lens hpd).2.2
    have HSZ := mkH hsz
    clear hnd hb8 hsz HB6
    obtain ⟨a8, c8, rfl, _⟩ := hrd.out.1
    obtain ⟨b8, d8, rfl, _⟩ := hrd.out.2
    have hx9 := cmBox w8 d (.slice a8 d.raw.length c8) (.slice b8 d.picks.length d8) 28
    obtain ⟨W9, hW9⟩ : ∃ u, w8.alloc (.cells #[.int .i64 d.verb, .int .i64 d.conn, .int .u32 d.req.id, .int .i64 d.req.op, .string (ba d.req.topic), .string (ba d.req.key), .string (ba d.req.value), .int .i64 d.req.offset, .int .i64 d.req.number, .int .i64 d.req.pid, .int .i64 d.req.seq, .slice a8 d.raw.length c8, .int .i64 d.n, .slice b8 d.picks.length d8] 28) = u := ⟨_, rfl⟩
    rw [hW9] at hx9
    have HB9 : Hid (Below w.heap.size w W9) := below_on HB1.out (below_on HB8.out hx9.1)
    have HRD9 : Hid (BysAt W9 (.slice a8 d.raw.length c8) d.raw ∧ PksAt W9 (.slice b8 d.picks.length d8) d.picks) := ⟨hrd.out.1.later hx9.1, hrd.out.2.later hx9.1⟩
    obtain ⟨z0, z1, z2, z3, z4, z5, z6, z7, z8, z9, z10, z11, z12, z13⟩ := hx9.2
    clear hrd hx9 HB8
    rcases hpd with ⟨hd1, hd2⟩ | ⟨hd1, hd2, hd3⟩
    · subst hd2
      have HD := mkH hd1
      clear hd1
      go_wp2_with fail
      refine (HP.out d _ _ W9 (HTB.out _ HB9.out) HRD9.out.1 HRD9.out.2 hwd HSZ.out).mono ?_
      rintro e w10 ⟨⟨t, y, rfl, hpt⟩, hb10⟩
      obtain ⟨rfl, rfl⟩ := hpt.one (.inl ⟨HD.out, rfl⟩)
      have HB10 : Hid (Below w.heap.size w w10) := below_on HB9.out hb10
      clear hpt hb10 z0 z1 z2 z3 z4 z5 z6 z7 z8 z9 z10 z11 z12 z13 hW9
      go_wp2
      go_ret
      exact ⟨rfl, HB10.out⟩
    · subst hd2 hd3
      clear hd1
      have HSA : Hid (Calls Tryz.prog 11 #[cmV Cm.zero (.slice a8 Cm.zero.raw.length c8) (.slice b8 Cm.zero.picks.length d8), .agg #[.int .i64 0, .int .i64 0, .int .u32 0, .int .i64 0, .string ⟨#[]⟩, .string ⟨#[]⟩, .string ⟨#[]⟩, .int .i64 0, .int .i64 0, .int .i64 0, .int .i64 0, .slice none 0 0, .int .i64 0, .slice none 0 0]] W9 fun e w' => e = .returned (.bool true) ∧ Below W9.heap.size W9 w') := lsameOf Cm.zero _ _ (.slice none 0 0) (.slice none 0 0) W9 HRD9.out.1 HRD9.out.2 ⟨none, 0, rfl, Nat.le_refl _, Nat.zero_le _, fun h => absurd rfl h⟩ ⟨none, 0, rfl, Nat.le_refl _, Nat.zero_le _, fun h => absurd rfl h⟩
      go_wp2_with fail
      refine HSA.out.mono ?_
      rintro e w10 ⟨rfl, hb10⟩
      have HB10 : Hid (Below w.heap.size w w10) := below_on HB9.out hb10
      clear hb10 z0 z1 z2 z3 z4 z5 z6 z7 z8 z9 z10 z11 z12 z13 hW9 HSA
      go_wp2
      go_ret
      exact ⟨rfl, HB10.out⟩

  · subst hs2 hz0
    clear hs
    go_wp2_with fail
    refine (HR.out line _ (HTB.out _ (below_on HB1.out HB3.out)) hl).mono ?_
    rintro e w8 ⟨⟨d, vd, vq, z3, rfl, hwd, hpd, hnd⟩, hb8⟩
    have hrd := mkH (hnd.reads hpd)
    have HB8 : Hid (Below W1.heap.size W1 w8) := below_on HB3.out hb8
    have hsz := (par_lens hpd).2.2
    have HSZ := mkH hsz
    clear hnd hb8 hsz HB3
    obtain ⟨a8, c8, rfl, _⟩ := hrd.out.1
    obtain ⟨b8, d8, rfl, _⟩ := hrd.out.2
    have hx9 := cmBox w8 d (.slice a8 d.raw.length c8) (.slice b8 d.picks.length d8) 28
    obtain ⟨W9, hW9⟩ : ∃ u, w8.alloc (.cells #[.int .i64 d.verb, .int .i64 d.conn, .int .u32 d.req.id, .int .i64 d.req.op, .string (ba d.req.topic), .string (ba d.req.key), .string (ba d.req.value), .int .i64 d.req.offset, .int .i64 d.req.number, .int .i64 d.req.pid, .int .i64 d.req.seq, .slice a8 d.raw.length c8, .int .i64 d.n, .slice b8 d.picks.length d8] 28) = u := ⟨_, rfl⟩
    rw [hW9] at hx9
    have HB9 : Hid (Below w.heap.size w W9) := below_on HB1.out (below_on HB8.out hx9.1)
    have HRD9 : Hid (BysAt W9 (.slice a8 d.raw.length c8) d.raw ∧ PksAt W9 (.slice b8 d.picks.length d8) d.picks) := ⟨hrd.out.1.later hx9.1, hrd.out.2.later hx9.1⟩
    obtain ⟨z0, z1, z2, z3, z4, z5, z6, z7, z8, z9, z10, z11, z12, z13⟩ := hx9.2
    clear hrd hx9 HB8
    rcases hpd with ⟨hd1, hd2⟩ | ⟨hd1, hd2, hd3⟩
    · subst hd2
      have HD := mkH hd1
      clear hd1
      go_wp2_with fail
      refine (HP.out d _ _ W9 (HTB.out _ HB9.out) HRD9.out.1 HRD9.out.2 hwd HSZ.out).mono ?_
      rintro e w10 ⟨⟨t, y, rfl, hpt⟩, hb10⟩
      obtain ⟨rfl, rfl⟩ := hpt.one (.inl ⟨HD.out, rfl⟩)
      have HB10 : Hid (Below w.heap.size w w10) := below_on HB9.out hb10
      clear hpt hb10 z0 z1 z2 z3 z4 z5 z6 z7 z8 z9 z10 z11 z12 z13 hW9
      go_wp2
      go_ret
      exact ⟨rfl, HB10.out⟩
    · subst hd2 hd3
      clear hd1
      have HSA : Hid (Calls Tryz.prog 11 #[cmV Cm.zero (.slice a8 Cm.zero.raw.length c8) (.slice b8 Cm.zero.picks.length d8), .agg #[.int .i64 0, .int .i64 0, .int .u32 0, .int .i64 0, .string ⟨#[]⟩, .string ⟨#[]⟩, .string ⟨#[]⟩, .int .i64 0, .int .i64 0, .int .i64 0, .int .i64 0, .slice none 0 0, .int .i64 0, .slice none 0 0]] W9 fun e w' => e = .returned (.bool true) ∧ Below W9.heap.size W9 w') := lsameOf Cm.zero _ _ (.slice none 0 0) (.slice none 0 0) W9 HRD9.out.1 HRD9.out.2 ⟨none, 0, rfl, Nat.le_refl _, Nat.zero_le _, fun h => absurd rfl h⟩ ⟨none, 0, rfl, Nat.le_refl _, Nat.zero_le _, fun h => absurd rfl h⟩
      go_wp2_with fail
      refine HSA.out.mono ?_
      rintro e w10 ⟨rfl, hb10⟩
      have HB10 : Hid (Below w.heap.size w w10) := below_on HB9.out hb10
      clear hb10 z0 z1 z2 z3 z4 z5 z6 z7 z8 z9 z10 z11 z12 z13 hW9 HSA
      go_wp2
      go_ret
      exact ⟨rfl, HB10.out⟩
end Go.Proofs.YtlnppgjppfkocaaGreatDoor.Xs
