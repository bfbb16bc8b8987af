import Derived.Test.YtlnppgjppfkocaaGreatDoorGq15
import Derived.Test.YtlnppgjppfkocaaGreatDoorGq18
/-! ShellParses's walk. -/
namespace Go.Proofs.YtlnppgjppfkocaaGreatDoor.Xs
open Go.RowKit Plain
set_option linter.unusedVariables false
set_option linter.unusedSimpArgs false

theorem NewL.later {W w w' : World} {c : Cm} {vr vp : Value} (h : NewL W w c vr vp) (hb : Below w.heap.size w w') : NewL W w' c vr vp := by
  obtain ⟨r, s, h1, h2, h3⟩ := h.ex
  exact ⟨r, s, h1.later hb, h2.of_block hb.size (fun g e => hb.block g (by subst e; exact h2.lt)), h3⟩

set_option maxHeartbeats 16000000 in
set_option maxRecDepth 100000 in
theorem parsesWalk {Tb : World → Prop} (hTb : Kept Tb) (hR : ParseOk Tb) (line : By) (w : World) (hl : line.length ≤ 1125899906842624) (ht : Tb w) :
    Calls Tryz.prog 6 #[.string (ba line)] w fun e w' => e = .returned (.bool true) ∧ Below w.heap.size w w' := by
  have HTB : Hid (∀ u, Below w.heap.size w u → Tb u) := fun u hu => hTb w u ht hu
  have HR := mkH hR
  have HD := mkH (fun u => rparseOf line hl u)
  clear hR
  go_enter Tryz.func6, Tryz.ntmps6
  go_wp2_with fail
  refine (HR.out line _ ht hl).mono ?_
  rintro e w1 ⟨⟨c, vr, vp, z, rfl, hwc, hpc, hnc⟩, hb1⟩
  have HRC := mkH (hnc.reads hpc)
  have HPC := mkH hpc
  have HLC := mkH (par_lens hpc)
  obtain ⟨a1, k1, rfl, _⟩ := HRC.out.1
  obtain ⟨a2, k2, rfl, _⟩ := HRC.out.2
  have hx2 := cmBox w1 c (.slice a1 c.raw.length k1) (.slice a2 c.picks.length k2) 28
  obtain ⟨W2, hW2⟩ : ∃ u, w1.alloc (.cells #[.int .i64 c.verb, .int .i64 c.conn, .int .u32 c.req.id, .int .i64 c.req.op, .string (ba c.req.topic), .string (ba c.req.key), .string (ba c.req.value), .int .i64 c.req.offset, .int .i64 c.req.number, .int .i64 c.req.pid, .int .i64 c.req.seq, .slice a1 c.raw.length k1, .int .i64 c.n, .slice a2 c.picks.length k2] 28) = u := ⟨_, rfl⟩
  rw [hW2] at hx2
  have HB2 : Hid (Below w.heap.size w W2) := below_on hb1 hx2.1
  have HB12 := mkH hx2.1
  have HX2 : Hid (∀ u, Below W2.heap.size W2 u → CmAt u w1.heap.size c (.slice a1 c.raw.length k1) (.slice a2 c.picks.length k2)) := fun u hu => hx2.2.later hu
  clear hx2 hb1 hnc hpc
  go_wp2_with fail
  refine (HR.out line _ (HTB.out _ HB2.out) hl).mono ?_
  rintro e w3 ⟨⟨c', ur, up, z', rfl, hwc', hpc', hnc'⟩, hb3⟩
  obtain ⟨rfl, rfl⟩ := HPC.out.one hwc hpc' hwc'
  have hrd := hnc'.reads hpc'
  obtain ⟨a3, k3, rfl, _⟩ := hrd.1
  obtain ⟨a4, k4, rfl, _⟩ := hrd.2
  have hx4 := cmBox w3 c (.slice a3 c.raw.length k3) (.slice a4 c.picks.length k4) 28
  obtain ⟨W4, hW4⟩ : ∃ u, w3.alloc (.cells #[.int .i64 c.verb, .int .i64 c.conn, .int .u32 c.req.id, .int .i64 c.req.op, .string (ba c.req.topic), .string (ba c.req.key), .string (ba c.req.value), .int .i64 c.req.offset, .int .i64 c.req.number, .int .i64 c.req.pid, .int .i64 c.req.seq, .slice a3 c.raw.length k3, .int .i64 c.n, .slice a4 c.picks.length k4] 28) = u := ⟨_, rfl⟩
  rw [hW4] at hx4
  have hb24 : Below W2.heap.size W2 W4 := below_on hb3 hx4.1
  have HB24 := mkH hb24
  have HSP : Hid (Calls Tryz.prog 16 #[cmV c (.slice a3 c.raw.length k3) (.slice a4 c.picks.length k4)] W4 fun e w' => e = .returned (.int .i64 ((c.raw.length : Int) + (c.picks.length : Int) + 128)) ∧ Below W2.heap.size W4 w') := lspoiltOf c _ _ W2 W4 (hnc'.later hx4.1) HLC.out.1 HLC.out.2.1 hb24.size hb24
  obtain ⟨z0, z1, z2, z3, z4, z5, z6, z7, z8, z9, z10, z11, z12, z13⟩ := hx4.2
  clear hx4 hb24 hb3 hnc' hpc' hrd hW2
  go_wp2_with fail
  refine HSP.out.mono ?_
  rintro e w5 ⟨rfl, hb5⟩
  have HB5 : Hid (Below W2.heap.size W2 w5) := HB24.out.trans hb5
  clear hb5 HSP HB24 z0 z1 z2 z3 z4 z5 z6 z7 z8 z9 z10 z11 z12 z13 hW4
  go_wp2_with fail
  refine (HD.out _).mono ?_
  rintro e w6 ⟨⟨d, vr', vp', y, rfl, hwd, hpd, hd1, hd2⟩, hb6⟩
  obtain ⟨rfl, rfl⟩ := HPC.out.one hwc hpd hwd
  have HRD : Hid (BysAt w6 vr' c.raw ∧ PksAt w6 vp' c.picks) := ⟨hd1, hd2⟩
  obtain ⟨a5, k5, rfl, _⟩ := hd1
  obtain ⟨a6, k6, rfl, _⟩ := hd2
  have hb26 : Below W2.heap.size W2 w6 := below_on HB5.out hb6
  have hx7 := cmBox w6 c (.slice a5 c.raw.length k5) (.slice a6 c.picks.length k6) 28
  obtain ⟨W7, hW7⟩ : ∃ u, w6.alloc (.cells #[.int .i64 c.verb, .int .i64 c.conn, .int .u32 c.req.id, .int .i64 c.req.op, .string (ba c.req.topic), .string (ba c.req.key), .string (ba c.req.value), .int .i64 c.req.offset, .int .i64 c.req.number, .int .i64 c.req.pid, .int .i64 c.req.seq, .slice a5 c.raw.length k5, .int .i64 c.n, .slice a6 c.picks.length k6] 28) = u := ⟨_, rfl⟩
  rw [hW7] at hx7
  have hb27 : Below W2.heap.size W2 W7 := below_on hb26 hx7.1
  have HB7 : Hid (Below w.heap.size w W7) := below_on HB2.out hb27
  have HSA : Hid (Calls Tryz.prog 11 #[cmV c (.slice a1 c.raw.length k1) (.slice a2 c.picks.length k2), cmV c (.slice a5 c.raw.length k5) (.slice a6 c.picks.length k6)] W7 fun e w' => e = .returned (.bool true) ∧ Below W7.heap.size W7 w') := lsameOf c _ _ _ _ W7 ((HRC.out.1.later HB12.out).later hb27) ((HRC.out.2.later HB12.out).later hb27) (HRD.out.1.later hx7.1) (HRD.out.2.later hx7.1)
  have HX7 : Hid (∀ u, Below W7.heap.size W7 u → CmAt u w6.heap.size c (.slice a5 c.raw.length k5) (.slice a6 c.picks.length k6)) := fun u hu => hx7.2.later hu
  obtain ⟨y0, y1, y2, y3, y4, y5, y6, y7, y8, y9, y10, y11, y12, y13⟩ := hx7.2
  obtain ⟨z0, z1, z2, z3, z4, z5, z6, z7, z8, z9, z10, z11, z12, z13⟩ := HX2.out W7 hb27
  clear hx7 hb27 hb26 hb6 hpd HRC HRD HB12 HB5
  go_wp2_with fail
  refine HSA.out.mono ?_
  rintro e w8 ⟨rfl, hb8⟩
  clear z0 z1 z2 z3 z4 z5 z6 z7 z8 z9 z10 z11 z12 z13 y0 y1 y2 y3 y4 y5 y6 y7 y8 y9 y10 y11 y12 y13 HSA hW7
  obtain ⟨y0, y1, y2, y3, y4, y5, y6, y7, y8, y9, y10, y11, y12, y13⟩ := HX7.out w8 hb8
  have HB8 : Hid (Below w.heap.size w w8) := below_on HB7.out hb8
  have hl1 := HLC.out.1
  have hl2 := HLC.out.2.1
  clear HX7 HB7 hb8 HX2
  generalize c.raw.length = nr at *
  generalize c.picks.length = np at *
  go_wp2
  go_ret
  exact ⟨by first | rfl | simp, HB8.out⟩
end Go.Proofs.YtlnppgjppfkocaaGreatDoor.Xs
