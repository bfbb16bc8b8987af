import Derived.Test.YtlnppgjppfkocaaGreatDoorGq17
/-! Lines: the document's Parse. -/
namespace Go.Proofs.YtlnppgjppfkocaaGreatDoor.Xs
open Go.RowKit Plain
set_option linter.unusedVariables false
set_option linter.unusedSimpArgs false

theorem wfc_zero : WfC Cm.zero := ⟨⟨by decide, by decide⟩, ⟨by decide, by decide⟩, wf_zero, ⟨by decide, by decide⟩, fun x h => by cases h⟩
theorem par_none {line : By} (h : ∀ d, WfC d → ¬ IsLine d line) : ParA line Cm.zero 230 := .inr ⟨h, rfl, rfl⟩
/-- Read and written: the line's command, or none. -/
theorem par_of {line l : By} {c : Cm} {z : Int} (hr : RdC line c) (hp : PriA c l z) : (z = 0 ∧ l = line → ParA line c 0) ∧ (¬ (z = 0 ∧ l = line) → ParA line Cm.zero 230) := by
  refine ⟨fun ⟨h1, h2⟩ => ?_, fun h => par_none fun d hw hd => h ?_⟩
  · rcases hp with ⟨k1, k2⟩ | ⟨_, _, k3⟩
    · rw [h2] at k1; exact .inl ⟨k1, rfl⟩
    · rw [h1] at k3; cases k3
  · have e := hr d ⟨hw, hd.1, hd.2.1⟩
    subst e
    rcases hp with ⟨k1, k2⟩ | ⟨k1, _, _⟩
    · exact ⟨k2, k1.2.1.symm.trans hd.2.1⟩
    · exact (k1 line hd).elim

set_option maxHeartbeats 8000000 in
set_option maxRecDepth 100000 in
theorem rparseOf (line : By) (hlen : line.length ≤ 1125899906842624) (w : World) :
    Calls Tryz.prog 17 #[.string (ba line)] w fun e w' => (∃ c vr vp z, e = .returned (.tuple #[cmV c vr vp, .int .i64 z]) ∧ WfC c ∧ ParA line c z ∧ BysAt w' vr c.raw ∧ PksAt w' vp c.picks) ∧ Below w.heap.size w w' := by
  have hsz : (ba line).size = line.length := rfl
  obtain ⟨W0, hW0⟩ : ∃ W0, w.alloc (.cells #[.int .i64 0, .int .i64 0, .int .u32 0, .int .i64 0, .string ⟨#[]⟩, .string ⟨#[]⟩, .string ⟨#[]⟩, .int .i64 0, .int .i64 0, .int .i64 0, .int .i64 0, .slice none 0 0, .int .i64 0, .slice none 0 0] 28) = W0 := ⟨_, rfl⟩
  have hb0 : Below w.heap.size w W0 := by rw [← hW0]; exact (Below.refl _ _).alloc (Nat.le_refl _) _
  have hR0 : Bx w W0 w.heap.size (cmLst Cm.zero nilV nilV) := by rw [← hW0]; exact Bx.new (Nat.le_refl _) (cmLst Cm.zero nilV nilV) 28
  go_enter Tryz.func17, Tryz.ntmps17
  by_cases hl : line.length ≤ 4096
  · have hli : ¬ (4096 : Int) < (line.length : Int) := by omega
    have HRD := mkH (rreadOf line hl)
    clear hlen
    go_wp2_with fail
    refine (HRD.out _).mono ?_
    rintro e w1 ⟨⟨c, vr, vp, rfl, hwf, hsc, hrd, hrow⟩, hb⟩
    obtain ⟨hvr, hvp⟩ := hrow w1 (Up.refl _ _)
    have HROW := mkH hrow
    have hR0l := hR0.lt
    obtain ⟨R, hRd⟩ : ∃ R, w.heap.size = R := ⟨_, rfl⟩
    rw [hRd] at hR0 hR0l
    have HR1 : Hid (Bx w w1 R (cmLst Cm.zero nilV nilV)) := hR0.later hb
    have HB1 : Hid (Below w.heap.size w w1) := below_on hb0 hb
    have HVR := mkH hvr
    have HVP := mkH hvp
    have HWF := mkH hwf
    have HSC := mkH hsc
    have HRD2 := mkH hrd
    have hRw : R < w1.heap.size := HR1.out.lt
    obtain ⟨ar, cr, rfl, _⟩ := hvr
    obtain ⟨ap, cp, rfl, _⟩ := hvp
    have hx := cmBox w1 c (.slice ar c.raw.length cr) (.slice ap c.picks.length cp) 28
    obtain ⟨W4, hW4⟩ : ∃ u, w1.alloc (.cells #[.int .i64 c.verb, .int .i64 c.conn, .int .u32 c.req.id, .int .i64 c.req.op, .string (ba c.req.topic), .string (ba c.req.key), .string (ba c.req.value), .int .i64 c.req.offset, .int .i64 c.req.number, .int .i64 c.req.pid, .int .i64 c.req.seq, .slice ar c.raw.length cr, .int .i64 c.n, .slice ap c.picks.length cp] 28) = u := ⟨_, rfl⟩
    rw [show (w1.alloc (.cells (cmA c (.slice ar c.raw.length cr) (.slice ap c.picks.length cp)) 28)) = W4 from hW4] at hx
    have HBX : Hid (Below w1.heap.size w1 W4) := hx.1
    have HX : Hid (∀ u, Below W4.heap.size W4 u → CmAt u w1.heap.size c (.slice ar c.raw.length cr) (.slice ap c.picks.length cp)) := fun u hu => hx.2.later hu
    have HPR : Hid (∀ u, Below W4.heap.size W4 u → Calls Tryz.prog 14 #[cmV c (.slice ar c.raw.length cr) (.slice ap c.picks.length cp)] u fun e w' => (∃ l z, e = .returned (.tuple #[.string (ba l), .int .i64 z]) ∧ PriA c l z) ∧ Below u.heap.size u w') := fun u hu => rprintOf c _ _ u ((HVR.out.later HBX.out).later hu) ((HVP.out.later HBX.out).later hu) HWF.out HSC.out
    obtain ⟨z0, z1, z2, z3, z4, z5, z6, z7, z8, z9, z10, z11, z12, z13⟩ := hx.2
    clear hb hb0 hR0 hW0 HRD hwf hsc hrd hx hrow
    have HPA : Hid (∀ l z, PriA c l z → (z = 0 ∧ l = line → ParA line c 0) ∧ (¬ (z = 0 ∧ l = line) → ParA line Cm.zero 230)) := fun l z h => par_of HRD2.out h
    obtain ⟨b0, b1, b2, b3, b4, b5, b6, b7, b8, b9, b10, b11, b12, b13⟩ := HR1.out.cm
    go_wp2_with fail
    refine (HPR.out _ (Below.refl _ _)).mono ?_
    rintro e w5 ⟨⟨l, z, rfl, hpr⟩, hb⟩
    have HP5 := mkH (HPA.out l z hpr)
    clear hpr HPA HPR hW4 z0 z1 z2 z3 z4 z5 z6 z7 z8 z9 z10 z11 z12 z13 b0 b1 b2 b3 b4 b5 b6 b7 b8 b9 b10 b11 b12 b13
    have HR : Hid (Bx w w5 R (cmLst Cm.zero nilV nilV)) := (HR1.out.later HBX.out).later hb
    have HB : Hid (Below w.heap.size w w5) := below_on (below_on HB1.out HBX.out) hb
    have HX5 := mkH (HX.out w5 hb)
    have HROW5 : Hid (∀ u', Up (W0.heap.size + 1) w5 u' → BysAt u' (.slice ar c.raw.length cr) c.raw ∧ PksAt u' (.slice ap c.picks.length cp) c.picks) := fun u' hu => HROW.out u' (((Up.below HBX.out).trans (Up.below hb)).trans hu)
    clear HROW hb HR1 HB1 HBX HVR HVP HX HSC HRD2
    have hR5 := HR.out.lt
    by_cases hk : z = 0 ∧ l = line
    · have HPF := mkH (HP5.out.1 hk)
      obtain ⟨rfl, rfl⟩ := hk
      obtain ⟨m0, m1, m2, m3, m4, m5, m6, m7, m8, m9, m10, m11, m12, m13⟩ := HX5.out
      clear HP5
      obtain ⟨hB9, hb9, hg9⟩ := HR.out.putCm HB.out c (.slice ar c.raw.length cr) (.slice ap c.picks.length cp)
      obtain ⟨U9, hU9⟩ : ∃ u, cmPut w5 R c (.slice ar c.raw.length cr) (.slice ap c.picks.length cp) = u := ⟨_, rfl⟩
      rw [hU9] at hB9 hb9 hg9
      simp only [cmPut, Cm.zero, Rq.zero] at hU9
      have HB9 := mkH hB9
      have HE9 : Hid (Below w.heap.size w U9) := hb9
      have HG9 := mkH hg9
      clear hB9 hb9 hg9
      obtain ⟨b0, b1, b2, b3, b4, b5, b6, b7, b8, b9, b10, b11, b12, b13⟩ := HR.out.cm
      have f0 := HR.out.fz 0 (by simp [cmLst])
      have f1 := HR.out.fz 1 (by simp [cmLst])
      have f2 := HR.out.fz 2 (by simp [cmLst])
      have f3 := HR.out.fz 3 (by simp [cmLst])
      have f4 := HR.out.fz 4 (by simp [cmLst])
      have f5 := HR.out.fz 5 (by simp [cmLst])
      have f6 := HR.out.fz 6 (by simp [cmLst])
      have f7 := HR.out.fz 7 (by simp [cmLst])
      have f8 := HR.out.fz 8 (by simp [cmLst])
      have f9 := HR.out.fz 9 (by simp [cmLst])
      have f10 := HR.out.fz 10 (by simp [cmLst])
      have f11 := HR.out.fz 11 (by simp [cmLst])
      have f12 := HR.out.fz 12 (by simp [cmLst])
      have f13 := HR.out.fz 13 (by simp [cmLst])
      clear HR
      go_wp2
      clear m0 m1 m2 m3 m4 m5 m6 m7 m8 m9 m10 m11 m12 m13
      clear b0 b1 b2 b3 b4 b5 b6 b7 b8 b9 b10 b11 b12 b13 f0 f1 f2 f3 f4 f5 f6 f7 f8 f9 f10 f11 f12 f13
      try rw [hU9]
      obtain ⟨a0, a1, a2, a3, a4, a5, a6, a7, a8, a9, a10, a11, a12, a13⟩ := HB9.out.cm
      clear hU9
      refine bodyPost_ret (v := .tuple #[cmV c (.slice ar c.raw.length cr) (.slice ap c.picks.length cp), .int .i64 0]) ?hres rfl ?_
      case hres =>
        rw [results_cell_tmp rfl]
        go_simp
      have hz9 := HROW5.out U9 (Up.grown HG9.out (fun g e => by cases e; omega))
      exact ⟨⟨c, _, _, 0, rfl, HWF.out, HPF.out, hz9.1, hz9.2⟩, HE9.out⟩
    · have HPF := mkH (HP5.out.2 hk)
      clear HP5 HX5
      obtain ⟨hB9, hb9, hg9⟩ := HR.out.putCm HB.out Cm.zero nilV nilV
      obtain ⟨U9, hU9⟩ : ∃ u, cmPut w5 R Cm.zero nilV nilV = u := ⟨_, rfl⟩
      rw [hU9] at hB9 hb9 hg9
      simp only [cmPut, Cm.zero, Rq.zero] at hU9
      have HB9 := mkH hB9
      have HE9 : Hid (Below w.heap.size w U9) := hb9
      have HG9 := mkH hg9
      clear hB9 hb9 hg9
      obtain ⟨b0, b1, b2, b3, b4, b5, b6, b7, b8, b9, b10, b11, b12, b13⟩ := HR.out.cm
      have f0 := HR.out.fz 0 (by simp [cmLst])
      have f1 := HR.out.fz 1 (by simp [cmLst])
      have f2 := HR.out.fz 2 (by simp [cmLst])
      have f3 := HR.out.fz 3 (by simp [cmLst])
      have f4 := HR.out.fz 4 (by simp [cmLst])
      have f5 := HR.out.fz 5 (by simp [cmLst])
      have f6 := HR.out.fz 6 (by simp [cmLst])
      have f7 := HR.out.fz 7 (by simp [cmLst])
      have f8 := HR.out.fz 8 (by simp [cmLst])
      have f9 := HR.out.fz 9 (by simp [cmLst])
      have f10 := HR.out.fz 10 (by simp [cmLst])
      have f11 := HR.out.fz 11 (by simp [cmLst])
      have f12 := HR.out.fz 12 (by simp [cmLst])
      have f13 := HR.out.fz 13 (by simp [cmLst])
      clear HR
      have hcase : (¬ z = 0) ∨ (z = 0 ∧ (l == line) = false) := by
        by_cases h : z = 0
        · exact .inr ⟨h, by simpa using fun e => hk ⟨h, e⟩⟩
        · exact .inl h
      clear hk
      rcases hcase with h1 | ⟨rfl, h2⟩
      all_goals
        go_wp2
        clear b0 b1 b2 b3 b4 b5 b6 b7 b8 b9 b10 b11 b12 b13 f0 f1 f2 f3 f4 f5 f6 f7 f8 f9 f10 f11 f12 f13
        try rw [hU9]
        obtain ⟨a0, a1, a2, a3, a4, a5, a6, a7, a8, a9, a10, a11, a12, a13⟩ := HB9.out.cm
        clear hU9
        refine bodyPost_ret (v := .tuple #[cmV Cm.zero nilV nilV, .int .i64 230]) ?hres rfl ?_
        case hres =>
          rw [results_cell_tmp rfl]
          go_simp

        exact ⟨⟨Cm.zero, _, _, 230, rfl, wfc_zero, HPF.out, bys_nil _, pks_nil _⟩, HE9.out⟩
  · have hli : (4096 : Int) < (line.length : Int) := by omega
    have HPF : Hid (ParA line Cm.zero 230) := par_none fun d _ hd => by have := hd.2.2; omega
    obtain ⟨R, hRd⟩ : ∃ R, w.heap.size = R := ⟨_, rfl⟩
    have HR : Hid (Bx w W0 R (cmLst Cm.zero nilV nilV)) := by rw [← hRd]; exact hR0
    have HB := mkH hb0
    clear hb0 hR0
    obtain ⟨hB9, hb9, hg9⟩ := HR.out.putCm HB.out Cm.zero nilV nilV
    obtain ⟨U9, hU9⟩ : ∃ u, cmPut W0 R Cm.zero nilV nilV = u := ⟨_, rfl⟩
    rw [hU9] at hB9 hb9 hg9
    simp only [cmPut, Cm.zero, Rq.zero] at hU9
    have HB9 := mkH hB9
    have HE9 : Hid (Below w.heap.size w U9) := hb9
    have HG9 := mkH hg9
    clear hB9 hb9 hg9
    obtain ⟨b0, b1, b2, b3, b4, b5, b6, b7, b8, b9, b10, b11, b12, b13⟩ := HR.out.cm
    have f0 := HR.out.fz 0 (by simp [cmLst])
    have f1 := HR.out.fz 1 (by simp [cmLst])
    have f2 := HR.out.fz 2 (by simp [cmLst])
    have f3 := HR.out.fz 3 (by simp [cmLst])
    have f4 := HR.out.fz 4 (by simp [cmLst])
    have f5 := HR.out.fz 5 (by simp [cmLst])
    have f6 := HR.out.fz 6 (by simp [cmLst])
    have f7 := HR.out.fz 7 (by simp [cmLst])
    have f8 := HR.out.fz 8 (by simp [cmLst])
    have f9 := HR.out.fz 9 (by simp [cmLst])
    have f10 := HR.out.fz 10 (by simp [cmLst])
    have f11 := HR.out.fz 11 (by simp [cmLst])
    have f12 := HR.out.fz 12 (by simp [cmLst])
    have f13 := HR.out.fz 13 (by simp [cmLst])
    clear HR
    go_wp2
    clear b0 b1 b2 b3 b4 b5 b6 b7 b8 b9 b10 b11 b12 b13 f0 f1 f2 f3 f4 f5 f6 f7 f8 f9 f10 f11 f12 f13
    try rw [hU9]
    obtain ⟨a0, a1, a2, a3, a4, a5, a6, a7, a8, a9, a10, a11, a12, a13⟩ := HB9.out.cm
    clear hU9
    refine bodyPost_ret (v := .tuple #[cmV Cm.zero nilV nilV, .int .i64 230]) ?hres rfl ?_
    case hres =>
      rw [results_cell_tmp rfl]
      go_simp
    exact ⟨⟨Cm.zero, _, _, 230, rfl, wfc_zero, HPF.out, bys_nil _, pks_nil _⟩, HE9.out⟩
end Go.Proofs.YtlnppgjppfkocaaGreatDoor.Xs
