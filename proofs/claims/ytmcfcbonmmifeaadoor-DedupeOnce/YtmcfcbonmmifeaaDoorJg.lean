import Derived.Test.YtmcfcbonmmifeaaDoorJf
/-! dedupe: look-ups, pass. -/
namespace Go.Proofs.YtmcfcbonmmifeaaDoor
open Go.RowKit Go.Maps Plain
set_option linter.unusedVariables false
set_option linter.unusedSimpArgs false

/-- What the map has of a producer, or nothing. -/
def prOf (L : List Pr) (k : Int) : Pr := (lookP L k).getD Pr.zero
/-- A producer is looked up. -/
theorem lookQ (w : World) (m : Option Nat) (L : List Pr) (h : MapO w m L) (k : Int) (hk : I64 k) : (Instr.lookup 48 (.map m) (.int .i64 k) true).run Tryd.prog w = .ok (.tuple #[.agg #[.int .i64 (prOf L k).pid, .int .i64 (prOf L k).seq, .int .i64 (prOf L k).off], .bool (lookP L k).isSome]) w := by
  have hz : (zeroValue 43).run Tryd.prog w = .ok Pr.zero.agg w := by kernel_rfl
  rcases h with ⟨rfl, rfl⟩ | ⟨b, rfl, h⟩
  · have e := Maps.look_nil (w := w) true keyed2 Tryd.underlying48 hz (key_int hk)
    exact e
  · obtain ⟨v, ps, h1, h2⟩ := World.ownsMap.look_ok h keyed2 Tryd.underlying48 hz (zd := Pr.zero.d) (zp := []) rfl (key_int hk)
    rw [toQ_at] at h2
    rw [toQ_has] at h1
    obtain ⟨q, rfl, e⟩ := Rq_inv h2
    have hq : q = prOf L k := by
      unfold prOf
      cases hl : lookP L k with
      | none =>
        rw [hl] at e
        simp at e
        exact (Pr.d_inj e.1).symm
      | some p =>
        rw [hl] at e
        simp at e
        exact (Pr.d_inj e.1).symm
    rw [← hq]
    exact h1
set_option maxHeartbeats 4000000 in
set_option maxRecDepth 100000 in
theorem passOf (t : Nat) (m : Option Nat) (L : List Pr) (x : Rc) (w : World) (h : TabAt w t m L) (hx : x.Ok) :
    Calls Tryd.prog 15 #[.pointer (some ⟨t, 0, none⟩), x.agg] w fun e w' => e = .returned (.int .i64 (passE L x)) ∧ (passE L x = 0 → ∃ m', TabAt w' t m' (passL L x) ∧ (m' = m ∨ (m = none ∧ ∃ b, m' = some b ∧ w.heap.size ≤ b))) ∧ Chg (foot t m) w w' := by
  have HCK : Hid (∀ u, Calls Tryd.prog 24 #[x.agg] u (ChkPost x u)) := fun u => checkAny x hx u
  have HTB : Hid (TabAt w t m L) := h
  have HX : Hid x.Ok := hx
  have hlt := h.lt
  have HR : Hid (chk x = 0 → (x.p = 0 ∧ x.q = 0) ∨ x.pr.Right) := fun h => chk_right h
  have HPE : Hid (∀ e, passE L x = e ↔ (if chk x ≠ 0 then chk x else if x.p = 0 then 0 else if lookP L x.p = none ∧ 64 ≤ L.length then 92 else 0) = e) := fun e => Iff.rfl
  have HPL : Hid (passL L x = if x.p = 0 then L else match lookP L x.p with
    | some p => if p.seq < x.q then layP L x.pr else L
    | none => layP L x.pr) := rfl
  generalize hpe : passE L x = PE at HPE ⊢
  generalize hpl : passL L x = PL at HPL ⊢
  clear hpe hpl
  generalize hck : chk x = C at HR HPE HCK
  obtain ⟨k, o, tm, p, q, key, val⟩ := x
  have HAP : Hid (∀ u, Calls Tryd.prog 24 #[.agg #[.int .i64 k, .int .i64 o, .int .i64 tm, .int .i64 p, .int .i64 q, .string key, .string val]] u fun e w' => e = .returned (.int .i64 C) ∧ Below u.heap.size u w') := fun u => (HCK.out u).mono (fun e w' ⟨h1, h2⟩ => ⟨by rw [h1, hck], h2⟩)
  clear HCK h hx hck
  obtain ⟨w1, hw1⟩ : ∃ w1, w.alloc (.cells #[.int .i64 k, .int .i64 o, .int .i64 tm, .int .i64 p, .int .i64 q, .string key, .string val] 35) = w1 := ⟨_, rfl⟩
  have hb1 : Below w.heap.size w w1 := by rw [← hw1]; exact (Below.refl _ _).alloc (Nat.le_refl _) _
  have hs1 : w1.heap.size = w.heap.size + 1 := by rw [← hw1]; simp
  have hxc : CellsAt w1 w.heap.size 0 ⟨k, o, tm, p, q, key, val⟩ := by
    rw [← hw1]
    exact ⟨World.cell?_alloc_at _ _ _ _ rfl, World.cell?_alloc_at _ _ _ _ rfl, World.cell?_alloc_at _ _ _ _ rfl, World.cell?_alloc_at _ _ _ _ rfl, World.cell?_alloc_at _ _ _ _ rfl, World.cell?_alloc_at _ _ _ _ rfl, World.cell?_alloc_at _ _ _ _ rfl⟩
  have HXC : Hid (∀ u, Below w1.heap.size w1 u → CellsAt u w.heap.size 0 ⟨k, o, tm, p, q, key, val⟩) := fun u hu => hxc.block (hu.block _ hxc.lt)
  have HB1 : Hid (Below w.heap.size w w1) := hb1
  obtain ⟨c0, c1, c2, c3, c4, c5, c6⟩ := hxc
  simp only at c0 c1 c2 c3 c4 c5 c6
  simp only at HPE HPL HR
  clear hb1
  unfold Rc.agg
  go_enter Tryd.func15, Tryd.ntmps15
  go_wp2_with fail
  refine (HAP.out _).mono ?_
  rintro e w2 ⟨rfl, hb2⟩
  have HB2 : Hid (Below w.heap.size w w2) := below_step HB1.out hb2
  have hs2 := hb2.size
  have hxc2 := HXC.out w2 hb2
  obtain ⟨d0, d1, d2, d3, d4, d5, d6⟩ := HXC.out w2 hb2
  simp only at d0 d1 d2 d3 d4 d5 d6
  clear c0 c1 c2 c3 c4 c5 c6 hb2
  by_cases hC : C = 0
  · subst hC
    by_cases hp0 : p = 0
    · subst hp0
      have HE : Hid (PE = 0 ∧ PL = L) := ⟨(HPE.out 0).mpr (by simp), by rw [HPL.out]; simp⟩
      clear HPE HPL
      go_wp2
      go_ret
      exact ⟨by rw [HE.out.1]; rfl, fun _ => ⟨m, by rw [HE.out.2]; exact HTB.out.later HB2.out, .inl rfl⟩, Chg.ofBelow HB2.out⟩
    · have hp0' : (p == 0) = false := by simpa using hp0
      have hR : Pr.Right ⟨p, q, o⟩ := (HR.out rfl).resolve_left fun h => hp0 h.1
      have HTB2 : Hid (TabAt w2 t m L) := HTB.out.later HB2.out
      have HTD : Hid (TabAt w2.drew t m L) := HTB2.out.later (Below.refl _ _).drew
      have hrun := lookQ w2.drew m L HTD.out.map p hR.ok.pid
      have hrun2 := lookQ (w2.alloc (.cells #[.int .i64 0, .int .i64 0, .int .i64 0] 43)).drew m L (HTB2.out.later ((Below.refl _ w2).alloc (Nat.le_refl _) _).drew).map p hR.ok.pid
      have hct := HTB2.out.cell
      have hne1 := World.new_ne w2.drew ⟨t, 0, none⟩ hct
      have hne2 := World.new_ne w2.drew ⟨w.heap.size, 3, none⟩ d3
      have hs2d : w2.drew.heap.size = w2.heap.size := rfl
      have HKEEP : Hid (∀ (u : World) (pr : Pr), Below w2.heap.size w2 u → pr.Right → ((lookP L pr.pid).isSome = true ∨ L.length < 64) → Calls Tryd.prog 11 #[.pointer (some ⟨t, 0, none⟩), .agg #[.int .i64 pr.pid, .int .i64 pr.seq, .int .i64 pr.off]] u fun e w' => e = .returned (.tuple #[]) ∧ (∃ m', TabAt w' t m' (layP L pr) ∧ (m' = m ∨ (m = none ∧ ∃ b, m' = some b ∧ w.heap.size ≤ b))) ∧ Chg (foot t m) w w') := fun u pr hu hpr hl => by
        refine (keepOf t m L pr u (HTB2.out.later hu) hpr hl).mono ?_
        rintro e w' ⟨rfl, m', h1, h2, h3⟩
        have hbu := below_step HB2.out hu
        refine ⟨rfl, ⟨m', h1, ?_⟩, (Chg.ofBelow hbu).trans h2⟩
        rcases h3 with h3 | ⟨h3, b, h4, h5⟩
        · exact .inl h3
        · exact .inr ⟨h3, b, h4, Nat.le_trans hbu.size h5⟩
      have HZ : Hid (∀ rp rs ro : Int, ∃ wz, (w2.alloc (.cells #[.int .i64 rp, .int .i64 rs, .int .i64 ro] 43)).drew = wz ∧ Below w2.heap.size w2 wz ∧ wz.cell? ⟨w2.heap.size, 1, none⟩ = some (.int .i64 rs) ∧ CellsAt wz w.heap.size 0 ⟨k, o, tm, p, q, key, val⟩) := fun rp rs ro => by
        have hb := ((Below.refl _ w2).alloc (Nat.le_refl _) (.cells #[.int .i64 rp, .int .i64 rs, .int .i64 ro] 43)).drew
        exact ⟨_, rfl, hb, World.cell?_alloc_at _ _ _ _ rfl, hxc2.block (hb.block _ hxc2.lt)⟩
      have HBA : Hid (∀ o, Below w2.heap.size w2 (w2.alloc o).drew) := fun o => ((Below.refl _ w2).alloc (Nat.le_refl _) _).drew
      have HBD : Hid (∀ o, Below w2.heap.size w2 (w2.drew.alloc o)) := fun o => ((Below.refl _ w2).drew).alloc (Nat.le_refl _) _
      cases hlk : lookP L p with
      | some pr =>
        have hprf : prOf L p = pr := by unfold prOf; rw [hlk]; rfl
        rw [hprf, hlk] at hrun hrun2
        obtain ⟨hpm, hpp⟩ := lookP_some hlk
        obtain ⟨rp, rs, ro⟩ := pr
        simp only [Option.isSome_some] at hrun hrun2 hpp
        have HE : Hid (PE = 0 ∧ PL = if rs < q then layP L ⟨p, q, o⟩ else L) := ⟨(HPE.out 0).mpr (by simp [hp0, hlk]), by rw [HPL.out, if_neg hp0, hlk]; rfl⟩
        clear HPE HPL hprf
        have HKP : Hid (∀ u, Below w2.heap.size w2 u → Calls Tryd.prog 11 #[.pointer (some ⟨t, 0, none⟩), .agg #[.int .i64 p, .int .i64 q, .int .i64 o]] u fun e w' => e = .returned (.tuple #[]) ∧ (∃ m', TabAt w' t m' (layP L ⟨p, q, o⟩) ∧ (m' = m ∨ (m = none ∧ ∃ b, m' = some b ∧ w.heap.size ≤ b))) ∧ Chg (foot t m) w w') := fun u hu => HKEEP.out u ⟨p, q, o⟩ hu hR (.inl (by show (lookP L p).isSome = true; rw [hlk]; rfl))
        clear hlk hpm HKEEP
        obtain ⟨wz, hwz, hbz, z1, ⟨y0, y1, y2, y3, y4, y5, y6⟩⟩ := HZ.out p rs ro
        simp only at y0 y1 y2 y3 y4 y5 y6
        have HWZ : Hid ((w2.alloc (.cells #[.int .i64 p, .int .i64 rs, .int .i64 ro] 43)).drew = wz) := hwz
        have HBZ : Hid (Below w2.heap.size w2 wz) := hbz
        clear hwz hbz HZ hxc2
        by_cases hq : rs < q
        · go_wp2
          go_region_held3 (fun w' => w'.cell? ⟨t, 0, none⟩ = some (.map m) ∧ w'.cell? ⟨w.heap.size, 3, none⟩ = some (.int .i64 p)) (go_keep) (fail)
          all_goals
            rw [HWZ.out]
            clear hrun hrun2
            go_wp2_with fail
            refine (HKP.out _ HBZ.out).mono ?_
            rintro e w3 ⟨rfl, hk1, hk2⟩
            have HK : Hid ((∃ m', TabAt w3 t m' (layP L ⟨p, q, o⟩) ∧ (m' = m ∨ (m = none ∧ ∃ b, m' = some b ∧ w.heap.size ≤ b))) ∧ Chg (foot t m) w w3) := ⟨hk1, hk2⟩
            clear hk1 hk2
            go_wp2
            go_ret
            exact ⟨by rw [HE.out.1]; rfl, fun _ => by rw [HE.out.2, if_pos hq]; exact HK.out.1, HK.out.2⟩
        · go_wp2
          go_region_held3 (fun w' => w'.cell? ⟨t, 0, none⟩ = some (.map m) ∧ w'.cell? ⟨w.heap.size, 3, none⟩ = some (.int .i64 p)) (go_keep) (fail)
          all_goals
            rw [HWZ.out]
            clear hrun hrun2
            go_wp2
            go_ret
            exact ⟨by rw [HE.out.1]; rfl, fun _ => ⟨m, by rw [HE.out.2, if_neg (by omega)]; exact HTB2.out.later HBZ.out, .inl rfl⟩, Chg.ofBelow (below_step HB2.out HBZ.out)⟩
      | none =>
        have hprf : prOf L p = Pr.zero := by unfold prOf; rw [hlk]; rfl
        rw [hprf, hlk] at hrun hrun2
        simp only [Option.isSome_none, Pr.zero] at hrun hrun2
        have hq0 : 0 < q := by have := hR.s1; simp only at this; omega
        have HE : Hid (PE = (if 64 ≤ L.length then 92 else 0) ∧ PL = layP L ⟨p, q, o⟩) := by
          refine ⟨(HPE.out _).mpr (by simp [hp0, hlk]), by rw [HPL.out, if_neg hp0, hlk]; rfl⟩
        clear HPE HPL hprf
        obtain ⟨wz, hwz, hbz, z1, ⟨y0, y1, y2, y3, y4, y5, y6⟩⟩ := HZ.out 0 0 0
        simp only at y0 y1 y2 y3 y4 y5 y6
        have HWZ : Hid ((w2.alloc (.cells #[.int .i64 0, .int .i64 0, .int .i64 0] 43)).drew = wz) := hwz
        have HBZ : Hid (Below w2.heap.size w2 wz) := hbz
        clear hwz hbz HZ hxc2
        have HFU : Hid (Calls Tryd.prog 22 #[.pointer (some ⟨t, 0, none⟩)] wz fun x w' => x = .returned (.bool (decide (64 ≤ L.length))) ∧ w' = wz) := isFullOf t m L wz (HTB2.out.later HBZ.out)
        have HKP : Hid (L.length < 64 → ∀ u, Below w2.heap.size w2 u → Calls Tryd.prog 11 #[.pointer (some ⟨t, 0, none⟩), .agg #[.int .i64 p, .int .i64 q, .int .i64 o]] u fun e w' => e = .returned (.tuple #[]) ∧ (∃ m', TabAt w' t m' (layP L ⟨p, q, o⟩) ∧ (m' = m ∨ (m = none ∧ ∃ b, m' = some b ∧ w.heap.size ≤ b))) ∧ Chg (foot t m) w w') := fun hl u hu => HKEEP.out u ⟨p, q, o⟩ hu hR (.inr hl)
        clear hlk HKEEP
        by_cases h64 : 64 ≤ L.length
        · rw [decide_eq_true h64] at HFU
          go_wp2
          go_region_held3 (fun w' => w'.cell? ⟨t, 0, none⟩ = some (.map m) ∧ w'.cell? ⟨w.heap.size, 3, none⟩ = some (.int .i64 p)) (go_keep) (fail)
          all_goals
            rw [HWZ.out]
            clear hrun hrun2
            go_wp2_with fail
            refine HFU.out.mono ?_
            rintro e w3 ⟨rfl, rfl⟩
            go_wp2
            go_ret
            exact ⟨by rw [HE.out.1, if_pos h64]; rfl, fun h => by rw [HE.out.1, if_pos h64] at h; simp at h, Chg.ofBelow (below_step HB2.out HBZ.out)⟩
        · rw [decide_eq_false h64] at HFU
          have h64' : L.length < 64 := by omega
          go_wp2
          go_region_held3 (fun w' => w'.cell? ⟨t, 0, none⟩ = some (.map m) ∧ w'.cell? ⟨w.heap.size, 3, none⟩ = some (.int .i64 p)) (go_keep) (fail)
          all_goals
            rw [HWZ.out]
            clear hrun hrun2
            go_wp2_with fail
            refine HFU.out.mono ?_
            rintro e w3 ⟨rfl, rfl⟩
            go_wp2_with fail
            refine (HKP.out h64' _ HBZ.out).mono ?_
            rintro e w3' ⟨rfl, hk1, hk2⟩
            have HK : Hid ((∃ m', TabAt w3' t m' (layP L ⟨p, q, o⟩) ∧ (m' = m ∨ (m = none ∧ ∃ b, m' = some b ∧ w.heap.size ≤ b))) ∧ Chg (foot t m) w w3') := ⟨hk1, hk2⟩
            clear hk1 hk2
            go_wp2
            go_ret
            exact ⟨by rw [HE.out.1, if_neg h64]; rfl, fun _ => by rw [HE.out.2]; exact HK.out.1, HK.out.2⟩
  · have HE : Hid (PE = C) := (HPE.out C).mpr (by rw [if_pos hC])
    have hC' : (C == 0) = false := by simpa using hC
    clear HPE HPL
    go_wp2
    go_ret
    exact ⟨by rw [HE.out]; rfl, fun h => absurd (HE.out.symm.trans h) hC, Chg.ofBelow HB2.out⟩
end Go.Proofs.YtmcfcbonmmifeaaDoor
