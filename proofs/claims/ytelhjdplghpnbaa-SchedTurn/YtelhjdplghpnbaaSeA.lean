import Derived.Test.YtelhjdplghpnbaaSdZ
import Derived.Test.YtelhjdplghpnbaaSdR
/-! The law on who comes and goes: its walk. -/
namespace Go.Proofs.Ytelhjdplghpnbaa
open Go.RowKit Plain
set_option linter.unusedVariables false
set_option linter.unusedSimpArgs false

theorem ansT.open {t : Tr} {z : Int} {w : World} {e : Ending} {w' : World} (h : ansT t z w e w') : ∃ a c, e = .returned (.tuple #[.agg #[.slice a t.qs.length c, .int .i64 t.at', .bool t.fresh], .int .i64 z]) ∧ TurNew w.heap.size w' (.slice a t.qs.length c) t ∧ Below w.heap.size w w' := h
set_option maxHeartbeats 8000000 in
set_option maxRecDepth 100000 in
theorem turnWalk (hS : SchedOk) (t : Tr) (id q c : Int) (hid : I64 id) (hq : I64 q) (hc : I64 c) (v : Value) (w : World) (h : TrAt w v t) (hl : ∀ j, j < t.qs.length → (t.q j).costs.length ≤ 17592186043904) : Calls Try.prog 8 #[turV v t, .int .i64 id, .int .i64 q, .int .i64 c] w fun e w' => e = .returned (.bool true) ∧ Below w.heap.size w w' := by
  obtain ⟨a, cap, rfl⟩ := h.shape
  have HT := Hid.mkT h
  have HW : Hid (∀ u, Calls Try.prog 21 #[] u fun e w' => e = .returned (.bool true) ∧ Below u.heap.size u w') := fun u => worksOf hS u
  have HE : Hid (∀ u, TrAt u (.slice a t.qs.length cap) t → Calls Try.prog 23 #[.agg #[.slice a t.qs.length cap, .int .i64 t.at', .bool t.fresh], .int .i64 id, .int .i64 q] u (ansT (entT t id q).1 (entT t id q).2 u)) := fun u h => hS.enter t id q _ u h hid hq
  have HV : Hid (∀ (t1 : Tr) a1 c1 u, TrAt u (.slice a1 t1.qs.length c1) t1 → Calls Try.prog 24 #[.agg #[.slice a1 t1.qs.length c1, .int .i64 t1.at', .bool t1.fresh], .int .i64 id] u (ansT (levT t1 id).1 (levT t1 id).2 u)) := fun t1 a1 c1 u h => hS.leave t1 id _ u h hid
  have HA : Hid (∀ (t1 : Tr) a1 c1 u, TrAt u (.slice a1 t1.qs.length c1) t1 → (∀ j, j < t1.qs.length → (t1.q j).costs.length ≤ 17592186043904) → Calls Try.prog 25 #[.agg #[.slice a1 t1.qs.length c1, .int .i64 t1.at', .bool t1.fresh], .int .i64 id, .int .i64 c] u (ansT (askT t1 id c).1 (askT t1 id c).2 u)) := fun t1 a1 c1 u h hh => hS.ask t1 id c _ u h hh hid hc
  have HN : Hid ((entT t id q).2 ≠ 0 → (entT t id q).1 = Tr.zero) := ent_bad
  have HO : Hid ((entT t id q).2 = 0 → ((levT (entT t id q).1 id).2 = 0 ∧ (t.qs ≠ [] → (levT (entT t id q).1 id).1 = t) ∧ (entT t id q).1.qs.length = t.qs.length + 1) ∧ ((askT (entT t id q).1 id c).2 ≠ 0 → c < 1 ∨ 1048576 < c) ∧ ((askT (entT t id q).1 id c).2 = 0 → ∃ i, i < (askT (entT t id q).1 id c).1.qs.length ∧ (askT (entT t id q).1 id c).1.qs.getD i Qu.zero = ⟨id, q, 0, [c]⟩ ∧ ∀ j, j < i → ((askT (entT t id q).1 id c).1.qs.getD j Qu.zero).id ≠ id) ∧ ∀ j, j < (entT t id q).1.qs.length → ((entT t id q).1.q j).costs.length ≤ 17592186043904) := fun h => by
    refine ⟨turn_leave h, (turn_ask h).1, (turn_ask h).2, fun j hj => ?_⟩
    have I := ent_ins h
    have hle := I.le
    have hlen := I.len
    rw [I.q' j]
    split
    · exact hl j (by omega)
    · split
      · simp
      · exact hl (j - 1) (by omega)
  clear hS hl h
  obtain ⟨T1, hT1⟩ : ∃ T1, (entT t id q).1 = T1 := ⟨_, rfl⟩
  obtain ⟨z1, hz1⟩ : ∃ z1, (entT t id q).2 = z1 := ⟨_, rfl⟩
  rw [hT1, hz1] at HE HN HO
  clear hT1 hz1
  obtain ⟨T2, hT2⟩ : ∃ T2, (levT T1 id).1 = T2 := ⟨_, rfl⟩
  obtain ⟨z2, hz2⟩ : ∃ z2, (levT T1 id).2 = z2 := ⟨_, rfl⟩
  obtain ⟨T3, hT3⟩ : ∃ T3, (askT T1 id c).1 = T3 := ⟨_, rfl⟩
  obtain ⟨z3, hz3⟩ : ∃ z3, (askT T1 id c).2 = z3 := ⟨_, rfl⟩
  have HV1 := Hid.mkT (HV.out T1)
  have HA1 := Hid.mkT (HA.out T1)
  rw [hT2, hz2] at HV1 HO
  rw [hT3, hz3] at HA1 HO
  clear HV HA hT2 hz2 hT3 hz3
  obtain ⟨l, z, f⟩ := t
  unfold turV
  simp only at *
  obtain ⟨w0, hw0⟩ : ∃ w0, w.alloc (.cells #[.slice a l.length cap, .int .i64 z, .bool f] 34) = w0 := ⟨_, rfl⟩
  obtain ⟨B, hB⟩ : ∃ B, w.heap.size = B := ⟨_, rfl⟩
  have HB0 : Hid (Below w.heap.size w w0) := by have := (turBox w (.slice a l.length cap) z f).1; rw [hw0] at this; exact this
  have HX0 : Hid (BoxT w0 B (.slice a l.length cap) ⟨l, z, f⟩) := by have := BoxT.new w (.slice a l.length cap) ⟨l, z, f⟩ z f rfl rfl; rw [hw0, hB] at this; exact this
  have HT0 : Hid (TrAt w0 (.slice a l.length cap) ⟨l, z, f⟩) := HT.out.later HB0.out
  obtain ⟨b0, b1, b2, -, -⟩ := HX0.out
  simp only at b1 b2
  obtain ⟨l1, p1, f1⟩ := T1
  simp only at *
  go_enter Try.func8, Try.ntmps8
  go_wp2_with fail
  refine (HE.out _ HT0.out).mono ?_
  intro e w1 hans
  obtain ⟨a1, c1, rfl, hn1, hb1⟩ := hans.open
  simp only at hn1
  obtain ⟨w2, hw2⟩ : ∃ w2, w1.alloc (.cells #[.slice a1 l1.length c1, .int .i64 p1, .bool f1] 34) = w2 := ⟨_, rfl⟩
  obtain ⟨A1, hA1⟩ : ∃ A1, w1.heap.size = A1 := ⟨_, rfl⟩
  have hb2 : Below w1.heap.size w1 w2 := by have := (turBox w1 (.slice a1 l1.length c1) p1 f1).1; rw [hw2] at this; exact this
  have HX2 : Hid (BoxT w2 A1 (.slice a1 l1.length c1) ⟨l1, p1, f1⟩) := by have := BoxT.new w1 (.slice a1 l1.length c1) ⟨l1, p1, f1⟩ p1 f1 rfl rfl; rw [hw2, hA1] at this; exact this
  have HB2 : Hid (Below w0.heap.size w0 w2) := below_of hb1 hb2
  have HT2 : Hid (TrAt w2 (.slice a1 l1.length c1) ⟨l1, p1, f1⟩) := (hn1.later hb2).reads
  clear hn1 hb1 hb2 hans HE
  obtain ⟨d0, d1, d2, -, -⟩ := HX2.out
  simp only at d1 d2
  by_cases hz1 : z1 = 0
  · subst hz1
    obtain ⟨⟨rfl, hsm, hlen⟩, hno, hyes, hcl⟩ := HO.out rfl
    have HSM := Hid.mkT hsm
    have HNO := Hid.mkT hno
    have HYES := Hid.mkT hyes
    have HCL := Hid.mkT hcl
    have HLEN := Hid.mkT hlen
    clear hsm hno hyes hcl hlen HN HO
    obtain ⟨l2, p2, f2⟩ := T2
    obtain ⟨l3, p3, f3⟩ := T3
    simp only at *
    go_wp2_with fail
    refine (HV1.out _ _ _ HT2.out).mono ?_
    intro e w3 hans
    obtain ⟨a3, c3, rfl, hn3, hb3⟩ := hans.open
    simp only at hn3
    obtain ⟨w4, hw4⟩ : ∃ w4, w3.alloc (.cells #[.slice a3 l2.length c3, .int .i64 p2, .bool f2] 34) = w4 := ⟨_, rfl⟩
    obtain ⟨A3, hA3⟩ : ∃ A3, w3.heap.size = A3 := ⟨_, rfl⟩
    have hb4 : Below w3.heap.size w3 w4 := by have := (turBox w3 (.slice a3 l2.length c3) p2 f2).1; rw [hw4] at this; exact this
    have HX4 : Hid (BoxT w4 A3 (.slice a3 l2.length c3) ⟨l2, p2, f2⟩) := by have := BoxT.new w3 (.slice a3 l2.length c3) ⟨l2, p2, f2⟩ p2 f2 rfl rfl; rw [hw4, hA3] at this; exact this
    have HB4 : Hid (Below w2.heap.size w2 w4) := below_of hb3 hb4
    have HT4 : Hid (TrAt w4 (.slice a3 l2.length c3) ⟨l2, p2, f2⟩) := (hn3.later hb4).reads
    clear hn3 hb3 hb4 hans HV1 b0 b1 b2 d0 d1 d2
    obtain ⟨d0, d1, d2, -, -⟩ := (HX2.out.later HB4.out)
    simp only at d1 d2
    have HT24 := Hid.mkT (HT2.out.later HB4.out)
    go_wp2_with fail
    refine (HA1.out _ _ _ HT24.out HCL.out).mono ?_
    intro e w5 hans
    obtain ⟨a5, c5, rfl, hn5, hb5⟩ := hans.open
    simp only at hn5
    obtain ⟨w6, hw6⟩ : ∃ w6, w5.alloc (.cells #[.slice a5 l3.length c5, .int .i64 p3, .bool f3] 34) = w6 := ⟨_, rfl⟩
    obtain ⟨A5, hA5⟩ : ∃ A5, w5.heap.size = A5 := ⟨_, rfl⟩
    have hb6 : Below w5.heap.size w5 w6 := by have := (turBox w5 (.slice a5 l3.length c5) p3 f3).1; rw [hw6] at this; exact this
    have HX6 : Hid (BoxT w6 A5 (.slice a5 l3.length c5) ⟨l3, p3, f3⟩) := by have := BoxT.new w5 (.slice a5 l3.length c5) ⟨l3, p3, f3⟩ p3 f3 rfl rfl; rw [hw6, hA5] at this; exact this
    have HB6 : Hid (Below w4.heap.size w4 w6) := below_of hb5 hb6
    have HT6 : Hid (TrAt w6 (.slice a5 l3.length c5) ⟨l3, p3, f3⟩) := (hn5.later hb6).reads
    clear hn5 hb5 hb6 hans HA1 d0 d1 d2 HCL HT24
    have HB26 := Hid.mkT (below_of HB4.out HB6.out)
    have HB06 := Hid.mkT (below_of HB2.out HB26.out)
    have HBW6 := Hid.mkT (below_of HB0.out HB06.out)
    obtain ⟨b0, b1, b2, -, -⟩ := (HX0.out.later HB06.out)
    obtain ⟨d0, d1, d2, -, -⟩ := (HX2.out.later HB26.out)
    obtain ⟨g0, g1, g2, -, -⟩ := (HX4.out.later HB6.out)
    obtain ⟨k0, k1, k2, -, -⟩ := HX6.out
    simp only at b1 b2 d1 d2 g1 g2 k1 k2
    have HF : Hid (∀ u, Below w6.heap.size w6 u → Below w.heap.size w u) := fun u hu => below_of HBW6.out hu
    have hlm : l.length ≤ 2932031007400 := by obtain ⟨_, _, _, h⟩ := HT.out.row.shape; exact h
    have HT6' := Hid.mkT HT6.out.row
    -- behind the test
    have HEND : Hid (z3 = 0 → ∃ i, i < l3.length ∧ l3.getD i Qu.zero = ⟨id, q, 0, [c]⟩ ∧ ∀ j, j < i → (l3.getD j Qu.zero).id ≠ id) := HYES.out
    have HL3 : Hid (l3.length ≤ 2932031007400) := by obtain ⟨_, _, _, h⟩ := HT6.out.row.shape; exact h
    generalize hn1 : l1.length = N1 at *
    have hN1 : (N1 : Int) = (l.length : Int) + 1 := by have := HLEN.out; omega
    have hN2 : ((N1 : Int) == (l.length : Int) + 1) = true := by rw [hN1]; simp
    clear HLEN hN1
    clear hn1
    by_cases hne : l = []
    · have hl0 : ¬ (0 : Int) < (l.length : Int) := by rw [hne]; simp
      have hl0' : ¬ 0 < l.length := by rw [hne]; simp
      clear hne
      by_cases hz3 : z3 = 0
      · obtain ⟨i3, hi3, hq3, hd3⟩ := HEND.out hz3
        have hz3' : (z3 == 0) = true := by rw [hz3]; rfl
        have HD3 := Hid.mkT hd3
        have HC : Hid (∀ k, k < l3.length → ∃ b off ca cc, a5 = some ⟨b, off, none⟩ ∧ Qv.CellsAt w6 b (off + k * 4) ⟨(l3.getD k Qu.zero).id, (l3.getD k Qu.zero).quantum, (l3.getD k Qu.zero).deficit, ca, (l3.getD k Qu.zero).costs.length, cc⟩ ∧ IntsAt w6 (.slice ca (l3.getD k Qu.zero).costs.length cc) (l3.getD k Qu.zero).costs) := fun k hk => by
          obtain ⟨b, off, ca, cc, e, h1, -⟩ := (HT6'.out.later (Below.refl _ _)).at hk
          exact ⟨b, off, ca, cc, e, (h1 _ (Below.refl _ _)).1, (h1 _ (Below.refl _ _)).2⟩
        have HQ3 := Hid.mkT hq3
        clear hd3 hq3 hz3 HEND HNO HYES
        have hl3 := HL3.out
        go_wp2
        go_loopw [15] (fun x u => ∃ k : Nat, k ≤ i3 ∧ x = .int .i64 k ∧ u = w6) (fun x _ => l3.length - (intOf x).toNat)
        case atStart => exact ⟨0, by omega, rfl, rfl⟩
        case round =>
          obtain ⟨k, hk, rfl, hu⟩ := hrel
          subst hu
          have hkl : k < l3.length := by omega
          have hki : (k : Int) < (l3.length : Int) := by omega
          obtain ⟨b, off, ca, cc, rfl, ⟨c0, c1', c2, c3'⟩, hin⟩ := HC.out k hkl
          simp only at c0 c1' c2 c3'
          by_cases hki3 : k = i3
          · subst hki3
            rw [HQ3.out] at c0 c1' c2 c3' hin
            simp only [List.length_singleton] at c0 c1' c2 c3' hin
            obtain ⟨cb, co, rfl, y0, -⟩ := hin.cell (i := 0) (by simp)
            simp only [Nat.add_zero, List.getD_cons_zero] at y0
            clear HC hin
            go_wp2
            go_ret
            exact ⟨by first | rfl | simp, by first | exact HBW6.out | (rw [← hB]; exact HBW6.out)⟩
          · have hne3 := HD3.out k (by omega)
            have hne4 : ((l3.getD k Qu.zero).id == id) = false := by simpa using hne3
            clear HC hin
            generalize (l3.getD k Qu.zero).id = x at *
            go_wp2
            go_roundw
            case rel => exact ⟨k + 1, by omega, by go_num, by first | rfl | trivial⟩
            case measure => simp only [intOf]; omega
      · have hz3' : (z3 == 0) = false := by simpa using hz3
        have hcc := HNO.out hz3
        clear HEND HNO HYES hz3
        rcases hcc with hcc | hcc
        · go_wp2
          go_ret
          exact ⟨by first | rfl | simp, by first | exact HBW6.out | (rw [← hB]; exact HBW6.out)⟩
        · by_cases hcc1 : c < 1
          · omega
          · go_wp2
            go_ret
            exact ⟨by first | rfl | simp, by first | exact HBW6.out | (rw [← hB]; exact HBW6.out)⟩
    · have hl0 : (0 : Int) < (l.length : Int) := by have := List.length_pos_iff.mpr hne; omega
      have hl0' : 0 < l.length := by have := List.length_pos_iff.mpr hne; omega
      have hsm := HSM.out hne
      simp only [Tr.mk.injEq] at hsm
      obtain ⟨rfl, rfl, rfl⟩ := hsm
      clear hne
      go_wp2_with fail
      refine (lsameOf ⟨l2, p2, f2⟩ _ _ _ (HT4.out.later HB6.out) (HT0.out.later HB06.out)).mono ?_
      rintro e w7 ⟨rfl, hb7⟩
      have HB7 := Hid.mkT hb7
      have HBW7 := Hid.mkT (below_of HBW6.out hb7)
      clear b0 b1 b2 d0 d1 d2 g0 g1 g2 k0 k1 k2
      obtain ⟨b0, b1, b2, -, -⟩ := ((HX0.out.later HB06.out).later hb7)
      obtain ⟨d0, d1, d2, -, -⟩ := ((HX2.out.later HB26.out).later hb7)
      obtain ⟨k0, k1, k2, -, -⟩ := HX6.out.later hb7
      simp only at b1 b2 d1 d2 k1 k2
      clear hb7
      by_cases hz3 : z3 = 0
      · obtain ⟨i3, hi3, hq3, hd3⟩ := HEND.out hz3
        have hz3' : (z3 == 0) = true := by rw [hz3]; rfl
        have HD3 := Hid.mkT hd3
        have HC : Hid (∀ k, k < l3.length → ∃ b off ca cc, a5 = some ⟨b, off, none⟩ ∧ Qv.CellsAt w7 b (off + k * 4) ⟨(l3.getD k Qu.zero).id, (l3.getD k Qu.zero).quantum, (l3.getD k Qu.zero).deficit, ca, (l3.getD k Qu.zero).costs.length, cc⟩ ∧ IntsAt w7 (.slice ca (l3.getD k Qu.zero).costs.length cc) (l3.getD k Qu.zero).costs) := fun k hk => by
          obtain ⟨b, off, ca, cc, e, h1, -⟩ := (HT6'.out.later HB7.out).at hk
          exact ⟨b, off, ca, cc, e, (h1 _ (Below.refl _ _)).1, (h1 _ (Below.refl _ _)).2⟩
        have HQ3 := Hid.mkT hq3
        clear hd3 hq3 hz3 HEND HNO HYES
        have hl3 := HL3.out
        go_wp2
        go_loopw [15] (fun x u => ∃ k : Nat, k ≤ i3 ∧ x = .int .i64 k ∧ u = w7) (fun x _ => l3.length - (intOf x).toNat)
        case atStart => exact ⟨0, by omega, rfl, rfl⟩
        case round =>
          obtain ⟨k, hk, rfl, hu⟩ := hrel
          subst hu
          have hkl : k < l3.length := by omega
          have hki : (k : Int) < (l3.length : Int) := by omega
          obtain ⟨b, off, ca, cc, rfl, ⟨c0, c1', c2, c3'⟩, hin⟩ := HC.out k hkl
          simp only at c0 c1' c2 c3'
          by_cases hki3 : k = i3
          · subst hki3
            rw [HQ3.out] at c0 c1' c2 c3' hin
            simp only [List.length_singleton] at c0 c1' c2 c3' hin
            obtain ⟨cb, co, rfl, y0, -⟩ := hin.cell (i := 0) (by simp)
            simp only [Nat.add_zero, List.getD_cons_zero] at y0
            clear HC hin
            go_wp2
            go_ret
            exact ⟨by first | rfl | simp, by first | exact HBW7.out | (rw [← hB]; exact HBW7.out)⟩
          · have hne3 := HD3.out k (by omega)
            have hne4 : ((l3.getD k Qu.zero).id == id) = false := by simpa using hne3
            clear HC hin
            generalize (l3.getD k Qu.zero).id = x at *
            go_wp2
            go_roundw
            case rel => exact ⟨k + 1, by omega, by go_num, by first | rfl | trivial⟩
            case measure => simp only [intOf]; omega
      · have hz3' : (z3 == 0) = false := by simpa using hz3
        have hcc := HNO.out hz3
        clear HEND HNO HYES hz3
        rcases hcc with hcc | hcc
        · go_wp2
          go_ret
          exact ⟨by first | rfl | simp, by first | exact HBW7.out | (rw [← hB]; exact HBW7.out)⟩
        · by_cases hcc1 : c < 1
          · omega
          · go_wp2
            go_ret
            exact ⟨by first | rfl | simp, by first | exact HBW7.out | (rw [← hB]; exact HBW7.out)⟩
  · have hT := HN.out hz1
    simp only [Tr.zero, Tr.mk.injEq] at hT
    have hl0 : l1.length = 0 := by rw [hT.1]; rfl
    generalize l1.length = N1 at *
    have hl1 : ((N1 : Int) == 0) = true := by rw [hl0]; rfl
    have hl2 : (N1 : Int) = 0 := by omega
    clear HO HN HV1 HA1 hT hl0
    go_wp2_with fail
    refine (HW.out _).mono ?_
    rintro e w3 ⟨rfl, hb3⟩
    have HF : Hid (Below w.heap.size w w3) := below_of (below_of HB0.out HB2.out) hb3
    clear d0 d1 d2 b0 b1 b2
    obtain ⟨d0, d1, d2, -, -⟩ := (HX2.out.later hb3)
    simp only at d1 d2
    clear hb3
    go_wp2
    go_ret
    exact ⟨by first | rfl | simp, by first | exact HF.out | (rw [← hB]; exact HF.out)⟩
end Go.Proofs.Ytelhjdplghpnbaa
