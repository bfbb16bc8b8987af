import Derived.Test.YtelhjdplghpnbabSdJp
/-! The document's Check, its turn fresh. -/
namespace Go.Proofs.Ytelhjdplghpnbab
open Go.RowKit Plain
set_option linter.unusedVariables false
set_option linter.unusedSimpArgs false

set_option maxHeartbeats 8000000 in
set_option maxRecDepth 100000 in
theorem rcheckT (t : Tr) (v : Value) (w : World) (h : TrAt w v t) (hf : t.fresh = true) : Calls Try.prog 11 #[turV v t] w fun e w' => e = .returned (.int .i64 (chkT t)) ∧ Below w.heap.size w w' := by
  obtain ⟨l, z, f⟩ := t
  simp only at hf
  subst hf
  obtain ⟨hrow, hz1, hz2⟩ := h
  simp only at hrow hz1 hz2
  obtain ⟨a, cap, rfl, hl⟩ := hrow.shape
  unfold turV
  simp only
  obtain ⟨w0, hw0⟩ : ∃ w0, w.alloc (.cells #[.slice a l.length cap, .int .i64 z, .bool true] 24) = w0 := ⟨_, rfl⟩
  obtain ⟨B, hB⟩ : ∃ B, w.heap.size = B := ⟨_, rfl⟩
  have HB0 : Hid (Below w.heap.size w w0) := by have := (turBox w (.slice a l.length cap) z true).1; rw [hw0] at this; exact this
  have HM : Hid (∀ u, Below w0.heap.size w0 u → u.cell? ⟨B, 0, none⟩ = some (.slice a l.length cap) ∧ u.cell? ⟨B, 1, none⟩ = some (.int .i64 z) ∧ u.cell? ⟨B, 2, none⟩ = some (.bool true)) := by have := (turBox w (.slice a l.length cap) z true).2; rw [hw0, hB] at this; exact this
  have HC : Hid (∀ i, i < l.length → ∃ b off ca cc, a = some ⟨b, off, none⟩ ∧ (∀ u, Below w0.heap.size w0 u → Qv.CellsAt u b (off + i * 4) ⟨(l.getD i Qu.zero).id, (l.getD i Qu.zero).quantum, (l.getD i Qu.zero).deficit, ca, (l.getD i Qu.zero).costs.length, cc⟩ ∧ IntsAt u (.slice ca (l.getD i Qu.zero).costs.length cc) (l.getD i Qu.zero).costs) ∧ I64 (l.getD i Qu.zero).id ∧ I64 (l.getD i Qu.zero).quantum ∧ I64 (l.getD i Qu.zero).deficit) := fun i hi => by
    obtain ⟨b, off, ca, cc, e, h1, h2⟩ := hrow.at hi
    exact ⟨b, off, ca, cc, e, fun u hu => h1 u (below_of HB0.out hu), h2⟩
  have HQ : Hid (∀ i, (Tr.mk l z true).q i = l.getD i Qu.zero) := fun i => rfl
  obtain ⟨m0, m1, m2⟩ := HM.out w0 (Below.refl _ _)
  have HHD : Hid (headB ⟨l, z, true⟩ = (decide (32 < l.length) || decide (z < 0) || decide (max ((l.length : Int) - 1) 0 < z) || (true && decide (l.length = 0)))) := rfl
  have HX1 : Hid (headB ⟨l, z, true⟩ = true → chkT ⟨l, z, true⟩ = 190) := chk_head
  have HX2 : Hid (headB ⟨l, z, true⟩ = false → ∀ i, i < l.length → badQ ⟨l, z, true⟩ i = true → chkT ⟨l, z, true⟩ = 190) := fun h i hi => chk_bad (t := ⟨l, z, true⟩) h hi
  have HX3 : Hid (headB ⟨l, z, true⟩ = false → (∀ i, i < l.length → badQ ⟨l, z, true⟩ i = false) → ∀ i, i < l.length → badL (l.getD i Qu.zero).costs = true → chkT ⟨l, z, true⟩ = 191) := fun h hq i hi hb => chk_cost (t := ⟨l, z, true⟩) h hq hi hb
  have HX4 : Hid (headB ⟨l, z, true⟩ = false → (∀ i, i < l.length → badQ ⟨l, z, true⟩ i = false) → (∀ i, i < l.length → badL (l.getD i Qu.zero).costs = false) → chkT ⟨l, z, true⟩ = 0) := fun h hq hb => chk_fine (t := ⟨l, z, true⟩) h hq hb
  have HBQ : Hid (∀ i, badQ ⟨l, z, true⟩ i = true ↔ ((l.getD i Qu.zero).id < 0 ∨ (0 < i ∧ (l.getD i Qu.zero).id ≤ (l.getD (i - 1) Qu.zero).id) ∨ (l.getD i Qu.zero).quantum < 1 ∨ 65536 < (l.getD i Qu.zero).quantum ∨ (l.getD i Qu.zero).deficit < 0 ∨ (if (true : Bool) = true ∧ (i : Int) = z then 1114111 else 1048575) < (l.getD i Qu.zero).deficit ∨ ((l.getD i Qu.zero).costs.length = 0 ∧ 0 < (l.getD i Qu.zero).deficit))) := fun i => badQ_iff ⟨l, z, true⟩ i
  generalize chkT ⟨l, z, true⟩ = A at *
  generalize hn : l.length = n at *
  have HN := Hid.mkT hn
  clear hn
  clear HQ hrow
  by_cases g1 : 32 < n
  · have g1' : (32 : Int) < (n : Int) := by omega
    have HA1 : Hid (A = 190) := HX1.out (by rw [HHD.out]; simp <;> omega)
    clear HHD HX1 HX2 HX3 HX4 HBQ HC HN
    go_enter Try.func11, Try.ntmps11
    go_wp2
    go_ret
    exact ⟨by rw [HA1.out]; rfl, by first | exact HB0.out | (rw [← hB]; exact HB0.out)⟩
  by_cases g2 : z < 0
  · have HA1 : Hid (A = 190) := HX1.out (by rw [HHD.out]; simp <;> omega)
    clear HHD HX1 HX2 HX3 HX4 HBQ HC HN
    go_enter Try.func11, Try.ntmps11
    go_wp2
    go_ret
    exact ⟨by rw [HA1.out]; rfl, by first | exact HB0.out | (rw [← hB]; exact HB0.out)⟩
  by_cases g3 : n = 0
  · subst g3
    by_cases g4 : 0 < z
    · have HA1 : Hid (A = 190) := HX1.out (by rw [HHD.out]; simp <;> omega)
      clear HHD HX1 HX2 HX3 HX4 HBQ HC HN
      go_enter Try.func11, Try.ntmps11
      go_wp2
      go_ret
      exact ⟨by rw [HA1.out]; rfl, by first | exact HB0.out | (rw [← hB]; exact HB0.out)⟩
    obtain rfl : z = 0 := by omega
    have HA1 : Hid (A = 190) := HX1.out (by rw [HHD.out]; simp <;> omega)
    clear HHD HX1 HX2 HX3 HX4 HBQ HC HN
    go_enter Try.func11, Try.ntmps11
    go_wp2
    go_ret
    exact ⟨by rw [HA1.out]; rfl, by first | exact HB0.out | (rw [← hB]; exact HB0.out)⟩
  by_cases g5 : (n : Int) - 1 < z
  · have gm : max ((n : Int) - 1) 0 = (n : Int) - 1 := by omega
    have HA1 : Hid (A = 190) := HX1.out (by rw [HHD.out]; simp <;> omega)
    clear HHD HX1 HX2 HX3 HX4 HBQ HC HN
    go_enter Try.func11, Try.ntmps11
    go_wp2
    go_ret
    exact ⟨by rw [HA1.out]; rfl, by first | exact HB0.out | (rw [← hB]; exact HB0.out)⟩
  have gm : max ((n : Int) - 1) 0 = (n : Int) - 1 := by omega
  have g6 : ¬ (32 : Int) < (n : Int) := by omega
  have HH : Hid (headB ⟨l, z, true⟩ = false) := by unfold Hid; rw [HHD.out]; simp <;> omega
  clear HHD HX1
  go_enter Try.func11, Try.ntmps11
  go_wp2
  go_loopw [3] (fun i wr => ∃ k : Nat, k ≤ n ∧ i = .int .i64 k ∧ Hid (∀ j, j < k → badQ ⟨l, z, true⟩ j = false) ∧ Hid (Below w0.heap.size w0 wr)) (fun i _ => n - (intOf i).toNat)
  case atStart => exact ⟨0, by omega, rfl, fun j hj => by omega, Below.refl _ _⟩
  case round =>
    obtain ⟨k, hk, rfl, HAL, HBW⟩ := hrel
    clear m0 m1 m2
    obtain ⟨m0, m1, m2⟩ := HM.out wr HBW.out
    by_cases hlt : k < n
    · obtain ⟨b, off, ca, cc, rfl, hcu, i1, i2, i3⟩ := HC.out k hlt
      obtain ⟨hc, -⟩ := hcu wr HBW.out
      have HPV : Hid (∀ u, Below w0.heap.size w0 u → 0 < k → u.cell? ⟨b, off + (k - 1) * 4, none⟩ = some (.int .i64 (l.getD (k - 1) Qu.zero).id)) := fun u hu h0 => by
        obtain ⟨b', o', ca', cc', e, hh, -⟩ := HC.out (k - 1) (by omega)
        simp at e
        obtain ⟨rfl, rfl⟩ := e
        exact (hh u hu).1.c0
      obtain ⟨c0, c1, c2, c3⟩ := hc
      simp only at c0 c1 c2 c3
      clear hcu
      obtain ⟨xi, hxi⟩ : ∃ xi, (l.getD k Qu.zero).id = xi := ⟨_, rfl⟩
      obtain ⟨xq, hxq⟩ : ∃ xq, (l.getD k Qu.zero).quantum = xq := ⟨_, rfl⟩
      obtain ⟨xd, hxd⟩ : ∃ xd, (l.getD k Qu.zero).deficit = xd := ⟨_, rfl⟩
      obtain ⟨xn, hxn⟩ : ∃ xn, (l.getD k Qu.zero).costs.length = xn := ⟨_, rfl⟩
      obtain ⟨pv, hpv⟩ : ∃ pv, (l.getD (k - 1) Qu.zero).id = pv := ⟨_, rfl⟩
      rw [hxi] at c0 i1
      rw [hxq] at c1 i2
      rw [hxd] at c2 i3
      rw [hxn] at c3
      rw [hpv] at HPV
      have HBI := Hid.mkT (HBQ.out k)
      rw [hxi, hxq, hxd, hxn, hpv] at HBI
      clear hxi hxq hxd hxn hpv HBQ
      have hki : (k : Int) < (n : Int) := by omega
      obtain ⟨w1, hw1⟩ : ∃ w1, wr.alloc (.cells #[.int .i64 xi, .int .i64 xq, .int .i64 xd, .slice ca xn cc] 37) = w1 := ⟨_, rfl⟩
      obtain ⟨D, hD⟩ : ∃ D, wr.heap.size = D := ⟨_, rfl⟩
      obtain ⟨qb1, qb2⟩ := queBox wr xi xq xd (.slice ca xn cc)
      rw [hw1] at qb1 qb2
      rw [hD] at qb2
      have HB1 : Hid (Below w0.heap.size w0 w1) := below_of HBW.out qb1
      obtain ⟨d0, d1, d2, d3⟩ := qb2 w1 (Below.refl _ _)
      clear qb1 qb2 m0 m1 m2
      have HDW : Hid (∀ n, Below w.heap.size w (w1.drewN n)) := fun n => below_of (below_of HB0.out HB1.out) (below_drawn w1 n)
      have HDX : Hid (∀ n, Below w0.heap.size w0 (w1.drewN n)) := fun n => below_of HB1.out (below_drawn w1 n)
      obtain ⟨m0, m1, m2⟩ := HM.out wr HBW.out
      obtain ⟨n0, n1, n2⟩ := HM.out w1 HB1.out
      by_cases hkz : (k : Int) = z
      · simp only [hkz, and_self, and_true, true_and, if_true] at HBI
        have HKZ := Hid.mkT hkz
        have hz9 : ((k : Int) == z) = true := by simp [hkz]
        clear hkz
        by_cases hk0 : k = 0
        · subst hk0
          have hz8 : ((0 : Int) == z) = true := by have := HKZ.out; simp at this ⊢; omega
          clear hz9
          simp only [Nat.zero_mul, Nat.add_zero] at c0 c1 c2 c3
          by_cases t1 : xi < 0
          · have t1' : decide (xi < 0) = true := decide_eq_true t1
            have HA1 : Hid (A = 190) := HX2.out HH.out _ hlt (HBI.out.mpr (by omega))
            clear HBI HX2 HX3 HX4 HAL HPV HC
            go_wp2
            go_quiet (fail)
            go_wp2
            go_ret
            exact ⟨by rw [HA1.out]; rfl, by first | exact HDW.out _ | (rw [← hB]; exact HDW.out _)⟩
          have t1' : decide (xi < 0) = false := decide_eq_false t1
          by_cases t3 : xq < 1
          · have t3' : decide (xq < 1) = true := decide_eq_true t3
            have HA1 : Hid (A = 190) := HX2.out HH.out _ hlt (HBI.out.mpr (by omega))
            clear HBI HX2 HX3 HX4 HAL HPV HC
            go_wp2
            go_quiet (fail)
            go_wp2
            go_ret
            exact ⟨by rw [HA1.out]; rfl, by first | exact HDW.out _ | (rw [← hB]; exact HDW.out _)⟩
          have t3' : decide (xq < 1) = false := decide_eq_false t3
          by_cases t4 : 65536 < xq
          · have t4' : decide (65536 < xq) = true := decide_eq_true t4
            have HA1 : Hid (A = 190) := HX2.out HH.out _ hlt (HBI.out.mpr (by omega))
            clear HBI HX2 HX3 HX4 HAL HPV HC
            go_wp2
            go_quiet (fail)
            go_wp2
            go_ret
            exact ⟨by rw [HA1.out]; rfl, by first | exact HDW.out _ | (rw [← hB]; exact HDW.out _)⟩
          have t4' : decide (65536 < xq) = false := decide_eq_false t4
          by_cases t5 : xd < 0
          · have t5' : decide (xd < 0) = true := decide_eq_true t5
            have HA1 : Hid (A = 190) := HX2.out HH.out _ hlt (HBI.out.mpr (by omega))
            clear HBI HX2 HX3 HX4 HAL HPV HC
            go_wp2
            go_quiet (fail)
            go_wp2
            go_ret
            exact ⟨by rw [HA1.out]; rfl, by first | exact HDW.out _ | (rw [← hB]; exact HDW.out _)⟩
          have t5' : decide (xd < 0) = false := decide_eq_false t5
          by_cases t6 : 1114111 < xd
          · have t6' : decide (1114111 < xd) = true := decide_eq_true t6
            have HA1 : Hid (A = 190) := HX2.out HH.out _ hlt (HBI.out.mpr (by omega))
            clear HBI HX2 HX3 HX4 HAL HPV HC
            go_wp2
            go_quiet (fail)
            go_wp2
            go_ret
            exact ⟨by rw [HA1.out]; rfl, by first | exact HDW.out _ | (rw [← hB]; exact HDW.out _)⟩
          have t6' : decide (1114111 < xd) = false := decide_eq_false t6
          by_cases t7 : xn = 0
          · by_cases t8 : 0 < xd
            · have HA1 : Hid (A = 190) := HX2.out HH.out _ hlt (HBI.out.mpr (by omega))
              subst t7
              clear HBI HX2 HX3 HX4 HAL HPV HC
              go_wp2
              go_quiet (fail)
              go_wp2
              go_ret
              exact ⟨by rw [HA1.out]; rfl, by first | exact HDW.out _ | (rw [← hB]; exact HDW.out _)⟩
            · have HNX : Hid (badQ ⟨l, z, true⟩ 0 = false) := by
                exact Bool.eq_false_iff.mpr (fun e => by have := HBI.out.mp e; omega)
              have HAL2 : Hid (∀ j, j < 0 + 1 → badQ ⟨l, z, true⟩ j = false) := fun j hj => by
                by_cases e : j = 0
                · rw [e]; exact HNX.out
                · exact HAL.out j (by omega)
              subst t7
              clear HBI HX2 HX3 HX4 HAL HPV HC
              go_wp2
              go_quiet (fail)
              go_wp2
              go_roundw
              case rel => exact ⟨0 + 1, by omega, by go_num, HAL2.out, HDX.out _⟩
              case measure => simp only [intOf]; omega
          · have HNX : Hid (badQ ⟨l, z, true⟩ 0 = false) := by
              exact Bool.eq_false_iff.mpr (fun e => by have := HBI.out.mp e; omega)
            have HAL2 : Hid (∀ j, j < 0 + 1 → badQ ⟨l, z, true⟩ j = false) := fun j hj => by
              by_cases e : j = 0
              · rw [e]; exact HNX.out
              · exact HAL.out j (by omega)
            have t7' : ¬ (xn : Int) = 0 := by omega
            clear HBI HX2 HX3 HX4 HAL HPV HC
            go_wp2
            go_quiet (fail)
            go_wp2
            go_roundw
            case rel => exact ⟨0 + 1, by omega, by go_num, HAL2.out, HDX.out _⟩
            case measure => simp only [intOf]; omega
        have hk1 : 0 < k := by omega
        obtain ⟨p, hp⟩ : ∃ p : Nat, k - 1 = p := ⟨_, rfl⟩
        have pc := HPV.out w1 HB1.out hk1
        rw [hp] at pc
        have hki1 : (0 : Int) < (k : Int) := by omega
        have hpk : (k : Int) - 1 = (p : Int) := by omega
        have hwk : IntKind.i64.wrap (p : Int) = (p : Int) := IntWalk.i64_in _ ⟨by omega, by omega⟩
        have hpn : (p : Int) < (n : Int) := by omega
        have hpn' : p < n := by omega
        clear hp
        by_cases t1 : xi < 0
        · have t1' : decide (xi < 0) = true := decide_eq_true t1
          have HA1 : Hid (A = 190) := HX2.out HH.out _ hlt (HBI.out.mpr (by omega))
          clear HBI HX2 HX3 HX4 HAL HPV HC
          go_wp2
          go_quiet (fail)
          go_wp2
          go_ret
          exact ⟨by rw [HA1.out]; rfl, by first | exact HDW.out _ | (rw [← hB]; exact HDW.out _)⟩
        have t1' : decide (xi < 0) = false := decide_eq_false t1
        by_cases t2 : xi ≤ pv
        · have t2' : decide (xi ≤ pv) = true := decide_eq_true t2
          have HA1 : Hid (A = 190) := HX2.out HH.out _ hlt (HBI.out.mpr (by omega))
          clear HBI HX2 HX3 HX4 HAL HPV HC
          go_wp2
          go_quiet (fail)
          go_wp2
          go_ret
          exact ⟨by rw [HA1.out]; rfl, by first | exact HDW.out _ | (rw [← hB]; exact HDW.out _)⟩
        have t2' : decide (xi ≤ pv) = false := decide_eq_false t2
        by_cases t3 : xq < 1
        · have t3' : decide (xq < 1) = true := decide_eq_true t3
          have HA1 : Hid (A = 190) := HX2.out HH.out _ hlt (HBI.out.mpr (by omega))
          clear HBI HX2 HX3 HX4 HAL HPV HC
          go_wp2
          go_quiet (fail)
          go_wp2
          go_ret
          exact ⟨by rw [HA1.out]; rfl, by first | exact HDW.out _ | (rw [← hB]; exact HDW.out _)⟩
        have t3' : decide (xq < 1) = false := decide_eq_false t3
        by_cases t4 : 65536 < xq
        · have t4' : decide (65536 < xq) = true := decide_eq_true t4
          have HA1 : Hid (A = 190) := HX2.out HH.out _ hlt (HBI.out.mpr (by omega))
          clear HBI HX2 HX3 HX4 HAL HPV HC
          go_wp2
          go_quiet (fail)
          go_wp2
          go_ret
          exact ⟨by rw [HA1.out]; rfl, by first | exact HDW.out _ | (rw [← hB]; exact HDW.out _)⟩
        have t4' : decide (65536 < xq) = false := decide_eq_false t4
        by_cases t5 : xd < 0
        · have t5' : decide (xd < 0) = true := decide_eq_true t5
          have HA1 : Hid (A = 190) := HX2.out HH.out _ hlt (HBI.out.mpr (by omega))
          clear HBI HX2 HX3 HX4 HAL HPV HC
          go_wp2
          go_quiet (fail)
          go_wp2
          go_ret
          exact ⟨by rw [HA1.out]; rfl, by first | exact HDW.out _ | (rw [← hB]; exact HDW.out _)⟩
        have t5' : decide (xd < 0) = false := decide_eq_false t5
        by_cases t6 : 1114111 < xd
        · have t6' : decide (1114111 < xd) = true := decide_eq_true t6
          have HA1 : Hid (A = 190) := HX2.out HH.out _ hlt (HBI.out.mpr (by omega))
          clear HBI HX2 HX3 HX4 HAL HPV HC
          go_wp2
          go_quiet (fail)
          go_wp2
          go_ret
          exact ⟨by rw [HA1.out]; rfl, by first | exact HDW.out _ | (rw [← hB]; exact HDW.out _)⟩
        have t6' : decide (1114111 < xd) = false := decide_eq_false t6
        by_cases t7 : xn = 0
        · by_cases t8 : 0 < xd
          · have HA1 : Hid (A = 190) := HX2.out HH.out _ hlt (HBI.out.mpr (by omega))
            subst t7
            clear HBI HX2 HX3 HX4 HAL HPV HC
            go_wp2
            go_quiet (fail)
            go_wp2
            go_ret
            exact ⟨by rw [HA1.out]; rfl, by first | exact HDW.out _ | (rw [← hB]; exact HDW.out _)⟩
          · have HNX : Hid (badQ ⟨l, z, true⟩ k = false) := by
              exact Bool.eq_false_iff.mpr (fun e => by have := HBI.out.mp e; omega)
            have HAL2 : Hid (∀ j, j < k + 1 → badQ ⟨l, z, true⟩ j = false) := fun j hj => by
              by_cases e : j = k
              · rw [e]; exact HNX.out
              · exact HAL.out j (by omega)
            subst t7
            clear HBI HX2 HX3 HX4 HAL HPV HC
            go_wp2
            go_quiet (fail)
            go_wp2
            go_roundw
            case rel => exact ⟨k + 1, by omega, by go_num, HAL2.out, HDX.out _⟩
            case measure => simp only [intOf]; omega
        · have HNX : Hid (badQ ⟨l, z, true⟩ k = false) := by
            exact Bool.eq_false_iff.mpr (fun e => by have := HBI.out.mp e; omega)
          have HAL2 : Hid (∀ j, j < k + 1 → badQ ⟨l, z, true⟩ j = false) := fun j hj => by
            by_cases e : j = k
            · rw [e]; exact HNX.out
            · exact HAL.out j (by omega)
          have t7' : ¬ (xn : Int) = 0 := by omega
          clear HBI HX2 HX3 HX4 HAL HPV HC
          go_wp2
          go_quiet (fail)
          go_wp2
          go_roundw
          case rel => exact ⟨k + 1, by omega, by go_num, HAL2.out, HDX.out _⟩
          case measure => simp only [intOf]; omega
      simp only [hkz, and_false, if_false] at HBI
      by_cases hk0 : k = 0
      · subst hk0
        simp only [Nat.zero_mul, Nat.add_zero] at c0 c1 c2 c3
        by_cases t1 : xi < 0
        · have t1' : decide (xi < 0) = true := decide_eq_true t1
          have HA1 : Hid (A = 190) := HX2.out HH.out _ hlt (HBI.out.mpr (by omega))
          clear HBI HX2 HX3 HX4 HAL HPV HC
          go_wp2
          go_quiet (fail)
          go_wp2
          go_ret
          exact ⟨by rw [HA1.out]; rfl, by first | exact HDW.out _ | (rw [← hB]; exact HDW.out _)⟩
        have t1' : decide (xi < 0) = false := decide_eq_false t1
        by_cases t3 : xq < 1
        · have t3' : decide (xq < 1) = true := decide_eq_true t3
          have HA1 : Hid (A = 190) := HX2.out HH.out _ hlt (HBI.out.mpr (by omega))
          clear HBI HX2 HX3 HX4 HAL HPV HC
          go_wp2
          go_quiet (fail)
          go_wp2
          go_ret
          exact ⟨by rw [HA1.out]; rfl, by first | exact HDW.out _ | (rw [← hB]; exact HDW.out _)⟩
        have t3' : decide (xq < 1) = false := decide_eq_false t3
        by_cases t4 : 65536 < xq
        · have t4' : decide (65536 < xq) = true := decide_eq_true t4
          have HA1 : Hid (A = 190) := HX2.out HH.out _ hlt (HBI.out.mpr (by omega))
          clear HBI HX2 HX3 HX4 HAL HPV HC
          go_wp2
          go_quiet (fail)
          go_wp2
          go_ret
          exact ⟨by rw [HA1.out]; rfl, by first | exact HDW.out _ | (rw [← hB]; exact HDW.out _)⟩
        have t4' : decide (65536 < xq) = false := decide_eq_false t4
        by_cases t5 : xd < 0
        · have t5' : decide (xd < 0) = true := decide_eq_true t5
          have HA1 : Hid (A = 190) := HX2.out HH.out _ hlt (HBI.out.mpr (by omega))
          clear HBI HX2 HX3 HX4 HAL HPV HC
          go_wp2
          go_quiet (fail)
          go_wp2
          go_ret
          exact ⟨by rw [HA1.out]; rfl, by first | exact HDW.out _ | (rw [← hB]; exact HDW.out _)⟩
        have t5' : decide (xd < 0) = false := decide_eq_false t5
        by_cases t6 : 1048575 < xd
        · have t6' : decide (1048575 < xd) = true := decide_eq_true t6
          have HA1 : Hid (A = 190) := HX2.out HH.out _ hlt (HBI.out.mpr (by omega))
          clear HBI HX2 HX3 HX4 HAL HPV HC
          go_wp2
          go_quiet (fail)
          go_wp2
          go_ret
          exact ⟨by rw [HA1.out]; rfl, by first | exact HDW.out _ | (rw [← hB]; exact HDW.out _)⟩
        have t6' : decide (1048575 < xd) = false := decide_eq_false t6
        by_cases t7 : xn = 0
        · by_cases t8 : 0 < xd
          · have HA1 : Hid (A = 190) := HX2.out HH.out _ hlt (HBI.out.mpr (by omega))
            subst t7
            clear HBI HX2 HX3 HX4 HAL HPV HC
            go_wp2
            go_quiet (fail)
            go_wp2
            go_ret
            exact ⟨by rw [HA1.out]; rfl, by first | exact HDW.out _ | (rw [← hB]; exact HDW.out _)⟩
          · have HNX : Hid (badQ ⟨l, z, true⟩ 0 = false) := by
              exact Bool.eq_false_iff.mpr (fun e => by have := HBI.out.mp e; omega)
            have HAL2 : Hid (∀ j, j < 0 + 1 → badQ ⟨l, z, true⟩ j = false) := fun j hj => by
              by_cases e : j = 0
              · rw [e]; exact HNX.out
              · exact HAL.out j (by omega)
            subst t7
            clear HBI HX2 HX3 HX4 HAL HPV HC
            go_wp2
            go_quiet (fail)
            go_wp2
            go_roundw
            case rel => exact ⟨0 + 1, by omega, by go_num, HAL2.out, HDX.out _⟩
            case measure => simp only [intOf]; omega
        · have HNX : Hid (badQ ⟨l, z, true⟩ 0 = false) := by
            exact Bool.eq_false_iff.mpr (fun e => by have := HBI.out.mp e; omega)
          have HAL2 : Hid (∀ j, j < 0 + 1 → badQ ⟨l, z, true⟩ j = false) := fun j hj => by
            by_cases e : j = 0
            · rw [e]; exact HNX.out
            · exact HAL.out j (by omega)
          have t7' : ¬ (xn : Int) = 0 := by omega
          clear HBI HX2 HX3 HX4 HAL HPV HC
          go_wp2
          go_quiet (fail)
          go_wp2
          go_roundw
          case rel => exact ⟨0 + 1, by omega, by go_num, HAL2.out, HDX.out _⟩
          case measure => simp only [intOf]; omega
      have hk1 : 0 < k := by omega
      obtain ⟨p, hp⟩ : ∃ p : Nat, k - 1 = p := ⟨_, rfl⟩
      have pc := HPV.out w1 HB1.out hk1
      rw [hp] at pc
      have hki1 : (0 : Int) < (k : Int) := by omega
      have hpk : (k : Int) - 1 = (p : Int) := by omega
      have hwk : IntKind.i64.wrap (p : Int) = (p : Int) := IntWalk.i64_in _ ⟨by omega, by omega⟩
      have hpn : (p : Int) < (n : Int) := by omega
      have hpn' : p < n := by omega
      clear hp
      by_cases t1 : xi < 0
      · have t1' : decide (xi < 0) = true := decide_eq_true t1
        have HA1 : Hid (A = 190) := HX2.out HH.out _ hlt (HBI.out.mpr (by omega))
        clear HBI HX2 HX3 HX4 HAL HPV HC
        go_wp2
        go_quiet (fail)
        go_wp2
        go_ret
        exact ⟨by rw [HA1.out]; rfl, by first | exact HDW.out _ | (rw [← hB]; exact HDW.out _)⟩
      have t1' : decide (xi < 0) = false := decide_eq_false t1
      by_cases t2 : xi ≤ pv
      · have t2' : decide (xi ≤ pv) = true := decide_eq_true t2
        have HA1 : Hid (A = 190) := HX2.out HH.out _ hlt (HBI.out.mpr (by omega))
        clear HBI HX2 HX3 HX4 HAL HPV HC
        go_wp2
        go_quiet (fail)
        go_wp2
        go_ret
        exact ⟨by rw [HA1.out]; rfl, by first | exact HDW.out _ | (rw [← hB]; exact HDW.out _)⟩
      have t2' : decide (xi ≤ pv) = false := decide_eq_false t2
      by_cases t3 : xq < 1
      · have t3' : decide (xq < 1) = true := decide_eq_true t3
        have HA1 : Hid (A = 190) := HX2.out HH.out _ hlt (HBI.out.mpr (by omega))
        clear HBI HX2 HX3 HX4 HAL HPV HC
        go_wp2
        go_quiet (fail)
        go_wp2
        go_ret
        exact ⟨by rw [HA1.out]; rfl, by first | exact HDW.out _ | (rw [← hB]; exact HDW.out _)⟩
      have t3' : decide (xq < 1) = false := decide_eq_false t3
      by_cases t4 : 65536 < xq
      · have t4' : decide (65536 < xq) = true := decide_eq_true t4
        have HA1 : Hid (A = 190) := HX2.out HH.out _ hlt (HBI.out.mpr (by omega))
        clear HBI HX2 HX3 HX4 HAL HPV HC
        go_wp2
        go_quiet (fail)
        go_wp2
        go_ret
        exact ⟨by rw [HA1.out]; rfl, by first | exact HDW.out _ | (rw [← hB]; exact HDW.out _)⟩
      have t4' : decide (65536 < xq) = false := decide_eq_false t4
      by_cases t5 : xd < 0
      · have t5' : decide (xd < 0) = true := decide_eq_true t5
        have HA1 : Hid (A = 190) := HX2.out HH.out _ hlt (HBI.out.mpr (by omega))
        clear HBI HX2 HX3 HX4 HAL HPV HC
        go_wp2
        go_quiet (fail)
        go_wp2
        go_ret
        exact ⟨by rw [HA1.out]; rfl, by first | exact HDW.out _ | (rw [← hB]; exact HDW.out _)⟩
      have t5' : decide (xd < 0) = false := decide_eq_false t5
      by_cases t6 : 1048575 < xd
      · have t6' : decide (1048575 < xd) = true := decide_eq_true t6
        have HA1 : Hid (A = 190) := HX2.out HH.out _ hlt (HBI.out.mpr (by omega))
        clear HBI HX2 HX3 HX4 HAL HPV HC
        go_wp2
        go_quiet (fail)
        go_wp2
        go_ret
        exact ⟨by rw [HA1.out]; rfl, by first | exact HDW.out _ | (rw [← hB]; exact HDW.out _)⟩
      have t6' : decide (1048575 < xd) = false := decide_eq_false t6
      by_cases t7 : xn = 0
      · by_cases t8 : 0 < xd
        · have HA1 : Hid (A = 190) := HX2.out HH.out _ hlt (HBI.out.mpr (by omega))
          subst t7
          clear HBI HX2 HX3 HX4 HAL HPV HC
          go_wp2
          go_quiet (fail)
          go_wp2
          go_ret
          exact ⟨by rw [HA1.out]; rfl, by first | exact HDW.out _ | (rw [← hB]; exact HDW.out _)⟩
        · have HNX : Hid (badQ ⟨l, z, true⟩ k = false) := by
            exact Bool.eq_false_iff.mpr (fun e => by have := HBI.out.mp e; omega)
          have HAL2 : Hid (∀ j, j < k + 1 → badQ ⟨l, z, true⟩ j = false) := fun j hj => by
            by_cases e : j = k
            · rw [e]; exact HNX.out
            · exact HAL.out j (by omega)
          subst t7
          clear HBI HX2 HX3 HX4 HAL HPV HC
          go_wp2
          go_quiet (fail)
          go_wp2
          go_roundw
          case rel => exact ⟨k + 1, by omega, by go_num, HAL2.out, HDX.out _⟩
          case measure => simp only [intOf]; omega
      · have HNX : Hid (badQ ⟨l, z, true⟩ k = false) := by
          exact Bool.eq_false_iff.mpr (fun e => by have := HBI.out.mp e; omega)
        have HAL2 : Hid (∀ j, j < k + 1 → badQ ⟨l, z, true⟩ j = false) := fun j hj => by
          by_cases e : j = k
          · rw [e]; exact HNX.out
          · exact HAL.out j (by omega)
        have t7' : ¬ (xn : Int) = 0 := by omega
        clear HBI HX2 HX3 HX4 HAL HPV HC
        go_wp2
        go_quiet (fail)
        go_wp2
        go_roundw
        case rel => exact ⟨k + 1, by omega, by go_num, HAL2.out, HDX.out _⟩
        case measure => simp only [intOf]; omega
    · have hkn : n = k := by omega
      subst hkn
      have HAL2 : Hid (∀ j, j < n → badQ ⟨l, z, true⟩ j = false) := HAL
      have HBW2 := HBW
      clear HBQ HX2 HAL
      go_wp2
      go_loopw [6] (fun i u => ∃ k : Nat, k ≤ n ∧ i = .int .i64 k ∧ Hid (∀ j, j < k → badL (l.getD j Qu.zero).costs = false) ∧ Hid (Below w0.heap.size w0 u)) (fun i _ => n - (intOf i).toNat)
      case atStart => exact ⟨0, by omega, rfl, fun j hj => by omega, HBW2.out⟩
      case round =>
        obtain ⟨k, hk, rfl, HCL, HBU⟩ := hrel
        clear m0 m1 m2
        obtain ⟨m0, m1, m2⟩ := HM.out wr HBU.out
        by_cases hlt : k < n
        · obtain ⟨b, off, ca, cc, rfl, hcu, -⟩ := HC.out k hlt
          have HCU := Hid.mkT hcu
          clear hcu
          obtain ⟨⟨-, -, -, c3⟩, hin⟩ := HCU.out wr HBU.out
          simp only at c3
          have hki : (k : Int) < (n : Int) := by omega
          have HX5 : Hid (badL (l.getD k Qu.zero).costs = true → A = 191) := fun e => HX3.out HH.out HAL2.out k hlt e
          have HCN : Hid (badL (l.getD k Qu.zero).costs = false → ∀ j, j < k + 1 → badL (l.getD j Qu.zero).costs = false) := fun e j hj => by
            by_cases e2 : j = k
            · rw [e2]; exact e
            · exact HCL.out j (by omega)
          have hcm := hin.most
          clear hin
          generalize (l.getD k Qu.zero).costs = cs at *
          generalize hN : cs.length = N at *
          have HNN := Hid.mkT hN
          clear hN
          go_wp2
          go_loopw [7] (fun i u => ∃ m : Nat, m ≤ N ∧ i = .int .i64 m ∧ Hid (∀ j, j < m → 1 ≤ cs.getD j 0 ∧ cs.getD j 0 ≤ 1048576) ∧ Hid (Below w0.heap.size w0 u)) (fun i _ => N - (intOf i).toNat)
          case atStart => exact ⟨0, by omega, rfl, fun j hj => by omega, HBU.out⟩
          case round =>
            obtain ⟨m, hm, rfl, HML, HBV⟩ := hrel
            clear m0 m1 m2 c3
            obtain ⟨m0, m1, m2⟩ := HM.out wr HBV.out
            obtain ⟨⟨-, -, -, c3⟩, hin⟩ := HCU.out wr HBV.out
            simp only at c3
            by_cases hml : m < N
            · obtain ⟨cb, co, rfl, y0, yi1, yi2⟩ := hin.cell (i := m) (by rw [HNN.out]; exact hml)
              have HBT : Hid (cs.getD m 0 < 1 ∨ 1048576 < cs.getD m 0 → badL cs = true) := fun h => badL_take (by rw [HNN.out]; exact hml) h
              have HMN : Hid (1 ≤ cs.getD m 0 → cs.getD m 0 ≤ 1048576 → ∀ j, j < m + 1 → 1 ≤ cs.getD j 0 ∧ cs.getD j 0 ≤ 1048576) := fun e1 e2 j hj => by
                by_cases e3 : j = m
                · rw [e3]; exact ⟨e1, e2⟩
                · exact HML.out j (by omega)
              clear hin
              generalize cs.getD m 0 = y at *
              have hmi : (m : Int) < (N : Int) := by omega
              have HDW : Hid (Below w.heap.size w wr) := below_of HB0.out HBV.out
              by_cases y1 : y < 1
              · have HA1 : Hid (A = 191) := HX5.out (HBT.out (.inl y1))
                clear HX5 HBT HMN HCN
                go_wp2
                go_ret
                exact ⟨by rw [HA1.out]; rfl, by first | exact HDW.out | (rw [← hB]; exact HDW.out)⟩
              by_cases y2 : 1048576 < y
              · have HA1 : Hid (A = 191) := HX5.out (HBT.out (.inr y2))
                clear HX5 HBT HMN HCN
                go_wp2
                go_ret
                exact ⟨by rw [HA1.out]; rfl, by first | exact HDW.out | (rw [← hB]; exact HDW.out)⟩
              have HMM := Hid.mkT (HMN.out (by omega) (by omega))
              clear HX5 HBT HMN HCN
              go_wp2
              go_roundw
              case rel => exact ⟨m + 1, by omega, by go_num, HMM.out, HBV.out⟩
              case measure => simp only [intOf]; omega
            · have hmn : N = m := by omega
              subst hmn
              have HBF : Hid (∀ j, j < k + 1 → badL (l.getD j Qu.zero).costs = false) := HCN.out (badL_false.mpr (fun c hc => by
                obtain ⟨j, hj, e⟩ := List.mem_iff_getElem.mp hc
                have := HML.out j (by have := HNN.out; omega)
                simp [List.getD_eq_getElem?_getD, hj, e] at this
                omega))
              clear HX5 HCN HML hin
              go_wp2
              go_roundw
              case rel => exact ⟨k + 1, by omega, by go_num, HBF.out, HBV.out⟩
              case measure => simp only [intOf]; omega
        · have hkn : n = k := by omega
          subst hkn
          have HA1 : Hid (A = 0) := HX4.out HH.out HAL2.out HCL.out
          have HDW : Hid (Below w.heap.size w wr) := below_of HB0.out HBU.out
          clear HX3 HX4 HAL2 HCL
          go_wp2
          go_ret
          exact ⟨by rw [HA1.out]; rfl, by first | exact HDW.out | (rw [← hB]; exact HDW.out)⟩
end Go.Proofs.Ytelhjdplghpnbab
