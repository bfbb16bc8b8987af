import Derived.Test.YtpeejgnkdoeijaaMcJ
/-! manifest: the document's CheckCatalogue. -/
namespace Go.Proofs.Ytpeejgnkdoeijaa
open Go.RowKit Plain
set_option linter.unusedVariables false
set_option linter.unusedSimpArgs false

set_option maxHeartbeats 8000000 in
set_option maxRecDepth 100000 in
theorem rccheckOf (c : Ct) (v : Value) (w : World) (h : TesIn w v c.tops) : Calls Try.prog 14 #[c.agg v] w fun e w' => e = .returned (.int .i64 (ansC c)) ∧ Below w.heap.size w w' := by
  obtain ⟨nid, l⟩ := c
  obtain ⟨w0, hw0⟩ : ∃ w0, w.alloc (.cells #[.int .i64 nid, v] 28) = w0 := ⟨_, rfl⟩
  have HB0 : Hid (Below w.heap.size w w0) := by rw [← hw0]; exact (Below.refl _ _).alloc (Nat.le_refl _) _
  have HM : Hid (∀ u, Below w0.heap.size w0 u → u.cell? ⟨w.heap.size, 0, none⟩ = some (.int .i64 nid) ∧ u.cell? ⟨w.heap.size, 1, none⟩ = some v) := fun u hu => by
    have m0 : w0.cell? ⟨w.heap.size, 0, none⟩ = some (.int .i64 nid) := by rw [← hw0]; exact World.cell?_alloc_at _ _ _ _ rfl
    have m1 : w0.cell? ⟨w.heap.size, 1, none⟩ = some v := by rw [← hw0]; exact World.cell?_alloc_at _ _ _ _ rfl
    exact ⟨(hu.cell (p := ⟨w.heap.size, 0, none⟩) (cell_lt m0)).trans m0, (hu.cell (p := ⟨w.heap.size, 1, none⟩) (cell_lt m1)).trans m1⟩
  obtain ⟨m0, m1⟩ := HM.out w0 (Below.refl _ _)
  have HA : Hid (ansC ⟨nid, l⟩ = if (inW nid 1 1073741824 && (decide (l.length ≤ 16) && allB l.length (goodT l nid))) = true then 0 else 71) := rfl
  generalize ansC ⟨nid, l⟩ = A at HA ⊢
  have hT : TesAt w0 v l := h.1.later HB0.out
  obtain ⟨a, cap, rfl, hcl, hok, hcells⟩ := hT
  have HC : Hid (∀ u m, Below w0.heap.size w0 u → m < l.length → ∃ b off, a = some ⟨b, off, none⟩ ∧ Te.CellsAt u b (off + m * 4) (l.getD m Te.zero)) := fun u m hu hm => by
    obtain ⟨b, off, e, hc⟩ := hcells (by intro e; rw [e] at hm; simp at hm)
    exact ⟨b, off, e, (hc m hm).block (hu.block _ (hc m hm).lt)⟩
  have HOKE : Hid (∀ m, m < l.length → (l.getD m Te.zero).Ok) := fun m hm => hok _ (by simp [hm])
  simp only at h
  clear h hcells hok
  unfold Ct.agg
  simp only
  by_cases g1 : nid < 1
  · have HA1 : Hid (A = 71) := by
      have : inW nid 1 1073741824 = false := by unfold inW; simp; omega
      rw [Hid, HA.out, this]; rfl
    go_enter Try.func14, Try.ntmps14
    go_wp2
    go_ret
    exact ⟨by rw [HA1.out]; rfl, HB0.out⟩
  by_cases g2 : 1073741824 < nid
  · have HA1 : Hid (A = 71) := by
      have : inW nid 1 1073741824 = false := by unfold inW; simp; omega
      rw [Hid, HA.out, this]; rfl
    go_enter Try.func14, Try.ntmps14
    go_wp2
    go_ret
    exact ⟨by rw [HA1.out]; rfl, HB0.out⟩
  by_cases g3 : l.length ≤ 16
  · have HR : Hid (A = if allB l.length (goodT l nid) = true then 0 else 71) := by
      have : inW nid 1 1073741824 = true := by unfold inW; simp; omega
      rw [Hid, HA.out, this, decide_eq_true g3]; rfl
    clear HA
    have g3' : ¬ (16 : Int) < (l.length : Int) := by omega
    go_enter Try.func14, Try.ntmps14
    go_wp2
    go_loopw [3] (fun i wr => ∃ k : Nat, k ≤ l.length ∧ i = .int .i64 k ∧ Hid (allB k (goodT l nid) = true) ∧ Hid (Below w0.heap.size w0 wr)) (fun i _ => l.length - (intOf i).toNat)
    case atStart => exact ⟨0, by omega, rfl, allB_zero _, Below.refl _ _⟩
    case round =>
      obtain ⟨k, hk, rfl, HAL, HBW⟩ := hrel
      clear m0 m1
      obtain ⟨m0, m1⟩ := HM.out wr HBW.out
      by_cases hlt : k < l.length
      · obtain ⟨b, off, rfl, hc⟩ := HC.out wr k HBW.out hlt
        have HOKK : Hid ((l.getD k Te.zero).Ok) := HOKE.out k hlt
        have HG : Hid (goodT l nid k = (entB (l.getD k Te.zero) nid && (!hasId (l.take k) (l.getD k Te.zero).id && (decide (k = 0) || nmLt (l.getD (k - 1) Te.zero).name (l.getD k Te.zero).name)))) := rfl
        have HB : Hid (goodT l nid k = false → A = 71) := fun e => by rw [HR.out, allB_bad hlt e]; rfl
        have HS : Hid (goodT l nid k = true → allB (k + 1) (goodT l nid) = true) := fun e => allB_step HAL.out e
        have HPV : Hid (∀ u, Below w0.heap.size w0 u → 0 < k → u.cell? ⟨b, off + (k - 1) * 4 + 1, none⟩ = some (.string (l.getD (k - 1) Te.zero).name)) := fun u hu h0 => by
          obtain ⟨b', o', e, hh⟩ := HC.out u (k - 1) hu (by omega)
          simp at e
          obtain ⟨rfl, rfl⟩ := e
          exact hh.c1
        have HID : Hid (∀ u q, Below w0.heap.size w0 u → q < l.length → u.cell? ⟨b, off + q * 4, none⟩ = some (.int .i64 (l.getD q Te.zero).id)) := fun u q hu hq => by
          obtain ⟨b', o', e, hh⟩ := HC.out u q hu hq
          simp at e
          obtain ⟨rfl, rfl⟩ := e
          exact hh.c0
        generalize l.getD k Te.zero = x at hc HG HOKK
        generalize (l.getD (k - 1) Te.zero).name = pv at HG HPV
        have HXN : Hid (x.name.size ≤ maxLen) := HOKK.out.name
        obtain ⟨xi, xn, xl, xh⟩ := x
        obtain ⟨c0, c1, c2, c3⟩ := hc
        simp only at c0 c1 c2 c3 HG HXN
        have HGE : Hid (goodT l nid k = ((inW xi 1 (nid - 1) && ((nameA xn == 0) && (inW xl 256 65536 && inW xh 0 1099511627776))) && (!hasId (l.take k) xi && (decide (k = 0) || nmLt pv xn)))) := by
          rw [Hid, HG.out, nameA_eq]; rfl
        generalize goodT l nid k = G at HGE HB HS
        clear HAL HG HOKK
        have hki : (k : Int) < (l.length : Int) := by omega
        obtain ⟨w1, hw1⟩ : ∃ w1, wr.alloc (.cells #[.int .i64 xi, .string xn, .int .i64 xl, .int .i64 xh] 58) = w1 := ⟨_, rfl⟩
        have HB1 : Hid (Below w0.heap.size w0 w1) := by rw [← hw1]; exact below_step HBW.out ((Below.refl _ _).alloc (Nat.le_refl _) _)
        have hs1 : w1.heap.size = wr.heap.size + 1 := by rw [← hw1]; simp
        have HD : Hid (∀ u, Below w1.heap.size w1 u → u.cell? ⟨wr.heap.size, 0, none⟩ = some (.int .i64 xi) ∧ u.cell? ⟨wr.heap.size, 1, none⟩ = some (.string xn) ∧ u.cell? ⟨wr.heap.size, 2, none⟩ = some (.int .i64 xl) ∧ u.cell? ⟨wr.heap.size, 3, none⟩ = some (.int .i64 xh)) := fun u hu => by
          have hcc : ∀ j, u.cell? ⟨wr.heap.size, j, none⟩ = w1.cell? ⟨wr.heap.size, j, none⟩ := fun j => hu.cell (p := ⟨wr.heap.size, j, none⟩) (by show wr.heap.size < _; omega)
          rw [hcc, hcc, hcc, hcc, ← hw1]
          exact ⟨World.cell?_alloc_at _ _ _ _ rfl, World.cell?_alloc_at _ _ _ _ rfl, World.cell?_alloc_at _ _ _ _ rfl, World.cell?_alloc_at _ _ _ _ rfl⟩
        obtain ⟨d0, d1, d2, d3⟩ := HD.out w1 (Below.refl _ _)
        obtain ⟨n0, n1⟩ := HM.out w1 HB1.out
        have HNM : Hid (∀ u, Calls Try.prog 16 #[.string xn] u fun e w' => e = .returned (.int .i64 (nameA xn)) ∧ w' = u) := fun u => rnameOkOf xn u HXN.out
        have HDW : Hid (∀ n, Below w.heap.size w (w1.drewN n)) := fun n => below_step HB0.out ⟨HB1.out.os, HB1.out.tape, HB1.out.output, HB1.out.size, HB1.out.block⟩
        have HDX : Hid (∀ n, Below w1.heap.size w1 (w1.drewN n)) := fun n => ⟨rfl, rfl, rfl, Nat.le_refl _, fun _ _ => rfl⟩
        generalize nameA xn = NA at HGE HNM
        clear hs1
        by_cases h1 : NA = 0
        · subst h1
          by_cases hk0 : k = 0
          · subst hk0
            simp only [Nat.zero_mul, Nat.add_zero] at c0 c1 c2 c3
            by_cases t1 : xi < 1
            · have HA1 : Hid (A = 71) := HB.out (by
                have : inW xi 1 (nid - 1) = false := by unfold inW; simp; omega
                rw [HGE.out, this]; simp)
              clear HGE HB HS
              go_wp2
              go_quiet (first | (go_at_call 16; exact Calls.quiet_of_same (HNM.out _)) | (go_at_call 32; exact Calls.quiet_of_same (rwithinOf xh 0 1099511627776 _)))
              go_wp2
              go_ret
              exact ⟨by rw [HA1.out]; rfl, HDW.out _⟩
            have t1a := t1
            clear t1
            by_cases t1 : nid ≤ xi
            · have HA1 : Hid (A = 71) := HB.out (by
                have : inW xi 1 (nid - 1) = false := by unfold inW; simp; omega
                rw [HGE.out, this]; simp)
              clear HGE HB HS
              go_wp2
              go_quiet (first | (go_at_call 16; exact Calls.quiet_of_same (HNM.out _)) | (go_at_call 32; exact Calls.quiet_of_same (rwithinOf xh 0 1099511627776 _)))
              go_wp2
              go_ret
              exact ⟨by rw [HA1.out]; rfl, HDW.out _⟩
            have t1b := t1
            clear t1
            by_cases t1 : xl < 256
            · have HA1 : Hid (A = 71) := HB.out (by
                have : inW xl 256 65536 = false := by unfold inW; simp; omega
                rw [HGE.out, this]; simp)
              clear HGE HB HS
              go_wp2
              go_quiet (first | (go_at_call 16; exact Calls.quiet_of_same (HNM.out _)) | (go_at_call 32; exact Calls.quiet_of_same (rwithinOf xh 0 1099511627776 _)))
              go_wp2
              go_ret
              exact ⟨by rw [HA1.out]; rfl, HDW.out _⟩
            have t1c := t1
            clear t1
            by_cases t1 : 65536 < xl
            · have HA1 : Hid (A = 71) := HB.out (by
                have : inW xl 256 65536 = false := by unfold inW; simp; omega
                rw [HGE.out, this]; simp)
              clear HGE HB HS
              go_wp2
              go_quiet (first | (go_at_call 16; exact Calls.quiet_of_same (HNM.out _)) | (go_at_call 32; exact Calls.quiet_of_same (rwithinOf xh 0 1099511627776 _)))
              go_wp2
              go_ret
              exact ⟨by rw [HA1.out]; rfl, HDW.out _⟩
            have t1d := t1
            clear t1
            cases t5 : inW xh 0 1099511627776 with
            | false =>
              have HA1 : Hid (A = 71) := HB.out (by rw [HGE.out, t5]; simp)
              have HRW : Hid (∀ u, Calls Try.prog 32 #[.int .i64 xh, .int .i64 0, .int .i64 1099511627776] u fun e w' => e = .returned (.bool false) ∧ w' = u) := fun u => by
                have := rwithinOf xh 0 1099511627776 u
                rwa [t5] at this
              clear HGE HB HS
              go_wp2
              go_quiet (first | (go_at_call 16; exact Calls.quiet_of_same (HNM.out _)) | (go_at_call 32; exact Calls.quiet_of_same (rwithinOf xh 0 1099511627776 _)))
              go_wp2_with fail
              refine (HRW.out _).mono ?_
              rintro e w9 ⟨rfl, rfl⟩
              go_wp2
              go_ret
              exact ⟨by rw [HA1.out]; rfl, HDW.out _⟩
            | true =>
              have HRW : Hid (∀ u, Calls Try.prog 32 #[.int .i64 xh, .int .i64 0, .int .i64 1099511627776] u fun e w' => e = .returned (.bool true) ∧ w' = u) := fun u => by
                have := rwithinOf xh 0 1099511627776 u
                rwa [t5] at this
              have HGG : Hid (G = !hasId (l.take (0)) xi) := by
                have e1 : inW xi 1 (nid - 1) = true := by unfold inW; simp; omega
                have e2 : inW xl 256 65536 = true := by unfold inW; simp; omega
                rw [Hid, HGE.out, e1, e2, t5]; simp
              clear HGE
              go_wp2
              go_quiet (first | (go_at_call 16; exact Calls.quiet_of_same (HNM.out _)) | (go_at_call 32; exact Calls.quiet_of_same (HRW.out _)))
              go_wp2_with fail
              refine (HRW.out _).mono ?_
              rintro e w9 ⟨rfl, rfl⟩
              go_wp2
              clear m0 m1 d0 d1 d2 d3 n0 n1
              go_loopw [5] (fun i2 wr2 => ∃ q : Nat, q ≤ 0 ∧ i2 = .int .i64 q ∧ Hid (hasId (l.take q) xi = false) ∧ Hid (Below w1.heap.size w1 wr2)) (fun i2 _ => 0 - (intOf i2).toNat)
              case atStart => exact ⟨0, by omega, rfl, by simp [Hid, hasId], HDX.out _⟩
              case round =>
                obtain ⟨q, hq, rfl, HQ, HBQ⟩ := hrel
                have HBQ0 : Hid (Below w0.heap.size w0 wr) := below_step HB1.out HBQ.out
                have HDQ : Hid (∀ n, Below w0.heap.size w0 (wr.drewN n)) := fun n => ⟨HBQ0.out.os, HBQ0.out.tape, HBQ0.out.output, HBQ0.out.size, HBQ0.out.block⟩
                have HDQ1 : Hid (∀ n, Below w1.heap.size w1 (wr.drewN n)) := fun n => ⟨HBQ.out.os, HBQ.out.tape, HBQ.out.output, HBQ.out.size, HBQ.out.block⟩
                obtain ⟨m0, m1⟩ := HM.out wr HBQ0.out
                obtain ⟨d0, d1, d2, d3⟩ := HD.out wr HBQ.out
                by_cases hqk : q < 0
                · have hcq := HID.out wr q HBQ0.out (by omega)
                  have HTQ : Hid (hasId (l.take (q + 1)) xi = ((l.getD q Te.zero).id == xi)) := by unfold Hid; rw [hasId_take (by omega), HQ.out]; simp
                  have HTT : Hid (hasId (l.take (q + 1)) xi = true → A = 71) := fun e => HB.out (by
                    rw [HGG.out]
                    have : hasId (l.take (0)) xi = true := by
                      unfold hasId at e ⊢
                      rw [List.any_eq_true] at e ⊢
                      obtain ⟨y, hy, hy2⟩ := e
                      exact ⟨y, List.take_subset_take_left _ (by omega) hy, hy2⟩
                    rw [this]; rfl)
                  generalize (l.getD q Te.zero).id = y at hcq HTQ
                  have hqi : (q : Int) < ((0 : Nat) : Int) := by omega
                  have hqi2 : (q : Int) < (l.length : Int) := by omega
                  push_cast at hqi
                  by_cases hyx : y = xi
                  · subst hyx
                    have HA1 : Hid (A = 71) := HTT.out (by rw [HTQ.out]; simp)
                    clear HGG HB HS HTQ HTT
                    go_wp2
                    go_quiet (fail)
                    go_wp2
                    go_ret
                    exact ⟨by rw [HA1.out]; rfl, below_step HB0.out (HDQ.out _)⟩
                  · have hyx' : (y == xi) = false := by simpa using hyx
                    have HT1 : Hid (hasId (l.take (q + 1)) xi = false) := by rw [Hid, HTQ.out, hyx']
                    clear HTQ HTT
                    go_wp2
                    go_quiet (fail)
                    go_wp2
                    go_roundw
                    case rel => exact ⟨q + 1, by omega, by go_num, HT1.out, HDQ1.out _⟩
                    case measure => simp [intOf]; omega
                · obtain rfl : q = 0 := by omega
                  have HS1 : Hid (allB (0 + 1) (goodT l nid) = true) := HS.out (by rw [HGG.out, HQ.out]; rfl)
                  clear HGG HB HS
                  go_wp2
                  go_roundw
                  case rel => exact ⟨0 + 1, by omega, by go_num, HS1.out, HBQ0.out⟩
                  case measure => simp [intOf]; omega
          · obtain ⟨k, rfl⟩ : ∃ q, k = q + 1 := ⟨k - 1, by omega⟩
            have hki1 : (k : Int) + 1 < (l.length : Int) := by omega
            have hki2 : (k : Int) < (l.length : Int) := by omega
            have hwk : IntKind.i64.wrap (k : Int) = (k : Int) := IntWalk.i64_in _ (by omega)
            clear hki
            have p1 := HPV.out w1 HB1.out (by omega)
            simp only [Nat.add_sub_cancel] at p1
            have hle := nm_le pv xn
            cases hlt2 : nmLt pv xn with
            | false =>
              rw [hlt2] at hle
              have HA1 : Hid (A = 71) := HB.out (by rw [HGE.out, hlt2]; simp)
              clear HGE HB HS
              go_wp2
              go_quiet (first | (go_at_call 16; exact Calls.quiet_of_same (HNM.out _)) | (go_at_call 32; exact Calls.quiet_of_same (rwithinOf xh 0 1099511627776 _)))
              go_wp2
              go_ret
              exact ⟨by rw [HA1.out]; rfl, HDW.out _⟩
            | true =>
              rw [hlt2] at hle
              by_cases t1 : xi < 1
              · have HA1 : Hid (A = 71) := HB.out (by
                  have : inW xi 1 (nid - 1) = false := by unfold inW; simp; omega
                  rw [HGE.out, this]; simp)
                clear HGE HB HS
                go_wp2
                go_quiet (first | (go_at_call 16; exact Calls.quiet_of_same (HNM.out _)) | (go_at_call 32; exact Calls.quiet_of_same (rwithinOf xh 0 1099511627776 _)))
                go_wp2
                go_ret
                exact ⟨by rw [HA1.out]; rfl, HDW.out _⟩
              have t1a := t1
              clear t1
              by_cases t1 : nid ≤ xi
              · have HA1 : Hid (A = 71) := HB.out (by
                  have : inW xi 1 (nid - 1) = false := by unfold inW; simp; omega
                  rw [HGE.out, this]; simp)
                clear HGE HB HS
                go_wp2
                go_quiet (first | (go_at_call 16; exact Calls.quiet_of_same (HNM.out _)) | (go_at_call 32; exact Calls.quiet_of_same (rwithinOf xh 0 1099511627776 _)))
                go_wp2
                go_ret
                exact ⟨by rw [HA1.out]; rfl, HDW.out _⟩
              have t1b := t1
              clear t1
              by_cases t1 : xl < 256
              · have HA1 : Hid (A = 71) := HB.out (by
                  have : inW xl 256 65536 = false := by unfold inW; simp; omega
                  rw [HGE.out, this]; simp)
                clear HGE HB HS
                go_wp2
                go_quiet (first | (go_at_call 16; exact Calls.quiet_of_same (HNM.out _)) | (go_at_call 32; exact Calls.quiet_of_same (rwithinOf xh 0 1099511627776 _)))
                go_wp2
                go_ret
                exact ⟨by rw [HA1.out]; rfl, HDW.out _⟩
              have t1c := t1
              clear t1
              by_cases t1 : 65536 < xl
              · have HA1 : Hid (A = 71) := HB.out (by
                  have : inW xl 256 65536 = false := by unfold inW; simp; omega
                  rw [HGE.out, this]; simp)
                clear HGE HB HS
                go_wp2
                go_quiet (first | (go_at_call 16; exact Calls.quiet_of_same (HNM.out _)) | (go_at_call 32; exact Calls.quiet_of_same (rwithinOf xh 0 1099511627776 _)))
                go_wp2
                go_ret
                exact ⟨by rw [HA1.out]; rfl, HDW.out _⟩
              have t1d := t1
              clear t1
              cases t5 : inW xh 0 1099511627776 with
              | false =>
                have HA1 : Hid (A = 71) := HB.out (by rw [HGE.out, t5]; simp)
                have HRW : Hid (∀ u, Calls Try.prog 32 #[.int .i64 xh, .int .i64 0, .int .i64 1099511627776] u fun e w' => e = .returned (.bool false) ∧ w' = u) := fun u => by
                  have := rwithinOf xh 0 1099511627776 u
                  rwa [t5] at this
                clear HGE HB HS
                go_wp2
                go_quiet (first | (go_at_call 16; exact Calls.quiet_of_same (HNM.out _)) | (go_at_call 32; exact Calls.quiet_of_same (rwithinOf xh 0 1099511627776 _)))
                go_wp2_with fail
                refine (HRW.out _).mono ?_
                rintro e w9 ⟨rfl, rfl⟩
                go_wp2
                go_ret
                exact ⟨by rw [HA1.out]; rfl, HDW.out _⟩
              | true =>
                have HRW : Hid (∀ u, Calls Try.prog 32 #[.int .i64 xh, .int .i64 0, .int .i64 1099511627776] u fun e w' => e = .returned (.bool true) ∧ w' = u) := fun u => by
                  have := rwithinOf xh 0 1099511627776 u
                  rwa [t5] at this
                have HGG : Hid (G = !hasId (l.take (k + 1)) xi) := by
                  have e1 : inW xi 1 (nid - 1) = true := by unfold inW; simp; omega
                  have e2 : inW xl 256 65536 = true := by unfold inW; simp; omega
                  rw [Hid, HGE.out, e1, e2, t5]; simp [hlt2]
                clear HGE
                go_wp2
                go_quiet (first | (go_at_call 16; exact Calls.quiet_of_same (HNM.out _)) | (go_at_call 32; exact Calls.quiet_of_same (HRW.out _)))
                go_wp2_with fail
                refine (HRW.out _).mono ?_
                rintro e w9 ⟨rfl, rfl⟩
                go_wp2
                clear m0 m1 d0 d1 d2 d3 n0 n1
                go_loopw [5] (fun i2 wr2 => ∃ q : Nat, q ≤ k + 1 ∧ i2 = .int .i64 q ∧ Hid (hasId (l.take q) xi = false) ∧ Hid (Below w1.heap.size w1 wr2)) (fun i2 _ => k + 1 - (intOf i2).toNat)
                case atStart => exact ⟨0, by omega, rfl, by simp [Hid, hasId], HDX.out _⟩
                case round =>
                  obtain ⟨q, hq, rfl, HQ, HBQ⟩ := hrel
                  have HBQ0 : Hid (Below w0.heap.size w0 wr) := below_step HB1.out HBQ.out
                  have HDQ : Hid (∀ n, Below w0.heap.size w0 (wr.drewN n)) := fun n => ⟨HBQ0.out.os, HBQ0.out.tape, HBQ0.out.output, HBQ0.out.size, HBQ0.out.block⟩
                  have HDQ1 : Hid (∀ n, Below w1.heap.size w1 (wr.drewN n)) := fun n => ⟨HBQ.out.os, HBQ.out.tape, HBQ.out.output, HBQ.out.size, HBQ.out.block⟩
                  obtain ⟨m0, m1⟩ := HM.out wr HBQ0.out
                  obtain ⟨d0, d1, d2, d3⟩ := HD.out wr HBQ.out
                  by_cases hqk : q < k + 1
                  · have hcq := HID.out wr q HBQ0.out (by omega)
                    have HTQ : Hid (hasId (l.take (q + 1)) xi = ((l.getD q Te.zero).id == xi)) := by unfold Hid; rw [hasId_take (by omega), HQ.out]; simp
                    have HTT : Hid (hasId (l.take (q + 1)) xi = true → A = 71) := fun e => HB.out (by
                      rw [HGG.out]
                      have : hasId (l.take (k + 1)) xi = true := by
                        unfold hasId at e ⊢
                        rw [List.any_eq_true] at e ⊢
                        obtain ⟨y, hy, hy2⟩ := e
                        exact ⟨y, List.take_subset_take_left _ (by omega) hy, hy2⟩
                      rw [this]; rfl)
                    generalize (l.getD q Te.zero).id = y at hcq HTQ
                    have hqi : (q : Int) < ((k + 1 : Nat) : Int) := by omega
                    have hqi2 : (q : Int) < (l.length : Int) := by omega
                    push_cast at hqi
                    by_cases hyx : y = xi
                    · subst hyx
                      have HA1 : Hid (A = 71) := HTT.out (by rw [HTQ.out]; simp)
                      clear HGG HB HS HTQ HTT
                      go_wp2
                      go_quiet (fail)
                      go_wp2
                      go_ret
                      exact ⟨by rw [HA1.out]; rfl, below_step HB0.out (HDQ.out _)⟩
                    · have hyx' : (y == xi) = false := by simpa using hyx
                      have HT1 : Hid (hasId (l.take (q + 1)) xi = false) := by rw [Hid, HTQ.out, hyx']
                      clear HTQ HTT
                      go_wp2
                      go_quiet (fail)
                      go_wp2
                      go_roundw
                      case rel => exact ⟨q + 1, by omega, by go_num, HT1.out, HDQ1.out _⟩
                      case measure => simp [intOf]; omega
                  · obtain rfl : q = k + 1 := by omega
                    have HS1 : Hid (allB (k + 1 + 1) (goodT l nid) = true) := HS.out (by rw [HGG.out, HQ.out]; rfl)
                    clear HGG HB HS
                    go_wp2
                    go_roundw
                    case rel => exact ⟨k + 1 + 1, by omega, by go_num, HS1.out, HBQ0.out⟩
                    case measure => simp [intOf]; omega
        · have h1' : (NA == 0) = false := by simpa using h1
          have h1'' : (NA != 0) = true := by simpa using h1
          have HA1 : Hid (A = 71) := HB.out (by rw [HGE.out, h1']; simp)
          clear HGE HB HS
          go_wp2
          go_quiet (first | (go_at_call 16; exact Calls.quiet_of_same (HNM.out _)) | (go_at_call 32; exact Calls.quiet_of_same (rwithinOf xh 0 1099511627776 _)))
          go_wp2
          go_ret
          exact ⟨by rw [HA1.out]; rfl, HDW.out _⟩
      · obtain rfl : k = l.length := by omega
        have HA1 : Hid (A = 0) := by rw [Hid, HR.out, HAL.out]; rfl
        clear HAL
        go_wp2
        go_ret
        exact ⟨by rw [HA1.out]; rfl, below_step HB0.out HBW.out⟩
  · have HA1 : Hid (A = 71) := by
      rw [Hid, HA.out, decide_eq_false g3]
      simp
    have g3' : (16 : Int) < (l.length : Int) := by omega
    go_enter Try.func14, Try.ntmps14
    go_wp2
    go_ret
    exact ⟨by rw [HA1.out]; rfl, HB0.out⟩
end Go.Proofs.Ytpeejgnkdoeijaa
