import Derived.Test.YtlnppgjppfkocaaGreatDoorGq35
import Derived.Test.YtlnppgjppfkocaaGreatDoorGq32
import Derived.Lib.QuietBelow
import Derived.BigQuiet
import Derived.BigRegion
/-! May a command be as it is: fits. -/
namespace Go.Proofs.YtlnppgjppfkocaaGreatDoor.Xs
open Go.RowKit Plain
set_option linter.unusedVariables false
set_option linter.unusedSimpArgs false

theorem vrBox (w : World) (v : Vr) (t : TypeId) : Below w.heap.size w (w.alloc (.cells #[.string (ba v.word), .int .i64 v.uses, .int .i64 v.least, .int .i64 v.most, fnV v.wf, fnV v.rf] t)) ∧ VrAt (w.alloc (.cells #[.string (ba v.word), .int .i64 v.uses, .int .i64 v.least, .int .i64 v.most, fnV v.wf, fnV v.rf] t)) w.heap.size 0 v := by
  refine ⟨(Below.refl _ _).alloc (Nat.le_refl _) _, ?_⟩
  constructor <;> (rw [World.cell?_alloc_at _ _ _ _ rfl]; rfl)
def fillC (c : Cm) : Int := fillN (c.conn != 0) (!rqEq c.req Rq.zero) (decide (0 < c.raw.length)) (decide (0 < c.picks.length))
def fitsV (v : Vr) (c : Cm) : Bool := (bits .andNot .i64 (fillC c) v.uses == 0) && decide (0 ≤ c.conn) && decide (c.conn ≤ 999) && decide (v.least ≤ c.n) && decide (c.n ≤ v.most) && ((bits .and .i64 v.uses 2 == 0) || (okR1 c.req && okR2 c.req && okR3 c.req)) && decide (c.raw.length ≤ 4096) && decide (c.picks.length ≤ 4096)
set_option maxHeartbeats 32000000 in
set_option maxRecDepth 100000 in
theorem fitsOf (v : Vr) (c : Cm) (ar ap : Option Addr) (cr cp : Nat) (w : World) (ho : OpsAt w) (h3 : c.req.topic.length ≤ 1125899906842624) (h4 : c.req.key.length ≤ 1125899906842624) (h5 : c.req.value.length ≤ 1125899906842624) :
    Calls Tryz.prog 21 #[vrV v, cmV c (.slice ar c.raw.length cr) (.slice ap c.picks.length cp)] w fun e w' => e = .returned (.bool (fitsV v c)) ∧ Below w.heap.size w w' := by
  have hx := vrBox w v 51
  obtain ⟨W1, hW1⟩ : ∃ W1, w.alloc (.cells #[.string (ba v.word), .int .i64 v.uses, .int .i64 v.least, .int .i64 v.most, fnV v.wf, fnV v.rf] 51) = W1 := ⟨_, rfl⟩
  have hs1 : W1.heap.size = w.heap.size + 1 := by rw [← hW1]; simp
  rw [hW1] at hx
  have hy := cmBox W1 c (.slice ar c.raw.length cr) (.slice ap c.picks.length cp) 28
  obtain ⟨W2, hW2⟩ : ∃ W2, W1.alloc (.cells (cmA c (.slice ar c.raw.length cr) (.slice ap c.picks.length cp)) 28) = W2 := ⟨_, rfl⟩
  rw [hW2] at hy
  have HB2 : Hid (Below w.heap.size w W2) := below_on hx.1 hy.1
  have hv2 := hx.2.later hy.1
  have q1 := cell_regrown hv2.c1
  have q2 := cell_regrown hv2.c2
  have q3 := cell_regrown hv2.c3
  obtain ⟨-, z0, z1, z2, z3, z4, z5, z6, z7, z8, z9, z10, z11, z12, z13⟩ := hy
  have y0 := cell_regrown z0
  have y1 := cell_regrown z1
  have y2 := cell_regrown z2
  have y3 := cell_regrown z3
  have y4 := cell_regrown z4
  have y5 := cell_regrown z5
  have y6 := cell_regrown z6
  have y7 := cell_regrown z7
  have y8 := cell_regrown z8
  have y9 := cell_regrown z9
  have y10 := cell_regrown z10
  have y11 := cell_regrown z11
  have y12 := cell_regrown z12
  have y13 := cell_regrown z13
  have k0 : ∀ d os, Calls Tryz.prog 42 #[cmV c (.slice ar c.raw.length cr) (.slice ap c.picks.length cp)] (Go.Sort.grow (redrawn W2 d) os) fun e w'' => e = .returned (.int .i64 (fillC c)) ∧ ∃ p : Regrown, w'' = Go.Sort.grow (redrawn W2 p.d) p.os := fun d os => Calls.regrown_of (filledOf c ar ap cr cp _)
  have k1 : ∀ d os, Calls Tryz.prog 43 #[rqV c.req] (Go.Sort.grow (redrawn W2 d) os) fun e w'' => e = .returned (.int .i64 (if (okR1 c.req && okR2 c.req && okR3 c.req) = true then 0 else 161)) ∧ ∃ p : Regrown, w'' = Go.Sort.grow (redrawn W2 p.d) p.os := fun d os => Calls.regrown_of (wcheckOf c.req _ (ho.later (HB2.out.trans ((below_regrown W2 d os).mono HB2.out.size))) h3 h4 h5)
  have hR : fitsV v c = ((bits .andNot .i64 (fillC c) v.uses == 0) && decide (0 ≤ c.conn) && decide (c.conn ≤ 999) && decide (v.least ≤ c.n) && decide (c.n ≤ v.most) && ((bits .and .i64 v.uses 2 == 0) || (okR1 c.req && okR2 c.req && okR3 c.req)) && decide (c.raw.length ≤ 4096) && decide (c.picks.length ≤ 4096)) := rfl
  generalize fitsV v c = R at *
  generalize fillC c = F at *
  generalize (okR1 c.req && okR2 c.req && okR3 c.req) = KR at *
  obtain ⟨vb, cn, ⟨id, op, tp, ky, vl, fo, nu, pi, sq⟩, rw', n, pk⟩ := c
  obtain ⟨wo, us, le, mo, f1, f2⟩ := v
  simp only at *
  generalize rw'.length = rl at *
  generalize pk.length = pl at *
  clear hx hs1 hv2 ho h3 h4 h5 z0 z1 z2 z3 z4 z5 z6 z7 z8 z9 z10 z11 z12 z13
  cases a0 : (bits .andNot .i64 F us == 0) with
  | false =>
    have hR2 : R = false := by rw [hR]; simp [a0]
    clear hR
    subst hR2
    go_enter Tryz.func21, Tryz.ntmps21
    go_wp2_with fail
    refine wp_region_quiet_below (by kernel_rfl) (by kernel_rfl) ?_
    repeat (go_big_quiet_step (first | with_reducible exact k0 _ _ | with_reducible exact k1 _ _))
    refine wpQuiet_nil ?_
    intro _ hw'
    obtain ⟨⟨dq, osq⟩, hw''⟩ := hw'
    subst hw''
    go_wp2
    go_ret
    exact ⟨by first | rfl | (simp; omega), HB2.out.trans ((below_regrown W2 dq osq).mono HB2.out.size)⟩
  | true =>
    by_cases a1 : 0 ≤ cn
    · by_cases a2 : cn ≤ 999
      · by_cases a3 : le ≤ n
        · by_cases a4 : n ≤ mo
          · cases a5 : (bits .and .i64 us 2 == 0) with
            | false =>
              cases KR with
              | false =>
                have hR2 : R = false := by rw [hR]; simp [a0, a1, a2, a3, a4, a5]
                clear hR
                subst hR2
                simp only [Bool.false_eq_true, if_false, if_true, reduceIte] at k1
                go_enter Tryz.func21, Tryz.ntmps21
                go_wp2_with fail
                refine wp_region_quiet_below (by kernel_rfl) (by kernel_rfl) ?_
                repeat (go_big_quiet_step (first | with_reducible exact k0 _ _ | with_reducible exact k1 _ _))
                refine wpQuiet_nil ?_
                intro _ hw'
                obtain ⟨⟨dq, osq⟩, hw''⟩ := hw'
                subst hw''
                go_wp2
                go_ret
                exact ⟨by first | rfl | (simp; omega), HB2.out.trans ((below_regrown W2 dq osq).mono HB2.out.size)⟩
              | true =>
                by_cases a6 : rl ≤ 4096
                · have a6i : (rl : Int) ≤ 4096 := by omega
                  by_cases a7 : pl ≤ 4096
                  · have a7i : (pl : Int) ≤ 4096 := by omega
                    have hR2 : R = true := by rw [hR]; simp [a0, a1, a2, a3, a4, a5, a6, a7]
                    clear hR
                    subst hR2
                    simp only [Bool.false_eq_true, if_false, if_true, reduceIte] at k1
                    go_enter Tryz.func21, Tryz.ntmps21
                    go_wp2_with fail
                    refine wp_region_quiet_below (by kernel_rfl) (by kernel_rfl) ?_
                    repeat (go_big_quiet_step (first | with_reducible exact k0 _ _ | with_reducible exact k1 _ _))
                    refine wpQuiet_nil ?_
                    intro _ hw'
                    obtain ⟨⟨dq, osq⟩, hw''⟩ := hw'
                    subst hw''
                    go_wp2
                    go_ret
                    exact ⟨by first | rfl | (simp; omega), HB2.out.trans ((below_regrown W2 dq osq).mono HB2.out.size)⟩
                  · have a7i : ¬ (pl : Int) ≤ 4096 := by omega
                    have a7b : decide ((pl : Int) ≤ 4096) = false := decide_eq_false (by omega)
                    have hR2 : R = false := by rw [hR]; simp [a0, a1, a2, a3, a4, a5, a6, a7]
                    clear hR
                    subst hR2
                    simp only [Bool.false_eq_true, if_false, if_true, reduceIte] at k1
                    go_enter Tryz.func21, Tryz.ntmps21
                    go_wp2_with fail
                    refine wp_region_quiet_below (by kernel_rfl) (by kernel_rfl) ?_
                    repeat (go_big_quiet_step (first | with_reducible exact k0 _ _ | with_reducible exact k1 _ _))
                    refine wpQuiet_nil ?_
                    intro _ hw'
                    obtain ⟨⟨dq, osq⟩, hw''⟩ := hw'
                    subst hw''
                    go_wp2
                    go_ret
                    exact ⟨by first | rfl | (simp; omega), HB2.out.trans ((below_regrown W2 dq osq).mono HB2.out.size)⟩
                · have a6i : ¬ (rl : Int) ≤ 4096 := by omega
                  have a6b : decide ((rl : Int) ≤ 4096) = false := decide_eq_false (by omega)
                  have hR2 : R = false := by rw [hR]; simp [a0, a1, a2, a3, a4, a5, a6]
                  clear hR
                  subst hR2
                  simp only [Bool.false_eq_true, if_false, if_true, reduceIte] at k1
                  go_enter Tryz.func21, Tryz.ntmps21
                  go_wp2_with fail
                  refine wp_region_quiet_below (by kernel_rfl) (by kernel_rfl) ?_
                  repeat (go_big_quiet_step (first | with_reducible exact k0 _ _ | with_reducible exact k1 _ _))
                  refine wpQuiet_nil ?_
                  intro _ hw'
                  obtain ⟨⟨dq, osq⟩, hw''⟩ := hw'
                  subst hw''
                  go_wp2
                  go_ret
                  exact ⟨by first | rfl | (simp; omega), HB2.out.trans ((below_regrown W2 dq osq).mono HB2.out.size)⟩
            | true =>
              by_cases a6 : rl ≤ 4096
              · have a6i : (rl : Int) ≤ 4096 := by omega
                by_cases a7 : pl ≤ 4096
                · have a7i : (pl : Int) ≤ 4096 := by omega
                  have hR2 : R = true := by rw [hR]; simp [a0, a1, a2, a3, a4, a5, a6, a7]
                  clear hR
                  subst hR2
                  go_enter Tryz.func21, Tryz.ntmps21
                  go_wp2_with fail
                  refine wp_region_quiet_below (by kernel_rfl) (by kernel_rfl) ?_
                  repeat (go_big_quiet_step (first | with_reducible exact k0 _ _ | with_reducible exact k1 _ _))
                  refine wpQuiet_nil ?_
                  intro _ hw'
                  obtain ⟨⟨dq, osq⟩, hw''⟩ := hw'
                  subst hw''
                  go_wp2
                  go_ret
                  exact ⟨by first | rfl | (simp; omega), HB2.out.trans ((below_regrown W2 dq osq).mono HB2.out.size)⟩
                · have a7i : ¬ (pl : Int) ≤ 4096 := by omega
                  have a7b : decide ((pl : Int) ≤ 4096) = false := decide_eq_false (by omega)
                  have hR2 : R = false := by rw [hR]; simp [a0, a1, a2, a3, a4, a5, a6, a7]
                  clear hR
                  subst hR2
                  go_enter Tryz.func21, Tryz.ntmps21
                  go_wp2_with fail
                  refine wp_region_quiet_below (by kernel_rfl) (by kernel_rfl) ?_
                  repeat (go_big_quiet_step (first | with_reducible exact k0 _ _ | with_reducible exact k1 _ _))
                  refine wpQuiet_nil ?_
                  intro _ hw'
                  obtain ⟨⟨dq, osq⟩, hw''⟩ := hw'
                  subst hw''
                  go_wp2
                  go_ret
                  exact ⟨by first | rfl | (simp; omega), HB2.out.trans ((below_regrown W2 dq osq).mono HB2.out.size)⟩
              · have a6i : ¬ (rl : Int) ≤ 4096 := by omega
                have a6b : decide ((rl : Int) ≤ 4096) = false := decide_eq_false (by omega)
                have hR2 : R = false := by rw [hR]; simp [a0, a1, a2, a3, a4, a5, a6]
                clear hR
                subst hR2
                go_enter Tryz.func21, Tryz.ntmps21
                go_wp2_with fail
                refine wp_region_quiet_below (by kernel_rfl) (by kernel_rfl) ?_
                repeat (go_big_quiet_step (first | with_reducible exact k0 _ _ | with_reducible exact k1 _ _))
                refine wpQuiet_nil ?_
                intro _ hw'
                obtain ⟨⟨dq, osq⟩, hw''⟩ := hw'
                subst hw''
                go_wp2
                go_ret
                exact ⟨by first | rfl | (simp; omega), HB2.out.trans ((below_regrown W2 dq osq).mono HB2.out.size)⟩
          · have a4b : decide (n ≤ mo) = false := decide_eq_false (by omega)
            have hR2 : R = false := by rw [hR]; simp [a0, a1, a2, a3, a4]
            clear hR
            subst hR2
            go_enter Tryz.func21, Tryz.ntmps21
            go_wp2_with fail
            refine wp_region_quiet_below (by kernel_rfl) (by kernel_rfl) ?_
            repeat (go_big_quiet_step (first | with_reducible exact k0 _ _ | with_reducible exact k1 _ _))
            refine wpQuiet_nil ?_
            intro _ hw'
            obtain ⟨⟨dq, osq⟩, hw''⟩ := hw'
            subst hw''
            go_wp2
            go_ret
            exact ⟨by first | rfl | (simp; omega), HB2.out.trans ((below_regrown W2 dq osq).mono HB2.out.size)⟩
        · have a3b : decide (le ≤ n) = false := decide_eq_false (by omega)
          have hR2 : R = false := by rw [hR]; simp [a0, a1, a2, a3]
          clear hR
          subst hR2
          go_enter Tryz.func21, Tryz.ntmps21
          go_wp2_with fail
          refine wp_region_quiet_below (by kernel_rfl) (by kernel_rfl) ?_
          repeat (go_big_quiet_step (first | with_reducible exact k0 _ _ | with_reducible exact k1 _ _))
          refine wpQuiet_nil ?_
          intro _ hw'
          obtain ⟨⟨dq, osq⟩, hw''⟩ := hw'
          subst hw''
          go_wp2
          go_ret
          exact ⟨by first | rfl | (simp; omega), HB2.out.trans ((below_regrown W2 dq osq).mono HB2.out.size)⟩
      · have a2b : decide (cn ≤ 999) = false := decide_eq_false (by omega)
        have hR2 : R = false := by rw [hR]; simp [a0, a1, a2]
        clear hR
        subst hR2
        go_enter Tryz.func21, Tryz.ntmps21
        go_wp2_with fail
        refine wp_region_quiet_below (by kernel_rfl) (by kernel_rfl) ?_
        repeat (go_big_quiet_step (first | with_reducible exact k0 _ _ | with_reducible exact k1 _ _))
        refine wpQuiet_nil ?_
        intro _ hw'
        obtain ⟨⟨dq, osq⟩, hw''⟩ := hw'
        subst hw''
        go_wp2
        go_ret
        exact ⟨by first | rfl | (simp; omega), HB2.out.trans ((below_regrown W2 dq osq).mono HB2.out.size)⟩
    · have a1b : decide (0 ≤ cn) = false := decide_eq_false (by omega)
      have hR2 : R = false := by rw [hR]; simp [a0, a1]
      clear hR
      subst hR2
      go_enter Tryz.func21, Tryz.ntmps21
      go_wp2_with fail
      refine wp_region_quiet_below (by kernel_rfl) (by kernel_rfl) ?_
      repeat (go_big_quiet_step (first | with_reducible exact k0 _ _ | with_reducible exact k1 _ _))
      refine wpQuiet_nil ?_
      intro _ hw'
      obtain ⟨⟨dq, osq⟩, hw''⟩ := hw'
      subst hw''
      go_wp2
      go_ret
      exact ⟨by first | rfl | (simp; omega), HB2.out.trans ((below_regrown W2 dq osq).mono HB2.out.size)⟩
end Go.Proofs.YtlnppgjppfkocaaGreatDoor.Xs
