import Derived.Test.YtbeaefokpggmpaaQtl
import Derived.Test.YtbeaefokpggmpaaQua
import Derived.Lib.QuietBelow
/-! quota: the law of the bound: its walk. -/
namespace Go.Proofs.Ytbeaefokpggmpaa
open Go.RowKit
set_option linter.unusedVariables false

theorem box_ahead {w w2 : World} (h : Below (w.alloc (.cells #[.int .i64 0, .int .i64 0, .int .i64 0, .int .i64 0, .int .i64 0, .int .i64 0] 23)).drew.heap.size (w.alloc (.cells #[.int .i64 0, .int .i64 0, .int .i64 0, .int .i64 0, .int .i64 0, .int .i64 0] 23)).drew w2) : Box w w2 w.heap.size Bk.zero :=
  (Box.zero w).later ((Below.drew (Below.refl _ _)).trans h)
theorem take_cases {b : Bk} (h : b.Good) (t n : Int) : (0 ≤ n ∧ n ≤ (fillP b t).lvl ∧ takeP b t n = ({ fillP b t with lvl := (fillP b t).lvl - n }, 0)) ∨ (¬ (0 ≤ n ∧ n ≤ (fillP b t).lvl) ∧ ∃ v, v ≠ 0 ∧ takeP b t n = (fillP b t, v)) := by
  have hf := h.fill t
  have hl := hf.l1
  obtain ⟨l, p, a, he⟩ := fillP_same b t
  have hbu : (fillP b t).burst = b.burst := by rw [he]
  by_cases h0 : n < 0 ∨ b.burst < n
  · exact .inr ⟨by omega, -1, by omega, takeP_never h rfl h0⟩
  · by_cases h1 : n ≤ (fillP b t).lvl
    · exact .inl ⟨by omega, h1, takeP_now h rfl (by omega) (by omega) h1⟩
    · refine .inr ⟨by omega, _, ?_, takeP_wait h rfl (by omega) (by omega) h1⟩
      have hn0 := hf.n0
      have hd0 := hf.d0
      have hp1 := hf.p1
      have hnl : ((fillP b t).lvl + 1) * (fillP b t).den ≤ n * (fillP b t).den := Int.mul_le_mul_of_nonneg_right (show (fillP b t).lvl + 1 ≤ n by omega) (by omega)
      rw [Int.add_mul] at hnl
      have h9 : (fillP b t).parts = (fillP b t).lvl * (fillP b t).den + (fillP b t).part := rfl
      have : 0 < (n * (fillP b t).den - (fillP b t).parts + (fillP b t).num - 1) / (fillP b t).num := Int.lt_of_lt_of_le (by omega) ((Int.le_ediv_iff_mul_le (by omega) (a := 1)).2 (by omega))
      omega

set_option maxHeartbeats 8000000 in
set_option maxRecDepth 1000000 in
theorem boundWalk (num den burst now : Int) (h1 : I64 num) (h2 : I64 den) (h3 : I64 burst) (h4 : I64 now) (va : Value) (st : List Ak) (W : World) (hst : AksAt W va st) :
    Calls Try.prog 4 #[.int .i64 num, .int .i64 den, .int .i64 burst, .int .i64 now, va] W fun e w' => e = .returned (.bool true) ∧ Below W.heap.size W w' := by
  have HWK : Hid (∀ u, Calls Try.prog 13 #[] u fun e w' => e = .returned (.bool true) ∧ Below u.heap.size u w') := worksOf
  obtain ⟨a, cap, rfl, hsl, hsok, hsc⟩ := hst
  by_cases hg : (fullB num den burst now).Good
  case neg =>
    have HN : Hid (∀ u, Calls Try.prog 9 #[.int .i64 num, .int .i64 den, .int .i64 burst, .int .i64 now] u fun e w' => e = .returned (.tuple #[Bk.zero.v, .int .i64 130]) ∧ Below u.heap.size u w') := fun u => by
      have h := newOf num den burst now h1 h2 h3 h4 u
      rw [chkB_bad hg, show newB num den burst now = Bk.zero by unfold newB; rw [if_neg hg]] at h
      exact h
    clear hg h1 h2 h3 h4 hsc hsok
    go_enter Try.func4, Try.ntmps4
    go_wp2_with fail
    refine (HN.out _).mono ?_
    rintro e w1 ⟨rfl, hb1⟩
    obtain ⟨v1, u1, hv1, hu1, Z1, B1⟩ := box_put hb1 0 0 0 0 0 0
    obtain ⟨z0, z1, z2, z3, z4, z5⟩ := Z1.at_
    simp only [Bk.zero] at z0 z1 z2 z3 z4 z5
    have f0 := Z1.fr 0
    have f1 := Z1.fr 1
    have f2 := Z1.fr 2
    have f3 := Z1.fr 3
    have f4 := Z1.fr 4
    have f5 := Z1.fr 5
    have HB1 : Hid (Box W u1 w1.heap.size ⟨0, 0, 0, 0, 0, 0⟩) := B1
    clear B1 Z1
    simp only [Bk.zero]
    go_wp2_with fail
    refine (HWK.out _).mono ?_
    rintro e w2 ⟨rfl, hb2⟩
    go_wp2
    go_ret
    exact ⟨rfl, (HB1.out.later hb2).bel⟩
  have HN : Hid (∀ u, Calls Try.prog 9 #[.int .i64 num, .int .i64 den, .int .i64 burst, .int .i64 now] u fun e w' => e = .returned (.tuple #[Bk.v ⟨num, den, burst, burst, 0, now⟩, .int .i64 0]) ∧ Below u.heap.size u w') := fun u => by
    have h := newOf num den burst now h1 h2 h3 h4 u
    rw [chkB_good hg, show newB num den burst now = fullB num den burst now by unfold newB; rw [if_pos hg]] at h
    exact h
  by_cases hlen : 1000 < st.length
  case pos =>
    have hli : (1000 : Int) < (st.length : Int) := by omega
    clear hg h1 h2 h3 h4 hsc hsok
    go_enter Try.func4, Try.ntmps4
    go_wp2_with fail
    refine (HN.out _).mono ?_
    rintro e w1 ⟨rfl, hb1⟩
    obtain ⟨v1, u1, hv1, hu1, Z1, B1⟩ := box_put hb1 num den burst burst 0 now
    obtain ⟨z0, z1, z2, z3, z4, z5⟩ := Z1.at_
    simp only [Bk.zero] at z0 z1 z2 z3 z4 z5
    have f0 := Z1.fr 0
    have f1 := Z1.fr 1
    have f2 := Z1.fr 2
    have f3 := Z1.fr 3
    have f4 := Z1.fr 4
    have f5 := Z1.fr 5
    have HB1 : Hid (Box W u1 w1.heap.size ⟨num, den, burst, burst, 0, now⟩) := B1
    clear B1 Z1
    go_wp2_with fail
    refine (HWK.out _).mono ?_
    rintro e w2 ⟨rfl, hb2⟩
    go_wp2
    go_ret
    exact ⟨rfl, (HB1.out.later hb2).bel⟩
  have HCE : Hid (∀ u k, Below W.heap.size W u → k < st.length → ∃ b off, a = some ⟨b, off, none⟩ ∧ u.cell? ⟨b, off + k * 2, none⟩ = some (.int .i64 (st.getD k Ak.zero).later) ∧ u.cell? ⟨b, off + k * 2 + 1, none⟩ = some (.int .i64 (st.getD k Ak.zero).n) ∧ (st.getD k Ak.zero).Ok) := fun u k hu hk => by
    have hne : st ≠ [] := by rintro rfl; simp at hk
    obtain ⟨b, off, rfl, hc⟩ := hsc hne
    have hk' := (hc k hk).block (hu.block b (hc k hk).lt)
    refine ⟨b, off, rfl, hk'.c0, hk'.c1, hsok _ ?_⟩
    rw [List.getD_eq_getElem?_getD, List.getElem?_eq_getElem hk]
    exact List.getElem_mem hk
  have HI0 : Hid (BInv num den burst now ⟨num, den, burst, burst, 0, now⟩ now [] []) := BInv.new hg
  have hnow0 : 0 ≤ now := hg.a0
  have hnow1 : now < 1125899906842624 := hg.a1
  have hnum0 : 1 ≤ num := hg.n0
  have hnum1 : num ≤ 1073741824 := hg.n1
  have hden0 : 1 ≤ den := hg.d0
  have hden1 : den ≤ 1048576 := hg.d1
  have hbur0 : 1 ≤ burst := hg.b0
  have hbur1 : burst ≤ 1073741824 := hg.b1
  have hli : ¬ (1000 : Int) < (st.length : Int) := by omega
  clear hg h1 h2 h3 h4 hsc hsok
  go_enter Try.func4, Try.ntmps4
  go_wp2_with fail
  refine (HN.out _).mono ?_
  rintro e w1 ⟨rfl, hb1⟩
  obtain ⟨v1, u1, hv1, hu1, Z1, B1⟩ := box_put hb1 num den burst burst 0 now
  obtain ⟨z0, z1, z2, z3, z4, z5⟩ := Z1.at_
  simp only [Bk.zero] at z0 z1 z2 z3 z4 z5
  have f0 := Z1.fr 0
  have f1 := Z1.fr 1
  have f2 := Z1.fr 2
  have f3 := Z1.fr 3
  have f4 := Z1.fr 4
  have f5 := Z1.fr 5
  have HW0 : Hid (BW W u1 w1.heap.size ⟨num, den, burst, burst, 0, now⟩ (.slice none 0 0) (.slice none 0 0) [] [] none none) := ⟨B1.bel, B1.at_, B1.fr, B1.ge, OwnL.nil _, OwnL.nil _, by simp, by simp, by simp⟩
  clear B1 hb1 Z1
  go_wp2
  clear z0 z1 z2 z3 z4 z5 f0 f1 f2 f3 f4 f5
  generalize w1.heap.size = gb at *
  go_loopw [13, 14, 15, 16] (fun s13 s14 s15 s16 wr => ∃ (k : Nat) (at_ : Int) (b : Bk) (T N : List Int) (a14 a15 : Option Addr) (c14 c15 : Nat) (rt rk : Option Nat), k ≤ st.length ∧ s16 = .int .i64 k ∧ s13 = .int .i64 at_ ∧ s14 = .slice a14 T.length c14 ∧ s15 = .slice a15 N.length c15 ∧ T.length ≤ k ∧ at_ < 1125899906842624 ∧ at_ ≤ now + 1048576 * (k : Int) ∧ Hid (BInv num den burst now b at_ T N) ∧ Hid (BW W wr gb b s14 s15 T N rt rk))
    (fun _ _ _ i _ => st.length - (intOf i).toNat)
  case atStart => exact ⟨0, now, _, [], [], none, none, 0, 0, none, none, by omega, rfl, rfl, rfl, rfl, by simp, hnow1, by omega, HI0, HW0⟩
  case round =>
    clear HW0 HI0
    obtain ⟨k, at_, b, T, N, a14, a15, c14, c15, rt, rk, hk, rfl, rfl, rfl, rfl, hTk, hat1, hat2, HI, HW⟩ := hrel
    by_cases hA : k < st.length
    · obtain ⟨bx, ox, rfl, c0, c1, hox⟩ := HCE.out wr k HW.out.bel hA
      have HCx : Hid (∀ u, Below W.heap.size W u → u.cell? ⟨bx, ox + k * 2, none⟩ = some (.int .i64 (st.getD k Ak.zero).later) ∧ u.cell? ⟨bx, ox + k * 2 + 1, none⟩ = some (.int .i64 (st.getD k Ak.zero).n)) := fun u hu => by
        obtain ⟨b', o', e, d0, d1, _⟩ := HCE.out u k hu hA
        simp at e
        obtain ⟨rfl, rfl⟩ := e
        exact ⟨d0, d1⟩
      generalize st.getD k Ak.zero = xx at c0 c1 hox HCx
      obtain ⟨xl, xn⟩ := xx
      simp only at c0 c1 HCx
      have hxl : I64 xl := hox.later
      have HXN : Hid (I64 xn) := hox.n
      have hxi : (k : Int) < (st.length : Int) := by omega
      clear hox
      unfold I64 at hxl
      have hat0 : 0 ≤ at_ := by have := HI.out.now_; omega
      have hki : wrap64 ((k : Int) + 1) = ((k + 1 : Nat) : Int) := by unfold wrap64; omega
      by_cases hx1 : xl < 0
      · go_wp2
        go_roundw
        case rel => exact ⟨k + 1, at_, b, T, N, a14, a15, c14, c15, rt, rk, by omega, by go_num, rfl, rfl, rfl, by omega, hat1, by omega, HI, HW⟩
        case measure => simp [intOf]; omega
      by_cases hx2 : 1048576 < xl
      · go_wp2
        go_roundw
        case rel => exact ⟨k + 1, at_, b, T, N, a14, a15, c14, c15, rt, rk, by omega, by go_num, rfl, rfl, rfl, by omega, hat1, by omega, HI, HW⟩
        case measure => simp [intOf]; omega
      have hwa : wrap64 (at_ + xl) = at_ + xl := by unfold wrap64; omega
      by_cases hx3 : 1125899906842624 ≤ at_ + xl
      · go_wp2
        go_roundw
        case rel => exact ⟨k + 1, at_, b, T, N, a14, a15, c14, c15, rt, rk, by omega, by go_num, rfl, rfl, rfl, by omega, hat1, by omega, HI, HW⟩
        case measure => simp [intOf]; omega
      obtain ⟨t, ht⟩ : ∃ t, at_ + xl = t := ⟨_, rfl⟩
      have hgood := HI.out.good
      have hfg := hgood.fill t
      have hea := HI.out.ea
      have HI2 : Hid (BInv num den burst now (fillP b t) t T N) := HI.out.wait (by omega) (by omega)
      have HTB : Hid (I64 t) := by unfold Hid I64; omega
      have HFI : Hid (∀ u, Calls Try.prog 15 #[b.v, .int .i64 t] u fun e w' => e = .returned (fillP b t).v ∧ Below u.heap.size u w') := fun u => fillOf b hgood.ok t HTB.out u
      have HTK : Hid (∀ u, Calls Try.prog 14 #[b.v, .int .i64 t, .int .i64 xn] u fun e w' => e = .returned (.tuple #[(takeP b t xn).1.v, .int .i64 (takeP b t xn).2]) ∧ Below u.heap.size u w') := fun u => takeOf b hgood.ok t xn HTB.out HXN.out u
      have hcs := take_cases hgood t xn
      generalize fillP b t = f at *
      obtain ⟨f1, f2, f3, f4, f5, f6⟩ := f
      obtain ⟨z0, z1, z2, z3, z4, z5⟩ := HW.out.box
      obtain ⟨b1, b2, b3, b4, b5, b6⟩ := b
      simp only at z0 z1 z2 z3 z4 z5 hcs
      simp only [Bk.v] at HFI
      have hfld : ∀ u : World, (Instr.field 23 (.agg #[.int .i64 f1, .int .i64 f2, .int .i64 f3, .int .i64 f4, .int .i64 f5, .int .i64 f6]) 3).run Try.prog u = .ok (.int .i64 f4) u := run_lvl f1 f2 f3 f4 f5 f6
      have hbxl : bx < wr.heap.size := cell_lt c0
      have hgbl : gb < wr.heap.size := cell_lt z0
      have hbn1 : ¬ bx = wr.heap.size := by omega
      have hbn2 : ¬ gb = wr.heap.size := by omega
      have hbn3 : ¬ wr.heap.size = bx := by omega
      have hbn4 : ¬ wr.heap.size = gb := by omega
      clear hgood hea
      rw [ht] at hwa hx3
      have htl : t ≤ now + 1048576 * ((k + 1 : Nat) : Int) := by omega
      rcases hcs with ⟨hn0, hn1, htk⟩ | ⟨hnn, tv, htv, htk⟩
      · rw [htk] at HTK
        have HCK : Hid (∀ u, Calls Try.prog 11 #[Bk.v ⟨f1, f2, f3, f4 - xn, f5, f6⟩] u fun e w' => e = .returned (.int .i64 0) ∧ Below u.heap.size u w') := fun u => by
          rw [← chkB_good (hfg.less hn0 hn1)]; exact checkOf _ (hfg.less hn0 hn1).ok u
        have HI3 : Hid (BInv num den burst now ⟨f1, f2, f3, f4 - xn, f5, f6⟩ t (T ++ [t]) (N ++ [xn])) := HI2.out.take hn0 hn1
        clear htk hfg
        simp only at HTK
        go_wp2_with fail
        have HWL : Hid (∀ u w', Below wr.heap.size wr u → Below u.heap.size u w' → BW W w' gb ⟨b1, b2, b3, b4, b5, b6⟩ (.slice a14 T.length c14) (.slice a15 N.length c15) T N rt rk) := fun u w' h1 h2 => (HW.out.later h1).later h2
        go_region_held3 (fun u => u.cell? ⟨gb, 0, none⟩ = some (.int .i64 b1) ∧ u.cell? ⟨gb, 1, none⟩ = some (.int .i64 b2) ∧ u.cell? ⟨gb, 2, none⟩ = some (.int .i64 b3) ∧ u.cell? ⟨gb, 3, none⟩ = some (.int .i64 b4) ∧ u.cell? ⟨gb, 4, none⟩ = some (.int .i64 b5) ∧ u.cell? ⟨gb, 5, none⟩ = some (.int .i64 b6) ∧ u.cell? ⟨bx, ox + k * 2, none⟩ = some (.int .i64 xl) ∧ u.cell? ⟨bx, ox + k * 2 + 1, none⟩ = some (.int .i64 xn)) (go_keep) (first
          | (go_at_call 14
             refine (HTK.out _).mono ?_
             rintro e w2 ⟨rfl, hb2⟩
             first
             | (have hq : Below wr.drew.heap.size wr.drew w2 := hb2
                have HP2 : Hid (Below wr.heap.size wr w2) := (Below.drew (Below.refl _ _)).trans hq
                clear hq)
             | (have hq := box_ahead hb2
                have HP2 : Hid (Below wr.heap.size wr w2) := hq.bel
                rcases hq.at_ with ⟨q0, q1, q2, q3, q4, q5⟩
                simp only [Bk.zero] at q0 q1 q2 q3 q4 q5
                have g0 := hq.fr 0
                have g1 := hq.fr 1
                have g2 := hq.fr 2
                have g3 := hq.fr 3
                have g4 := hq.fr 4
                have g5 := hq.fr 5
                have HQ2 : Hid (Box wr w2 wr.heap.size Bk.zero) := hq
                clear hq)
             have HW2 : Hid (BW W w2 gb ⟨b1, b2, b3, b4, b5, b6⟩ (.slice a14 T.length c14) (.slice a15 N.length c15) T N rt rk) := HW.out.later HP2.out
             rcases HW2.out.box with ⟨y0, y1, y2, y3, y4, y5⟩
             rcases HCx.out w2 HW2.out.bel with ⟨d0, d1⟩
             simp only at y0 y1 y2 y3 y4 y5 d0 d1
             have hl1 : bx < w2.heap.size := cell_lt d0
             have hl2 : gb < w2.heap.size := cell_lt y0
             have hl3 : ¬ w2.heap.size = bx := by omega
             have hl4 : ¬ w2.heap.size = gb := by omega
             have hl5 : ¬ bx = w2.heap.size := by omega
             have hl6 : ¬ gb = w2.heap.size := by omega))
        all_goals
          first
          | (obtain ⟨w3, hw3, C3, W3, hgc, hrt, hrk⟩ := HW.out.boxA HW2.out HQ2.out f1 f2 f3 (f4 - xn) f5 f6
             rw [hw3]
             have hgl : wr.heap.size < w3.heap.size := C3.at_.lt
             have hnb : ¬ wr.heap.size = bx := by omega
             have HC3 : Hid (Box W w3 wr.heap.size ⟨f1, f2, f3, f4 - xn, f5, f6⟩) := C3
             clear HQ2 q0 q1 q2 q3 q4 q5 g0 g1 g2 g3 g4 g5 C3 HP2 hb2 hbn1 hbn2 hbn3 hbn4 hbxl hgbl hgl
             generalize wr.heap.size = gc at *)
          | (obtain ⟨w3, hw3, C3, W3, hgc, hrt, hrk⟩ := HW2.out.boxB f1 f2 f3 (f4 - xn) f5 f6
             rw [hw3]
             have hnb : ¬ w2.heap.size = bx := by omega
             have HC3 : Hid (Box W w3 w2.heap.size ⟨f1, f2, f3, f4 - xn, f5, f6⟩) := C3
             clear C3 HP2 hb2 hl1 hl2 hl3 hl4 hl5 hl6
             generalize w2.heap.size = gc at *)
        all_goals
          have HW3 : Hid (BW W w3 gb ⟨b1, b2, b3, b4, b5, b6⟩ (.slice a14 T.length c14) (.slice a15 N.length c15) T N rt rk) := W3
          clear W3
        all_goals
          clear z0 z1 z2 z3 z4 z5 c0 c1 y0 y1 y2 y3 y4 y5 d0 d1
          obtain ⟨z0, z1, z2, z3, z4, z5⟩ := HW3.out.box
          obtain ⟨y0, y1, y2, y3, y4, y5⟩ := HC3.out.at_
          obtain ⟨c0, c1⟩ := HCx.out w3 HW3.out.bel
          simp only at z0 z1 z2 z3 z4 z5 y0 y1 y2 y3 y4 y5 c0 c1
          go_wp2_with fail
          go_region_held3 (fun u => u.cell? ⟨gb, 0, none⟩ = some (.int .i64 b1) ∧ u.cell? ⟨gb, 1, none⟩ = some (.int .i64 b2) ∧ u.cell? ⟨gb, 2, none⟩ = some (.int .i64 b3) ∧ u.cell? ⟨gb, 3, none⟩ = some (.int .i64 b4) ∧ u.cell? ⟨gb, 4, none⟩ = some (.int .i64 b5) ∧ u.cell? ⟨gb, 5, none⟩ = some (.int .i64 b6) ∧ u.cell? ⟨gc, 0, none⟩ = some (.int .i64 f1) ∧ u.cell? ⟨gc, 1, none⟩ = some (.int .i64 f2) ∧ u.cell? ⟨gc, 2, none⟩ = some (.int .i64 f3) ∧ u.cell? ⟨gc, 3, none⟩ = some (.int .i64 (f4 - xn)) ∧ u.cell? ⟨gc, 4, none⟩ = some (.int .i64 f5) ∧ u.cell? ⟨gc, 5, none⟩ = some (.int .i64 f6) ∧ u.cell? ⟨bx, ox + k * 2, none⟩ = some (.int .i64 xl) ∧ u.cell? ⟨bx, ox + k * 2 + 1, none⟩ = some (.int .i64 xn)) (go_keep) (first
            | (go_at_call 11
               refine (HCK.out _).mono ?_
               rintro e w4 ⟨rfl, hbw4⟩
               have HPw4 : Hid (Below w3.heap.size w3 w4) := (Below.drew (Below.refl _ _)).trans hbw4
               rcases (HW3.out.later HPw4.out).box with ⟨m0, m1, m2, m3, m4, m5⟩
               rcases (HC3.out.later HPw4.out).at_ with ⟨n0, n1, n2, n3, n4, n5⟩
               rcases HCx.out w4 (HW3.out.later HPw4.out).bel with ⟨o0, o1⟩
               simp only at m0 m1 m2 m3 m4 m5 n0 n1 n2 n3 n4 n5 o0 o1)
            | (go_at_call 15
               refine (HFI.out _).mono ?_
               rintro e w5 ⟨rfl, hbw5⟩
               have HPw5 : Hid (Below w3.heap.size w3 w5) := HPw4.out.trans (hbw5.mono HPw4.out.size)
               rcases (HW3.out.later HPw5.out).box with ⟨m0, m1, m2, m3, m4, m5⟩
               rcases (HC3.out.later HPw5.out).at_ with ⟨n0, n1, n2, n3, n4, n5⟩
               rcases HCx.out w5 (HW3.out.later HPw5.out).bel with ⟨o0, o1⟩
               simp only at m0 m1 m2 m3 m4 m5 n0 n1 n2 n3 n4 n5 o0 o1))
          have HW5 : Hid (BW W w5 gb ⟨b1, b2, b3, b4, b5, b6⟩ (.slice a14 T.length c14) (.slice a15 N.length c15) T N rt rk) := HW3.out.later HPw5.out
          have HC5 : Hid (Box W w5 gc ⟨f1, f2, f3, f4 - xn, f5, f6⟩) := HC3.out.later HPw5.out
          have HRT : Hid (rt ≠ some gc) := hrt
          have HRK : Hid (rk ≠ some gc) := hrk
          have HLT : Hid (T.length + [t].length ≤ 20000000000000) := by unfold Hid; simp; omega
          have HLN : Hid (N.length + [xn].length ≤ 20000000000000) := by have := HI2.out.len; unfold Hid; simp; omega
          clear z0 z1 z2 z3 z4 z5 y0 y1 y2 y3 y4 y5 c0 c1 m0 m1 m2 m3 m4 m5 n0 n1 n2 n3 n4 n5 o0 o1 HPw4 HPw5 hbw4 hbw5 hrt hrk HW3 HC3 hgc hnb
          go_wp2_with (at_builtin; refine wpList_append_l _ rfl _ _ 31 31 rfl Try.underlying31 _ _ T [t] rt rfl rfl ?hOwn ?hByte ?hSrc ?hLen ?_)
          case hOwn => exact HW5.out.t.later ((Below.refl _ _).alloc (Nat.le_refl _) _)
          case hByte => intro c hc; rw [List.mem_singleton] at hc; subst hc; exact HTB.out
          case hSrc => exact src_l w5 t
          case hLen => exact HLT.out
          intro v6 w6 rt6 ho6 hg6 hr6 hn6
          obtain ⟨a6, c6, rfl⟩ := ho6.shp
          have HW6 : Hid (BW W w6 gb ⟨b1, b2, b3, b4, b5, b6⟩ (.slice a6 (T ++ [t]).length c6) (.slice a15 N.length c15) (T ++ [t]) N rt6 rk) := (HW5.out.later ((Below.refl _ _).alloc (Nat.le_refl _) _)).moreT ho6 hg6 (by simpa using hr6)
          have HC6 : Hid (Box W w6 gc ⟨f1, f2, f3, f4 - xn, f5, f6⟩) := (HC5.out.later ((Below.refl _ _).alloc (Nat.le_refl _) _)).grown hg6 HRT.out (fun q hq => (HW5.out.nt q hq).1)
          clear ho6 hg6 hr6 hn6
          obtain ⟨c0, c1⟩ := HCx.out w6 HW6.out.bel
          go_wp2_with (at_builtin; refine wpList_append_l _ rfl _ _ 31 31 rfl Try.underlying31 _ _ N [xn] rk rfl rfl ?hOwn ?hByte ?hSrc ?hLen ?_)
          case hOwn => exact HW6.out.k.later ((Below.refl _ _).alloc (Nat.le_refl _) _)
          case hByte => intro c hc; rw [List.mem_singleton] at hc; subst hc; exact HXN.out
          case hSrc => exact src_l w6 xn
          case hLen => exact HLN.out
          intro v7 w7 rk7 ho7 hg7 hr7 hn7
          obtain ⟨a7, c7, rfl⟩ := ho7.shp
          have HW7 : Hid (BW W w7 gb ⟨b1, b2, b3, b4, b5, b6⟩ (.slice a6 (T ++ [t]).length c6) (.slice a7 (N ++ [xn]).length c7) (T ++ [t]) (N ++ [xn]) rt6 rk7) := (HW6.out.later ((Below.refl _ _).alloc (Nat.le_refl _) _)).moreN ho7 hg7 (by simpa using hr7)
          have HC7 : Hid (Box W w7 gc ⟨f1, f2, f3, f4 - xn, f5, f6⟩) := (HC6.out.later ((Below.refl _ _).alloc (Nat.le_refl _) _)).grown hg7 HRK.out (fun q hq => (HW6.out.nk q hq).1)
          clear ho7 hg7 hr7 hn7 c0 c1
          obtain ⟨z0, z1, z2, z3, z4, z5⟩ := HW7.out.box
          obtain ⟨y0, y1, y2, y3, y4, y5⟩ := HC7.out.at_
          simp only at z0 z1 z2 z3 z4 z5 y0 y1 y2 y3 y4 y5
          have k0 := HW7.out.fr 0
          have k1 := HW7.out.fr 1
          have k2 := HW7.out.fr 2
          have k3 := HW7.out.fr 3
          have k4 := HW7.out.fr 4
          have k5 := HW7.out.fr 5
          have HW8 : Hid (BW W (putBk w7 gb ⟨f1, f2, f3, f4 - xn, f5, f6⟩) gb ⟨f1, f2, f3, f4 - xn, f5, f6⟩ (.slice a6 (T ++ [t]).length c6) (.slice a7 (N ++ [xn]).length c7) (T ++ [t]) (N ++ [xn]) rt6 rk7) := HW7.out.put _
          go_wp2
          go_roundw
          case rel => exact ⟨k + 1, t, ⟨f1, f2, f3, f4 - xn, f5, f6⟩, T ++ [t], N ++ [xn], a6, a7, c6, c7, rt6, rk7, by omega, by go_num, rfl, by simp, by simp, by simp; omega, by omega, by omega, HI3, by simpa [putBk] using HW8⟩
          case measure => simp [intOf]; omega
      · rw [htk] at HTK
        have HCK : Hid (∀ u, Calls Try.prog 11 #[Bk.v ⟨f1, f2, f3, f4, f5, f6⟩] u fun e w' => e = .returned (.int .i64 0) ∧ Below u.heap.size u w') := fun u => by
          rw [← chkB_good hfg]; exact checkOf _ hfg.ok u
        clear htk hfg
        simp only at HTK
        have htz : (tv == 0) = false := by simpa using htv
        by_cases hxn : xn < 0
        · have hxd : decide (0 ≤ xn) = false := by simpa using hxn
          go_wp2_with fail
          have HWL : Hid (∀ u w', Below wr.heap.size wr u → Below u.heap.size u w' → BW W w' gb ⟨b1, b2, b3, b4, b5, b6⟩ (.slice a14 T.length c14) (.slice a15 N.length c15) T N rt rk) := fun u w' h1 h2 => (HW.out.later h1).later h2
          go_region_held3 (fun u => u.cell? ⟨gb, 0, none⟩ = some (.int .i64 b1) ∧ u.cell? ⟨gb, 1, none⟩ = some (.int .i64 b2) ∧ u.cell? ⟨gb, 2, none⟩ = some (.int .i64 b3) ∧ u.cell? ⟨gb, 3, none⟩ = some (.int .i64 b4) ∧ u.cell? ⟨gb, 4, none⟩ = some (.int .i64 b5) ∧ u.cell? ⟨gb, 5, none⟩ = some (.int .i64 b6) ∧ u.cell? ⟨bx, ox + k * 2, none⟩ = some (.int .i64 xl) ∧ u.cell? ⟨bx, ox + k * 2 + 1, none⟩ = some (.int .i64 xn)) (go_keep) (first
            | (go_at_call 14
               refine (HTK.out _).mono ?_
               rintro e w2 ⟨rfl, hb2⟩
               first
               | (have hq : Below wr.drew.heap.size wr.drew w2 := hb2
                  have HP2 : Hid (Below wr.heap.size wr w2) := (Below.drew (Below.refl _ _)).trans hq
                  clear hq)
               | (have hq := box_ahead hb2
                  have HP2 : Hid (Below wr.heap.size wr w2) := hq.bel
                  rcases hq.at_ with ⟨q0, q1, q2, q3, q4, q5⟩
                  simp only [Bk.zero] at q0 q1 q2 q3 q4 q5
                  have g0 := hq.fr 0
                  have g1 := hq.fr 1
                  have g2 := hq.fr 2
                  have g3 := hq.fr 3
                  have g4 := hq.fr 4
                  have g5 := hq.fr 5
                  have HQ2 : Hid (Box wr w2 wr.heap.size Bk.zero) := hq
                  clear hq)
               have HW2 : Hid (BW W w2 gb ⟨b1, b2, b3, b4, b5, b6⟩ (.slice a14 T.length c14) (.slice a15 N.length c15) T N rt rk) := HW.out.later HP2.out
               rcases HW2.out.box with ⟨y0, y1, y2, y3, y4, y5⟩
               rcases HCx.out w2 HW2.out.bel with ⟨d0, d1⟩
               simp only at y0 y1 y2 y3 y4 y5 d0 d1
               have hl1 : bx < w2.heap.size := cell_lt d0
               have hl2 : gb < w2.heap.size := cell_lt y0
               have hl3 : ¬ w2.heap.size = bx := by omega
               have hl4 : ¬ w2.heap.size = gb := by omega
               have hl5 : ¬ bx = w2.heap.size := by omega
               have hl6 : ¬ gb = w2.heap.size := by omega))
          all_goals
            first
            | (obtain ⟨w3, hw3, C3, W3, hgc, hrt, hrk⟩ := HW.out.boxA HW2.out HQ2.out f1 f2 f3 f4 f5 f6
               rw [hw3]
               have hgl : wr.heap.size < w3.heap.size := C3.at_.lt
               have hnb : ¬ wr.heap.size = bx := by omega
               have HC3 : Hid (Box W w3 wr.heap.size ⟨f1, f2, f3, f4, f5, f6⟩) := C3
               clear HQ2 q0 q1 q2 q3 q4 q5 g0 g1 g2 g3 g4 g5 C3 HP2 hb2 hbn1 hbn2 hbn3 hbn4 hbxl hgbl hgl
               generalize wr.heap.size = gc at *)
            | (obtain ⟨w3, hw3, C3, W3, hgc, hrt, hrk⟩ := HW2.out.boxB f1 f2 f3 f4 f5 f6
               rw [hw3]
               have hnb : ¬ w2.heap.size = bx := by omega
               have HC3 : Hid (Box W w3 w2.heap.size ⟨f1, f2, f3, f4, f5, f6⟩) := C3
               clear C3 HP2 hb2 hl1 hl2 hl3 hl4 hl5 hl6
               generalize w2.heap.size = gc at *)
          all_goals
            have HW3 : Hid (BW W w3 gb ⟨b1, b2, b3, b4, b5, b6⟩ (.slice a14 T.length c14) (.slice a15 N.length c15) T N rt rk) := W3
            clear W3
          all_goals
            clear z0 z1 z2 z3 z4 z5 c0 c1 y0 y1 y2 y3 y4 y5 d0 d1
            obtain ⟨z0, z1, z2, z3, z4, z5⟩ := HW3.out.box
            obtain ⟨y0, y1, y2, y3, y4, y5⟩ := HC3.out.at_
            obtain ⟨c0, c1⟩ := HCx.out w3 HW3.out.bel
            simp only at z0 z1 z2 z3 z4 z5 y0 y1 y2 y3 y4 y5 c0 c1
            go_wp2_with fail
            have r0 := cell_regrown y0
            have r1 := cell_regrown y1
            have r2 := cell_regrown y2
            have r3 := cell_regrown y3
            have r4 := cell_regrown y4
            have r5 := cell_regrown y5
            have r6 := cell_regrown c1
            have cC : ∀ d os, Calls Try.prog 11 #[.agg #[.int .i64 f1, .int .i64 f2, .int .i64 f3, .int .i64 f4, .int .i64 f5, .int .i64 f6]] (Go.Sort.grow (redrawn w3 d) os) fun e w'' => e = .returned (.int .i64 0) ∧ ∃ p : Regrown, w'' = Go.Sort.grow (redrawn w3 p.d) p.os := fun d os => Calls.regrown_of (HCK.out _)
            refine wp_region_quiet_below (by kernel_rfl) (by kernel_rfl) ?_
            repeat (go_big_quiet_step (exact cC _ _))
            refine wpQuiet_nil ?_
            intro _ hw'
            obtain ⟨⟨dq, osq⟩, hw''⟩ := hw'
            subst hw''
            obtain ⟨w4, hw4⟩ : ∃ u, Go.Sort.grow (redrawn w3 dq) osq = u := ⟨_, rfl⟩
            have HPw4 : Hid (Below w3.heap.size w3 w4) := by rw [← hw4]; exact below_regrown w3 dq osq
            rw [hw4]
            clear r0 r1 r2 r3 r4 r5 r6 cC
            have HW5 : Hid (BW W w4 gb ⟨b1, b2, b3, b4, b5, b6⟩ (.slice a14 T.length c14) (.slice a15 N.length c15) T N rt rk) := HW3.out.later HPw4.out
            have HC5 : Hid (Box W w4 gc ⟨f1, f2, f3, f4, f5, f6⟩) := HC3.out.later HPw4.out
            clear z0 z1 z2 z3 z4 z5 y0 y1 y2 y3 y4 y5
            obtain ⟨z0, z1, z2, z3, z4, z5⟩ := HW5.out.box
            obtain ⟨y0, y1, y2, y3, y4, y5⟩ := HC5.out.at_
            simp only at z0 z1 z2 z3 z4 z5 y0 y1 y2 y3 y4 y5
            have k0 := HW5.out.fr 0
            have k1 := HW5.out.fr 1
            have k2 := HW5.out.fr 2
            have k3 := HW5.out.fr 3
            have k4 := HW5.out.fr 4
            have k5 := HW5.out.fr 5
            have HW8 : Hid (BW W (putBk w4 gb ⟨f1, f2, f3, f4, f5, f6⟩) gb ⟨f1, f2, f3, f4, f5, f6⟩ (.slice a14 T.length c14) (.slice a15 N.length c15) T N rt rk) := HW5.out.put _
            go_wp2
            go_roundw
            case rel => exact ⟨k + 1, t, ⟨f1, f2, f3, f4, f5, f6⟩, T, N, a14, a15, c14, c15, rt, rk, by omega, by go_num, rfl, rfl, rfl, by omega, by omega, by omega, HI2, by simpa [putBk] using HW8⟩
            case measure => simp [intOf]; omega
        · have hxf : f4 < xn := by omega
          go_wp2_with fail
          have HWL : Hid (∀ u w', Below wr.heap.size wr u → Below u.heap.size u w' → BW W w' gb ⟨b1, b2, b3, b4, b5, b6⟩ (.slice a14 T.length c14) (.slice a15 N.length c15) T N rt rk) := fun u w' h1 h2 => (HW.out.later h1).later h2
          go_region_held3 (fun u => u.cell? ⟨gb, 0, none⟩ = some (.int .i64 b1) ∧ u.cell? ⟨gb, 1, none⟩ = some (.int .i64 b2) ∧ u.cell? ⟨gb, 2, none⟩ = some (.int .i64 b3) ∧ u.cell? ⟨gb, 3, none⟩ = some (.int .i64 b4) ∧ u.cell? ⟨gb, 4, none⟩ = some (.int .i64 b5) ∧ u.cell? ⟨gb, 5, none⟩ = some (.int .i64 b6) ∧ u.cell? ⟨bx, ox + k * 2, none⟩ = some (.int .i64 xl) ∧ u.cell? ⟨bx, ox + k * 2 + 1, none⟩ = some (.int .i64 xn)) (go_keep) (first
            | (go_at_call 14
               refine (HTK.out _).mono ?_
               rintro e w2 ⟨rfl, hb2⟩
               first
               | (have hq : Below wr.drew.heap.size wr.drew w2 := hb2
                  have HP2 : Hid (Below wr.heap.size wr w2) := (Below.drew (Below.refl _ _)).trans hq
                  clear hq)
               | (have hq := box_ahead hb2
                  have HP2 : Hid (Below wr.heap.size wr w2) := hq.bel
                  rcases hq.at_ with ⟨q0, q1, q2, q3, q4, q5⟩
                  simp only [Bk.zero] at q0 q1 q2 q3 q4 q5
                  have g0 := hq.fr 0
                  have g1 := hq.fr 1
                  have g2 := hq.fr 2
                  have g3 := hq.fr 3
                  have g4 := hq.fr 4
                  have g5 := hq.fr 5
                  have HQ2 : Hid (Box wr w2 wr.heap.size Bk.zero) := hq
                  clear hq)
               have HW2 : Hid (BW W w2 gb ⟨b1, b2, b3, b4, b5, b6⟩ (.slice a14 T.length c14) (.slice a15 N.length c15) T N rt rk) := HW.out.later HP2.out
               rcases HW2.out.box with ⟨y0, y1, y2, y3, y4, y5⟩
               rcases HCx.out w2 HW2.out.bel with ⟨d0, d1⟩
               simp only at y0 y1 y2 y3 y4 y5 d0 d1
               have hl1 : bx < w2.heap.size := cell_lt d0
               have hl2 : gb < w2.heap.size := cell_lt y0
               have hl3 : ¬ w2.heap.size = bx := by omega
               have hl4 : ¬ w2.heap.size = gb := by omega
               have hl5 : ¬ bx = w2.heap.size := by omega
               have hl6 : ¬ gb = w2.heap.size := by omega))
          all_goals
            first
            | (obtain ⟨w3, hw3, C3, W3, hgc, hrt, hrk⟩ := HW.out.boxA HW2.out HQ2.out f1 f2 f3 f4 f5 f6
               rw [hw3]
               have hgl : wr.heap.size < w3.heap.size := C3.at_.lt
               have hnb : ¬ wr.heap.size = bx := by omega
               have HC3 : Hid (Box W w3 wr.heap.size ⟨f1, f2, f3, f4, f5, f6⟩) := C3
               clear HQ2 q0 q1 q2 q3 q4 q5 g0 g1 g2 g3 g4 g5 C3 HP2 hb2 hbn1 hbn2 hbn3 hbn4 hbxl hgbl hgl
               generalize wr.heap.size = gc at *)
            | (obtain ⟨w3, hw3, C3, W3, hgc, hrt, hrk⟩ := HW2.out.boxB f1 f2 f3 f4 f5 f6
               rw [hw3]
               have hnb : ¬ w2.heap.size = bx := by omega
               have HC3 : Hid (Box W w3 w2.heap.size ⟨f1, f2, f3, f4, f5, f6⟩) := C3
               clear C3 HP2 hb2 hl1 hl2 hl3 hl4 hl5 hl6
               generalize w2.heap.size = gc at *)
          all_goals
            have HW3 : Hid (BW W w3 gb ⟨b1, b2, b3, b4, b5, b6⟩ (.slice a14 T.length c14) (.slice a15 N.length c15) T N rt rk) := W3
            clear W3
          all_goals
            clear z0 z1 z2 z3 z4 z5 c0 c1 y0 y1 y2 y3 y4 y5 d0 d1
            obtain ⟨z0, z1, z2, z3, z4, z5⟩ := HW3.out.box
            obtain ⟨y0, y1, y2, y3, y4, y5⟩ := HC3.out.at_
            obtain ⟨c0, c1⟩ := HCx.out w3 HW3.out.bel
            simp only at z0 z1 z2 z3 z4 z5 y0 y1 y2 y3 y4 y5 c0 c1
            go_wp2_with fail
            go_region_held3 (fun u => u.cell? ⟨gb, 0, none⟩ = some (.int .i64 b1) ∧ u.cell? ⟨gb, 1, none⟩ = some (.int .i64 b2) ∧ u.cell? ⟨gb, 2, none⟩ = some (.int .i64 b3) ∧ u.cell? ⟨gb, 3, none⟩ = some (.int .i64 b4) ∧ u.cell? ⟨gb, 4, none⟩ = some (.int .i64 b5) ∧ u.cell? ⟨gb, 5, none⟩ = some (.int .i64 b6) ∧ u.cell? ⟨gc, 0, none⟩ = some (.int .i64 f1) ∧ u.cell? ⟨gc, 1, none⟩ = some (.int .i64 f2) ∧ u.cell? ⟨gc, 2, none⟩ = some (.int .i64 f3) ∧ u.cell? ⟨gc, 3, none⟩ = some (.int .i64 f4) ∧ u.cell? ⟨gc, 4, none⟩ = some (.int .i64 f5) ∧ u.cell? ⟨gc, 5, none⟩ = some (.int .i64 f6) ∧ u.cell? ⟨bx, ox + k * 2, none⟩ = some (.int .i64 xl) ∧ u.cell? ⟨bx, ox + k * 2 + 1, none⟩ = some (.int .i64 xn)) (go_keep) (first
              | (go_at_call 11
                 refine (HCK.out _).mono ?_
                 rintro e w4 ⟨rfl, hbw4⟩
                 have HPw4 : Hid (Below w3.heap.size w3 w4) := (Below.drew (Below.refl _ _)).trans hbw4
                 rcases (HW3.out.later HPw4.out).box with ⟨m0, m1, m2, m3, m4, m5⟩
                 rcases (HC3.out.later HPw4.out).at_ with ⟨n0, n1, n2, n3, n4, n5⟩
                 rcases HCx.out w4 (HW3.out.later HPw4.out).bel with ⟨o0, o1⟩
                 simp only at m0 m1 m2 m3 m4 m5 n0 n1 n2 n3 n4 n5 o0 o1)
              | (go_at_call 15
                 refine (HFI.out _).mono ?_
                 rintro e w5 ⟨rfl, hbw5⟩
                 have HPw5 : Hid (Below w3.heap.size w3 w5) := HPw4.out.trans (hbw5.mono HPw4.out.size)
                 rcases (HW3.out.later HPw5.out).box with ⟨m0, m1, m2, m3, m4, m5⟩
                 rcases (HC3.out.later HPw5.out).at_ with ⟨n0, n1, n2, n3, n4, n5⟩
                 rcases HCx.out w5 (HW3.out.later HPw5.out).bel with ⟨o0, o1⟩
                 simp only at m0 m1 m2 m3 m4 m5 n0 n1 n2 n3 n4 n5 o0 o1))
            have HW5 : Hid (BW W w5 gb ⟨b1, b2, b3, b4, b5, b6⟩ (.slice a14 T.length c14) (.slice a15 N.length c15) T N rt rk) := HW3.out.later HPw5.out
            have HC5 : Hid (Box W w5 gc ⟨f1, f2, f3, f4, f5, f6⟩) := HC3.out.later HPw5.out
            clear z0 z1 z2 z3 z4 z5 y0 y1 y2 y3 y4 y5
            obtain ⟨z0, z1, z2, z3, z4, z5⟩ := HW5.out.box
            obtain ⟨y0, y1, y2, y3, y4, y5⟩ := HC5.out.at_
            simp only at z0 z1 z2 z3 z4 z5 y0 y1 y2 y3 y4 y5
            have k0 := HW5.out.fr 0
            have k1 := HW5.out.fr 1
            have k2 := HW5.out.fr 2
            have k3 := HW5.out.fr 3
            have k4 := HW5.out.fr 4
            have k5 := HW5.out.fr 5
            have HW8 : Hid (BW W (putBk w5 gb ⟨f1, f2, f3, f4, f5, f6⟩) gb ⟨f1, f2, f3, f4, f5, f6⟩ (.slice a14 T.length c14) (.slice a15 N.length c15) T N rt rk) := HW5.out.put _
            go_wp2
            go_roundw
            case rel => exact ⟨k + 1, t, ⟨f1, f2, f3, f4, f5, f6⟩, T, N, a14, a15, c14, c15, rt, rk, by omega, by go_num, rfl, rfl, rfl, by omega, by omega, by omega, HI2, by simpa [putBk] using HW8⟩
            case measure => simp [intOf]; omega
    · have hAi : ¬ (k : Int) < (st.length : Int) := by omega
      have hln : N.length = T.length := HI.out.len
      have hfew := HI.out.few
      have HBD := fun i k (h1 : i ≤ k) (h2 : k < T.length) => HI.out.bound (i := i) (k := k) h1 h2
      have HTK : Hid (∀ i, i < T.length → now ≤ T.getD i 0 ∧ T.getD i 0 ≤ now + 1048576000) := fun i hi => by have := HI.out.tick i hi; omega
      have HRI : Hid (∀ i k, i ≤ k → k < T.length → T.getD i 0 ≤ T.getD k 0) := HI.out.rise
      have HSM : Hid (∀ k, k ≤ N.length → 0 ≤ sumTo N k ∧ sumTo N k ≤ 1073741824 * (k : Int)) := sumTo_small hfew
      have HSL : Hid (∀ i k, i ≤ k → k ≤ N.length → sumTo N i ≤ sumTo N k) := fun i k h1 h2 => sumTo_le hfew k h1 h2
      have HSS : Hid (∀ k, k < N.length → sumTo N (k + 1) = sumTo N k + N.getD k 0) := fun k hk => sumTo_succ N k hk
      have HB0 : Hid (Below W.heap.size W wr) := HW.out.bel
      have HCT : Hid (∀ u i, Below wr.heap.size wr u → i < T.length → ∃ b off, a14 = some ⟨b, off, none⟩ ∧ u.cell? ⟨b, off + i, none⟩ = some (.int .i64 (T.getD i 0))) := fun u i hu hi => by
        obtain ⟨b, off, cp, e, hc⟩ := HW.out.t.nums.get hi
        simp only [Value.slice.injEq] at e
        exact ⟨b, off, e.1, hc u hu⟩
      have HCN : Hid (∀ u i, Below wr.heap.size wr u → i < T.length → ∃ b off, a15 = some ⟨b, off, none⟩ ∧ u.cell? ⟨b, off + i, none⟩ = some (.int .i64 (N.getD i 0))) := fun u i hu hi => by
        obtain ⟨b, off, cp, e, hc⟩ := HW.out.k.nums.get (k := i) (by omega)
        simp only [Value.slice.injEq] at e
        exact ⟨b, off, e.1, hc u hu⟩
      have hT1 : T.length ≤ 1000 := by omega
      have HBDH : Hid (∀ i k, i ≤ k → k < T.length → sumTo N (k + 1) - sumTo N i ≤ burst + (num / den * (T.getD k 0 - T.getD i 0) + num % den * (T.getD k 0 - T.getD i 0) / den)) := HBD
      rw [hln] at HSM HSL HSS ⊢
      have HBR : Hid (Below wr.heap.size wr wr) := Below.refl _ _
      generalize wr = wz at *
      clear HI HW hfew HBD HCE
      go_wp2
      go_loopw [19] (fun s19 wr => ∃ i : Nat, i ≤ T.length ∧ s19 = .int .i64 i ∧ Hid (Below wz.heap.size wz wr)) (fun i _ => T.length - (intOf i).toNat)
      case atStart => exact ⟨0, by omega, rfl, HBR⟩
      case round =>
        obtain ⟨i, hi, rfl, HB⟩ := hrel
        by_cases hI : i < T.length
        · have hii : (i : Int) < (T.length : Int) := by omega
          go_wp2
          go_loopw [20, 21] (fun s20 s21 wr => ∃ n : Nat, i ≤ n ∧ n ≤ T.length ∧ s21 = .int .i64 n ∧ s20 = .int .i64 (sumTo N n - sumTo N i) ∧ Hid (Below wz.heap.size wz wr)) (fun _ i _ => T.length - (intOf i).toNat)
          case atStart => exact ⟨i, by omega, hi, rfl, by simp, HB⟩
          case round =>
            obtain ⟨n, hin, hn, rfl, rfl, HK⟩ := hrel
            by_cases hNl : n < T.length
            · obtain ⟨bt, ot, rfl, c0⟩ := HCT.out wr i HK.out hI
              obtain ⟨bt', ot', et, c1⟩ := HCT.out wr n HK.out hNl
              simp only [Option.some.injEq, Addr.mk.injEq] at et
              obtain ⟨rfl, rfl, -⟩ := et
              obtain ⟨bn, on, rfl, c2⟩ := HCN.out wr n HK.out hNl
              have hni : (n : Int) < (T.length : Int) := by omega
              have h1 := HTK.out i hI
              have h2 := HTK.out n hNl
              have h3 := HRI.out i n hin hNl
              have h4 := HSM.out n (by omega)
              have h5 := HSM.out (n + 1) (by omega)
              have h6 := HSL.out i n hin (by omega)
              have h7 := HSS.out n hNl
              have h8 := HSM.out i (by omega)
              have h9 := HBDH.out i n hin hNl
              have HS7 : Hid (sumTo N (n + 1) = sumTo N n + N.getD n 0) := h7
              rw [h7] at h5 h9
              generalize sumTo N n = sn at *
              generalize sumTo N i = si at *
              generalize N.getD n 0 = x at *
              generalize T.getD n 0 = tn at *
              generalize T.getD i 0 = ti at *
              obtain ⟨q, hq⟩ : ∃ q, num / den = q := ⟨_, rfl⟩
              obtain ⟨m, hm⟩ : ∃ m, num % den = m := ⟨_, rfl⟩
              have hq0 : 0 ≤ q ∧ q ≤ 1073741824 := by rw [← hq]; exact ⟨Int.ediv_nonneg (by omega) (by omega), Int.le_trans (Int.ediv_le_self _ (by omega)) hnum1⟩
              have hm0 : 0 ≤ m ∧ m < 1048576 := by rw [← hm]; have := Int.emod_lt_of_pos num (show 0 < den by omega); have := Int.emod_nonneg num (show den ≠ 0 by omega); omega
              rw [hq, hm] at h9
              have hp1 := mul_le_of (a := q) (b := tn - ti) (m := 1073741824) (n := 1048576000) hq0.1 (by omega) hq0.2 (by omega)
              have hp2 := mul_le_of (a := m) (b := tn - ti) (m := 1048576) (n := 1048576000) hm0.1 (by omega) (by omega) (by omega)
              have hd0 := Int.ediv_nonneg hp2.1 (show 0 ≤ den by omega)
              have hd1 := Int.ediv_le_self den hp2.1
              have e1 : Int.tdiv num den = q := by rw [Int.tdiv_eq_ediv_of_nonneg (by omega), hq]
              have e2 : Int.tmod num den = m := by rw [Int.tmod_eq_emod_of_nonneg (by omega), hm]
              have e3 : Int.tdiv (m * (tn - ti)) den = m * (tn - ti) / den := Int.tdiv_eq_ediv_of_nonneg hp2.1
              have hdz : ¬ den = 0 := by omega
              have hdz2 : (den == 0) = false := by simpa using hdz
              have v0 : wrap64 (sn - si + x) = sn - si + x := by unfold wrap64; omega
              have v1 : IntKind.i64.wrap q = q := IntWalk.i64_in _ (by omega)
              have v2 : IntKind.i64.wrap m = m := IntWalk.i64_in _ (by omega)
              have v3 : IntKind.i64.wrap (tn - ti) = tn - ti := IntWalk.i64_in _ (by omega)
              have v4 : IntKind.i64.wrap (q * (tn - ti)) = q * (tn - ti) := IntWalk.i64_in _ (by omega)
              have v5 : IntKind.i64.wrap (m * (tn - ti)) = m * (tn - ti) := IntWalk.i64_in _ (by omega)
              have v6 : IntKind.i64.wrap (m * (tn - ti) / den) = m * (tn - ti) / den := IntWalk.i64_in _ (by omega)
              have v7 : IntKind.i64.wrap (q * (tn - ti) + m * (tn - ti) / den) = q * (tn - ti) + m * (tn - ti) / den := IntWalk.i64_in _ (by omega)
              have v8 : wrap64 (burst + (q * (tn - ti) + m * (tn - ti) / den)) = burst + (q * (tn - ti) + m * (tn - ti) / den) := by unfold wrap64; omega
              go_wp2
              go_quiet (fail)
              have HB5 : Hid (Below wz.heap.size wz (wr.drewN nq)) := ⟨HK.out.os, HK.out.tape, HK.out.output, HK.out.size, HK.out.block⟩
              have hcm : ¬ burst + (q * (tn - ti) + m * (tn - ti) / den) < sn - si + x := by omega
              have HSV : Hid (sn - si + x = sn + x - si) := by unfold Hid; omega
              generalize q * (tn - ti) + m * (tn - ti) / den = inn at *
              go_wp2
              go_roundw
              case rel => exact ⟨n + 1, by omega, by omega, by go_num, by rw [HS7.out, HSV.out], HB5⟩
              case measure => simp [intOf]; omega
            · have hni : ¬ (n : Int) < (T.length : Int) := by omega
              go_wp2
              go_roundw
              case rel => exact ⟨i + 1, by omega, by go_num, HK⟩
              case measure => simp [intOf]; omega
        · have hii : ¬ (i : Int) < (T.length : Int) := by omega
          go_wp2
          go_ret
          exact ⟨rfl, HB0.out.trans (HB.out.mono HB0.out.size)⟩
end Go.Proofs.Ytbeaefokpggmpaa
