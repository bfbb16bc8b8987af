import Derived.Test.YtlnbmblmmgjmfaaCtE
/-! The law on cuts: its walk. -/
namespace Go.Proofs.Ytlnbmblmmgjmfaa
open Go.RowKit Plain
set_option linter.unusedVariables false
set_option linter.unusedSimpArgs false

/-- A first part of a row reads. -/
theorem OwnV.headZ {w : World} {g N c k : Nat} {L l : List Int} (h : OwnV w (.slice (some ⟨g, 0, none⟩) N c) (ints L) (some g)) (hk : k ≤ L.length) (hb : k ≤ 17592186043904) (e : L.take k = l) (hok : ∀ z ∈ l, I64 z) : IntsAt w (.slice (some ⟨g, 0, none⟩) k c) l := by
  subst e
  have hl : (L.take k).length = k := by simp; omega
  obtain ⟨a', c', e, h1, h2⟩ := h.shape
  simp only [Value.slice.injEq, ints_len] at e
  obtain ⟨_, rfl, rfl⟩ := e
  rw [ints_len] at h2
  refine ⟨_, c, by rw [hl], by rw [hl]; omega, by rw [hl]; exact hb, hok, fun hne => ⟨g, 0, rfl, fun j hj => ?_⟩⟩
  rw [hl] at hj
  rw [Nat.zero_add, h.cellZ (j := j) (by omega), getI_take hj]
/-- What is read of the row at the end. -/
def rowF (l : List Int) (j : Nat) : Int := if j < l.length then l.getD j 0 else -77
theorem rowF_take (l : List Int) : (tab (l.length + 1) (rowF l)).take l.length = l := by
  refine List.ext_getElem (by simp [tab]) fun j h1 h2 => ?_
  simp [tab, rowF, h2, List.getD_eq_getElem?_getD]
set_option maxHeartbeats 16000000 in
set_option maxRecDepth 1000000 in
theorem cutsWalk (n : Int) (hn : I64 n) (hpc : CutsOk n) (v : Value) (l : List Int) (w : World) (h : IntsAt w v l) : Calls Try.prog 3 #[.int .i64 n, v] w fun e w' => e = .returned (.bool true) ∧ Below w.heap.size w w' := by
  obtain ⟨i, hi0, hi1, hi2, hi3⟩ := info_parts Try.infoI
  have HI : Hid (Try.prog.info? 3 = some i ∧ i.zero = some (.int .i64 0) ∧ i.size = 1 ∧ i.bytes = 8) := ⟨hi0, hi1, hi2, hi3⟩
  have HIN := Hid.mkC h
  have HRC : Hid (∀ (v : Value) (l : List Int) (u : World), IntsAt u v l → Calls Try.prog 5 #[.int .i64 n, v] u (CtP n l u)) := fun v l u h => rcutsOf n hn v l u h
  have HPL : Hid (∀ u, IntsAt u v l → Calls Try.prog 6 #[.int .i64 n, v] u fun e w' => e = .returned (.bool true) ∧ Below u.heap.size u w') := fun u h => placedOf n hn hpc v l u h
  have HPC : Hid (CutsOk n) := hpc
  have HCI := Hid.mkC (cutsL_i64 n hn l)
  obtain ⟨a, cap, rfl, h0, h1, h2, h3⟩ := h
  have HZ : Hid (∀ z ∈ l, I64 z) := h2
  have HC : Hid (l ≠ [] → ∃ b off, a = some ⟨b, off, none⟩ ∧ ∀ j, j < l.length → w.cell? ⟨b, off + j, none⟩ = some (.int .i64 (l.getD j 0))) := h3
  clear h2 h3 hi0 hi1 hi2 hi3 hpc
  obtain ⟨k, hkl⟩ : ∃ k, l.length = k := ⟨_, rfl⟩
  have HKL := Hid.mkC hkl
  have HLC : Hid ((cutsL n l).length ≤ k) := by unfold Hid; rw [← hkl]; exact cutsL_len n l
  rw [hkl] at h0 h1 HPL ⊢
  clear hkl
  obtain ⟨k1, hk1⟩ : ∃ k1, k + 1 = k1 := ⟨_, rfl⟩
  have hk2 : (k : Int) + 1 = (k1 : Int) := by omega
  have HK1 := Hid.mkC hk1
  have hkk : k < k1 := by omega
  have hkb : k1 ≤ 17592186043905 := by omega
  clear hk1
  go_enter Try.func3, Try.ntmps3
  go_wp2_with (at_make; refine wpList_make_full _ rfl _ _ 22 rfl w.heap.size 3 i _ 1 Try.underlying22 HI.out.1 HI.out.2.1 HI.out.2.2.1 .i64 .i64 _ _ k1 rfl rfl rfl rfl (by rw [HI.out.2.2.2]; omega) (by unfold maxLen; omega) (by simp) ?_)
  intro w1 ho1 hg1
  obtain ⟨m1, m2⟩ := madeZ (by omega) ho1
  obtain ⟨G, hG⟩ : ∃ G, w.heap.size = G := ⟨_, rfl⟩
  have H0 : Hid (OwnV w1 (.slice (some ⟨G, 0, none⟩) k1 k1) (ints (tab k1 (fun j => if j < 0 then l.getD j 0 else 0))) (some G) ∧ Below w.heap.size w w1) := by
    have e := tab_rep k1 (fun j => if j < 0 then l.getD j 0 else 0) (fun j hj => if_neg (by omega))
    rw [e, hG] at m1
    exact ⟨m1, grow_below hg1 (Nat.le_refl _) (by simp)⟩
  have HGW : Hid (w.heap.size ≤ G) := by unfold Hid; omega
  clear ho1 hg1 m1 m2
  go_wp2
  go_loopg [6] k (fun gk s6 wx => ∃ (i : Nat), i + gk = k ∧ s6 = .int .i64 i ∧ Hid (OwnV wx (.slice (some ⟨G, 0, none⟩) k1 k1) (ints (tab k1 (fun j => if j < i then l.getD j 0 else 0))) (some G) ∧ Below w.heap.size w wx))
  case atStart => exact ⟨0, by omega, rfl, H0.out⟩
  case round =>
    obtain ⟨i1, hi1, rfl, HV⟩ := hrel
    cases gk with
    | succ gk1 =>
      have hik : i1 < k := by omega
      have hne : l ≠ [] := by intro e; have := HKL.out; rw [e] at this; simp at this; omega
      obtain ⟨b, off, rfl, hc⟩ := HC.out hne
      have hil : i1 < l.length := by have := HKL.out; omega
      have hcell := (HV.out.2.cell (p := ⟨b, off + i1, none⟩) (cell_lt (hc i1 hil))).trans (hc i1 hil)
      obtain ⟨g', e1, e2, t1, ⟨t2, t3⟩, t4⟩ := HV.out.1.setZ (i := i1) (by omega) (.int .i64 (l.getD i1 0))
      simp only [Option.some.injEq] at e2
      subst e2
      rw [ints_set] at t4
      have e := tab_set k1 (fun j => if j < i1 then l.getD j 0 else 0) (fun j => if j < i1 + 1 then l.getD j 0 else 0) (i := i1) (by omega) (fun j => by
        by_cases e : j = i1
        · subst e; simp
        · simp only [if_neg e]
          by_cases e2 : j < i1
          · rw [if_pos e2, if_pos (by omega)]
          · rw [if_neg e2, if_neg (by omega)])
      simp only [if_pos (Nat.lt_succ_self i1)] at e
      rw [e] at t4
      have HN : Hid (OwnV (wr.setCell ⟨G, i1, none⟩ (.int .i64 (l.getD i1 0))) (.slice (some ⟨G, 0, none⟩) k1 k1) (ints (tab k1 (fun j => if j < i1 + 1 then l.getD j 0 else 0))) (some G) ∧ Below w.heap.size w (wr.setCell ⟨G, i1, none⟩ (.int .i64 (l.getD i1 0)))) := ⟨t4, HV.out.2.grown (grow_set wr G i1 _) HV.out.2.size (fun g e => by simp at e; subst e; exact HGW.out)⟩
      clear t4 HV hc hne H0 e e1
      generalize hzz : l.getD i1 0 = zi at hcell HN
      clear hzz
      go_wp2
      go_roundg gk1
      case measure => omega
      case rel => exact ⟨i1 + 1, by omega, by go_num, HN.out⟩
    | zero =>
      have hik : k = i1 := by omega
      subst hik
      obtain ⟨g', e1, e2, t1, ⟨t2, t3⟩, t4⟩ := HV.out.1.setZ (i := k) (by omega) (.int .i64 (-77))
      simp only [Option.some.injEq] at e2
      subst e2
      rw [ints_set] at t4
      have e := tab_set k1 (fun j => if j < k then l.getD j 0 else 0) (fun j => if j = k then -77 else if j < k then l.getD j 0 else 0) (i := k) (by omega) (fun j => by
        by_cases e : j = k
        · rw [if_pos e, if_pos e, if_pos rfl]
        · rw [if_neg e, if_neg e])
      rw [if_pos rfl] at e
      rw [e] at t4
      have e3 := tab_congr k1 (fun j => if j = k then -77 else if j < k then l.getD j 0 else 0) (rowF l) (fun j hj => by
        have hkl := HKL.out
        have := HK1.out
        unfold rowF
        rw [hkl]
        by_cases e : j = k
        · rw [if_pos e, if_neg (by omega)]
        · rw [if_neg e, if_pos (by omega), if_pos (by omega)])
      rw [e3] at t4
      have HR : Hid (OwnV (wr.setCell ⟨G, k, none⟩ (.int .i64 (-77))) (.slice (some ⟨G, 0, none⟩) k1 k1) (ints (tab k1 (rowF l))) (some G) ∧ Below w.heap.size w (wr.setCell ⟨G, k, none⟩ (.int .i64 (-77)))) := ⟨t4, HV.out.2.grown (grow_set wr G k _) HV.out.2.size (fun g e => by simp at e; subst e; exact HGW.out)⟩
      clear t4 HV H0 e e1 e3
      obtain ⟨w2, hw2⟩ : ∃ w2, wr.setCell ⟨G, k, none⟩ (.int .i64 (-77)) = w2 := ⟨_, rfl⟩
      rw [hw2] at HR
      have HRI : Hid (∀ u, Below w2.heap.size w2 u → IntsAt u (.slice (some ⟨G, 0, none⟩) k k1) l ∧ IntsAt u (.slice a k cap) l ∧ u.cell? ⟨G, k, none⟩ = some (.int .i64 (-77)) ∧ (∀ j, j < k → u.cell? ⟨G, j, none⟩ = some (.int .i64 (l.getD j 0))) ∧ Below w.heap.size w u) := fun u hu => by
        have q := HR.out.1.laterZ hu
        have hkl := HKL.out
        have h11 := HK1.out
        have hbw := HR.out.2.trans (hu.mono HR.out.2.size)
        refine ⟨q.headZ (by rw [tab_len]; omega) (by omega) (by rw [← h11, ← hkl]; exact rowF_take l) HZ.out, ?_, ?_, fun j hj => ?_, hbw⟩
        · have := HIN.out.later hbw
          rw [hkl] at this
          exact this
        · have := q.cellZ (j := k) (by rw [tab_len]; omega)
          rw [tab_get _ _ (by omega)] at this
          unfold rowF at this
          rw [if_neg (by omega)] at this
          exact this
        · have := q.cellZ (j := j) (by rw [tab_len]; omega)
          rw [tab_get _ _ (by omega)] at this
          unfold rowF at this
          rw [if_pos (by omega)] at this
          exact this
      have HC1 := Hid.mkC (HPC.out _ _ w2 (HRI.out _ (Below.refl _ _)).1)
      go_wp2_with fail
      refine HC1.out.mono ?_
      rintro e w3 ⟨a3, N3, c3, r3, rfl, z3⟩
      have HZ3 := Hid.mkC z3
      have HC2 := Hid.mkC (HRC.out _ _ w3 (HRI.out _ z3.below).2.1)
      clear HC1 z3
      go_wp2_with fail
      refine HC2.out.mono ?_
      rintro e w4 ⟨a4, N4, c4, r4, rfl, z4⟩
      have b34 := z4.below
      have b24 : Below w2.heap.size w2 w4 := HZ3.out.below.trans (b34.mono HZ3.out.below.size)
      have HLL : Hid ((cutsL n l).length ≤ 17592186043904) := by have := HLC.out; unfold Hid; omega
      have HX : Hid (∀ u, Below w4.heap.size w4 u → IntsAt u (.slice a3 N3 c3) (cutsL n l) ∧ IntsAt u (.slice a4 N4 c4) (cutsL n l)) := fun u hu => ⟨((HZ3.out.row.laterZ b34).laterZ hu).intsZ HLL.out HCI.out, (z4.row.laterZ hu).intsZ HLL.out HCI.out⟩
      have hN3 : N3 = (cutsL n l).length := by
        obtain ⟨a', c', e, -⟩ := HZ3.out.row.shape
        simp only [Value.slice.injEq, ints_len] at e
        exact e.2.1
      have hN4 : N4 = (cutsL n l).length := by
        obtain ⟨a', c', e, -⟩ := z4.row.shape
        simp only [Value.slice.injEq, ints_len] at e
        exact e.2.1
      have HB4 := Hid.mkC b24
      obtain ⟨-, -, cG, -, -⟩ := HRI.out _ b24
      have hNB := HLL.out
      clear HC2 z4 b34 b24 HZ3
      generalize cutsL n l = CC at *
      subst hN3
      subst hN4
      have hnn : decide (CC.length ≠ CC.length) = false := by simp
      go_wp2
      go_loopg [9] CC.length (fun gk s9 wx => ∃ (i m : Nat), i + gk = CC.length ∧ s9 = .int .i64 i ∧ wx = w4.drewN m)
      case atStart => exact ⟨0, 0, by omega, rfl, rfl⟩
      case round =>
        obtain ⟨i2, m2, hi2, rfl, hwr⟩ := hrel
        have HWR : Hid (wr = w4.drewN m2) := hwr
        clear hwr
        cases gk with
        | succ gk1 =>
          have hil : i2 < CC.length := by omega
          have hne : CC ≠ [] := by rintro rfl; simp at hil
          obtain ⟨x1, x2⟩ := HX.out wr (by rw [HWR.out]; exact below_drewN (Below.refl _ _) m2)
          obtain ⟨a1', c1', e1, -, -, -, f1⟩ := x1
          obtain ⟨a2', c2', e2, -, -, -, f2⟩ := x2
          simp only [Value.slice.injEq] at e1 e2
          obtain ⟨rfl, -, rfl⟩ := e1
          obtain ⟨rfl, -, rfl⟩ := e2
          obtain ⟨b1, o1, rfl, p1⟩ := f1 hne
          obtain ⟨b2, o2, rfl, p2⟩ := f2 hne
          have g1 := p1 i2 hil
          have g2 := p2 i2 hil
          have hz : decide (CC.getD i2 0 ≠ CC.getD i2 0) = false := by simp
          clear f1 f2 p1 p2 hne
          generalize CC.getD i2 0 = z at *
          go_wp2
          go_quiet (fail)
          go_wp2
          go_roundg gk1
          case measure => omega
          case rel => exact ⟨i2 + 1, _, by omega, by go_num, by rw [HWR.out, World.drewN_drewN]⟩
        | zero =>
          have hii : CC.length = i2 := by omega
          subst hii
          go_wp2
          go_loopg [10] k (fun gk s10 wx => ∃ (i m : Nat), i + gk = k ∧ s10 = .int .i64 i ∧ wx = w4.drewN m)
          case atStart => exact ⟨0, m2, by omega, rfl, HWR.out⟩
          case round =>
            obtain ⟨i3, m3, hi3, rfl, hwr⟩ := hrel
            have HWS : Hid (wr = w4.drewN m3) := hwr
            have hbu : Below w2.heap.size w2 wr := by rw [HWS.out]; exact below_drewN HB4.out m3
            clear hwr
            cases gk with
            | succ gk1 =>
              have hik : i3 < k := by omega
              have hne : l ≠ [] := by intro e; have := HKL.out; rw [e] at this; simp at this; omega
              obtain ⟨-, -, -, x4, x5⟩ := HRI.out _ hbu
              have g1 := x4 i3 hik
              obtain ⟨b, off, rfl, hc⟩ := HC.out hne
              have hil : i3 < l.length := by have := HKL.out; omega
              have g2 := (x5.cell (p := ⟨b, off + i3, none⟩) (cell_lt (hc i3 hil))).trans (hc i3 hil)
              have hz : decide (l.getD i3 0 ≠ l.getD i3 0) = false := by simp
              have hik1 : i3 < k1 := by omega
              clear x4 x5 hc hne hbu
              generalize l.getD i3 0 = z at *
              go_wp2
              go_quiet (fail)
              go_wp2
              go_roundg gk1
              case measure => omega
              case rel => exact ⟨i3 + 1, _, by omega, by go_num, by rw [HWS.out, World.drewN_drewN]⟩
            | zero =>
              have hii : k = i3 := by omega
              subst hii
              obtain ⟨-, x2, -, -, x5⟩ := HRI.out _ hbu
              have HP := Hid.mkC (HPL.out _ x2)
              have HBU := Hid.mkC x5
              clear x2 x5 hbu
              go_wp2_with fail
              refine HP.out.mono ?_
              rintro e w5 ⟨rfl, hb5⟩
              have HF : Hid (Below w.heap.size w w5) := HBU.out.trans (hb5.mono HBU.out.size)
              clear HP HBU hb5
              go_wp2
              go_ret
              exact ⟨rfl, HF.out⟩
end Go.Proofs.Ytlnbmblmmgjmfaa
