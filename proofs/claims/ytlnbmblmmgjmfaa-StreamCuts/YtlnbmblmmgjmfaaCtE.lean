import Derived.Test.YtlnbmblmmgjmfaaCtD
/-! The law on cuts: its helper. -/
namespace Go.Proofs.Ytlnbmblmmgjmfaa
open Go.RowKit Plain
set_option linter.unusedVariables false
set_option linter.unusedSimpArgs false

/-- Two rows that are written in place, behind a world. -/
structure TwoZ (W w : World) (k G T : Nat) (f h : Nat → Int) : Prop where
  g : OwnV w (.slice (some ⟨G, 0, none⟩) k k) (ints (tab k f)) (some G)
  t : OwnV w (.slice (some ⟨T, 0, none⟩) k k) (ints (tab k h)) (some T)
  ne : G ≠ T
  gn : W.heap.size ≤ G
  tn : W.heap.size ≤ T
  below : Below W.heap.size W w
theorem TwoZ.later {W w w' : World} {k G T : Nat} {f h : Nat → Int} (x : TwoZ W w k G T f h) (hb : Below w.heap.size w w') : TwoZ W w' k G T f h := ⟨x.g.laterZ hb, x.t.laterZ hb, x.ne, x.gn, x.tn, x.below.trans (hb.mono x.below.size)⟩
theorem TwoZ.setG {W w : World} {k G T i : Nat} {f f' h : Nat → Int} (x : TwoZ W w k G T f h) (hi : i < k) (hf : ∀ j, f' j = if j = i then f' i else f j) : w.frozen? ⟨G, i, none⟩ = false ∧ (∃ u, w.cell? ⟨G, i, none⟩ = some u) ∧ TwoZ W (w.setCell ⟨G, i, none⟩ (.int .i64 (f' i))) k G T f' h := by
  obtain ⟨g, e1, e2, h1, h2, h3⟩ := x.g.setZ hi (.int .i64 (f' i))
  simp only [Option.some.injEq] at e2
  subst e2
  rw [ints_set, tab_set k f f' hi hf] at h3
  have hg := grow_set w G i (.int .i64 (f' i))
  exact ⟨h1, h2, h3, x.t.kept hg (.inr (fun e => x.ne (by simpa using e.symm))), x.ne, x.gn, x.tn, x.below.grown hg x.below.size (fun g e => by simp at e; subst e; exact x.gn)⟩
theorem TwoZ.setT {W w : World} {k G T i : Nat} {f h h' : Nat → Int} (x : TwoZ W w k G T f h) (hi : i < k) (hf : ∀ j, h' j = if j = i then h' i else h j) : w.frozen? ⟨T, i, none⟩ = false ∧ (∃ u, w.cell? ⟨T, i, none⟩ = some u) ∧ TwoZ W (w.setCell ⟨T, i, none⟩ (.int .i64 (h' i))) k G T f h' := by
  obtain ⟨g, e1, e2, h1, h2, h3⟩ := x.t.setZ hi (.int .i64 (h' i))
  simp only [Option.some.injEq] at e2
  subst e2
  rw [ints_set, tab_set k h h' hi hf] at h3
  have hg := grow_set w T i (.int .i64 (h' i))
  exact ⟨h1, h2, x.g.kept hg (.inr (fun e => x.ne (by simpa using e))), h3, x.ne, x.gn, x.tn, x.below.grown hg x.below.size (fun g e => by simp at e; subst e; exact x.tn)⟩
theorem OwnV.cellZ {w : World} {g k c : Nat} {l : List Int} (h : OwnV w (.slice (some ⟨g, 0, none⟩) k c) (ints l) (some g)) {j : Nat} (hj : j < l.length) : w.cell? ⟨g, j, none⟩ = some (.int .i64 (l.getD j 0)) := by
  obtain ⟨g', e1, e2, e3⟩ := h.get (ints_get hj)
  simp only [Option.some.injEq] at e1
  subst e1
  simpa using e3
/-- The halves, the last one first. -/
def halfF (l : List Int) (j : Nat) : Int := (l.getD (l.length - 1 - j) 0).tdiv 2
theorem tdiv2 (z : Int) (h : I64 z) : I64 (z.tdiv 2) := by
  obtain ⟨h1, h2⟩ := h
  unfold I64
  rcases Int.le_total 0 z with h | h
  · rw [Int.tdiv_eq_ediv_of_nonneg h]; omega
  · have e : z.tdiv 2 = -((-z).tdiv 2) := by rw [Int.neg_tdiv]; omega
    rw [e, Int.tdiv_eq_ediv_of_nonneg (by omega)]; omega
theorem halfF_i64 (l : List Int) (h : ∀ z ∈ l, I64 z) (j : Nat) : I64 (halfF l j) := by
  refine tdiv2 _ ?_
  rw [List.getD_eq_getElem?_getD]
  cases e : l[l.length - 1 - j]? with
  | none => unfold I64; simp
  | some z => exact h _ (List.mem_of_getElem? e)
theorem getD_i64 (l : List Int) (h : ∀ z ∈ l, I64 z) (j : Nat) : I64 (l.getD j 0) := by
  rw [List.getD_eq_getElem?_getD]
  cases e : l[j]? with
  | none => unfold I64; simp
  | some z => exact h _ (List.mem_of_getElem? e)
/-- What is read at the end: two rows of A, two of B. -/
structure Four (W w : World) (v1 v2 v3 v4 : Value) (r1 r2 r3 r4 : Option Nat) (A B : List Int) : Prop where
  o1 : OwnV w v1 (ints A) r1
  o2 : OwnV w v2 (ints A) r2
  o3 : OwnV w v3 (ints B) r3
  o4 : OwnV w v4 (ints B) r4
  below : Below W.heap.size W w
theorem Four.later {W w w' : World} {v1 v2 v3 v4 : Value} {r1 r2 r3 r4 : Option Nat} {A B : List Int} (h : Four W w v1 v2 v3 v4 r1 r2 r3 r4 A B) (hb : Below w.heap.size w w') : Four W w' v1 v2 v3 v4 r1 r2 r3 r4 A B := ⟨h.o1.laterZ hb, h.o2.laterZ hb, h.o3.laterZ hb, h.o4.laterZ hb, h.below.trans (hb.mono h.below.size)⟩
theorem OwnV.keptZ {w w' : World} {v : Value} {vs : List Value} {r r' : Option Nat} (h : OwnV w v vs r) (hg : w.grownBy w' r') (hne : ∀ g, r = some g → r' ≠ some g) : OwnV w' v vs r := h.kept hg (by
  cases e : r with
  | none => exact .inl rfl
  | some g => exact .inr (fun e2 => hne g e e2.symm))
theorem Four.grown {W w w' : World} {v1 v2 v3 v4 : Value} {r1 r2 r3 r4 r' : Option Nat} {A B : List Int} (h : Four W w v1 v2 v3 v4 r1 r2 r3 r4 A B) (hg : w.grownBy w' r') (hr : ∀ g, r' = some g → W.heap.size ≤ g) (n1 : ∀ g, r1 = some g → r' ≠ some g) (n2 : ∀ g, r2 = some g → r' ≠ some g) (n3 : ∀ g, r3 = some g → r' ≠ some g) (n4 : ∀ g, r4 = some g → r' ≠ some g) : Four W w' v1 v2 v3 v4 r1 r2 r3 r4 A B :=
  ⟨h.o1.keptZ hg n1, h.o2.keptZ hg n2, h.o3.keptZ hg n3, h.o4.keptZ hg n4, h.below.grown hg h.below.size hr⟩
theorem OwnV.rlt {w : World} {v : Value} {vs : List Value} {r : Option Nat} (h : OwnV w v vs r) : ∀ g, r = some g → g < w.heap.size := fun g e => by rw [e] at h; exact h.lt
/-- What the program's Cuts must answer. -/
def CutsOk (n : Int) : Prop := ∀ (v : Value) (l : List Int) (u : World), IntsAt u v l → Calls Try.prog 4 #[.int .i64 n, v] u (CtP n l u)
set_option maxHeartbeats 16000000 in
set_option maxRecDepth 1000000 in
theorem placedOf (n : Int) (hn : I64 n) (hpc : CutsOk n) (v : Value) (l : List Int) (w : World) (h : IntsAt w v l) : Calls Try.prog 6 #[.int .i64 n, v] w fun e w' => e = .returned (.bool true) ∧ Below w.heap.size w w' := by
  obtain ⟨i, hi0, hi1, hi2, hi3⟩ := info_parts Try.infoI
  have HI : Hid (Try.prog.info? 3 = some i ∧ i.zero = some (.int .i64 0) ∧ i.size = 1 ∧ i.bytes = 8) := ⟨hi0, hi1, hi2, hi3⟩
  have HIN := Hid.mkC h
  have HRC : Hid (∀ (v : Value) (l : List Int) (u : World), IntsAt u v l → Calls Try.prog 5 #[.int .i64 n, v] u (CtP n l u)) := fun v l u h => rcutsOf n hn v l u h
  have HPC : Hid (CutsOk n) := hpc
  have HCI := Hid.mkC (fun l => cutsL_i64 n hn l)
  obtain ⟨a, cap, rfl, h0, h1, h2, h3⟩ := h
  have HZ : Hid (∀ z ∈ l, I64 z) := h2
  have HC : Hid (l ≠ [] → ∃ b off, a = some ⟨b, off, none⟩ ∧ ∀ j, j < l.length → w.cell? ⟨b, off + j, none⟩ = some (.int .i64 (l.getD j 0))) := h3
  clear h2 h3 hi0 hi1 hi2 hi3 hpc
  obtain ⟨k, hkl⟩ : ∃ k, l.length = k := ⟨_, rfl⟩
  have HKL := Hid.mkC hkl
  rw [hkl] at h0 h1 ⊢
  clear hkl
  go_enter Try.func6, Try.ntmps6
  go_wp2_with (at_make; refine wpList_make_full _ rfl _ _ 22 rfl w.heap.size 3 i _ 1 Try.underlying22 HI.out.1 HI.out.2.1 HI.out.2.2.1 .i64 .i64 _ _ k rfl rfl rfl rfl (by rw [HI.out.2.2.2]; omega) (by unfold maxLen; omega) (by simp) ?_)
  intro w1 ho1 hg1
  obtain ⟨m1, m2⟩ := madeZ (by omega) ho1
  have HB1 : Hid (Below w.heap.size w w1) := grow_below hg1 (Nat.le_refl _) (by simp)
  have HM1 := Hid.mkC m1
  clear ho1 hg1 m1 m2
  obtain ⟨G, hG⟩ : ∃ G, w.heap.size = G := ⟨_, rfl⟩
  rw [hG] at HM1
  have HGL : Hid (G < w1.heap.size) := HM1.out.lt
  go_wp2_with (at_make; refine wpList_make_full _ rfl _ _ 22 rfl w1.heap.size 3 i _ 1 Try.underlying22 HI.out.1 HI.out.2.1 HI.out.2.2.1 .i64 .i64 _ _ k rfl rfl rfl rfl (by rw [HI.out.2.2.2]; omega) (by unfold maxLen; omega) (by simp) ?_)
  intro w2 ho2 hg2
  obtain ⟨m3, m4⟩ := madeZ (by omega) ho2
  obtain ⟨T, hT⟩ : ∃ T, w1.heap.size = T := ⟨_, rfl⟩
  rw [hT] at m3
  have H0 : Hid (TwoZ w w2 k G T (fun j => if j < 0 then halfF l j else 0) (fun j => if j < 0 then halfF l j else 0)) := by
    have hb2 : Below w1.heap.size w1 w2 := grow_below hg2 (Nat.le_refl _) (by simp)
    have e := tab_rep k (fun j => if j < 0 then halfF l j else 0) (fun j hj => if_neg (by omega))
    have q1 := HM1.out.laterZ hb2
    rw [e] at q1 m3
    exact ⟨q1, m3, by have := HGL.out; omega, by omega, by have := HB1.out.size; omega, HB1.out.trans (hb2.mono HB1.out.size)⟩
  clear ho2 hg2 m3 m4 HM1 HB1
  go_wp2
  go_loopg [8] k (fun gk s8 wx => ∃ (i : Nat), i + gk = k ∧ s8 = .int .i64 i ∧ Hid (TwoZ w wx k G T (fun j => if j < i then halfF l j else 0) (fun j => if j < i then halfF l j else 0)))
  case atStart => exact ⟨0, by omega, rfl, H0.out⟩
  case round =>
    obtain ⟨i1, hi1, rfl, HV⟩ := hrel
    cases gk with
    | succ gk1 =>
      have hik : i1 < k := by omega
      have hne : l ≠ [] := by intro e; have := HKL.out; rw [e] at this; simp at this; omega
      obtain ⟨b, off, rfl, hc⟩ := HC.out hne
      obtain ⟨q, hq⟩ : ∃ q, k - 1 - i1 = q := ⟨_, rfl⟩
      have hql : q < l.length := by have := HKL.out; omega
      have hcell := (HV.out.below.cell (p := ⟨b, off + q, none⟩) (cell_lt (hc q hql))).trans (hc q hql)
      have hqe : (k : Int) - 1 - (i1 : Int) = (q : Int) := by omega
      have hqk : q < k := by have := HKL.out; omega
      have HHF : Hid ((l.getD q 0).tdiv 2 = halfF l i1) := by unfold Hid halfF; rw [HKL.out, hq]
      obtain ⟨hz1, hz2⟩ := getD_i64 l HZ.out q
      generalize l.getD q 0 = zq at *
      obtain ⟨t1, ⟨t2, t3⟩, t4⟩ := HV.out.setT (h' := fun j => if j < i1 + 1 then halfF l j else 0) hik (fun j => by
        by_cases e : j = i1
        · subst e; simp
        · simp only [if_neg e]
          by_cases e2 : j < i1
          · rw [if_pos e2, if_pos (by omega)]
          · rw [if_neg e2, if_neg (by omega)])
      simp only [if_pos (Nat.lt_succ_self i1)] at t4
      have e5 := t4.t.cellZ (j := i1) (by rw [tab_len]; exact hik)
      rw [tab_get _ _ hik] at e5
      simp only [if_pos (Nat.lt_succ_self i1)] at e5
      obtain ⟨t5, ⟨t6, t7⟩, t8⟩ := t4.setG (f' := fun j => if j < i1 + 1 then halfF l j else 0) hik (fun j => by
        by_cases e : j = i1
        · subst e; simp
        · simp only [if_neg e]
          by_cases e2 : j < i1
          · rw [if_pos e2, if_pos (by omega)]
          · rw [if_neg e2, if_neg (by omega)])
      simp only [if_pos (Nat.lt_succ_self i1)] at t8
      rw [← HHF.out] at t4 e5 t5 t7 t8
      have HN := Hid.mkC t8
      clear t4 t8 HV hc hne H0
      go_wp2
      go_roundg gk1
      case measure => omega
      case rel => exact ⟨i1 + 1, by omega, by go_num, HN.out⟩
    | zero =>
      have hik : k = i1 := by omega
      subst hik
      have HT1 : Hid (TwoZ w wr k G T (halfF l) (halfF l)) := by
        have x := HV.out
        have e := tab_congr k (fun j => if j < k then halfF l j else 0) (halfF l) (fun j hj => if_pos hj)
        refine ⟨?_, ?_, x.ne, x.gn, x.tn, x.below⟩
        · have := x.g; rw [e] at this; exact this
        · have := x.t; rw [e] at this; exact this
      have HL1 : Hid (∀ z ∈ tab k (halfF l), I64 z) := fun z hz => by
        obtain ⟨j, -, rfl⟩ := tab_mem k _ hz
        exact halfF_i64 l HZ.out j
      have HC1 := Hid.mkC (HPC.out _ _ wr (HT1.out.g.intsZ (by rw [tab_len]; omega) HL1.out))
      clear HV H0
      go_wp2_with fail
      refine HC1.out.mono ?_
      rintro e w3 ⟨a3, N3, c3, r3, rfl, z3⟩
      have HZ3 := Hid.mkC z3
      have HT3 : Hid (TwoZ w w3 k G T (fun j => if j < 0 then l.getD j 0 else halfF l j) (halfF l)) := by
        have x := HT1.out.later z3.below
        have e := tab_congr k (halfF l) (fun j => if j < 0 then l.getD j 0 else halfF l j) (fun j hj => (if_neg (by omega)).symm)
        refine ⟨?_, x.t, x.ne, x.gn, x.tn, x.below⟩
        have := x.g; rw [e] at this; exact this
      have HR3 : Hid (∀ g, r3 = some g → g ≠ G ∧ g ≠ T ∧ w.heap.size ≤ g) := fun g e => by
        have := z3.new g e
        have h1 := HT1.out.g.lt
        have h2 := HT1.out.t.lt
        have := HT1.out.below.size
        exact ⟨by omega, by omega, by omega⟩
      have HO3 : Hid (OwnV w3 (.slice a3 N3 c3) (ints (cutsL n (tab k (halfF l)))) r3) := z3.row
      clear z3 HZ3 HC1 HT1
      go_wp2
      go_loopg [10] k (fun gk s10 wx => ∃ (i : Nat), i + gk = k ∧ s10 = .int .i64 i ∧ Hid (TwoZ w wx k G T (fun j => if j < i then l.getD j 0 else halfF l j) (halfF l) ∧ OwnV wx (.slice a3 N3 c3) (ints (cutsL n (tab k (halfF l)))) r3))
      case atStart => exact ⟨0, by omega, rfl, HT3.out, HO3.out⟩
      case round =>
        obtain ⟨i2, hi2, rfl, HV⟩ := hrel
        cases gk with
        | succ gk1 =>
          have hik : i2 < k := by omega
          have hne : l ≠ [] := by intro e; have := HKL.out; rw [e] at this; simp at this; omega
          obtain ⟨b, off, rfl, hc⟩ := HC.out hne
          have hil : i2 < l.length := by have := HKL.out; omega
          have hcell := (HV.out.1.below.cell (p := ⟨b, off + i2, none⟩) (cell_lt (hc i2 hil))).trans (hc i2 hil)
          obtain ⟨t5, ⟨t6, t7⟩, t8⟩ := HV.out.1.setG (f' := fun j => if j < i2 + 1 then l.getD j 0 else halfF l j) hik (fun j => by
            by_cases e : j = i2
            · subst e; simp
            · simp only [if_neg e]
              by_cases e2 : j < i2
              · rw [if_pos e2, if_pos (by omega)]
              · rw [if_neg e2, if_neg (by omega)])
          simp only [if_pos (Nat.lt_succ_self i2)] at t8
          have HN : Hid (TwoZ w (wr.setCell ⟨G, i2, none⟩ (.int .i64 (l.getD i2 0))) k G T (fun j => if j < i2 + 1 then l.getD j 0 else halfF l j) (halfF l) ∧ OwnV (wr.setCell ⟨G, i2, none⟩ (.int .i64 (l.getD i2 0))) (.slice a3 N3 c3) (ints (cutsL n (tab k (halfF l)))) r3) := ⟨t8, HV.out.2.keptZ (grow_set wr G i2 _) (fun g e e2 => (HR3.out g e).1 (by simpa using e2.symm))⟩
          clear t8 HV hc hne HT3 HO3
          generalize hzz : l.getD i2 0 = zi at hcell HN
          clear hzz
          go_wp2
          go_roundg gk1
          case measure => omega
          case rel => exact ⟨i2 + 1, by omega, by go_num, HN.out⟩
        | zero =>
          have hik : k = i2 := by omega
          subst hik
          have HGI : Hid (∀ u, Below wr.heap.size wr u → IntsAt u (.slice (some ⟨G, 0, none⟩) k k) l ∧ IntsAt u (.slice (some ⟨T, 0, none⟩) k k) (tab k (halfF l)) ∧ IntsAt u (.slice a k cap) l) := fun u hu => by
            have x := HV.out.1.later hu
            have e : tab k (fun j => if j < k then l.getD j 0 else halfF l j) = l := by
              rw [tab_congr k _ (fun j => l.getD j 0) (fun j hj => if_pos hj), ← HKL.out, tab_of]
            have q := x.g
            rw [e] at q
            refine ⟨q.intsZ (by rw [HKL.out]; omega) HZ.out, x.t.intsZ (by rw [tab_len]; omega) HL1.out, ?_⟩
            have := HIN.out.later x.below
            rw [HKL.out] at this
            exact this
          have HW : Hid (Below w.heap.size w wr ∧ OwnV wr (.slice a3 N3 c3) (ints (cutsL n (tab k (halfF l)))) r3) := ⟨HV.out.1.below, HV.out.2⟩
          have HC2 := Hid.mkC (HPC.out _ _ wr (HGI.out _ (Below.refl _ _)).1)
          clear HV HT3 HO3
          go_wp2_with fail
          refine HC2.out.mono ?_
          rintro e w4 ⟨a4, N4, c4, r4, rfl, z4⟩
          have HZ4 := Hid.mkC z4
          have HC3 := Hid.mkC (HPC.out _ _ w4 (HGI.out _ z4.below).1)
          clear HC2 z4
          go_wp2_with fail
          refine HC3.out.mono ?_
          rintro e w5 ⟨a5, N5, c5, r5, rfl, z5⟩
          have HZ5 := Hid.mkC z5
          have HB5 : Hid (Below wr.heap.size wr w5) := HZ4.out.below.trans (z5.below.mono HZ4.out.below.size)
          have HC4 := Hid.mkC (HRC.out _ _ w5 (HGI.out _ HB5.out).2.1)
          clear HC3 z5
          go_wp2_with fail
          refine HC4.out.mono ?_
          rintro e w6 ⟨a6, N6, c6, r6, rfl, z6⟩
          have HZ6 := Hid.mkC z6
          have HB6 : Hid (Below wr.heap.size wr w6) := HB5.out.trans (z6.below.mono HB5.out.size)
          have HC5 := Hid.mkC (HRC.out _ _ w6 (HGI.out _ HB6.out).2.2)
          clear HC4 z6
          go_wp2_with fail
          refine HC5.out.mono ?_
          rintro e w7 ⟨a7, N7, c7, r7, rfl, z7⟩
          have s3 := HW.out.2.rlt
          have hwr := HW.out.1.size
          have s4 := HZ4.out.row.rlt
          have s5 := HZ5.out.row.rlt
          have s6 := HZ6.out.row.rlt
          have s7 := z7.row.rlt
          have n4 := HZ4.out.new
          have n5 := HZ5.out.new
          have n6 := HZ6.out.new
          have n7 := z7.new
          have b4 := HZ4.out.below
          have b5 := HZ5.out.below
          have b6 := HZ6.out.below
          have b7 := z7.below
          have b47 : Below w4.heap.size w4 w7 := b5.trans ((b6.trans (b7.mono b6.size)).mono b5.size)
          have b57 : Below w5.heap.size w5 w7 := b6.trans (b7.mono b6.size)
          have br7 : Below wr.heap.size wr w7 := b4.trans (b47.mono b4.size)
          have HFO : Hid (Four w w7 (.slice a3 N3 c3) (.slice a6 N6 c6) (.slice a5 N5 c5) (.slice a7 N7 c7) r3 r6 r5 r7 (cutsL n (tab k (halfF l))) (cutsL n l)) := ⟨HW.out.2.laterZ br7, HZ6.out.row.laterZ b7, HZ5.out.row.laterZ b57, z7.row, HW.out.1.trans (br7.mono hwr)⟩
          have HO4 : Hid (OwnV w7 (.slice a4 N4 c4) (ints (cutsL n l)) r4) := HZ4.out.row.laterZ b47
          have HAP : Hid ((∀ g, r4 = some g → w.heap.size ≤ g) ∧ (∀ g, r3 = some g → r4 ≠ some g) ∧ (∀ g, r6 = some g → r4 ≠ some g) ∧ (∀ g, r5 = some g → r4 ≠ some g) ∧ ∀ g, r7 = some g → r4 ≠ some g) := by
            have q4 := b4.size
            have q5 := b5.size
            have q6 := b6.size
            refine ⟨fun g e => by have := n4 g e; omega, fun g e e2 => ?_, fun g e e2 => ?_, fun g e e2 => ?_, fun g e e2 => ?_⟩
            · have := s3 g e; have := n4 g e2; omega
            · have := s4 g e2; have := n6 g e; omega
            · have := s4 g e2; have := n5 g e; omega
            · have := s4 g e2; have := n7 g e; omega
          have HLA : Hid ((cutsL n (tab k (halfF l))).length ≤ 17592186043904 ∧ (cutsL n l).length ≤ k) := by
            have h1 := cutsL_len n (tab k (halfF l))
            have h2 := cutsL_len n l
            rw [tab_len] at h1
            rw [HKL.out] at h2
            exact ⟨by omega, h2⟩
          have HSA : Hid (∀ u, Four w u (.slice a3 N3 c3) (.slice a6 N6 c6) (.slice a5 N5 c5) (.slice a7 N7 c7) r3 r6 r5 r7 (cutsL n (tab k (halfF l))) (cutsL n l) → Calls Try.prog 11 #[.slice a3 N3 c3, .slice a6 N6 c6] u fun e w' => e = .returned (.bool true) ∧ Below u.heap.size u w') := fun u hu => sameIntsEq _ _ _ u (hu.o1.intsZ HLA.out.1 (HCI.out _)) (hu.o2.intsZ HLA.out.1 (HCI.out _))
          have HSB : Hid (∀ u, Four w u (.slice a3 N3 c3) (.slice a6 N6 c6) (.slice a5 N5 c5) (.slice a7 N7 c7) r3 r6 r5 r7 (cutsL n (tab k (halfF l))) (cutsL n l) → Calls Try.prog 11 #[.slice a5 N5 c5, .slice a7 N7 c7] u fun e w' => e = .returned (.bool true) ∧ Below u.heap.size u w') := fun u hu => sameIntsEq _ _ _ u (hu.o3.intsZ (by have := HLA.out.2; omega) (HCI.out _)) (hu.o4.intsZ (by have := HLA.out.2; omega) (HCI.out _))
          have HSC : Hid (∀ u, Below w7.heap.size w7 u → Calls Try.prog 11 #[.slice a4 N4 c4, .slice a7 N7 c7] u fun e w' => e = .returned (.bool true) ∧ Below u.heap.size u w') := fun u hu => sameIntsEq _ _ _ u ((HO4.out.laterZ hu).intsZ (by have := HLA.out.2; omega) (HCI.out _)) ((HFO.out.later hu).o4.intsZ (by have := HLA.out.2; omega) (HCI.out _))
          clear HC5 z7 HZ4 HZ5 HZ6 HB5 HB6 HGI s3 s4 s5 s6 s7 n4 n5 n6 n7 b4 b5 b6 b7 b47 b57 br7 hwr HW
          generalize cutsL n (tab k (halfF l)) = AA at *
          generalize cutsL n l = BB at *
          go_wp2_with fail
          refine (HSA.out _ HFO.out).mono ?_
          rintro e w8 ⟨rfl, hb8⟩
          go_wp2_with fail
          refine (HSC.out _ hb8).mono ?_
          rintro e w9 ⟨rfl, hb9⟩
          have b89 : Below w7.heap.size w7 w9 := hb8.trans (hb9.mono hb8.size)
          have HF9 := Hid.mkC (HFO.out.later b89)
          have HO9 := Hid.mkC (HO4.out.laterZ b89)
          clear hb8 hb9 b89 HFO HO4 HSC
          go_wp2_with fail
          refine (HSB.out _ HF9.out).mono ?_
          rintro e w10 ⟨rfl, hb10⟩
          have HF10 := Hid.mkC (HF9.out.later hb10)
          have HO10 := Hid.mkC (HO9.out.laterZ hb10)
          have hN4 : N4 = BB.length := by
            obtain ⟨a', c', e, -⟩ := HO10.out.shape
            simp only [Value.slice.injEq, ints_len] at e
            exact e.2.1
          have hc4 : N4 ≤ c4 ∧ c4 ≤ 9223372036854775807 := by
            obtain ⟨a', c', e, h1, h2⟩ := HO10.out.shape
            simp only [Value.slice.injEq, ints_len] at e
            obtain ⟨_, rfl, rfl⟩ := e
            rw [ints_len] at h2
            unfold maxLen at h1
            exact ⟨h2, by omega⟩
          obtain ⟨hc41, hc42⟩ := hc4
          have H10 : Hid (∃ vs, OwnV w10 (.slice a4 N4 c4) vs r4 ∧ Four w w10 (.slice a3 N3 c3) (.slice a6 N6 c6) (.slice a5 N5 c5) (.slice a7 N7 c7) r3 r6 r5 r7 AA BB) := ⟨_, HO10.out, HF10.out⟩
          have hN4k : N4 ≤ k := by rw [hN4]; exact HLA.out.2
          clear hb10 HF9 HO9 HF10 HO10 hN4
          go_wp2_with fail
          go_loopg [15] N4 (fun gk s15 wx => ∃ (i : Nat), i + gk = N4 ∧ s15 = .int .i64 i ∧ Hid (∃ vs, OwnV wx (.slice a4 N4 c4) vs r4 ∧ Four w wx (.slice a3 N3 c3) (.slice a6 N6 c6) (.slice a5 N5 c5) (.slice a7 N7 c7) r3 r6 r5 r7 AA BB))
          case atStart => exact ⟨0, by omega, rfl, H10.out⟩
          case round =>
            obtain ⟨i3, hi3, rfl, HV⟩ := hrel
            cases gk with
            | succ gk1 =>
              obtain ⟨vs, ov, hf⟩ := HV.out
              obtain ⟨g, rfl, rfl, t1, ⟨t2, t3⟩, t4⟩ := ov.setZ (i := i3) (by omega) (.int .i64 (-7))
              have HN : Hid (∃ vs, OwnV (wr.setCell ⟨g, i3, none⟩ (.int .i64 (-7))) (.slice (some ⟨g, 0, none⟩) N4 c4) vs (some g) ∧ Four w (wr.setCell ⟨g, i3, none⟩ (.int .i64 (-7))) (.slice a3 N3 c3) (.slice a6 N6 c6) (.slice a5 N5 c5) (.slice a7 N7 c7) r3 r6 r5 r7 AA BB) := ⟨_, t4, hf.grown (grow_set wr g i3 _) HAP.out.1 HAP.out.2.1 HAP.out.2.2.1 HAP.out.2.2.2.1 HAP.out.2.2.2.2⟩
              clear ov hf t4 HV H10
              go_wp2
              go_roundg gk1
              case measure => omega
              case rel => exact ⟨i3 + 1, by omega, by go_num, HN.out⟩
            | zero =>
              have hii : N4 = i3 := by omega
              subst hii
              have HX0 : Hid (∃ vs r, OwnV wr (.slice a4 N4 c4) vs r ∧ vs.length ≤ k + 0 ∧ Four w wr (.slice a3 N3 c3) (.slice a6 N6 c6) (.slice a5 N5 c5) (.slice a7 N7 c7) r3 r6 r5 r7 AA BB ∧ (∀ g, r = some g → w.heap.size ≤ g) ∧ (∀ g, r3 = some g → r ≠ some g) ∧ (∀ g, r6 = some g → r ≠ some g) ∧ (∀ g, r5 = some g → r ≠ some g) ∧ ∀ g, r7 = some g → r ≠ some g) := by
                obtain ⟨vs, ov, hf⟩ := HV.out
                refine ⟨vs, r4, ov, ?_, hf, HAP.out⟩
                obtain ⟨a', c', e, -⟩ := ov.shape
                simp only [Value.slice.injEq] at e
                omega
              clear HV H10 HAP
              go_wp2_with fail
              go_loopg [11, 16] 64 (fun gk s11 s16 wx => ∃ (i : Nat) (aN : Option Addr) (nN cN : Nat), i + gk = 64 ∧ s16 = .int .i64 i ∧ s11 = .slice aN nN cN ∧ Hid (∃ vs r, OwnV wx (.slice aN nN cN) vs r ∧ vs.length ≤ k + i ∧ Four w wx (.slice a3 N3 c3) (.slice a6 N6 c6) (.slice a5 N5 c5) (.slice a7 N7 c7) r3 r6 r5 r7 AA BB ∧ (∀ g, r = some g → w.heap.size ≤ g) ∧ (∀ g, r3 = some g → r ≠ some g) ∧ (∀ g, r6 = some g → r ≠ some g) ∧ (∀ g, r5 = some g → r ≠ some g) ∧ ∀ g, r7 = some g → r ≠ some g))
              case atStart => exact ⟨0, _, _, _, by omega, rfl, rfl, HX0.out⟩
              case round =>
                obtain ⟨i4, aN, nN, cN, hi4, rfl, rfl, HV⟩ := hrel
                cases gk with
                | zero =>
                  obtain ⟨vs, r, ov, hvl, hf, -⟩ := HV.out
                  have HF := Hid.mkC hf
                  clear ov hvl hf HV HX0
                  go_wp2_with fail
                  refine (HSA.out _ HF.out).mono ?_
                  rintro e w11 ⟨rfl, hb11⟩
                  have HF11 := Hid.mkC (HF.out.later hb11)
                  clear HF hb11 HSA
                  go_wp2_with fail
                  refine (HSB.out _ HF11.out).mono ?_
                  rintro e w12 ⟨rfl, hb12⟩
                  have HE := Hid.mkC (HF11.out.later hb12).below
                  clear HF11 hb12 HSB
                  go_wp2
                  go_ret
                  exact ⟨rfl, HE.out⟩
                | succ gk1 =>
                  obtain ⟨vs, r, ov, hvl, hf, q0, q1, q2, q3, q4⟩ := HV.out
                  have HOV := Hid.mkC (ov.laterZ ((Below.refl _ _).alloc (Nat.le_refl _) (.cells #[.int .i64 (-8)] 3)))
                  have HFF := Hid.mkC (hf.later ((Below.refl _ _).alloc (Nat.le_refl _) (.cells #[.int .i64 (-8)] 3)))
                  have HFW := Hid.mkC hf
                  have HQ : Hid ((∀ g, r = some g → w.heap.size ≤ g) ∧ (∀ g, r3 = some g → r ≠ some g) ∧ (∀ g, r6 = some g → r ≠ some g) ∧ (∀ g, r5 = some g → r ≠ some g) ∧ ∀ g, r7 = some g → r ≠ some g) := ⟨q0, q1, q2, q3, q4⟩
                  clear ov hf q0 q1 q2 q3 q4 HV HX0
                  go_wp2_with (at_builtin; refine wpList_append_ints _ rfl _ _ rfl _ _ vs [.int .i64 (-8)] r rfl rfl ?hOwn ?hSrc ?hLen (.inr (Nat.succ_pos _)) ?_)
                  case hOwn => exact HOV.out
                  case hSrc => exact srcOne wr (-8)
                  case hLen => simp; omega
                  intro v4 w4' g4 ho4 hg4 hr4
                  obtain ⟨aM, cM, rfl, -, -⟩ := ho4.shape
                  have HN : Hid (∃ us r', OwnV w4' (.slice aM (vs ++ [Value.int .i64 (-8)]).length cM) us r' ∧ us.length ≤ k + (i4 + 1) ∧ Four w w4' (.slice a3 N3 c3) (.slice a6 N6 c6) (.slice a5 N5 c5) (.slice a7 N7 c7) r3 r6 r5 r7 AA BB ∧ (∀ g, r' = some g → w.heap.size ≤ g) ∧ (∀ g, r3 = some g → r' ≠ some g) ∧ (∀ g, r6 = some g → r' ≠ some g) ∧ (∀ g, r5 = some g → r' ≠ some g) ∧ ∀ g, r7 = some g → r' ≠ some g) := by
                    obtain ⟨q0, q1, q2, q3, q4⟩ := HQ.out
                    have hr4' : some g4 = r ∨ g4 = wr.heap.size + 1 := by first | exact hr4 | simpa using hr4
                    have hsz := HFW.out.below.size
                    have no : ∀ (rr : Option Nat) (v : Value) (ws : List Value), OwnV wr v ws rr → (∀ g, rr = some g → r ≠ some g) → ∀ g, rr = some g → some g4 ≠ some g := fun rr v ws ho hne g e e2 => by
                      simp only [Option.some.injEq] at e2
                      subst e2
                      rcases hr4' with e3 | e3
                      · exact hne _ e e3.symm
                      · have := ho.rlt _ e; omega
                    refine ⟨_, some g4, ho4, by simp; omega, HFF.out.grown hg4 q0 q1 q2 q3 q4, fun g e => ?_, no r3 _ _ HFW.out.o1 q1, no r6 _ _ HFW.out.o2 q2, no r5 _ _ HFW.out.o3 q3, no r7 _ _ HFW.out.o4 q4⟩
                    simp only [Option.some.injEq] at e
                    subst e
                    rcases hr4' with e3 | e3
                    · exact q0 _ e3.symm
                    · omega
                  clear ho4 hg4 hr4 HOV HFF HFW HQ
                  generalize (vs ++ [Value.int .i64 (-8)]).length = NN at *
                  go_wp2
                  go_roundg gk1
                  case measure => omega
                  case rel => exact ⟨i4 + 1, _, _, _, by omega, by go_num, rfl, HN.out⟩
end Go.Proofs.Ytlnbmblmmgjmfaa
