import Derived.Test.YtbeaefokpggmpabQtn
/-! quota: the program's wait, Fill, Take. -/
namespace Go.Proofs.Ytbeaefokpggmpab
open Go.RowKit
set_option linter.unusedVariables false

set_option maxHeartbeats 2000000 in
theorem waitOf (b : Bk) (h : b.Good) (n M : Int) (hn0 : 0 ≤ n) (hn1 : n ≤ 1073741824) (hM : (n - b.lvl) * b.den - b.part = M) (h0 : 0 ≤ M) (w : World) : Calls Try.prog 31 #[b.v, .int .i64 n] w fun e w' => e = .returned (.int .i64 ((M + b.num - 1) / b.num)) ∧ Below w.heap.size w w' := by
  have hp := h.prod
  have hl0 := h.l0
  have hl1 := h.l1
  have hb1 := h.b1
  have hp0 := h.p0
  have hp1 := h.p1
  have hd0 := h.d0
  have hd1 := h.d1
  have hq0 := h.n0
  have hq1 := h.n1
  obtain ⟨num, den, burst, lvl, part, at_⟩ := b
  simp only at hp hl0 hl1 hb1 hp0 hp1 hd0 hd1 hq0 hq1 hM
  simp only
  have hnd := mul_le_of (a := n) (b := den) (m := 1073741824) (n := 1048576) hn0 (by omega) hn1 hd1
  have hml : (n - lvl) * den = n * den - lvl * den := Int.sub_mul _ _ _
  have hw0 : wrap64 (n - lvl) = n - lvl := by unfold wrap64; omega
  have hw1 : wrap64 ((n - lvl) * den) = (n - lvl) * den := by rw [hml]; unfold wrap64; omega
  have hw2 : wrap64 ((n - lvl) * den - part) = M := by rw [hM]; unfold wrap64; omega
  have hw3 : wrap64 (M + num) = M + num := by unfold wrap64; omega
  have hw4 : wrap64 (M + num - 1) = M + num - 1 := by unfold wrap64; omega
  have hMs : M ≤ 1125899906842624 := by omega
  have hq : 0 ≤ M + num - 1 := by omega
  have e1 : Int.tdiv (M + num - 1) num = (M + num - 1) / num := Int.tdiv_eq_ediv_of_nonneg hq
  have e3 : 0 ≤ (M + num - 1) / num := Int.ediv_nonneg hq (by omega)
  have e4 : (M + num - 1) / num ≤ M + num - 1 := Int.ediv_le_self _ hq
  have hw5 : wrap64 ((M + num - 1) / num) = (M + num - 1) / num := by unfold wrap64; omega
  have hnz : ¬ num = 0 := by omega
  clear hp hl0 hl1 hb1 hp0 hp1 hd0 hd1 hnd hml hM h
  unfold Bk.v
  go_enter Try.func31, Try.ntmps31
  go_wp2
  go_ret
  exact ⟨rfl, (Below.refl _ _).alloc (Nat.le_refl _) _⟩

theorem wait_iff {M num t : Int} (hn : 0 < num) : (M + num - 1) / num ≤ t ↔ M ≤ num * t := by
  have h1 := Int.mul_ediv_add_emod (M + num - 1) num
  have h2 := Int.emod_lt_of_pos (M + num - 1) hn
  have h3 := Int.emod_nonneg (M + num - 1) (show num ≠ 0 by omega)
  constructor
  · intro h
    have := Int.mul_le_mul_of_nonneg_left h (show 0 ≤ num by omega)
    omega
  · intro h
    refine Int.not_lt.mp fun hlt => ?_
    have := Int.mul_le_mul_of_nonneg_left (show t + 1 ≤ (M + num - 1) / num by omega) (show 0 ≤ num by omega)
    rw [Int.mul_add] at this
    omega

theorem Box.at5 {w w2 : World} {g : Nat} {b : Bk} (h : Box w w2 g b) (t : Int) : Box w (w2.setCell ⟨g, 5, none⟩ (.int .i64 t)) g ⟨b.num, b.den, b.burst, b.lvl, b.part, t⟩ := by
  have hne : ∀ i : Nat, i ≠ 5 → (w2.setCell ⟨g, 5, none⟩ (.int .i64 t)).cell? ⟨g, i, none⟩ = w2.cell? ⟨g, i, none⟩ := fun i hi => World.cell?_setCell_other _ _ _ _ (by intro e; injection e with e1 e2; exact hi e2.symm)
  refine ⟨⟨(hne 0 (by omega)).trans h.at_.c0, (hne 1 (by omega)).trans h.at_.c1, (hne 2 (by omega)).trans h.at_.c2, (hne 3 (by omega)).trans h.at_.c3, (hne 4 (by omega)).trans h.at_.c4, World.cell?_setCell_same _ _ _ h.at_.c5⟩, h.bel.setCell (p := ⟨g, 5, none⟩) h.ge _, h.ge, fun j => by rw [World.frozen?_setCell]; exact h.fr j⟩
theorem Box.far {w w2 : World} {g g' : Nat} {b : Bk} (h : Box w w2 g' b) (hg : w.heap.size ≤ g) (hn : g ≠ g') (i : Nat) (v : Value) : Box w (w2.setCell ⟨g, i, none⟩ v) g' b := by
  have hne : ∀ j : Nat, (w2.setCell ⟨g, i, none⟩ v).cell? ⟨g', j, none⟩ = w2.cell? ⟨g', j, none⟩ := fun j => World.cell?_setCell_other _ _ _ _ (by intro e; injection e with e1 e2; exact hn e1)
  exact ⟨⟨(hne 0).trans h.at_.c0, (hne 1).trans h.at_.c1, (hne 2).trans h.at_.c2, (hne 3).trans h.at_.c3, (hne 4).trans h.at_.c4, (hne 5).trans h.at_.c5⟩, h.bel.setCell (p := ⟨g, i, none⟩) hg _, h.ge, fun j => by rw [World.frozen?_setCell]; exact h.fr j⟩
theorem BkAt.put {w : World} {g : Nat} {b : Bk} (h : BkAt w g b) (c : Bk) : BkAt (putBk w g c) g c := by
  have hx : ∀ (i j : Nat) (u : World) (v : Value), i ≠ j → (u.setCell ⟨g, i, none⟩ v).cell? ⟨g, j, none⟩ = u.cell? ⟨g, j, none⟩ := fun i j u v hn => World.cell?_setCell_other _ _ _ _ (by intro e; injection e with e1 e2; exact hn e2)
  have hs : ∀ (i : Nat) (u : World) (v y : Value), u.cell? ⟨g, i, none⟩ = some y → (u.setCell ⟨g, i, none⟩ v).cell? ⟨g, i, none⟩ = some v := fun i u v y hy => World.cell?_setCell_same _ _ _ hy
  unfold putBk
  constructor
  · rw [hx 5 0 _ _ (by omega), hx 4 0 _ _ (by omega), hx 3 0 _ _ (by omega), hx 2 0 _ _ (by omega), hx 1 0 _ _ (by omega)]; exact hs 0 _ _ _ h.c0
  · rw [hx 5 1 _ _ (by omega), hx 4 1 _ _ (by omega), hx 3 1 _ _ (by omega), hx 2 1 _ _ (by omega)]; exact hs 1 _ _ _ ((hx 0 1 _ _ (by omega)).trans h.c1)
  · rw [hx 5 2 _ _ (by omega), hx 4 2 _ _ (by omega), hx 3 2 _ _ (by omega)]; exact hs 2 _ _ _ ((hx 1 2 _ _ (by omega)).trans ((hx 0 2 _ _ (by omega)).trans h.c2))
  · rw [hx 5 3 _ _ (by omega), hx 4 3 _ _ (by omega)]; exact hs 3 _ _ _ ((hx 2 3 _ _ (by omega)).trans ((hx 1 3 _ _ (by omega)).trans ((hx 0 3 _ _ (by omega)).trans h.c3)))
  · rw [hx 5 4 _ _ (by omega)]; exact hs 4 _ _ _ ((hx 3 4 _ _ (by omega)).trans ((hx 2 4 _ _ (by omega)).trans ((hx 1 4 _ _ (by omega)).trans ((hx 0 4 _ _ (by omega)).trans h.c4))))
  · exact hs 5 _ _ _ ((hx 4 5 _ _ (by omega)).trans ((hx 3 5 _ _ (by omega)).trans ((hx 2 5 _ _ (by omega)).trans ((hx 1 5 _ _ (by omega)).trans ((hx 0 5 _ _ (by omega)).trans h.c5)))))
theorem Box.put {w w0 : World} {g : Nat} {b : Bk} (h : Box w w0 g b) (c : Bk) : Box w (putBk w0 g c) g c :=
  ⟨h.at_.put c, putBk_below c h.bel h.ge, h.ge, fun j => by unfold putBk; simp only [World.frozen?_setCell]; exact h.fr j⟩
theorem Box.putFar {w w0 : World} {g g' : Nat} {b : Bk} (h : Box w w0 g' b) (hg : w.heap.size ≤ g) (hn : g ≠ g') (c : Bk) : Box w (putBk w0 g c) g' b := by
  unfold putBk
  exact (((((h.far hg hn 0 _).far hg hn 1 _).far hg hn 2 _).far hg hn 3 _).far hg hn 4 _).far hg hn 5 _
theorem hresQfill : Try.f30.results = #[.cell 4 35] := by kernel_rfl
set_option maxHeartbeats 4000000 in
theorem fillOf (b : Bk) (hb : b.Ok) (now : Int) (hn : I64 now) (w : World) : Calls Try.prog 30 #[b.v, .int .i64 now] w (FillPost b now w) := by
  obtain ⟨num, den, burst, lvl, part, at_⟩ := b
  have HK : Hid (Bk.Ok ⟨num, den, burst, lvl, part, at_⟩) := hb
  obtain ⟨w0, hw0⟩ : ∃ w0, w.alloc (.cells #[.int .i64 num, .int .i64 den, .int .i64 burst, .int .i64 lvl, .int .i64 part, .int .i64 at_] 35) = w0 := ⟨_, rfl⟩
  obtain ⟨w1, hw1⟩ : ∃ w1, w0.alloc (.cells #[.int .i64 0, .int .i64 0, .int .i64 0, .int .i64 0, .int .i64 0, .int .i64 0] 35) = w1 := ⟨_, rfl⟩
  have X0 : Box w w0 w.heap.size ⟨num, den, burst, lvl, part, at_⟩ := by rw [← hw0]; exact Box.new w ⟨num, den, burst, lvl, part, at_⟩
  have X1 : Box w0 w1 w0.heap.size Bk.zero := by rw [← hw1]; exact Box.zero w0
  have hsz : w0.heap.size = w.heap.size + 1 := by rw [← hw0]; simp
  have Y0 : Box w w1 w.heap.size ⟨num, den, burst, lvl, part, at_⟩ := X0.later X1.bel
  have Y1 : Box w w1 (w.heap.size + 1) Bk.zero := by rw [← hsz]; exact X1.over X0.bel
  have HY0 : Hid (Box w w1 w.heap.size ⟨num, den, burst, lvl, part, at_⟩) := Y0
  have HY1 : Hid (Box w w1 (w.heap.size + 1) Bk.zero) := Y1
  obtain ⟨c0, c1, c2, c3, c4, c5⟩ := Y0.at_
  clear Y0 Y1 X0 X1
  simp only at c0 c1 c2 c3 c4 c5
  unfold Bk.v
  go_enter Try.func30, Try.ntmps30
  go_wp2_with fail
  refine (checkOf ⟨num, den, burst, lvl, part, at_⟩ HK.out _).mono ?_
  rintro x w2 ⟨rfl, hb2⟩
  have HZ0 : Hid (Box w w2 w.heap.size ⟨num, den, burst, lvl, part, at_⟩) := HY0.out.later hb2
  have HZ1 : Hid (Box w w2 (w.heap.size + 1) Bk.zero) := HY1.out.later hb2
  clear c0 c1 c2 c3 c4 c5
  obtain ⟨c0, c1, c2, c3, c4, c5⟩ := HZ0.out.at_
  obtain ⟨z0, z1, z2, z3, z4, z5⟩ := HZ1.out.at_
  simp only [Bk.zero] at z0 z1 z2 z3 z4 z5
  simp only at c0 c1 c2 c3 c4 c5
  have f0 := HZ1.out.fr 0
  have f1 := HZ1.out.fr 1
  have f2 := HZ1.out.fr 2
  have f3 := HZ1.out.fr 3
  have f4 := HZ1.out.fr 4
  have f5 := HZ1.out.fr 5
  have k3 := HZ0.out.fr 3
  have k4 := HZ0.out.fr 4
  have k5 := HZ0.out.fr 5
  by_cases hg : Bk.Good ⟨num, den, burst, lvl, part, at_⟩
  · rw [chkB_good hg]
    by_cases hle : now ≤ at_
    · have HE : Hid (fillP ⟨num, den, burst, lvl, part, at_⟩ now = ⟨num, den, burst, lvl, part, at_⟩) := by unfold Hid fillP; rw [if_neg (by simp only; omega)]
      clear hg
      go_wp2
      refine bodyPost_ret (v := Bk.v ⟨num, den, burst, lvl, part, at_⟩) ?_ rfl ⟨by rw [HE.out], putBk_below ⟨num, den, burst, lvl, part, at_⟩ HZ0.out.bel (by omega)⟩
      simp only [results, hresQfill]
      go_simp
    · obtain ⟨t, ht⟩ : ∃ t : Int, (if (1125899906842623 : Int) < now then 1125899906842623 else now) = t := ⟨_, rfl⟩
      have htm : min now 1125899906842623 = t := by rw [← ht]; split <;> omega
      have ha1 := hg.a1
      have ha0 := hg.a0
      have hn0 := hg.n0
      have hn1 := hg.n1
      have hd0 := hg.d0
      have hd1 := hg.d1
      have hbb0 := hg.b0
      have hbb1 := hg.b1
      have hll0 := hg.l0
      have hll1 := hg.l1
      have hp := hg.prod
      have hpp := hg.p0
      have hpp1 := hg.p1
      simp only at ha1 ha0 hn0 hn1 hd0 hd1 hp hpp hpp1 hbb0 hbb1 hll0 hll1
      have ht0 : at_ ≤ t ∧ t ≤ 1125899906842623 := by omega
      have HM : Hid ((if (1125899906842623 : Int) < now then 1125899906842623 else now) = t) := ht
      have HF : Hid (fillP ⟨num, den, burst, lvl, part, at_⟩ now = Bk.withP ⟨num, den, burst, lvl, part, at_⟩ (lvl * den + part + num * (t - at_)) t) := by unfold Hid fillP; rw [if_pos ⟨hg, by simp only; omega⟩, htm]; rfl
      obtain ⟨M, hM⟩ : ∃ M, (burst - lvl) * den - part = M := ⟨_, rfl⟩
      have hml : (burst - lvl) * den = burst * den - lvl * den := Int.sub_mul _ _ _
      have hw1 : wrap64 (t - at_) = t - at_ := by unfold wrap64; omega
      have hk0 : 0 ≤ t - at_ ∧ t - at_ ≤ 1125899906842623 := by omega
      have hM0 : 0 ≤ M ∧ M ≤ 1125899906842624 := by omega
      have hgt : Bk.Good ⟨num, den, burst, lvl, part, t⟩ := ⟨hn0, hn1, hd0, hd1, hbb0, hbb1, hll0, hll1, hpp, hpp1, hg.f, by simp only; omega, by simp only; omega⟩
      obtain ⟨C, hC⟩ : ∃ C, (M + num - 1) / num = C := ⟨_, rfl⟩
      have HWT : Hid (∀ u, Calls Try.prog 31 #[Bk.v ⟨num, den, burst, lvl, part, t⟩, .int .i64 burst] u fun e w' => e = .returned (.int .i64 C) ∧ Below u.heap.size u w') := fun u => by
        rw [← hC]; exact waitOf ⟨num, den, burst, lvl, part, t⟩ hgt burst M (by omega) hbb1 hM hM0.1 u
      have hwi : C ≤ t - at_ ↔ M ≤ num * (t - at_) := by rw [← hC]; exact wait_iff (by omega)
      have HWI : Hid (C ≤ t - at_ ↔ M ≤ num * (t - at_)) := hwi
      have HMI : Hid (burst * den - lvl * den - part = M) := by unfold Hid; omega
      clear ht htm hg hgt hC hM hml hwi
      go_wp2_with (first | refine wpList_mnN (by with_reducible rfl) _ _ 2 2 _ _ _ (by with_reducible rfl) (by rfl) (by rfl) HM.out ?_ | fail)
      refine (HWT.out _).mono ?_
      rintro x w3 ⟨rfl, hb3⟩
      have HU0 : Hid (Box w w3 w.heap.size ⟨num, den, burst, lvl, part, t⟩) := (HZ0.out.at5 t).later hb3
      have HU1 : Hid (Box w w3 (w.heap.size + 1) Bk.zero) := (HZ1.out.far (Nat.le_refl _) (by omega) 5 _).later hb3
      clear c0 c1 c2 c3 c4 c5 z0 z1 z2 z3 z4 z5 f0 f1 f2 f3 f4 f5 k3 k4 k5 hb3
      obtain ⟨c0, c1, c2, c3, c4, c5⟩ := HU0.out.at_
      obtain ⟨z0, z1, z2, z3, z4, z5⟩ := HU1.out.at_
      simp only [Bk.zero] at z0 z1 z2 z3 z4 z5
      simp only at c0 c1 c2 c3 c4 c5
      have f0 := HU1.out.fr 0
      have f1 := HU1.out.fr 1
      have f2 := HU1.out.fr 2
      have f3 := HU1.out.fr 3
      have f4 := HU1.out.fr 4
      have f5 := HU1.out.fr 5
      have k3 := HU0.out.fr 3
      have k4 := HU0.out.fr 4
      have k5 := HU0.out.fr 5
      by_cases hA : C ≤ t - at_
      · have HE : Hid (fillP ⟨num, den, burst, lvl, part, at_⟩ now = ⟨num, den, burst, burst, 0, t⟩) := by
          unfold Hid; rw [HF.out]; unfold Bk.withP; rw [if_pos]
          have h9 := HWI.out.mp hA
          have := HMI.out
          simp only; omega
        clear hp hpp
        go_wp2
        refine bodyPost_ret (v := Bk.v ⟨num, den, burst, burst, 0, t⟩) ?_ rfl ⟨by rw [HE.out], ?_⟩
        · simp only [results, hresQfill]
          go_simp
        · repeat (refine Below.setCell ?_ (by simp only; omega) _)
          exact HU0.out.bel
      · have hlt : ¬ M ≤ num * (t - at_) := fun h => hA (HWI.out.mpr h)
        have hkn : 0 ≤ num * (t - at_) := Int.mul_nonneg (by omega) (by omega)
        obtain ⟨p, hpe⟩ : ∃ p, part + num * (t - at_) = p := ⟨_, rfl⟩
        have hp0 : 0 ≤ p ∧ p ≤ 1125899906842624 := by have := HMI.out; omega
        have e1 : Int.tdiv p den = p / den := Int.tdiv_eq_ediv_of_nonneg hp0.1
        have e2 : Int.tmod p den = p % den := Int.tmod_eq_emod_of_nonneg hp0.1
        have e3 : 0 ≤ p / den := Int.ediv_nonneg hp0.1 (by omega)
        have e4 : p / den ≤ p := Int.ediv_le_self _ hp0.1
        have e5 := Int.emod_lt_of_pos p (show 0 < den by omega)
        have e6 := Int.emod_nonneg p (show den ≠ 0 by omega)
        have HE : Hid (fillP ⟨num, den, burst, lvl, part, at_⟩ now = ⟨num, den, burst, lvl + p / den, p % den, t⟩) := by
          unfold Hid; rw [HF.out]; unfold Bk.withP
          have := HMI.out
          rw [if_neg (by simp only; omega)]
          have h1 : lvl * den + part + num * (t - at_) = p + lvl * den := by omega
          simp only
          rw [h1, Int.add_mul_ediv_right _ _ (show den ≠ 0 by omega), Int.add_mul_emod_self_right, Int.add_comm]
        have hw2 : wrap64 (num * (t - at_)) = num * (t - at_) := by unfold wrap64; omega
        have hw3 : wrap64 (part + num * (t - at_)) = p := by unfold wrap64; omega
        have hv2 : IntKind.i64.wrap (num * (t - at_)) = num * (t - at_) := IntWalk.i64_in _ (by omega)
        have hv3 : IntKind.i64.wrap (part + num * (t - at_)) = p := by rw [hpe]; exact IntWalk.i64_in _ (by omega)
        have hw4 : wrap64 (p / den) = p / den := by unfold wrap64; omega
        have hw5 : wrap64 (p % den) = p % den := by unfold wrap64; omega
        have hv4 : IntKind.i64.wrap (p / den) = p / den := IntWalk.i64_in _ (by omega)
        have hw6 : wrap64 (lvl + p / den) = lvl + p / den := by unfold wrap64; omega
        have hv6 : IntKind.i64.wrap (lvl + p / den) = lvl + p / den := IntWalk.i64_in _ (by omega)
        have hdz : ¬ den = 0 := by omega
        clear hp hpp hpp1 hlt hkn hpe
        go_wp2
        go_region
        all_goals go_wp2
        refine bodyPost_ret (v := Bk.v ⟨num, den, burst, lvl + p / den, p % den, t⟩) ?_ rfl ⟨by rw [HE.out], ?_⟩
        · simp only [results, hresQfill]
          go_simp
        · refine Below.drew ?_
          repeat (refine Below.setCell ?_ (by simp only; omega) _)
          exact HU0.out.bel
  · have HE : Hid (fillP ⟨num, den, burst, lvl, part, at_⟩ now = ⟨num, den, burst, lvl, part, at_⟩) := by unfold Hid fillP; rw [if_neg (fun h => hg h.1)]
    rw [chkB_bad hg]
    clear hg
    go_wp2
    refine bodyPost_ret (v := Bk.v ⟨num, den, burst, lvl, part, at_⟩) ?_ rfl ⟨by rw [HE.out], putBk_below ⟨num, den, burst, lvl, part, at_⟩ HZ0.out.bel (by omega)⟩
    simp only [results, hresQfill]
    go_simp
theorem hresQtake : Try.f19.results = #[.cell 6 35, .tmp 7] := by kernel_rfl
set_option maxHeartbeats 4000000 in
theorem takeOf (b : Bk) (hb : b.Ok) (now n : Int) (hnow : I64 now) (hn : I64 n) (w : World) : Calls Try.prog 19 #[b.v, .int .i64 now, .int .i64 n] w (TakePost b now n w) := by
  obtain ⟨l, p, a, hfe⟩ := fillP_same b now
  obtain ⟨num, den, burst, lvl, part, at_⟩ := b
  simp only at hfe
  have HK : Hid (Bk.Ok ⟨num, den, burst, lvl, part, at_⟩) := hb
  have HN : Hid (I64 now) := hnow
  obtain ⟨w0, hw0⟩ : ∃ w0, w.alloc (.cells #[.int .i64 num, .int .i64 den, .int .i64 burst, .int .i64 lvl, .int .i64 part, .int .i64 at_] 35) = w0 := ⟨_, rfl⟩
  obtain ⟨w1, hw1⟩ : ∃ w1, w0.alloc (.cells #[.int .i64 0, .int .i64 0, .int .i64 0, .int .i64 0, .int .i64 0, .int .i64 0] 35) = w1 := ⟨_, rfl⟩
  have X0 : Box w w0 w.heap.size ⟨num, den, burst, lvl, part, at_⟩ := by rw [← hw0]; exact Box.new w ⟨num, den, burst, lvl, part, at_⟩
  have X1 : Box w0 w1 w0.heap.size Bk.zero := by rw [← hw1]; exact Box.zero w0
  have hsz : w0.heap.size = w.heap.size + 1 := by rw [← hw0]; simp
  have Y0 : Box w w1 w.heap.size ⟨num, den, burst, lvl, part, at_⟩ := X0.later X1.bel
  have Y1 : Box w w1 (w.heap.size + 1) Bk.zero := by rw [← hsz]; exact X1.over X0.bel
  have HY0 : Hid (Box w w1 w.heap.size ⟨num, den, burst, lvl, part, at_⟩) := Y0
  have HY1 : Hid (Box w w1 (w.heap.size + 1) Bk.zero) := Y1
  obtain ⟨c0, c1, c2, c3, c4, c5⟩ := Y0.at_
  clear Y0 Y1 X0 X1 hnow
  simp only at c0 c1 c2 c3 c4 c5
  unfold Bk.v
  go_enter Try.func19, Try.ntmps19
  go_wp2_with fail
  refine (checkOf ⟨num, den, burst, lvl, part, at_⟩ HK.out _).mono ?_
  rintro x w2 ⟨rfl, hb2⟩
  have HZ0 : Hid (Box w w2 w.heap.size ⟨num, den, burst, lvl, part, at_⟩) := HY0.out.later hb2
  have HZ1 : Hid (Box w w2 (w.heap.size + 1) Bk.zero) := HY1.out.later hb2
  clear c0 c1 c2 c3 c4 c5
  obtain ⟨c0, c1, c2, c3, c4, c5⟩ := HZ0.out.at_
  simp only at c0 c1 c2 c3 c4 c5
  by_cases hg : Bk.Good ⟨num, den, burst, lvl, part, at_⟩
  · rw [chkB_good hg]
    have hgf := hg.fill now
    rw [hfe] at hgf
    have HGF : Hid (Bk.Good ⟨num, den, burst, l, p, a⟩) := hgf
    have HFI : Hid (∀ u, Calls Try.prog 30 #[Bk.v ⟨num, den, burst, lvl, part, at_⟩, .int .i64 now] u fun e w' => e = .returned (Bk.v ⟨num, den, burst, l, p, a⟩) ∧ Below u.heap.size u w') := fun u => by
      rw [← hfe]; exact fillOf _ HK.out now HN.out u
    have HT : Hid (takeP ⟨num, den, burst, lvl, part, at_⟩ now n = if n < 0 ∨ burst < n then (⟨num, den, burst, l, p, a⟩, -1) else if n ≤ l then (⟨num, den, burst, l - n, p, a⟩, 0) else (⟨num, den, burst, l, p, a⟩, (n * den - (l * den + p) + num - 1) / num)) := by
      unfold Hid takeP; rw [if_pos hg, hfe]; rfl
    clear hg hgf hfe
    have k0 := HZ0.out.fr 0
    have k1 := HZ0.out.fr 1
    have k2 := HZ0.out.fr 2
    have k3 := HZ0.out.fr 3
    have k4 := HZ0.out.fr 4
    have k5 := HZ0.out.fr 5
    go_wp2_with fail
    refine (HFI.out _).mono ?_
    rintro x w3 ⟨rfl, hb3⟩
    have HU0 : Hid (Box w w3 w.heap.size ⟨num, den, burst, lvl, part, at_⟩) := HZ0.out.later hb3
    have HU1 : Hid (Box w w3 (w.heap.size + 1) Bk.zero) := HZ1.out.later hb3
    obtain ⟨w4, hw4⟩ : ∃ w4, putBk w3 w.heap.size ⟨num, den, burst, l, p, a⟩ = w4 := ⟨_, rfl⟩
    have HC4 : Hid (Box w w4 w.heap.size ⟨num, den, burst, l, p, a⟩) := by rw [← hw4]; exact HU0.out.put _
    have HV1 : Hid (Box w w4 (w.heap.size + 1) Bk.zero) := by rw [← hw4]; exact HU1.out.putFar (Nat.le_refl _) (by omega) _
    clear c0 c1 c2 c3 c4 c5 k0 k1 k2 k3 k4 k5 hb3
    obtain ⟨c0, c1, c2, c3, c4, c5⟩ := HU0.out.at_
    simp only at c0 c1 c2 c3 c4 c5
    have k0 := HU0.out.fr 0
    have k1 := HU0.out.fr 1
    have k2 := HU0.out.fr 2
    have k3 := HU0.out.fr 3
    have k4 := HU0.out.fr 4
    have k5 := HU0.out.fr 5
    simp only [putBk] at hw4
    obtain ⟨d0, d1, d2, d3, d4, d5⟩ := HC4.out.at_
    simp only at d0 d1 d2 d3 d4 d5
    have m3 := HC4.out.fr 3
    obtain ⟨z0, z1, z2, z3, z4, z5⟩ := HV1.out.at_
    simp only [Bk.zero] at z0 z1 z2 z3 z4 z5
    have f0 := HV1.out.fr 0
    have f1 := HV1.out.fr 1
    have f2 := HV1.out.fr 2
    have f3 := HV1.out.fr 3
    have f4 := HV1.out.fr 4
    have f5 := HV1.out.fr 5
    go_wp2_with fail
    refine (isWithinOf n 0 burst _).mono ?_
    rintro x w5 ⟨rfl, rfl⟩
    cases hr : inR n 0 burst with
    | false =>
      have HE : Hid (takeP ⟨num, den, burst, lvl, part, at_⟩ now n = (⟨num, den, burst, l, p, a⟩, -1)) := by
        have := inR_not hr
        unfold Hid; rw [HT.out, if_pos (by omega)]
      go_wp2
      refine bodyPost_ret (v := .tuple #[Bk.v ⟨num, den, burst, l, p, a⟩, .int .i64 (-1)]) ?_ rfl ⟨by rw [HE.out], putBk_below ⟨num, den, burst, l, p, a⟩ HC4.out.bel (by omega)⟩
      simp only [results, hresQtake]
      go_simp
    | true =>
    have hr2 := inR_is hr
    have hl0 := HGF.out.l0
    have hl1 := HGF.out.l1
    have hb1 := HGF.out.b1
    simp only at hl0 hl1 hb1
    clear hr
    by_cases h3 : l < n
    · have hp := HGF.out.prod
      have hp0 := HGF.out.p0
      have hp1 := HGF.out.p1
      have hd0 := HGF.out.d0
      simp only at hp hp0 hp1 hd0
      obtain ⟨M, hM⟩ : ∃ M, (n - l) * den - p = M := ⟨_, rfl⟩
      have hml : (n - l) * den = n * den - l * den := Int.sub_mul _ _ _
      have hnl : 1 * den ≤ (n - l) * den := Int.mul_le_mul_of_nonneg_right (show 1 ≤ n - l by omega) (show 0 ≤ den by omega)
      have hM0 : 0 ≤ M := by omega
      have HE : Hid (takeP ⟨num, den, burst, lvl, part, at_⟩ now n = (⟨num, den, burst, l, p, a⟩, (M + num - 1) / num)) := by
        unfold Hid; rw [HT.out, if_neg (by omega), if_neg (by omega), show n * den - (l * den + p) = M by omega]
      have HWT : Hid (∀ u, Calls Try.prog 31 #[Bk.v ⟨num, den, burst, l, p, a⟩, .int .i64 n] u fun e w' => e = .returned (.int .i64 ((M + num - 1) / num)) ∧ Below u.heap.size u w') := fun u =>
        waitOf ⟨num, den, burst, l, p, a⟩ HGF.out n M hr2.1 (by omega) hM hM0 u
      generalize (M + num - 1) / num = C at *
      clear hp hp0 hp1 hd0 hM hml hnl hM0 c0 c1 c2 c3 c4 c5 k0 k1 k2 k3 k4 k5
      go_wp2_with fail
      go_region_held3 (fun u => u.cell? ⟨w.heap.size, 0, none⟩ = some (.int .i64 num) ∧ u.cell? ⟨w.heap.size, 1, none⟩ = some (.int .i64 den) ∧ u.cell? ⟨w.heap.size, 2, none⟩ = some (.int .i64 burst) ∧ u.cell? ⟨w.heap.size, 3, none⟩ = some (.int .i64 l) ∧ u.cell? ⟨w.heap.size, 4, none⟩ = some (.int .i64 p) ∧ u.cell? ⟨w.heap.size, 5, none⟩ = some (.int .i64 a)) (go_keep) (first
        | (go_at_call 31
           refine (HWT.out _).mono ?_
           rintro e w6 ⟨rfl, hb6⟩
           have HX0 : Hid (Box w w6 w.heap.size ⟨num, den, burst, l, p, a⟩) := HC4.out.later ((Below.drew (Below.refl _ _)).trans hb6)
           have HX1 : Hid (Box w w6 (w.heap.size + 1) Bk.zero) := HV1.out.later ((Below.drew (Below.refl _ _)).trans hb6)
           rcases HX0.out.at_ with ⟨y0, y1, y2, y3, y4, y5⟩
           rcases HX1.out.at_ with ⟨x0, x1, x2, x3, x4, x5⟩
           simp only [Bk.zero] at x0 x1 x2 x3 x4 x5
           have g0 := HX1.out.fr 0
           have g1 := HX1.out.fr 1
           have g2 := HX1.out.fr 2
           have g3 := HX1.out.fr 3
           have g4 := HX1.out.fr 4
           have g5 := HX1.out.fr 5))
      go_wp2
      refine bodyPost_ret (v := .tuple #[Bk.v ⟨num, den, burst, l, p, a⟩, .int .i64 C]) ?_ rfl ⟨by rw [HE.out], ?_⟩
      · simp only [results, hresQtake]
        go_simp
      · repeat (refine Below.setCell ?_ (by simp only; omega) _)
        exact HX0.out.bel
    · have HE : Hid (takeP ⟨num, den, burst, lvl, part, at_⟩ now n = (⟨num, den, burst, l - n, p, a⟩, 0)) := by unfold Hid; rw [HT.out, if_neg (by omega), if_pos (by omega)]
      have hw9 : wrap64 (l - n) = l - n := by unfold wrap64; omega
      clear c0 c1 c2 c3 c4 c5 k0 k1 k2 k3 k4 k5
      go_wp2
      refine bodyPost_ret (v := .tuple #[Bk.v ⟨num, den, burst, l - n, p, a⟩, .int .i64 0]) ?_ rfl ⟨by rw [HE.out], ?_⟩
      · simp only [results, hresQtake]
        go_simp
      · repeat (refine Below.setCell ?_ (by simp only; omega) _)
        exact HC4.out.bel
  · have HE : Hid (takeP ⟨num, den, burst, lvl, part, at_⟩ now n = (⟨num, den, burst, lvl, part, at_⟩, -1)) := by unfold Hid takeP; rw [if_neg hg]
    obtain ⟨z0, z1, z2, z3, z4, z5⟩ := HZ1.out.at_
    simp only [Bk.zero] at z0 z1 z2 z3 z4 z5
    have f0 := HZ1.out.fr 0
    have f1 := HZ1.out.fr 1
    have f2 := HZ1.out.fr 2
    have f3 := HZ1.out.fr 3
    have f4 := HZ1.out.fr 4
    have f5 := HZ1.out.fr 5
    rw [chkB_bad hg]
    clear hg
    go_wp2
    refine bodyPost_ret (v := .tuple #[Bk.v ⟨num, den, burst, lvl, part, at_⟩, .int .i64 (-1)]) ?_ rfl ⟨by rw [HE.out], putBk_below ⟨num, den, burst, lvl, part, at_⟩ HZ0.out.bel (by omega)⟩
    simp only [results, hresQtake]
    go_simp
end Go.Proofs.Ytbeaefokpggmpab
