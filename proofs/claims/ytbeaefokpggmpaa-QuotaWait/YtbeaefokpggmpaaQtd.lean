import Derived.Test.YtbeaefokpggmpaaQtc
/-! quota: the document's Fill. -/
namespace Go.Proofs.Ytbeaefokpggmpaa
open Go.RowKit
set_option linter.unusedVariables false

theorem wpList_mxN {ops : Array Oper} {rest : List Oper} {o : Oper} {a : Act} {Q : Exit → Act → World → Prop} {w : World} (hgd : o.guard = none) (s x : Operand) (t tx : TypeId) (z y m : Int)
    (ho : o.op = .call { callee := .builtin .max, args := #[s, x], argTypes := #[t, tx] }) (hs : a.eval s = .int .i64 z) (hx : a.eval x = .int .i64 y) (hm : (if y > z then y else z) = m)
    (h : wpList Try.prog ops Q rest (a.put o.dst (.int .i64 m)) w) : wpList Try.prog ops Q (o :: rest) a w :=
  wpList_plain hgd fun _ hK => by
    have hr := run_max_int2 (P := Try.prog) (w := w) #[t, tx] o.type .i64 .i64 z y
    rw [hm] at hr
    unfold Oper.wp execOp
    simp only [ho, resolve, invoke, builtin, Sem.run_bind, Sem.run_pure, Result.andThen_ok, List.map_toArray, List.map_cons, List.map_nil, hs, hx, hr]
    exact hK _ _ h
theorem wpList_mnN {ops : Array Oper} {rest : List Oper} {o : Oper} {a : Act} {Q : Exit → Act → World → Prop} {w : World} (hgd : o.guard = none) (s x : Operand) (t tx : TypeId) (z y m : Int)
    (ho : o.op = .call { callee := .builtin .min, args := #[s, x], argTypes := #[t, tx] }) (hs : a.eval s = .int .i64 z) (hx : a.eval x = .int .i64 y) (hm : (if y < z then y else z) = m)
    (h : wpList Try.prog ops Q rest (a.put o.dst (.int .i64 m)) w) : wpList Try.prog ops Q (o :: rest) a w :=
  wpList_plain hgd fun _ hK => by
    have hr := run_min_int2 (P := Try.prog) (w := w) #[t, tx] o.type .i64 .i64 z y
    rw [hm] at hr
    unfold Oper.wp execOp
    simp only [ho, resolve, invoke, builtin, Sem.run_bind, Sem.run_pure, Result.andThen_ok, List.map_toArray, List.map_cons, List.map_nil, hs, hx, hr]
    exact hK _ _ h

theorem hresRfill : Try.f16.results = #[.cell 4 23] := by kernel_rfl
abbrev FillPost (b : Bk) (now : Int) (w : World) : Ending → World → Prop := fun e w' => e = .returned (fillP b now).v ∧ Below w.heap.size w w'
set_option maxHeartbeats 2000000 in
theorem rfillOf (b : Bk) (hb : b.Ok) (now : Int) (hn : I64 now) (w : World) : Calls Try.prog 16 #[b.v, .int .i64 now] w (FillPost b now w) := by
  obtain ⟨num, den, burst, lvl, part, at_⟩ := b
  have HK : Hid (Bk.Ok ⟨num, den, burst, lvl, part, at_⟩) := hb
  obtain ⟨w0, hw0⟩ : ∃ w0, w.alloc (.cells #[.int .i64 num, .int .i64 den, .int .i64 burst, .int .i64 lvl, .int .i64 part, .int .i64 at_] 23) = w0 := ⟨_, rfl⟩
  obtain ⟨w1, hw1⟩ : ∃ w1, w0.alloc (.cells #[.int .i64 0, .int .i64 0, .int .i64 0, .int .i64 0, .int .i64 0, .int .i64 0] 23) = w1 := ⟨_, rfl⟩
  have X0 : Box w w0 w.heap.size ⟨num, den, burst, lvl, part, at_⟩ := by rw [← hw0]; exact Box.new w ⟨num, den, burst, lvl, part, at_⟩
  have X1 : Box w0 w1 w0.heap.size Bk.zero := by rw [← hw1]; exact Box.zero w0
  have hsz : w0.heap.size = w.heap.size + 1 := by rw [← hw0]; simp
  have Y0 : Box w w1 w.heap.size ⟨num, den, burst, lvl, part, at_⟩ := X0.later X1.bel
  have Y1 : Box w w1 (w.heap.size + 1) Bk.zero := by rw [← hsz]; exact X1.over X0.bel
  have HY0 : Hid (Box w w1 w.heap.size ⟨num, den, burst, lvl, part, at_⟩) := Y0
  have HY1 : Hid (Box w w1 (w.heap.size + 1) Bk.zero) := Y1
  obtain ⟨c0, c1, c2, c3, c4, c5⟩ := Y0.at_
  clear Y0 Y1 X0 X1
  simp only at c0 c1 c2 c3 c4 c5
  unfold Bk.v
  go_enter Try.func16, Try.ntmps16
  go_wp2_with fail
  refine (rcheckOf ⟨num, den, burst, lvl, part, at_⟩ HK.out _).mono ?_
  rintro x w2 ⟨rfl, hb2⟩
  have HZ0 : Hid (Box w w2 w.heap.size ⟨num, den, burst, lvl, part, at_⟩) := HY0.out.later hb2
  have HZ1 : Hid (Box w w2 (w.heap.size + 1) Bk.zero) := HY1.out.later hb2
  clear c0 c1 c2 c3 c4 c5
  obtain ⟨c0, c1, c2, c3, c4, c5⟩ := HZ0.out.at_
  obtain ⟨z0, z1, z2, z3, z4, z5⟩ := HZ1.out.at_
  simp only [Bk.zero] at z0 z1 z2 z3 z4 z5
  simp only at c0 c1 c2 c3 c4 c5
  have f0 := HZ1.out.fr 0
  have f1 := HZ1.out.fr 1
  have f2 := HZ1.out.fr 2
  have f3 := HZ1.out.fr 3
  have f4 := HZ1.out.fr 4
  have f5 := HZ1.out.fr 5
  have k3 := HZ0.out.fr 3
  have k4 := HZ0.out.fr 4
  have k5 := HZ0.out.fr 5
  by_cases hg : Bk.Good ⟨num, den, burst, lvl, part, at_⟩
  · rw [chkB_good hg]
    by_cases hle : now ≤ at_
    · have HE : Hid (fillP ⟨num, den, burst, lvl, part, at_⟩ now = ⟨num, den, burst, lvl, part, at_⟩) := by unfold Hid fillP; rw [if_neg (by simp only; omega)]
      clear hg
      go_wp2
      refine bodyPost_ret (v := Bk.v ⟨num, den, burst, lvl, part, at_⟩) ?_ rfl ⟨by rw [HE.out], putBk_below ⟨num, den, burst, lvl, part, at_⟩ HZ0.out.bel (by omega)⟩
      simp only [results, hresRfill]
      go_simp
    · obtain ⟨t, ht⟩ : ∃ t : Int, (if (1125899906842623 : Int) < now then 1125899906842623 else now) = t := ⟨_, rfl⟩
      have htm : min now 1125899906842623 = t := by rw [← ht]; split <;> omega
      have ha1 := hg.a1
      have ha0 := hg.a0
      have hn0 := hg.n0
      have hn1 := hg.n1
      have hd0 := hg.d0
      have hd1 := hg.d1
      have hp := hg.prod
      have hpp := hg.p0
      simp only at ha1 ha0 hn0 hn1 hd0 hd1 hp hpp
      have ht0 : at_ ≤ t ∧ t ≤ 1125899906842623 := by omega
      have HM : Hid ((if (1125899906842623 : Int) < now then 1125899906842623 else now) = t) := ht
      have HF : Hid (fillP ⟨num, den, burst, lvl, part, at_⟩ now = Bk.withP ⟨num, den, burst, lvl, part, at_⟩ (lvl * den + part + num * (t - at_)) t) := by unfold Hid fillP; rw [if_pos ⟨hg, by simp only; omega⟩, htm]; rfl
      have HG : Hid (Bk.Good ⟨num, den, burst, lvl, part, at_⟩) := hg
      obtain ⟨L, hL⟩ : ∃ L, burst * den - (lvl * den + part) = L := ⟨_, rfl⟩
      have hw1 : wrap64 (t - at_) = t - at_ := by unfold wrap64; omega
      have hk0 : 0 ≤ t - at_ ∧ t - at_ ≤ 1125899906842623 := by omega
      have hL0 : 0 ≤ L ∧ L ≤ 1125899906842624 := by omega
      have HRM : Hid (∀ u, Calls Try.prog 21 #[Bk.v ⟨num, den, burst, lvl, part, at_⟩] u fun e w' => e = .returned (.int .i64 L) ∧ Below u.heap.size u w') := fun u => by
        rw [← hL]; exact rroomOf ⟨num, den, burst, lvl, part, at_⟩ hg u
      have hdv : Int.tdiv L num = L / num := Int.tdiv_eq_ediv_of_nonneg hL0.1
      have hq0 : 0 ≤ L / num := Int.ediv_nonneg hL0.1 (by omega)
      have hq1 : L / num ≤ L := Int.ediv_le_self _ hL0.1
      have hq5 := Int.emod_lt_of_pos L (show 0 < num by omega)
      have hq6 := Int.emod_nonneg L (show num ≠ 0 by omega)
      have hq7 := Int.mul_ediv_add_emod L num
      have hqm : num * (L / num) ≤ L := by omega
      have hqn : L < num * (L / num + 1) := by rw [Int.mul_add]; omega
      have hvq : wrap64 (L / num) = L / num := by unfold wrap64; omega
      have hnz : ¬ num = 0 := by omega
      clear ht htm hg hq5 hq6 hq7
      go_wp2_with (first | refine wpList_mnN (by with_reducible rfl) _ _ 2 2 _ _ _ (by with_reducible rfl) (by rfl) (by rfl) HM.out ?_ | fail)
      refine (HRM.out _).mono ?_
      rintro x w3 ⟨rfl, hb3⟩
      have HU0 : Hid (Box w w3 w.heap.size ⟨num, den, burst, lvl, part, at_⟩) := HZ0.out.later hb3
      have HU1 : Hid (Box w w3 (w.heap.size + 1) Bk.zero) := HZ1.out.later hb3
      clear c0 c1 c2 c3 c4 c5 z0 z1 z2 z3 z4 z5 f0 f1 f2 f3 f4 f5 k3 k4 k5
      obtain ⟨c0, c1, c2, c3, c4, c5⟩ := HU0.out.at_
      obtain ⟨z0, z1, z2, z3, z4, z5⟩ := HU1.out.at_
      simp only [Bk.zero] at z0 z1 z2 z3 z4 z5
      simp only at c0 c1 c2 c3 c4 c5
      have f0 := HU1.out.fr 0
      have f1 := HU1.out.fr 1
      have f2 := HU1.out.fr 2
      have f3 := HU1.out.fr 3
      have f4 := HU1.out.fr 4
      have f5 := HU1.out.fr 5
      have k3 := HU0.out.fr 3
      have k4 := HU0.out.fr 4
      have k5 := HU0.out.fr 5
      by_cases hA : L / num < t - at_
      · have HE : Hid (fillP ⟨num, den, burst, lvl, part, at_⟩ now = ⟨num, den, burst, burst, 0, t⟩) := by
          unfold Hid; rw [HF.out]; unfold Bk.withP; rw [if_pos]
          have h9 : num * (L / num + 1) ≤ num * (t - at_) := Int.mul_le_mul_of_nonneg_left (show L / num + 1 ≤ t - at_ by omega) (show 0 ≤ num by omega)
          simp only; omega
        clear hp hpp hL hqm hqn hq1
        go_wp2
        refine bodyPost_ret (v := Bk.v ⟨num, den, burst, burst, 0, t⟩) ?_ rfl ⟨by rw [HE.out], ?_⟩
        · simp only [results, hresRfill]
          go_simp
        · repeat (refine Below.setCell ?_ (by simp only; omega) _)
          exact HU0.out.bel
      · have hkl : num * (t - at_) ≤ num * (L / num) := Int.mul_le_mul_of_nonneg_left (show t - at_ ≤ L / num by omega) (show 0 ≤ num by omega)
        have hkn : 0 ≤ num * (t - at_) := Int.mul_nonneg (by omega) (by omega)
        have hcm : (t - at_) * num = num * (t - at_) := Int.mul_comm _ _
        have hw2 : wrap64 ((t - at_) * num) = (t - at_) * num := by unfold wrap64; omega
        by_cases hB : L ≤ (t - at_) * num
        · have HE : Hid (fillP ⟨num, den, burst, lvl, part, at_⟩ now = ⟨num, den, burst, burst, 0, t⟩) := by
            unfold Hid; rw [HF.out]; unfold Bk.withP; rw [if_pos]
            simp only; omega
          clear hp hpp hL hqm hqn hq1 hkl hkn hcm
          go_wp2
          refine bodyPost_ret (v := Bk.v ⟨num, den, burst, burst, 0, t⟩) ?_ rfl ⟨by rw [HE.out], ?_⟩
          · simp only [results, hresRfill]
            go_simp
          · repeat (refine Below.setCell ?_ (by simp only; omega) _)
            exact HU0.out.bel
        · have HE : Hid (fillP ⟨num, den, burst, lvl, part, at_⟩ now = ⟨num, den, burst, (lvl * den + part + (t - at_) * num) / den, (lvl * den + part + (t - at_) * num) % den, t⟩) := by
            unfold Hid; rw [HF.out]; unfold Bk.withP; rw [if_neg (by simp only; omega), hcm]
          have hv1 : IntKind.i64.wrap ((t - at_) * num) = (t - at_) * num := IntWalk.i64_in _ (by omega)
          have hv2 : IntKind.i64.wrap (lvl * den + part + (t - at_) * num) = lvl * den + part + (t - at_) * num := IntWalk.i64_in _ (by omega)
          have hp0 : 0 ≤ lvl * den + part + (t - at_) * num ∧ lvl * den + part + (t - at_) * num ≤ 4503599627370496 := by omega
          have HPR : Hid (∀ u, Calls Try.prog 22 #[Bk.v ⟨num, den, burst, lvl, part, at_⟩] u fun e w' => e = .returned (.int .i64 (lvl * den + part)) ∧ Below u.heap.size u w') := fun u => rpartsOf ⟨num, den, burst, lvl, part, at_⟩ HG.out u
          clear hp hpp hL hqm hqn hq1 hkl hkn hcm
          go_wp2
          go_region_held3 (fun u => u.cell? ⟨w.heap.size, 0, none⟩ = some (.int .i64 num) ∧ u.cell? ⟨w.heap.size, 1, none⟩ = some (.int .i64 den) ∧ u.cell? ⟨w.heap.size, 2, none⟩ = some (.int .i64 burst) ∧ u.cell? ⟨w.heap.size, 3, none⟩ = some (.int .i64 lvl) ∧ u.cell? ⟨w.heap.size, 4, none⟩ = some (.int .i64 part) ∧ u.cell? ⟨w.heap.size, 5, none⟩ = some (.int .i64 at_)) (go_keep) (first
            | (go_at_call 22
               refine (HPR.out _).mono ?_
               rintro e w4 ⟨rfl, hb4⟩
               have HV0 : Hid (Box w w4 w.heap.size ⟨num, den, burst, lvl, part, at_⟩) := HU0.out.later ((Below.drew (Below.refl _ _)).trans hb4)
               have HV1 : Hid (Box w w4 (w.heap.size + 1) Bk.zero) := HU1.out.later ((Below.drew (Below.refl _ _)).trans hb4)
               rcases HV0.out.at_ with ⟨a0, a1, a2, a3, a4, a5⟩))
          clear c0 c1 c2 c3 c4 c5 z0 z1 z2 z3 z4 z5 f0 f1 f2 f3 f4 f5 k3 k4 k5
          obtain ⟨c0, c1, c2, c3, c4, c5⟩ := HV0.out.at_
          obtain ⟨z0, z1, z2, z3, z4, z5⟩ := HV1.out.at_
          simp only [Bk.zero] at z0 z1 z2 z3 z4 z5
          simp only at c0 c1 c2 c3 c4 c5
          have f0 := HV1.out.fr 0
          have f1 := HV1.out.fr 1
          have f2 := HV1.out.fr 2
          have f3 := HV1.out.fr 3
          have f4 := HV1.out.fr 4
          have f5 := HV1.out.fr 5
          have k3 := HV0.out.fr 3
          have k4 := HV0.out.fr 4
          have k5 := HV0.out.fr 5
          generalize lvl * den + part + (t - at_) * num = p at *
          have hdz : ¬ den = 0 := by omega
          have e1 : Int.tdiv p den = p / den := Int.tdiv_eq_ediv_of_nonneg hp0.1
          have e2 : Int.tmod p den = p % den := Int.tmod_eq_emod_of_nonneg hp0.1
          have e3 : 0 ≤ p / den := Int.ediv_nonneg hp0.1 (by omega)
          have e4 : p / den ≤ p := Int.ediv_le_self _ hp0.1
          have e5 := Int.emod_lt_of_pos p (show 0 < den by omega)
          have e6 := Int.emod_nonneg p (show den ≠ 0 by omega)
          have hv3 : wrap64 (p / den) = p / den := by unfold wrap64; omega
          have hv4 : wrap64 (p % den) = p % den := by unfold wrap64; omega
          go_wp2
          refine bodyPost_ret (v := Bk.v ⟨num, den, burst, p / den, p % den, t⟩) ?_ rfl ⟨by rw [HE.out], ?_⟩
          · simp only [results, hresRfill]
            go_simp
          · repeat (refine Below.setCell ?_ (by simp only; omega) _)
            exact HV0.out.bel
  · have HE : Hid (fillP ⟨num, den, burst, lvl, part, at_⟩ now = ⟨num, den, burst, lvl, part, at_⟩) := by unfold Hid fillP; rw [if_neg (fun h => hg h.1)]
    rw [chkB_bad hg]
    clear hg
    go_wp2
    refine bodyPost_ret (v := Bk.v ⟨num, den, burst, lvl, part, at_⟩) ?_ rfl ⟨by rw [HE.out], putBk_below ⟨num, den, burst, lvl, part, at_⟩ HZ0.out.bel (by omega)⟩
    simp only [results, hresRfill]
    go_simp
end Go.Proofs.Ytbeaefokpggmpaa
