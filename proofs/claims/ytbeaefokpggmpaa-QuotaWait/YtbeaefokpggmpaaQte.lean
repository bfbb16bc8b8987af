import Derived.Test.YtbeaefokpggmpaaQtd
/-! quota: the document's Take. -/
namespace Go.Proofs.Ytbeaefokpggmpaa
open Go.RowKit
set_option linter.unusedVariables false

theorem fillP_same (b : Bk) (now : Int) : ∃ l p a, fillP b now = ⟨b.num, b.den, b.burst, l, p, a⟩ := by
  unfold fillP Bk.withP
  split
  · split
    · exact ⟨_, _, _, rfl⟩
    · exact ⟨_, _, _, rfl⟩
  · exact ⟨_, _, _, rfl⟩
theorem hresRtake : Try.f17.results = #[.cell 6 23, .tmp 7] := by kernel_rfl
abbrev TakePost (b : Bk) (now n : Int) (w : World) : Ending → World → Prop := fun e w' => e = .returned (.tuple #[(takeP b now n).1.v, .int .i64 (takeP b now n).2]) ∧ Below w.heap.size w w'
set_option maxHeartbeats 2000000 in
theorem rtakeOf (b : Bk) (hb : b.Ok) (now n : Int) (hnow : I64 now) (hn : I64 n) (w : World) : Calls Try.prog 17 #[b.v, .int .i64 now, .int .i64 n] w (TakePost b now n w) := by
  obtain ⟨l, p, a, hfe⟩ := fillP_same b now
  obtain ⟨num, den, burst, lvl, part, at_⟩ := b
  simp only at hfe
  have HK : Hid (Bk.Ok ⟨num, den, burst, lvl, part, at_⟩) := hb
  have HN : Hid (I64 now) := hnow
  obtain ⟨w0, hw0⟩ : ∃ w0, w.alloc (.cells #[.int .i64 num, .int .i64 den, .int .i64 burst, .int .i64 lvl, .int .i64 part, .int .i64 at_] 23) = w0 := ⟨_, rfl⟩
  obtain ⟨w1, hw1⟩ : ∃ w1, w0.alloc (.cells #[.int .i64 0, .int .i64 0, .int .i64 0, .int .i64 0, .int .i64 0, .int .i64 0] 23) = w1 := ⟨_, rfl⟩
  have X0 : Box w w0 w.heap.size ⟨num, den, burst, lvl, part, at_⟩ := by rw [← hw0]; exact Box.new w ⟨num, den, burst, lvl, part, at_⟩
  have X1 : Box w0 w1 w0.heap.size Bk.zero := by rw [← hw1]; exact Box.zero w0
  have hsz : w0.heap.size = w.heap.size + 1 := by rw [← hw0]; simp
  have Y0 : Box w w1 w.heap.size ⟨num, den, burst, lvl, part, at_⟩ := X0.later X1.bel
  have Y1 : Box w w1 (w.heap.size + 1) Bk.zero := by rw [← hsz]; exact X1.over X0.bel
  have HY0 : Hid (Box w w1 w.heap.size ⟨num, den, burst, lvl, part, at_⟩) := Y0
  have HY1 : Hid (Box w w1 (w.heap.size + 1) Bk.zero) := Y1
  obtain ⟨c0, c1, c2, c3, c4, c5⟩ := Y0.at_
  clear Y0 Y1 X0 X1 hnow
  simp only at c0 c1 c2 c3 c4 c5
  unfold Bk.v
  go_enter Try.func17, Try.ntmps17
  go_wp2_with fail
  refine (rcheckOf ⟨num, den, burst, lvl, part, at_⟩ HK.out _).mono ?_
  rintro x w2 ⟨rfl, hb2⟩
  have HZ0 : Hid (Box w w2 w.heap.size ⟨num, den, burst, lvl, part, at_⟩) := HY0.out.later hb2
  have HZ1 : Hid (Box w w2 (w.heap.size + 1) Bk.zero) := HY1.out.later hb2
  clear c0 c1 c2 c3 c4 c5
  obtain ⟨c0, c1, c2, c3, c4, c5⟩ := HZ0.out.at_
  simp only at c0 c1 c2 c3 c4 c5
  by_cases hg : Bk.Good ⟨num, den, burst, lvl, part, at_⟩
  · rw [chkB_good hg]
    have hgf := hg.fill now
    rw [hfe] at hgf
    have HGF : Hid (Bk.Good ⟨num, den, burst, l, p, a⟩) := hgf
    have HFI : Hid (∀ u, Calls Try.prog 16 #[Bk.v ⟨num, den, burst, lvl, part, at_⟩, .int .i64 now] u fun e w' => e = .returned (Bk.v ⟨num, den, burst, l, p, a⟩) ∧ Below u.heap.size u w') := fun u => by
      rw [← hfe]; exact rfillOf _ HK.out now HN.out u
    have HT : Hid (takeP ⟨num, den, burst, lvl, part, at_⟩ now n = if n < 0 ∨ burst < n then (⟨num, den, burst, l, p, a⟩, -1) else if n ≤ l then (⟨num, den, burst, l - n, p, a⟩, 0) else (⟨num, den, burst, l, p, a⟩, (n * den - (l * den + p) + num - 1) / num)) := by
      unfold Hid takeP; rw [if_pos hg, hfe]; rfl
    clear hg hgf hfe
    go_wp2_with fail
    refine (HFI.out _).mono ?_
    rintro x w3 ⟨rfl, hb3⟩
    obtain ⟨w4, hw4⟩ : ∃ w4, w3.alloc (.cells #[.int .i64 num, .int .i64 den, .int .i64 burst, .int .i64 l, .int .i64 p, .int .i64 a] 23) = w4 := ⟨_, rfl⟩
    have hb34 : Below w3.heap.size w3 w4 := by rw [← hw4]; exact (Below.refl _ _).alloc (Nat.le_refl _) _
    have HB3 : Hid (Below w.heap.size w w3) := (HZ0.out.later hb3).bel
    have HU1 : Hid (Box w w4 (w.heap.size + 1) Bk.zero) := (HZ1.out.later hb3).later hb34
    have HC4 : Hid (Box w w4 w3.heap.size ⟨num, den, burst, l, p, a⟩) := by
      have := Box.new w3 ⟨num, den, burst, l, p, a⟩
      simp only [hw4] at this
      exact this.over HB3.out
    have hlt : w.heap.size + 1 < w3.heap.size := (HZ1.out.later hb3).at_.lt
    clear c0 c1 c2 c3 c4 c5 hb3 hb34
    obtain ⟨c0, c1, c2, c3, c4, c5⟩ := HC4.out.at_
    obtain ⟨z0, z1, z2, z3, z4, z5⟩ := HU1.out.at_
    simp only [Bk.zero] at z0 z1 z2 z3 z4 z5
    simp only at c0 c1 c2 c3 c4 c5
    have f0 := HU1.out.fr 0
    have f1 := HU1.out.fr 1
    have f2 := HU1.out.fr 2
    have f3 := HU1.out.fr 3
    have f4 := HU1.out.fr 4
    have f5 := HU1.out.fr 5
    have k3 := HC4.out.fr 3
    have hne1 : ¬ w3.heap.size = w.heap.size + 1 := by omega
    have hne2 : ¬ w.heap.size + 1 = w3.heap.size := by omega
    by_cases h1 : n < 0
    · have HE : Hid (takeP ⟨num, den, burst, lvl, part, at_⟩ now n = (⟨num, den, burst, l, p, a⟩, -1)) := by unfold Hid; rw [HT.out, if_pos (.inl h1)]
      go_wp2
      refine bodyPost_ret (v := .tuple #[Bk.v ⟨num, den, burst, l, p, a⟩, .int .i64 (-1)]) ?_ rfl ⟨by rw [HE.out], putBk_below ⟨num, den, burst, l, p, a⟩ HC4.out.bel (by omega)⟩
      simp only [results, hresRtake]
      go_simp
    by_cases h2 : burst < n
    · have HE : Hid (takeP ⟨num, den, burst, lvl, part, at_⟩ now n = (⟨num, den, burst, l, p, a⟩, -1)) := by unfold Hid; rw [HT.out, if_pos (.inr h2)]
      go_wp2
      refine bodyPost_ret (v := .tuple #[Bk.v ⟨num, den, burst, l, p, a⟩, .int .i64 (-1)]) ?_ rfl ⟨by rw [HE.out], putBk_below ⟨num, den, burst, l, p, a⟩ HC4.out.bel (by omega)⟩
      simp only [results, hresRtake]
      go_simp
    have hl0 := HGF.out.l0
    have hl1 := HGF.out.l1
    have hb1 := HGF.out.b1
    simp only at hl0 hl1 hb1
    by_cases h3 : n ≤ l
    · have HE : Hid (takeP ⟨num, den, burst, lvl, part, at_⟩ now n = (⟨num, den, burst, l - n, p, a⟩, 0)) := by unfold Hid; rw [HT.out, if_neg (by omega), if_pos h3]
      have hw9 : wrap64 (l - n) = l - n := by unfold wrap64; omega
      go_wp2
      refine bodyPost_ret (v := .tuple #[Bk.v ⟨num, den, burst, l - n, p, a⟩, .int .i64 0]) ?_ rfl ⟨by rw [HE.out], ?_⟩
      · simp only [results, hresRtake]
        go_simp
      · repeat (refine Below.setCell ?_ (by simp only; omega) _)
        exact HC4.out.bel
    · have HE : Hid (takeP ⟨num, den, burst, lvl, part, at_⟩ now n = (⟨num, den, burst, l, p, a⟩, (n * den - (l * den + p) + num - 1) / num)) := by unfold Hid; rw [HT.out, if_neg (by omega), if_neg h3]
      have hp := HGF.out.prod
      have hp0 := HGF.out.p0
      have hp1 := HGF.out.p1
      have hd0 := HGF.out.d0
      have hd1 := HGF.out.d1
      have hn0 := HGF.out.n0
      have hn1 := HGF.out.n1
      simp only at hp hp0 hp1 hd0 hd1 hn0 hn1
      have hnd := mul_le_of (a := n) (b := den) (m := 1073741824) (n := 1048576) (by omega) (by omega) (by omega) hd1
      have hnl : (l + 1) * den ≤ n * den := Int.mul_le_mul_of_nonneg_right (show l + 1 ≤ n by omega) (show 0 ≤ den by omega)
      rw [Int.add_mul] at hnl
      have hv1 : IntKind.i64.wrap (n * den) = n * den := IntWalk.i64_in _ (by omega)
      have hv2 : IntKind.i64.wrap (n * den - (l * den + p)) = n * den - (l * den + p) := IntWalk.i64_in _ (by omega)
      have hL0 : 0 ≤ n * den - (l * den + p) ∧ n * den - (l * den + p) ≤ 1125899906842624 := by omega
      have HPR : Hid (∀ u, Calls Try.prog 22 #[Bk.v ⟨num, den, burst, l, p, a⟩] u fun e w' => e = .returned (.int .i64 (l * den + p)) ∧ Below u.heap.size u w') := fun u => rpartsOf ⟨num, den, burst, l, p, a⟩ HGF.out u
      clear hp hp0 hp1 hnd hnl
      go_wp2
      go_region_held3 (fun u => u.cell? ⟨w3.heap.size, 0, none⟩ = some (.int .i64 num) ∧ u.cell? ⟨w3.heap.size, 1, none⟩ = some (.int .i64 den) ∧ u.cell? ⟨w3.heap.size, 2, none⟩ = some (.int .i64 burst) ∧ u.cell? ⟨w3.heap.size, 3, none⟩ = some (.int .i64 l) ∧ u.cell? ⟨w3.heap.size, 4, none⟩ = some (.int .i64 p) ∧ u.cell? ⟨w3.heap.size, 5, none⟩ = some (.int .i64 a)) (go_keep) (first
        | (go_at_call 22
           refine (HPR.out _).mono ?_
           rintro e w5 ⟨rfl, hb5⟩
           have HV0 : Hid (Box w w5 w3.heap.size ⟨num, den, burst, l, p, a⟩) := HC4.out.later ((Below.drew (Below.refl _ _)).trans hb5)
           have HV1 : Hid (Box w w5 (w.heap.size + 1) Bk.zero) := HU1.out.later ((Below.drew (Below.refl _ _)).trans hb5)
           rcases HV0.out.at_ with ⟨a0, a1, a2, a3, a4, a5⟩))
      clear c0 c1 c2 c3 c4 c5 z0 z1 z2 z3 z4 z5 f0 f1 f2 f3 f4 f5 k3
      obtain ⟨c0, c1, c2, c3, c4, c5⟩ := HV0.out.at_
      obtain ⟨z0, z1, z2, z3, z4, z5⟩ := HV1.out.at_
      simp only [Bk.zero] at z0 z1 z2 z3 z4 z5
      simp only at c0 c1 c2 c3 c4 c5
      have f0 := HV1.out.fr 0
      have f1 := HV1.out.fr 1
      have f2 := HV1.out.fr 2
      have f3 := HV1.out.fr 3
      have f4 := HV1.out.fr 4
      have f5 := HV1.out.fr 5
      generalize n * den - (l * den + p) = L at *
      have hv5 : IntKind.i64.wrap (L + num) = L + num := IntWalk.i64_in _ (by omega)
      have hv6 : IntKind.i64.wrap (L + num - 1) = L + num - 1 := IntWalk.i64_in _ (by omega)
      have hnz : ¬ num = 0 := by omega
      have hq : 0 ≤ L + num - 1 := by omega
      have e1 : Int.tdiv (L + num - 1) num = (L + num - 1) / num := Int.tdiv_eq_ediv_of_nonneg hq
      have e3 : 0 ≤ (L + num - 1) / num := Int.ediv_nonneg hq (by omega)
      have e4 : (L + num - 1) / num ≤ L + num - 1 := Int.ediv_le_self _ hq
      have hv7 : IntKind.i64.wrap ((L + num - 1) / num) = (L + num - 1) / num := IntWalk.i64_in _ (by omega)
      go_wp2
      go_region_held3 (fun u => u.cell? ⟨w3.heap.size, 0, none⟩ = some (.int .i64 num) ∧ u.cell? ⟨w3.heap.size, 1, none⟩ = some (.int .i64 den) ∧ u.cell? ⟨w3.heap.size, 2, none⟩ = some (.int .i64 burst) ∧ u.cell? ⟨w3.heap.size, 3, none⟩ = some (.int .i64 l) ∧ u.cell? ⟨w3.heap.size, 4, none⟩ = some (.int .i64 p) ∧ u.cell? ⟨w3.heap.size, 5, none⟩ = some (.int .i64 a)) (go_keep) (fail)
      go_wp2
      refine bodyPost_ret (v := .tuple #[Bk.v ⟨num, den, burst, l, p, a⟩, .int .i64 ((L + num - 1) / num)]) ?_ rfl ⟨by rw [HE.out], Below.drew (putBk_below ⟨num, den, burst, l, p, a⟩ HV0.out.bel (by omega))⟩
      simp only [results, hresRtake]
      go_simp
  · have HE : Hid (takeP ⟨num, den, burst, lvl, part, at_⟩ now n = (⟨num, den, burst, lvl, part, at_⟩, -1)) := by unfold Hid takeP; rw [if_neg hg]
    obtain ⟨z0, z1, z2, z3, z4, z5⟩ := HZ1.out.at_
    simp only [Bk.zero] at z0 z1 z2 z3 z4 z5
    have f0 := HZ1.out.fr 0
    have f1 := HZ1.out.fr 1
    have f2 := HZ1.out.fr 2
    have f3 := HZ1.out.fr 3
    have f4 := HZ1.out.fr 4
    have f5 := HZ1.out.fr 5
    rw [chkB_bad hg]
    clear hg
    go_wp2
    refine bodyPost_ret (v := .tuple #[Bk.v ⟨num, den, burst, lvl, part, at_⟩, .int .i64 (-1)]) ?_ rfl ⟨by rw [HE.out], putBk_below ⟨num, den, burst, lvl, part, at_⟩ HZ0.out.bel (by omega)⟩
    simp only [results, hresRtake]
    go_simp
end Go.Proofs.Ytbeaefokpggmpaa
