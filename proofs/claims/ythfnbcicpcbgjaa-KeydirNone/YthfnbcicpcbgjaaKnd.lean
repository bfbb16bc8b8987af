import Derived.Test.YthfnbcicpcbgjaaKnc
/-! keydir: what a dir without keys answers. -/
namespace Go.Proofs.Ythfnbcicpcbgjaa
open Go.RowKit Go.Shelf Plain
attribute [local go_sem] Oper.semAt_some
set_option linter.unusedVariables false
set_option linter.unusedSimpArgs false

theorem hresNothing : Try.f29.results = #[.cell 2 4] := by kernel_rfl
theorem below_step {w u w' : World} (h : Below w.heap.size w u) (k : Below u.heap.size u w') : Below w.heap.size w w' := h.trans (k.mono h.size)

set_option maxRecDepth 100000 in
set_option maxHeartbeats 8000000 in
theorem nothingOf {da : Option Addr} (w : World) (h : EmptyAt w da) : Calls Try.prog 29 #[.pointer da] w fun e w' => e = .returned (.bool true) ∧ Below w.heap.size w w' := by
  refine (callsIn_wide (n := 6)).1 ?_
  have HEA : Hid (∀ u, Below w.heap.size w u → EmptyAt u da) := fun u hu => h.later hu
  have HGE : Hid (∀ u, Below w.heap.size w u → CallsIn Fence.wide 5 Try.prog 14 #[.pointer da, .string ⟨#[97]⟩] u fun e w' => e = .returned (.tuple #[En.zero.v, .bool false]) ∧ Below u.heap.size u w') := fun u hu => callsIn_wide.2 (getE _ u (h.later hu))
  have HRE : Hid (∀ u, Below w.heap.size w u → CallsIn Fence.wide 5 Try.prog 19 #[.pointer da, .string ⟨#[97]⟩] u fun e w' => e = .returned (.tuple #[En.zero.v, .bool false]) ∧ Below u.heap.size u w') := fun u hu => callsIn_wide.2 (removeE _ u (h.later hu))
  have HNT : Hid (∀ u, Below w.heap.size w u → CallsIn Fence.wide 5 Try.prog 22 #[.pointer da, .int .i64 0] u fun e w' => e = .returned (.tuple #[Ke.zero.v, .bool false]) ∧ Below u.heap.size u w') := fun u hu => callsIn_wide.2 (nthE 0 u (h.later hu))
  have HRG : Hid (∀ u, Below w.heap.size w u → CallsIn Fence.wide 5 Try.prog 16 #[.pointer da, .string ⟨#[]⟩, .string ⟨#[]⟩, .int .i64 9] u fun e w' => (∃ a c, e = .returned (.slice a 0 c)) ∧ Below u.heap.size u w') := fun u hu => callsIn_wide.2 (rangeE u (h.later hu) 9)
  have HLE : Hid (∀ u, Below w.heap.size w u → CallsIn Fence.wide 5 Try.prog 20 #[.pointer da] u fun e w' => e = .returned (.int .i64 0) ∧ w' = u) := fun u hu => callsIn_wide.2 (lenE u (h.later hu))
  have HRK : Hid (∀ u, Below w.heap.size w u → CallsIn Fence.wide 5 Try.prog 23 #[.pointer da, .string ⟨#[122]⟩] u fun e w' => e = .returned (.int .i64 0) ∧ w' = u) := fun u hu => callsIn_wide.2 (rankE _ u (h.later hu))
  have HPO : Hid (∀ u, Below w.heap.size w u → CallsIn Fence.wide 5 Try.prog 28 #[.pointer da, .string ⟨#[97]⟩, .int .i64 0, .int .i64 1, .int .i64 1] u fun e w' => e = .returned (.bool false) ∧ Below u.heap.size u w') := fun u hu => callsIn_wide.2 (pointE _ 0 1 1 u (h.later hu))
  obtain ⟨z, hz⟩ : ∃ z, En.zero = z := ⟨_, rfl⟩
  obtain ⟨y, hy⟩ : ∃ y, Ke.zero = y := ⟨_, rfl⟩
  have HZ : Hid (En.zero = z ∧ Ke.zero = y) := ⟨hz, hy⟩
  rw [hz] at HGE HRE
  rw [hy] at HNT
  clear hz hy
  obtain ⟨w0, hw0⟩ : ∃ w0, w.alloc (.cells #[.bool false] 4) = w0 := ⟨_, rfl⟩
  have hs0 : w0.heap.size = w.heap.size + 1 := by rw [← hw0]; simp
  have hb0 : Below w.heap.size w w0 := by rw [← hw0]; exact (Below.refl _ _).alloc (Nat.le_refl _) _
  have hres : w0.cell? ⟨w.heap.size, 0, none⟩ = some (.bool false) := by rw [← hw0]; exact World.cell?_alloc_at _ _ _ _ rfl
  have hrsf : w0.frozen? ⟨w.heap.size, 0, none⟩ = false := by rw [← hw0]; exact World.frozen?_alloc_at _ _ _ _ rfl
  have HRB : Hid (∀ u, Below w0.heap.size w0 u → u.cell? ⟨w.heap.size, 0, none⟩ = some (.bool false) ∧ u.frozen? ⟨w.heap.size, 0, none⟩ = false) := fun u hu => ⟨(hu.cell (p := ⟨w.heap.size, 0, none⟩) (by show w.heap.size < _; omega)).trans hres, (hu.frozen (p := ⟨w.heap.size, 0, none⟩) (by show w.heap.size < _; omega)).trans hrsf⟩
  have HB0 : Hid (Below w.heap.size w w0) := hb0
  refine callsIn_of_wp_marks Try.func29 rfl trivial ?_ rfl
  simp only [Try.ntmps29, List.size_toArray, List.length_cons, List.length_nil, Nat.reduceAdd, Nat.reduceSub, Array.replicate_succ, Array.replicate_zero, List.push_toArray, List.append_toArray, List.nil_append, List.cons_append]
  gi_wp2_with fail
  refine ⟨trivial, (HGE.out w0 hb0).mono ?_⟩
  rintro e w1 ⟨rfl, hb1⟩
  obtain ⟨w2, hw2⟩ : ∃ w2, w1.alloc (.cells #[.int .i64 z.seg, .int .i64 z.pos, .int .i64 z.size, .int .i64 z.off, .int .i64 z.time, .bool z.tomb] 26) = w2 := ⟨_, rfl⟩
  have hb12 : Below w1.heap.size w1 w2 := by rw [← hw2]; exact (Below.refl _ _).alloc (Nat.le_refl _) _
  have HB02 : Hid (Below w0.heap.size w0 w2) := below_step hb1 hb12
  have HX2 : Hid (EnAt w2 w1.heap.size z) := by rw [← hw2]; exact EnAt.new w1 z
  clear hb1 hb12 HGE
  gi_wp2_with fail
  refine ⟨trivial, (HRE.out w2 (below_step HB0.out HB02.out)).mono ?_⟩
  rintro e w3 ⟨rfl, hb3⟩
  obtain ⟨w4, hw4⟩ : ∃ w4, w3.alloc (.cells #[.int .i64 z.seg, .int .i64 z.pos, .int .i64 z.size, .int .i64 z.off, .int .i64 z.time, .bool z.tomb] 26) = w4 := ⟨_, rfl⟩
  have hb34 : Below w3.heap.size w3 w4 := by rw [← hw4]; exact (Below.refl _ _).alloc (Nat.le_refl _) _
  have hb24 : Below w2.heap.size w2 w4 := below_step hb3 hb34
  have HB04 : Hid (Below w0.heap.size w0 w4) := below_step HB02.out hb24
  have HX4 : Hid (EnAt w4 w1.heap.size z ∧ EnAt w4 w3.heap.size z) := ⟨HX2.out.block (hb24.block _ HX2.out.lt), by rw [← hw4]; exact EnAt.new w3 z⟩
  clear hb3 hb34 hb24 HRE HX2
  gi_wp2_with fail
  refine ⟨trivial, (HNT.out w4 (below_step HB0.out HB04.out)).mono ?_⟩
  rintro e w5 ⟨rfl, hb5⟩
  obtain ⟨w6, hw6⟩ : ∃ w6, w5.alloc (.cells #[.string y.key, .int .i64 y.e.seg, .int .i64 y.e.pos, .int .i64 y.e.size, .int .i64 y.e.off, .int .i64 y.e.time, .bool y.e.tomb] 28) = w6 := ⟨_, rfl⟩
  have hb56 : Below w5.heap.size w5 w6 := by rw [← hw6]; exact (Below.refl _ _).alloc (Nat.le_refl _) _
  have hb46 : Below w4.heap.size w4 w6 := below_step hb5 hb56
  have HB06 : Hid (Below w0.heap.size w0 w6) := below_step HB04.out hb46
  have HX6 : Hid (EnAt w6 w1.heap.size z ∧ EnAt w6 w3.heap.size z ∧ KeAt w6 w5.heap.size y) := ⟨HX4.out.1.block (hb46.block _ HX4.out.1.lt), HX4.out.2.block (hb46.block _ HX4.out.2.lt), by rw [← hw6]; exact KeAt.new w5 y⟩
  clear hb5 hb56 hb46 HNT HX4
  gi_wp2_with fail
  refine ⟨trivial, (HRG.out w6 (below_step HB0.out HB06.out)).mono ?_⟩
  rintro e w7 ⟨⟨a, c, rfl⟩, hb7⟩
  have HB07 : Hid (Below w0.heap.size w0 w7) := below_step HB06.out hb7
  have HX7 : EnAt w7 w1.heap.size z ∧ EnAt w7 w3.heap.size z ∧ KeAt w7 w5.heap.size y := ⟨HX6.out.1.block (hb7.block _ HX6.out.1.lt), HX6.out.2.1.block (hb7.block _ HX6.out.2.1.lt), HX6.out.2.2.block (hb7.block _ HX6.out.2.2.lt)⟩
  clear hb7 HRG HX6
  obtain ⟨⟨p0, p1, p2, p3, p4, p5⟩, ⟨q0, q1, q2, q3, q4, q5⟩, ⟨s0, s1, s2, s3, s4, s5, s6⟩⟩ := HX7
  simp only [← HZ.out.1, ← HZ.out.2, En.zero, Ke.zero] at p0 p1 p2 p3 p4 p5 q0 q1 q2 q3 q4 q5 s0 s1 s2 s3 s4 s5 s6
  have HBW7 : Hid (Below w.heap.size w w7) := below_step HB0.out HB07.out
  gi_wp2_with fail
  refine ⟨trivial, (HLE.out w7 HBW7.out).mono ?_⟩
  rintro e wk ⟨rfl, hwk⟩
  obtain rfl := hwk.symm
  gi_wp2_with fail
  refine ⟨trivial, (HRK.out w7 HBW7.out).mono ?_⟩
  rintro e wk ⟨rfl, hwk⟩
  obtain rfl := hwk.symm
  gi_wp2_with fail
  refine ⟨trivial, (HPO.out w7 HBW7.out).mono ?_⟩
  rintro e w8 ⟨rfl, hb8⟩
  have HB08 : Hid (Below w0.heap.size w0 w8) := below_step HB07.out hb8
  have HBW8 : Hid (Below w.heap.size w w8) := below_step HB0.out HB08.out
  clear hb8 HLE HRK HPO p0 p1 p2 p3 p4 p5 q0 q1 q2 q3 q4 q5 s0 s1 s2 s3 s4 s5 s6 HB07 HBW7 HB06 HB04 HB02
  obtain ⟨w9, hw9⟩ : ∃ w9, ((w8.alloc (.cells #[.pointer da] 29)).alloc (.cells #[.string ⟨#[]⟩] 9)).alloc (.cells #[.string ⟨#[]⟩] 9) = w9 := ⟨_, rfl⟩
  have HAL : Hid (CallsIn Fence.wide 5 Try.prog 24 #[.pointer da, .string ⟨#[]⟩, .string ⟨#[]⟩] w8 fun e w' => e = .returned (.func (.func 40) #[] #[.pointer (some ⟨w8.heap.size, 0, none⟩), .pointer (some ⟨w8.heap.size + 1, 0, none⟩), .pointer (some ⟨w8.heap.size + 2, 0, none⟩)]) ∧ w' = w9) := by
    have h := allIn 5 da ⟨#[]⟩ ⟨#[]⟩ w8
    rw [hw9] at h
    exact h
  have hs9 : w9.heap.size = w8.heap.size + 3 := by rw [← hw9]; simp
  have hb89 : Below w8.heap.size w8 w9 := by rw [← hw9]; exact (((Below.refl _ _).alloc (Nat.le_refl _) _).alloc (by simp) _).alloc (by simp; omega) _
  have hb09 : Below w0.heap.size w0 w9 := below_step HB08.out hb89
  have hbW9 : Below w.heap.size w w9 := below_step HB0.out hb09
  have hcap : CapAt w9 w8.heap.size (.pointer da) ⟨#[]⟩ ⟨#[]⟩ := by
    rw [← hw9]
    have e1 : (w8.alloc (.cells #[.pointer da] 29)).heap.size = w8.heap.size + 1 := by simp
    have e2 : ((w8.alloc (.cells #[.pointer da] 29)).alloc (.cells #[.string ⟨#[]⟩] 9)).heap.size = w8.heap.size + 2 := by simp
    have k1 : (w8.alloc (.cells #[.pointer da] 29)).cell? ⟨w8.heap.size, 0, none⟩ = some (.pointer da) := World.cell?_alloc_at _ _ _ _ rfl
    have k2 : ((w8.alloc (.cells #[.pointer da] 29)).alloc (.cells #[.string ⟨#[]⟩] 9)).cell? ⟨w8.heap.size + 1, 0, none⟩ = some (.string ⟨#[]⟩) := by rw [← e1]; exact World.cell?_alloc_at _ _ _ _ rfl
    refine ⟨?_, ?_, ?_⟩
    · exact cell_kept (cell_kept k1 (World.grownBy_alloc _ _ none) (fun r e => by cases e)) (World.grownBy_alloc _ _ none) (fun r e => by cases e)
    · exact cell_kept k2 (World.grownBy_alloc _ _ none) (fun r e => by cases e)
    · rw [← e2]; exact World.cell?_alloc_at _ _ _ _ rfl
  have hszw := HBW8.out.size
  have hsz0 := HB08.out.size
  have hseq := allStops da 5 none ⟨#[]⟩ ⟨#[]⟩ (by decide) (by decide) w.heap.size w8.heap.size 0 [] w9 (by omega) (by omega) hcap (fun u hu => topE ((HEA.out w9 hbW9).later hu)) ⟨rfl, rfl⟩ Srt.nil
  gi_wp2_with fail
  refine ⟨trivial, HAL.out.mono ?_⟩
  rintro e wk ⟨rfl, hwk⟩
  obtain rfl := hwk.symm
  gi_wp2_with fail
  refine wpIn_rangeFunc_ownH rfl (by omega) (gf := 40) (lb := #[.pointer (some ⟨w8.heap.size, 0, none⟩), .pointer (some ⟨w8.heap.size + 1, 0, none⟩), .pointer (some ⟨w8.heap.size + 2, 0, none⟩)]) rfl trivial (enters_of Try.func40 (by kernel_rfl) rfl) hseq belowK_t (belowK_b (by omega)) (Below.refl _ _) (fun _ => rfl)
    (fun _ u => Below w0.heap.size w0 u) (fun _ _ _ => False)
    (fun s A A' row h1 hg hr => h1.grown hg h1.size (fun k e => by have := (hr k e).1; omega))
    (fun _ _ _ _ _ h _ _ => h)
    hb09 (fun _ _ _ => True) (fun _ _ _ _ _ _ _ _ _ => trivial) ?assign ?body ?done ?stop
  case assign =>
    intro l' pre x V K hI hK
    gi_wp2
    exact hK _ _ (KeepsFrom.refl _ _) (Below.refl _ _) hI trivial
  case body =>
    rintro l' pre x a' V hl0 hrc hI hA hN
    exact absurd hN (by simp [rngL])
  case stop =>
    rintro D c pre V hD hpre hF hK
    exact hF.elim
  case done =>
    rintro D ys V hD hys hI hK
    obtain ⟨V1, hV1⟩ : ∃ V1, (V.alloc (.cells #[.pointer da] 29)).alloc (.cells #[.string ⟨#[]⟩] 9) = V1 := ⟨_, rfl⟩
    have HPR : Hid (CallsIn Fence.wide 5 Try.prog 25 #[.pointer da, .string ⟨#[]⟩] V fun e w' => e = .returned (.func (.func 42) #[] #[.pointer (some ⟨V.heap.size + 1, 0, none⟩), .pointer (some ⟨V.heap.size, 0, none⟩)]) ∧ w' = V1) := by
      have h := prefixIn 5 da ⟨#[]⟩ V
      rw [hV1] at h
      exact h
    have hbV1 : Below V.heap.size V V1 := by rw [← hV1]; exact ((Below.refl _ _).alloc (Nat.le_refl _) _).alloc (by simp) _
    have hsV1 : V1.heap.size = V.heap.size + 2 := by rw [← hV1]; simp
    have hb0V1 : Below w0.heap.size w0 V1 := below_step hI hbV1
    have hbWV1 : Below w.heap.size w V1 := below_step HB0.out hb0V1
    have hszV := hI.size
    have q1 : V1.cell? ⟨V.heap.size, 0, none⟩ = some (.pointer da) := by
      rw [← hV1]
      have k1 : (V.alloc (.cells #[.pointer da] 29)).cell? ⟨V.heap.size, 0, none⟩ = some (.pointer da) := World.cell?_alloc_at _ _ _ _ rfl
      exact cell_kept k1 (World.grownBy_alloc _ _ none) (fun r e => by cases e)
    have q2 : V1.cell? ⟨V.heap.size + 1, 0, none⟩ = some (.string ⟨#[]⟩) := by
      have e1 : (V.alloc (.cells #[.pointer da] 29)).heap.size = V.heap.size + 1 := by simp
      rw [← hV1, ← e1]
      exact World.cell?_alloc_at _ _ _ _ rfl
    have hseq2 := prefixStops (da := da) 5 (by omega) w.heap.size V.heap.size V1 (HEA.out V1 hbWV1) q1 q2
    have hKV1 : V1.heap[D]? = some (.deferred (some [])) := (hbV1.block D (Array.getElem?_eq_some_iff.1 hK).1).trans hK
    have hDV : D < V.heap.size := (Array.getElem?_eq_some_iff.1 hK).1
    gi_wp2_with fail
    refine ⟨trivial, HPR.out.mono ?_⟩
    rintro e wk ⟨rfl, hwk⟩
    obtain rfl := hwk.symm
    gi_wp2_with fail
    refine wpIn_rangeFunc_ownH rfl (by omega) (gf := 42) (lb := #[.pointer (some ⟨V.heap.size + 1, 0, none⟩), .pointer (some ⟨V.heap.size, 0, none⟩)]) rfl trivial (enters_of Try.func42 (by kernel_rfl) rfl) hseq2 belowK_t (belowK_b (by omega)) (Below.refl _ _) (fun _ => rfl)
      (fun _ u => Below V1.heap.size V1 u) (fun _ _ _ => False)
      (fun s A A' row h1 hg hr => h1.grown hg h1.size (fun k e => (hr k e).1))
      (fun _ _ _ _ _ h _ _ => h)
      (Below.refl _ _) (fun _ _ _ => True) (fun _ _ _ _ _ _ _ _ _ => trivial) ?assign2 ?body2 ?done2 ?stop2
    case assign2 =>
      intro l' pre x V' K hI' hK'
      gi_wp2
      exact hK' _ _ (KeepsFrom.refl _ _) (Below.refl _ _) hI' trivial
    case body2 =>
      rintro l' pre x a' V' hl0 hrc hI' hA hN
      exact absurd hN (by simp)
    case stop2 =>
      rintro D' c pre V' hD' hpre hF hK'
      exact hF.elim
    case done2 =>
      rintro D' ys' V' hD' hys' hI' hK'
      have hb0V' : Below w0.heap.size w0 V' := below_step hb0V1 hI'
      have HKD : Hid (V'.heap[D]? = some (.deferred (some []))) := (hI'.block D (by omega)).trans hKV1
      have HKD' : Hid (V'.heap[D']? = some (.deferred (some []))) := hK'
      obtain ⟨rb, rf⟩ := HRB.out V' hb0V'
      have HBV' : Hid (Below w.heap.size w V') := below_step HB0.out hb0V'
      have HNE : Hid (D ≠ D' ∧ w.heap.size < D ∧ w.heap.size < D') := ⟨by omega, by omega, by omega⟩
      clear hK'
      gi_wp2
      have e1 : (V'.setCell ⟨w.heap.size, 0, none⟩ (.bool true)).heap[D']? = some (.deferred (some [])) := (KeepsOthers.setCell _ _ _).same D' _ HKD'.out rfl
      have e2 : (V'.setCell ⟨w.heap.size, 0, none⟩ (.bool true)).heap[D]? = some (.deferred (some [])) := (KeepsOthers.setCell _ _ _).same D _ HKD.out rfl
      have g1 := grownBy_putObj' (V'.setCell ⟨w.heap.size, 0, none⟩ (.bool true)) D' (.deferred none)
      have e3 : ((V'.setCell ⟨w.heap.size, 0, none⟩ (.bool true)).putObj D' (.deferred none)).heap[D]? = some (.deferred (some [])) := (g1.block D (Array.getElem?_eq_some_iff.1 e2).1 (fun e => HNE.out.1 (by cases e; rfl))).trans e2
      have g2 := grownBy_putObj' ((V'.setCell ⟨w.heap.size, 0, none⟩ (.bool true)).putObj D' (.deferred none)) D (.deferred none)
      have c1 : (V'.setCell ⟨w.heap.size, 0, none⟩ (.bool true)).cell? ⟨w.heap.size, 0, none⟩ = some (.bool true) := World.cell?_setCell_same' _ _ _ (by rw [rb]; rfl)
      have c2 := cell_kept c1 g1 (fun k e => by cases e; exact ⟨_, e1, rfl⟩)
      have c3 := cell_kept c2 g2 (fun k e => by cases e; exact ⟨_, e3, rfl⟩)
      have hB1 : Below w.heap.size w (V'.setCell ⟨w.heap.size, 0, none⟩ (.bool true)) := HBV'.out.setCell (p := ⟨w.heap.size, 0, none⟩) (Nat.le_refl _) _
      have hB2 := hB1.grown g1 hB1.size (fun k e => by cases e; exact Nat.le_of_lt HNE.out.2.2)
      have hB3 := hB2.grown g2 hB2.size (fun k e => by cases e; exact Nat.le_of_lt HNE.out.2.1)
      refine ⟨by simp, .inl ⟨_, _, rfl, run_takeDeferred e1, ?_⟩⟩
      refine ⟨by simp, .inl ⟨_, _, rfl, run_takeDeferred e3, ?_⟩⟩
      refine ⟨.bool true, ?_, rfl, hB3⟩
      simp only [results, hresNothing]
      go_simp
end Go.Proofs.Ythfnbcicpcbgjaa
