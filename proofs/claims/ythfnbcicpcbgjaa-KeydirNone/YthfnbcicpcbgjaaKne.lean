import Derived.Test.YthfnbcicpcbgjaaKnd
/-! keydir: the walk of the law of none. -/
namespace Go.Proofs.Ythfnbcicpcbgjaa
open Go.RowKit Plain
set_option linter.unusedVariables false
set_option linter.unusedSimpArgs false

def eS : En := ⟨1, 0, 0, 0, 0, false⟩
theorem hn1 : insL ka eS [] = [⟨ka, eS⟩] := rfl
theorem hn2 : findL ka [⟨ka, eS⟩] = some ⟨ka, eS⟩ := by rw [findL_cons, if_pos (kc_self _)]
set_option maxHeartbeats 4000000 in
theorem noneWalk (w : World) : Calls Try.prog 7 #[] w fun e w' => e = .returned (.bool true) ∧ Below w.heap.size w w' := by
  obtain ⟨z, hz⟩ : ∃ z, En.zero = z := ⟨_, rfl⟩
  have HZ : Hid (En.zero = z) := hz
  have HPN : Hid (Calls Try.prog 27 #[.pointer none, .string ka, eS.v] w fun e w' => e = .returned (.tuple #[z.v, .bool false, .int .i64 1]) ∧ Below w.heap.size w w') := by
    have h := putNil ka eS w
    rw [hz] at h
    exact h
  have HNN : Hid (∀ u, Calls Try.prog 10 #[.pointer none, .string ka, eS.v] u fun e w' => e = .returned (.tuple #[.bool false, .int .i64 1]) ∧ Below u.heap.size u w') := fun u => noteNil ka eS u
  clear hz
  go_enter Try.func7, Try.ntmps7
  go_wp2_with fail
  refine HPN.out.mono ?_
  rintro e w1 ⟨rfl, hb1⟩
  obtain ⟨w2, hw2⟩ : ∃ w2, w1.alloc (.cells #[.int .i64 z.seg, .int .i64 z.pos, .int .i64 z.size, .int .i64 z.off, .int .i64 z.time, .bool z.tomb] 26) = w2 := ⟨_, rfl⟩
  have HB2 : Hid (Below w.heap.size w w2) := by unfold Hid; rw [← hw2]; exact hb1.alloc hb1.size _
  clear hb1
  go_wp2_with fail
  refine (HNN.out w2).mono ?_
  rintro e w3 ⟨rfl, hb3⟩
  have HB3 : Hid (Below w.heap.size w w3) := below_step HB2.out hb3
  clear hb3
  go_wp2_with fail
  refine (freezeNil w3).mono ?_
  rintro e wk ⟨rfl, hwk⟩
  obtain rfl := hwk.symm
  go_wp2_with fail
  refine (nothingOf w3 (.inl rfl)).mono ?_
  rintro e w4 ⟨rfl, hb4⟩
  have HB4 : Hid (Below w.heap.size w w4) := below_step HB3.out hb4
  clear hb4
  obtain ⟨w5, hw5⟩ : ∃ w5, w4.alloc (.cells #[.pointer none] 63) = w5 := ⟨_, rfl⟩
  have HD5 : Hid (DirAt (fun g => g = w4.heap.size) w5 w4.heap.size []) := by rw [← hw5]; exact DirAt.new _ w4 rfl
  have hs5 : w5.heap.size = w4.heap.size + 1 := by rw [← hw5]; simp
  have hb45 : Below w4.heap.size w4 w5 := by rw [← hw5]; exact (Below.refl _ _).alloc (Nat.le_refl _) _
  have HB5 : Hid (Below w.heap.size w w5) := below_step HB4.out hb45
  have hc5 : w5.cell? ⟨w4.heap.size, 0, none⟩ = some (.pointer none) := by rw [← hw5]; exact World.cell?_alloc_at _ _ _ _ rfl
  have HN5 : Hid (Calls Try.prog 29 #[.pointer (some ⟨w4.heap.size, 0, none⟩)] w5 fun e w' => e = .returned (.bool true) ∧ Below w5.heap.size w5 w') := nothingOf w5 (.inr ⟨_, rfl, hc5⟩)
  clear hc5 hb45
  go_wp2_with fail
  refine HN5.out.mono ?_
  rintro e w6 ⟨rfl, hb6⟩
  have HB56 : Hid (Below w5.heap.size w5 w6) := hb6
  clear hb6
  go_wp2_with fail
  refine (newOf w6).mono ?_
  rintro e w7 ⟨rfl, hw7⟩
  have hc7 : w7.cell? ⟨w6.heap.size, 0, none⟩ = some (.pointer none) := by rw [hw7]; exact World.cell?_alloc_at _ _ _ _ rfl
  have HB57 : Hid (Below w5.heap.size w5 w7) := by
    have h : Below w6.heap.size w6 w7 := by rw [hw7]; exact (Below.refl _ _).alloc (Nat.le_refl _) _
    exact below_step HB56.out h
  have HN7 : Hid (Calls Try.prog 29 #[.pointer (some ⟨w6.heap.size, 0, none⟩)] w7 fun e w' => e = .returned (.bool true) ∧ Below w7.heap.size w7 w') := nothingOf w7 (.inr ⟨_, rfl, hc7⟩)
  clear hc7 hw7
  go_wp2_with fail
  refine HN7.out.mono ?_
  rintro e w8 ⟨rfl, hb8⟩
  have HB58 : Hid (Below w5.heap.size w5 w8) := below_step HB57.out hb8
  have hs8 := HB58.out.size
  have HP8 : Hid (Calls Try.prog 27 #[.pointer (some ⟨w4.heap.size, 0, none⟩), .string ka, eS.v] w8 fun e w' => e = .returned (.tuple #[z.v, .bool false, .int .i64 0]) ∧ w8.grownBy w' (some w4.heap.size) ∧ DirAt (fun g => g = w4.heap.size) w' w4.heap.size [⟨ka, eS⟩]) := by
    have h := putOf ka eS w8 (fun g hg => by omega) (HD5.out.later HB58.out) (by decide) (by decide) (by simp)
    rw [hn1] at h
    rw [← HZ.out]
    exact h
  clear hb8
  go_wp2_with fail
  refine HP8.out.mono ?_
  rintro e w9 ⟨rfl, hg9, hd9⟩
  have HB9 : Hid (Below w.heap.size w w9) := (below_step HB5.out HB58.out).trans (grow_below hg9 (by have := HB5.out.size; omega) (fun g e => by cases e; exact HB4.out.size))
  obtain ⟨wa, hwa⟩ : ∃ wa, w9.alloc (.cells #[.int .i64 z.seg, .int .i64 z.pos, .int .i64 z.size, .int .i64 z.off, .int .i64 z.time, .bool z.tomb] 26) = wa := ⟨_, rfl⟩
  have hba : Below w9.heap.size w9 wa := by rw [← hwa]; exact (Below.refl _ _).alloc (Nat.le_refl _) _
  have HBa : Hid (Below w.heap.size w wa) := below_step HB9.out hba
  have HGa : Hid (Calls Try.prog 14 #[.pointer (some ⟨w4.heap.size, 0, none⟩), .string ka] wa fun e w' => e = .returned (.tuple #[eS.v, .bool true]) ∧ Below wa.heap.size wa w') := by
    have h := getOf ka wa (hd9.later hba) (by decide)
    rw [hn2] at h
    exact h
  clear hg9 hd9 hba
  go_wp2_with fail
  refine HGa.out.mono ?_
  rintro e wb ⟨rfl, hbb⟩
  obtain ⟨wc, hwc⟩ : ∃ wc, wb.alloc (.cells #[.int .i64 eS.seg, .int .i64 eS.pos, .int .i64 eS.size, .int .i64 eS.off, .int .i64 eS.time, .bool eS.tomb] 26) = wc := ⟨_, rfl⟩
  have hbc : Below wb.heap.size wb wc := by rw [← hwc]; exact (Below.refl _ _).alloc (Nat.le_refl _) _
  have HBc : Hid (Below w.heap.size w wc) := below_step HBa.out (below_step hbb hbc)
  obtain ⟨x0, x1, x2, x3, x4, x5⟩ : EnAt wc wb.heap.size eS := by rw [← hwc]; exact EnAt.new wb eS
  simp only [eS] at x0 x1 x2 x3 x4 x5
  clear hbb hbc
  go_wp2_with fail
  refine (headOf wc).mono ?_
  rintro e wd ⟨rfl, hbd⟩
  have HBd : Hid (Below w.heap.size w wd) := below_step HBc.out hbd
  clear hbd
  go_wp2
  go_ret
  exact ⟨rfl, HBd.out⟩
end Go.Proofs.Ythfnbcicpcbgjaa
