import Derived.Test.YthfnbcicpcbgjaaKtk
import Derived.Test.YthfnbcicpcbgjaaKrg
/-! keydir: a little dir does what the document shows. -/
namespace Go.Proofs.Ythfnbcicpcbgjaa
open Go.RowKit Plain
set_option linter.unusedVariables false
set_option linter.unusedSimpArgs false

def kb : ByteArray := ⟨#[98]⟩
def ka : ByteArray := ⟨#[97]⟩
def e1 : En := ⟨0, 0, 0, 1, 0, false⟩
def e7 : En := ⟨0, 0, 0, 7, 0, false⟩
theorem hd1 : findL kb [] = none := rfl
theorem hd2 : insL kb e1 [] = [⟨kb, e1⟩] := rfl
theorem kbb : kc kb kb = 0 := kc_self _
theorem kab : kc ka kb = -1 := by decide
theorem kba : kc kb ka = 1 := by decide
theorem hd3 : findL kb [⟨kb, e1⟩] = some ⟨kb, e1⟩ := by rw [findL_cons, if_pos kbb]
theorem hd4 : insL kb e7 [⟨kb, e1⟩] = [⟨kb, e7⟩] := by simp [insL, kbb]
theorem hd5 : noteB kb e7 [⟨kb, e7⟩] = false := by
  unfold noteB
  rw [findL_cons, if_pos kbb]
  rfl
theorem hd6 : noteL kb e7 [⟨kb, e7⟩] = [⟨kb, e7⟩] := by unfold noteL; rw [hd5]; rfl
theorem hd7 : noteB ka En.zero [⟨kb, e7⟩] = true := by
  unfold noteB
  rw [findL_cons, if_neg (by rw [kab]; omega)]
  rfl
theorem hd8 : noteL ka En.zero [⟨kb, e7⟩] = [⟨ka, En.zero⟩, ⟨kb, e7⟩] := by unfold noteL; rw [hd7]; simp [insL, kab]
theorem rng_all {lo hi : ByteArray} (h : lo.size = 0) (h2 : hi.size = 0) (l : List Ke) : rngL lo hi l = l := by
  unfold rngL
  rw [List.filter_eq_self]
  intro x _
  have e : lo.data.toList = [] := by
    have h3 : lo.data.size = 0 := h
    rw [Array.eq_empty_of_size_eq_zero h3]
  have hk : kc x.key lo ≠ -1 := by
    unfold kc
    rw [e]
    cases x.key.data.toList <;> simp [cmpL]
  simp [rngB, hk, h2]

set_option maxHeartbeats 4000000 in
theorem headOf (w : World) : Calls Try.prog 17 #[] w fun e w' => e = .returned (.bool true) ∧ Below w.heap.size w w' := by
  go_enter Try.func17, Try.ntmps17
  go_wp2_with fail
  refine (newOf _).mono ?_
  rintro e wx ⟨rfl, hwx⟩
  have hd0 := DirAt.new (fun g => g = w.heap.size) w rfl
  rw [← hwx] at hd0
  have hsx : wx.heap.size = w.heap.size + 1 := by rw [hwx]; simp
  have hbx : Below w.heap.size w wx := by rw [hwx]; exact (Below.refl _ _).alloc (Nat.le_refl _) _
  have HB0 : Hid (Below w.heap.size w wx) := hbx
  have HP1 : Hid (∀ u, Below wx.heap.size wx u → Calls Try.prog 27 #[.pointer (some ⟨w.heap.size, 0, none⟩), .string kb, e1.v] u fun e w' => e = .returned (.tuple #[En.zero.v, .bool false, .int .i64 0]) ∧ u.grownBy w' (some w.heap.size) ∧ DirAt (fun g => g = w.heap.size) w' w.heap.size [⟨kb, e1⟩]) := fun u hu => putOf kb e1 u (fun g hg => by have := hu.size; omega) (hd0.later hu) (by decide) (by decide) (by simp)
  clear hwx hbx hd0
  go_wp2_with fail
  refine (HP1.out wx (Below.refl _ _)).mono ?_
  rintro e w1 ⟨rfl, hg1, hd1⟩
  have hs1 := hg1.size
  have HB1 : Hid (Below w.heap.size w w1) := HB0.out.trans (grow_below hg1 HB0.out.size (fun g e => by cases e; exact Nat.le_refl _))
  have HP2 : Hid (∀ u, Below w1.heap.size w1 u → Calls Try.prog 27 #[.pointer (some ⟨w.heap.size, 0, none⟩), .string kb, e7.v] u fun e w' => e = .returned (.tuple #[e1.v, .bool true, .int .i64 0]) ∧ u.grownBy w' (some w.heap.size) ∧ DirAt (fun g => g = w.heap.size) w' w.heap.size [⟨kb, e7⟩]) := fun u hu => by
    have h := putOf kb e7 u (fun g hg => by have := hu.size; omega) (hd1.later hu) (by decide) (by decide) (by simp)
    rw [hd3, hd4] at h
    exact h
  clear hg1 hd1 HP1
  go_wp2_with fail
  refine (HP2.out _ (by first | exact Below.refl _ _ | exact (Below.refl _ _).alloc (Nat.le_refl _) _)).mono ?_
  rintro e w2 ⟨rfl, hg2, hd2⟩
  have HZ : (w1.alloc (.cells #[.int .i64 En.zero.seg, .int .i64 En.zero.pos, .int .i64 En.zero.size, .int .i64 En.zero.off, .int .i64 En.zero.time, .bool En.zero.tomb] 26)).heap.size = w1.heap.size + 1 := by simp
  have hs2 := hg2.size
  rw [HZ] at hs2
  have HB2 : Hid (Below w.heap.size w w2) := (HB1.out.alloc HB1.out.size _).trans (grow_below hg2 (by rw [HZ]; omega) (fun g e => by cases e; exact Nat.le_refl _))
  obtain ⟨w3, hw3⟩ : ∃ w3, w2.alloc (.cells #[.int .i64 e1.seg, .int .i64 e1.pos, .int .i64 e1.size, .int .i64 e1.off, .int .i64 e1.time, .bool e1.tomb] 26) = w3 := ⟨_, rfl⟩
  have hb23 : Below w2.heap.size w2 w3 := by rw [← hw3]; exact (Below.refl _ _).alloc (Nat.le_refl _) _
  have hs3 := hb23.size
  have hx3 : EnAt w3 w2.heap.size e1 := by rw [← hw3]; exact EnAt.new w2 e1
  have HB3 : Hid (Below w.heap.size w w3) := HB2.out.trans (hb23.mono HB2.out.size)
  have HN1 : Hid (Calls Try.prog 10 #[.pointer (some ⟨w.heap.size, 0, none⟩), .string kb, e7.v] w3 fun e w' => e = .returned (.tuple #[.bool false, .int .i64 0]) ∧ w3.grownBy w' (some w.heap.size) ∧ DirAt (fun g => g = w.heap.size) w' w.heap.size [⟨kb, e7⟩]) := by
    have h := noteOf kb e7 w3 (fun g hg => by omega) (hd2.later hb23) (by decide) (by decide) (by simp)
    rw [hd5, hd6] at h
    exact h
  clear hg2 hd2 HP2 HZ hb23
  have HX3 : Hid (EnAt w3 w2.heap.size e1) := hx3
  go_wp2_with fail
  refine HN1.out.mono ?_
  rintro e w4 ⟨rfl, hg4, hd4⟩
  have hs4 := hg4.size
  have HB4 : Hid (Below w.heap.size w w4) := HB3.out.trans (grow_below hg4 HB3.out.size (fun g e => by cases e; exact Nat.le_refl _))
  have HX4 : Hid (EnAt w4 w2.heap.size e1) := HX3.out.block (hg4.block _ HX3.out.lt (fun e => by simp at e; omega))
  have HN2 : Hid (Calls Try.prog 10 #[.pointer (some ⟨w.heap.size, 0, none⟩), .string ka, En.zero.v] w4 fun e w' => e = .returned (.tuple #[.bool true, .int .i64 0]) ∧ w4.grownBy w' (some w.heap.size) ∧ DirAt (fun g => g = w.heap.size) w' w.heap.size [⟨ka, En.zero⟩, ⟨kb, e7⟩]) := by
    have h := noteOf ka En.zero w4 (fun g hg => by omega) hd4 (by decide) (by decide) (by simp)
    rw [hd7, hd8] at h
    exact h
  clear hg4 hd4 HN1 hx3
  go_wp2_with fail
  refine HN2.out.mono ?_
  rintro e w5 ⟨rfl, hg5, hd5'⟩
  have hs5 := hg5.size
  have HB5 : Hid (Below w.heap.size w w5) := HB4.out.trans (grow_below hg5 HB4.out.size (fun g e => by cases e; exact Nat.le_refl _))
  have HX5 : Hid (EnAt w5 w2.heap.size e1) := HX4.out.block (hg5.block _ HX4.out.lt (fun e => by simp at e; omega))
  have HD5 : Hid (DirAt (fun g => g = w.heap.size) w5 w.heap.size [⟨ka, En.zero⟩, ⟨kb, e7⟩]) := hd5'
  have HR : Hid (Calls Try.prog 16 #[.pointer (some ⟨w.heap.size, 0, none⟩), .string ⟨#[]⟩, .string ⟨#[]⟩, .int .i64 9] w5 fun e w' => ∃ v r, e = .returned v ∧ OwnKr w' v [Ke.r ⟨ka, En.zero⟩, Ke.r ⟨kb, e7⟩] r ∧ (∀ g, r = some g → w5.heap.size ≤ g) ∧ Below w5.heap.size w5 w') := by
    have h := rangeOf ⟨#[]⟩ ⟨#[]⟩ 9 w5 hd5' (by decide) (by decide) (by simp)
    rw [rng_all rfl rfl] at h
    exact h
  clear hg5 hd5' HN2
  go_wp2_with fail
  refine HR.out.mono ?_
  rintro e w6 ⟨v, r, rfl, ho6, hr6, hb6⟩
  have HB6 : Hid (Below w.heap.size w w6) := HB5.out.trans (hb6.mono HB5.out.size)
  obtain ⟨x0, x1, x2, x3, x4, x5⟩ := HX5.out.block (hb6.block _ HX5.out.lt)
  have HLN : Hid (Calls Try.prog 20 #[.pointer (some ⟨w.heap.size, 0, none⟩)] w6 fun e w' => e = .returned (.int .i64 2) ∧ w' = w6) := lenOf w6 (HD5.out.later hb6)
  obtain ⟨a6, c6, rfl, hc6, hl6⟩ := ho6.shape
  obtain ⟨g6, rfl, rfl⟩ : ∃ g6, r = some g6 ∧ a6 = some ⟨g6, 0, none⟩ := by
    rcases ho6 with ⟨_, h0, _⟩ | ⟨g6, c', e, e2, _⟩
    · simp at h0
    · injection e2 with e3 _ _; exact ⟨g6, e, e3⟩
  obtain ⟨p0, p1, p2, p3, p4, p5, p6⟩ := ho6.at (j := 0) (by simp)
  obtain ⟨q0, q1, q2, q3, q4, q5, q6⟩ := ho6.at (j := 1) (by simp)
  simp only [Ke.r, List.getD_cons_zero, List.getD_cons_succ, Nat.zero_mul, Nat.one_mul, Nat.zero_add, Nat.reduceAdd, e1, e7, En.zero, ka, kb] at p0 p1 p2 p3 p4 p5 p6 q0 q1 q2 q3 q4 q5 q6 x0 x1 x2 x3 x4 x5
  clear ho6 hb6 HR HX3 HX4 HX5
  go_wp2_with fail
  refine HLN.out.mono ?_
  rintro e wz ⟨rfl, hwz⟩
  obtain rfl := hwz.symm
  clear HLN
  go_wp2
  go_ret
  exact ⟨rfl, HB6.out⟩
end Go.Proofs.Ythfnbcicpcbgjaa
