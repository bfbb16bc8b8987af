import Derived.Test.YthfnbcicpcbgjaaKhd
/-! keydir: dirs without keys, and the dir that there is not. -/
namespace Go.Proofs.Ythfnbcicpcbgjaa
open Go.RowKit Go.Shelf Plain
set_option linter.unusedVariables false
set_option linter.unusedSimpArgs false

/-- A dir that there is not, or one without keys. -/
def EmptyAt (w : World) (da : Option Addr) : Prop := da = none ∨ ∃ gd : Nat, da = some ⟨gd, 0, none⟩ ∧ w.cell? ⟨gd, 0, none⟩ = some (.pointer none)
theorem EmptyAt.later {w w' : World} {da : Option Addr} (h : EmptyAt w da) (hb : Below w.heap.size w w') : EmptyAt w' da := by
  rcases h with h | ⟨gd, h, hc⟩
  · exact .inl h
  · exact .inr ⟨gd, h, (hb.cell (p := ⟨gd, 0, none⟩) (cell_lt hc)).trans hc⟩
theorem topE {w : World} {da : Option Addr} (h : EmptyAt w da) : Calls Try.prog 35 #[.pointer da] w fun e w' => e = .returned (.pointer none) ∧ w' = w := by
  rcases h with rfl | ⟨gd, rfl, hc⟩
  · exact topNil w
  · exact topOf gd none w hc

theorem findNil (key : ByteArray) (w : World) : Calls Try.prog 36 #[.pointer none, .string key] w fun e w' => e = .returned (.pointer none) ∧ w' = w := by
  go_enter Try.func36, Try.ntmps36
  go_wp2
  go_loopg [0] 0 (fun gk s0 wx => s0 = .pointer none ∧ wx = w)
  case atStart => exact ⟨rfl, rfl⟩
  case round =>
    obtain ⟨rfl, rfl⟩ := hrel
    go_wp2
    go_ret
    exact ⟨rfl, rfl⟩
theorem sizeNil (w : World) : Calls Try.prog 38 #[.pointer none] w fun e w' => e = .returned (.int .i64 0) ∧ w' = w := sizeOf (P := fun _ => True) (n := 0) (l := []) w ⟨rfl, rfl⟩

set_option maxHeartbeats 2000000 in
theorem getE {da : Option Addr} (key : ByteArray) (w : World) (h : EmptyAt w da) : Calls Try.prog 14 #[.pointer da, .string key] w fun e w' => e = .returned (.tuple #[En.zero.v, .bool false]) ∧ Below w.heap.size w w' := by
  obtain ⟨w0, hw0⟩ : ∃ w0, w.alloc (.cells #[.int .i64 0, .int .i64 0, .int .i64 0, .int .i64 0, .int .i64 0, .bool false] 26) = w0 := ⟨_, rfl⟩
  have hb0 : Below w.heap.size w w0 := by rw [← hw0]; exact (Below.refl _ _).alloc (Nat.le_refl _) _
  have HT : Hid (Calls Try.prog 35 #[.pointer da] w0 fun e w' => e = .returned (.pointer none) ∧ w' = w0) := topE (h.later hb0)
  have HF : Hid (Calls Try.prog 36 #[.pointer none, .string key] w0 fun e w' => e = .returned (.pointer none) ∧ w' = w0) := findNil key w0
  have HE : Hid (Below w.heap.size w (putEn w0 w.heap.size En.zero)) := putEn_below En.zero hb0 (Nat.le_refl _)
  obtain ⟨r0, r1, r2, r3, r4, r5⟩ : EnAt w0 w.heap.size En.zero := by rw [← hw0]; exact EnAt.new w En.zero
  have hfr : ∀ j, w0.frozen? ⟨w.heap.size, j, none⟩ = false := fun j => by rw [← hw0]; exact World.frozen?_alloc_at _ _ _ _ rfl
  have f0 := hfr 0
  have f1 := hfr 1
  have f2 := hfr 2
  have f3 := hfr 3
  have f4 := hfr 4
  have f5 := hfr 5
  simp only [En.zero] at r0 r1 r2 r3 r4 r5
  clear hfr hb0 h
  go_enter Try.func14, Try.ntmps14
  go_wp2_with fail
  refine HT.out.mono ?_
  rintro e wk ⟨rfl, hwk⟩
  obtain rfl := hwk.symm
  go_wp2_with fail
  refine HF.out.mono ?_
  rintro e wk ⟨rfl, hwk⟩
  obtain rfl := hwk.symm
  go_wp2
  refine bodyPost_ret (v := .tuple #[En.zero.v, .bool false]) ?_ rfl ⟨rfl, HE.out⟩
  simp only [results, hresGet, En.zero]
  go_simp

theorem lenE {da : Option Addr} (w : World) (h : EmptyAt w da) : Calls Try.prog 20 #[.pointer da] w fun e w' => e = .returned (.int .i64 0) ∧ w' = w := by
  have HT : Hid (Calls Try.prog 35 #[.pointer da] w fun e w' => e = .returned (.pointer none) ∧ w' = w) := topE h
  have HZ : Hid (Calls Try.prog 38 #[.pointer none] w fun e w' => e = .returned (.int .i64 0) ∧ w' = w) := sizeNil w
  go_enter Try.func20, Try.ntmps20
  go_wp2_with fail
  refine HT.out.mono ?_
  rintro e w1 ⟨rfl, rfl⟩
  go_wp2_with fail
  refine HZ.out.mono ?_
  rintro e w2 ⟨rfl, rfl⟩
  go_wp2
  go_ret
  exact ⟨rfl, rfl⟩

theorem rankE {da : Option Addr} (key : ByteArray) (w : World) (h : EmptyAt w da) : Calls Try.prog 23 #[.pointer da, .string key] w fun e w' => e = .returned (.int .i64 0) ∧ w' = w := by
  have HT : Hid (Calls Try.prog 35 #[.pointer da] w fun e w' => e = .returned (.pointer none) ∧ w' = w) := topE h
  go_enter Try.func23, Try.ntmps23
  go_wp2_with fail
  refine HT.out.mono ?_
  rintro e wk ⟨rfl, hwk⟩
  obtain rfl := hwk.symm
  go_wp2
  go_loopg [5, 6] 0 (fun gk s5 s6 wx => s5 = .int .i64 0 ∧ s6 = .pointer none ∧ wx = w)
  case atStart => exact ⟨rfl, rfl, rfl⟩
  case round =>
    obtain ⟨rfl, rfl, rfl⟩ := hrel
    go_wp2
    go_ret
    exact ⟨rfl, rfl⟩

set_option maxHeartbeats 2000000 in
theorem removeE {da : Option Addr} (key : ByteArray) (w : World) (h : EmptyAt w da) : Calls Try.prog 19 #[.pointer da, .string key] w fun e w' => e = .returned (.tuple #[En.zero.v, .bool false]) ∧ Below w.heap.size w w' := by
  obtain ⟨w0, hw0⟩ : ∃ w0, w.alloc (.cells #[.int .i64 0, .int .i64 0, .int .i64 0, .int .i64 0, .int .i64 0, .bool false] 26) = w0 := ⟨_, rfl⟩
  have hb0 : Below w.heap.size w w0 := by rw [← hw0]; exact (Below.refl _ _).alloc (Nat.le_refl _) _
  have HG : Hid (Calls Try.prog 14 #[.pointer da, .string key] w0 fun e w' => e = .returned (.tuple #[En.zero.v, .bool false]) ∧ Below w0.heap.size w0 w') := getE key w0 (h.later hb0)
  have HR0 : EnAt w0 w.heap.size En.zero := by rw [← hw0]; exact EnAt.new w En.zero
  have hfr : ∀ j, w0.frozen? ⟨w.heap.size, j, none⟩ = false := fun j => by rw [← hw0]; exact World.frozen?_alloc_at _ _ _ _ rfl
  have HRS : Hid (∀ u, Below w0.heap.size w0 u → EnAt u w.heap.size En.zero ∧ ∀ j, u.frozen? ⟨w.heap.size, j, none⟩ = false) := fun u hu => ⟨HR0.block (hu.block _ HR0.lt), fun j => (hu.frozen (p := ⟨w.heap.size, j, none⟩) HR0.lt).trans (hfr j)⟩
  obtain ⟨old, hold⟩ : ∃ old, En.zero = old := ⟨_, rfl⟩
  have HOLD : Hid (En.zero = old) := hold
  rw [hold] at HG
  clear h hfr HR0 hold
  go_enter Try.func19, Try.ntmps19
  go_wp2_with fail
  refine HG.out.mono ?_
  rintro e w1 ⟨rfl, hb1⟩
  obtain ⟨w2, hw2⟩ : ∃ w2, w1.alloc (.cells #[.int .i64 old.seg, .int .i64 old.pos, .int .i64 old.size, .int .i64 old.off, .int .i64 old.time, .bool old.tomb] 26) = w2 := ⟨_, rfl⟩
  have hb12 : Below w1.heap.size w1 w2 := by rw [← hw2]; exact (Below.refl _ _).alloc (Nat.le_refl _) _
  have hb02 : Below w0.heap.size w0 w2 := hb1.trans (hb12.mono hb1.size)
  have hb2 : Below w.heap.size w w2 := hb0.trans (hb02.mono hb0.size)
  have HE : Hid (Below w.heap.size w (putEn w2 w.heap.size old)) := putEn_below old hb2 (Nat.le_refl _)
  obtain ⟨o0, o1, o2, o3, o4, o5⟩ : EnAt w2 w1.heap.size old := by rw [← hw2]; exact EnAt.new w1 old
  obtain ⟨⟨r0, r1, r2, r3, r4, r5⟩, hfr⟩ := HRS.out w2 hb02
  have f0 := hfr 0
  have f1 := hfr 1
  have f2 := hfr 2
  have f3 := hfr 3
  have f4 := hfr 4
  have f5 := hfr 5
  simp only [En.zero] at r0 r1 r2 r3 r4 r5
  clear hfr hb0 hb1 hb12 hb02 hb2 HRS
  go_wp2
  refine bodyPost_ret (v := .tuple #[old.v, .bool false]) ?_ rfl ⟨by rw [HOLD.out], HE.out⟩
  simp only [results, hresRemove]
  go_simp
end Go.Proofs.Ythfnbcicpcbgjaa
