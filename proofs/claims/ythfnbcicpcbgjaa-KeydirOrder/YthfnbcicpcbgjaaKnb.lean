import Derived.Test.YthfnbcicpcbgjaaKna
/-! keydir: the rest of what is asked of dirs without keys. -/
namespace Go.Proofs.Ythfnbcicpcbgjaa
open Go.RowKit Go.Shelf Plain
attribute [local go_sem] Oper.semAt_some
set_option linter.unusedVariables false
set_option linter.unusedSimpArgs false

theorem rangeE {da : Option Addr} (w : World) (h : EmptyAt w da) (lim : Int) : Calls Try.prog 16 #[.pointer da, .string ⟨#[]⟩, .string ⟨#[]⟩, .int .i64 lim] w fun e w' => (∃ a c, e = .returned (.slice a 0 c)) ∧ Below w.heap.size w w' := by
  refine (rangeG (ks := []) da none 0 ⟨#[]⟩ ⟨#[]⟩ lim w ⟨rfl, rfl⟩ Srt.nil (fun u hu => topE (h.later hu)) (by decide) (by decide) (by simp)).mono ?_
  rintro e w' ⟨v, r, rfl, ho, -, hb⟩
  obtain ⟨a, c, hv, -, -⟩ := ho.shape
  refine ⟨⟨a, c, ?_⟩, hb⟩
  rw [hv]
  simp [rngL]

theorem hresNth : Try.f22.results = #[.cell 4 28, .tmp 5] := by kernel_rfl
set_option maxHeartbeats 2000000 in
theorem nthE {da : Option Addr} (n : Int) (w : World) (h : EmptyAt w da) : Calls Try.prog 22 #[.pointer da, .int .i64 n] w fun e w' => e = .returned (.tuple #[Ke.zero.v, .bool false]) ∧ Below w.heap.size w w' := by
  obtain ⟨w0, hw0⟩ : ∃ w0, w.alloc (.cells #[.string ⟨#[]⟩, .int .i64 0, .int .i64 0, .int .i64 0, .int .i64 0, .int .i64 0, .bool false] 28) = w0 := ⟨_, rfl⟩
  have hb0 : Below w.heap.size w w0 := by rw [← hw0]; exact (Below.refl _ _).alloc (Nat.le_refl _) _
  have HT : Hid (Calls Try.prog 35 #[.pointer da] w0 fun e w' => e = .returned (.pointer none) ∧ w' = w0) := topE (h.later hb0)
  have HG : Hid (Below w.heap.size w (putKe w0 w.heap.size Ke.zero)) := hb0.trans (grow_below (putKe_grow w0 w.heap.size Ke.zero) hb0.size (fun g e => by cases e; exact Nat.le_refl _))
  obtain ⟨r0, r1, r2, r3, r4, r5, r6⟩ : KeAt w0 w.heap.size Ke.zero := by rw [← hw0]; exact KeAt.new w Ke.zero
  simp only [Ke.zero, En.zero] at r0 r1 r2 r3 r4 r5 r6
  have hfr : ∀ j, w0.frozen? ⟨w.heap.size, j, none⟩ = false := fun j => by rw [← hw0]; exact World.frozen?_alloc_at _ _ _ _ rfl
  have f0 := hfr 0
  have f1 := hfr 1
  have f2 := hfr 2
  have f3 := hfr 3
  have f4 := hfr 4
  have f5 := hfr 5
  have f6 := hfr 6
  clear hfr h hb0
  go_enter Try.func22, Try.ntmps22
  go_wp2_with fail
  refine HT.out.mono ?_
  rintro e wk ⟨rfl, hwk⟩
  obtain rfl := hwk.symm
  go_wp2
  go_loopg [1, 6] 0 (fun gk s1 s6 wx => s1 = .int .i64 n ∧ s6 = .pointer none ∧ wx = w0)
  case atStart => exact ⟨rfl, rfl, rfl⟩
  case round =>
    obtain ⟨rfl, rfl, hwr⟩ := hrel
    obtain rfl := hwr.symm
    go_wp2
    refine bodyPost_ret (v := .tuple #[Ke.zero.v, .bool false]) ?_ rfl ⟨rfl, HG.out⟩
    simp only [results, hresNth, Ke.zero, En.zero]
    go_simp

set_option maxHeartbeats 2000000 in
theorem pointE {da : Option Addr} (key : ByteArray) (o s a : Int) (w : World) (h : EmptyAt w da) : Calls Try.prog 28 #[.pointer da, .string key, .int .i64 o, .int .i64 s, .int .i64 a] w fun e w' => e = .returned (.bool false) ∧ Below w.heap.size w w' := by
  have HG : Hid (Calls Try.prog 14 #[.pointer da, .string key] w fun e w' => e = .returned (.tuple #[En.zero.v, .bool false]) ∧ Below w.heap.size w w') := getE key w h
  obtain ⟨old, hold⟩ : ∃ old, En.zero = old := ⟨_, rfl⟩
  rw [hold] at HG
  clear hold h
  go_enter Try.func28, Try.ntmps28
  go_wp2_with fail
  refine HG.out.mono ?_
  rintro e w1 ⟨rfl, hb1⟩
  go_wp2
  go_ret
  exact ⟨rfl, hb1.alloc hb1.size _⟩

theorem freezeNil (w : World) : Calls Try.prog 26 #[.pointer none] w fun e w' => e = .returned (.pointer none) ∧ w' = w := by
  go_enter Try.func26, Try.ntmps26
  go_wp2
  go_ret
  exact ⟨rfl, rfl⟩

set_option maxHeartbeats 2000000 in
theorem putNil (key : ByteArray) (en : En) (w : World) : Calls Try.prog 27 #[.pointer none, .string key, en.v] w fun e w' => e = .returned (.tuple #[En.zero.v, .bool false, .int .i64 1]) ∧ Below w.heap.size w w' := by
  obtain ⟨w0, hw0⟩ : ∃ w0, (w.alloc (.cells #[.int .i64 en.seg, .int .i64 en.pos, .int .i64 en.size, .int .i64 en.off, .int .i64 en.time, .bool en.tomb] 26)).alloc (.cells #[.int .i64 0, .int .i64 0, .int .i64 0, .int .i64 0, .int .i64 0, .bool false] 26) = w0 := ⟨_, rfl⟩
  have hb0 : Below w.heap.size w w0 := by rw [← hw0]; exact ((Below.refl _ _).alloc (Nat.le_refl _) _).alloc (by simp) _
  have HRS : EnAt w0 (w.heap.size + 1) En.zero ∧ ∀ j, w0.frozen? ⟨w.heap.size + 1, j, none⟩ = false := by
    have hq : (w.alloc (.cells #[.int .i64 en.seg, .int .i64 en.pos, .int .i64 en.size, .int .i64 en.off, .int .i64 en.time, .bool en.tomb] 26)).heap.size = w.heap.size + 1 := by simp
    refine ⟨by rw [← hw0, ← hq]; exact EnAt.new _ En.zero, fun j => ?_⟩
    rw [← hw0, ← hq]
    exact World.frozen?_alloc_at _ _ _ _ rfl
  have HEND : Hid (Below w.heap.size w (putEn w0 (w.heap.size + 1) En.zero)) := putEn_below En.zero hb0 (by omega)
  obtain ⟨⟨r0, r1, r2, r3, r4, r5⟩, hfr⟩ := HRS
  have f0 := hfr 0
  have f1 := hfr 1
  have f2 := hfr 2
  have f3 := hfr 3
  have f4 := hfr 4
  have f5 := hfr 5
  simp only [En.zero] at r0 r1 r2 r3 r4 r5
  clear hfr hb0
  go_enter Try.func27, Try.ntmps27
  go_wp2
  refine bodyPost_ret (v := .tuple #[En.zero.v, .bool false, .int .i64 1]) ?_ rfl ⟨rfl, HEND.out⟩
  simp only [results, hresPut, En.zero]
  go_simp

set_option maxHeartbeats 2000000 in
theorem noteNil (key : ByteArray) (en : En) (w : World) : Calls Try.prog 10 #[.pointer none, .string key, en.v] w fun e w' => e = .returned (.tuple #[.bool false, .int .i64 1]) ∧ Below w.heap.size w w' := by
  obtain ⟨w0, hw0⟩ : ∃ w0, w.alloc (.cells #[.int .i64 en.seg, .int .i64 en.pos, .int .i64 en.size, .int .i64 en.off, .int .i64 en.time, .bool en.tomb] 26) = w0 := ⟨_, rfl⟩
  have hb0 : Below w.heap.size w w0 := by rw [← hw0]; exact (Below.refl _ _).alloc (Nat.le_refl _) _
  have HEN : Hid (∀ u, Below w0.heap.size w0 u → EnAt u w.heap.size en) := fun u hu => by
    have h : EnAt w0 w.heap.size en := by rw [← hw0]; exact EnAt.new w en
    exact h.block (hu.block _ h.lt)
  have HG : Hid (Calls Try.prog 14 #[.pointer none, .string key] w0 fun e w' => e = .returned (.tuple #[En.zero.v, .bool false]) ∧ Below w0.heap.size w0 w') := getE key w0 (.inl rfl)
  have HP : Hid (∀ u, Calls Try.prog 27 #[.pointer none, .string key, en.v] u fun e w' => e = .returned (.tuple #[En.zero.v, .bool false, .int .i64 1]) ∧ Below u.heap.size u w') := fun u => putNil key en u
  obtain ⟨old, hold⟩ : ∃ old, En.zero = old := ⟨_, rfl⟩
  rw [hold] at HG HP
  clear hold
  go_enter Try.func10, Try.ntmps10
  go_wp2_with fail
  refine HG.out.mono ?_
  rintro e w1 ⟨rfl, hb1⟩
  obtain ⟨w2, hw2⟩ : ∃ w2, w1.alloc (.cells #[.int .i64 old.seg, .int .i64 old.pos, .int .i64 old.size, .int .i64 old.off, .int .i64 old.time, .bool old.tomb] 26) = w2 := ⟨_, rfl⟩
  have hb12 : Below w1.heap.size w1 w2 := by rw [← hw2]; exact (Below.refl _ _).alloc (Nat.le_refl _) _
  have hb02 : Below w0.heap.size w0 w2 := hb1.trans (hb12.mono hb1.size)
  have HB2 : Hid (Below w.heap.size w w2) := hb0.trans (hb02.mono hb0.size)
  obtain ⟨d0, d1, d2, d3, d4, d5⟩ := HEN.out w2 hb02
  clear hb1 hb12 hb02
  go_wp2_with fail
  refine (HP.out w2).mono ?_
  rintro e w3 ⟨rfl, hb3⟩
  have HB3 : Hid (Below w.heap.size w w3) := HB2.out.trans (hb3.mono HB2.out.size)
  clear hb3
  go_wp2
  refine bodyPost_ret (v := .tuple #[.bool false, .int .i64 1]) ?_ rfl ⟨rfl, ?_⟩
  · simp only [results, hresNote]
    go_simp
  · exact HB3.out.alloc HB3.out.size _
end Go.Proofs.Ythfnbcicpcbgjaa
