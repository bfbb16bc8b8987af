import Derived.Test.YtjefbcphefckiacOe
/-! A step of two readers that are nil. -/
namespace Go.Proofs.Ytjefbcphefckiac
open Go.RowKit Plain
set_option linter.unusedVariables false

theorem rnByte (w : World) (n : Nat) (st : ByteArray) :
    Calls Try.prog 16 #[.pointer none, .pointer none, .agg #[.int .i64 0, .int .u64 n, .string st]] w (Ans w (.bool true)) := by
  have HB : Hid (Below w.heap.size w (w.alloc (.cells #[.int .i64 0, .int .u64 n, .string st] 50))) := (Below.refl _ _).alloc (Nat.le_refl _) _
  go_enter Try.func16, Try.ntmps16
  go_wp2_with fail
  refine (pnByte _).mono ?_
  rintro x w1 ⟨rfl, rfl⟩
  go_wp2_with fail
  refine (qnByte _).mono ?_
  rintro x w2 ⟨rfl, n2, rfl⟩
  go_wp2
  go_ret
  exact ⟨by simp, below_drewN HB.out _⟩

theorem rnUv (w : World) (n : Nat) (st : ByteArray) :
    Calls Try.prog 16 #[.pointer none, .pointer none, .agg #[.int .i64 1, .int .u64 n, .string st]] w (Ans w (.bool true)) := by
  have HB : Hid (Below w.heap.size w (w.alloc (.cells #[.int .i64 1, .int .u64 n, .string st] 50))) := (Below.refl _ _).alloc (Nat.le_refl _) _
  go_enter Try.func16, Try.ntmps16
  go_wp2_with fail
  refine (pnUv _).mono ?_
  rintro x w1 ⟨rfl, rfl⟩
  go_wp2_with fail
  refine (qnUv _).mono ?_
  rintro x w2 ⟨rfl, n2, rfl⟩
  go_wp2
  go_ret
  exact ⟨by simp, below_drewN HB.out _⟩

theorem rnVar (w : World) (n : Nat) (st : ByteArray) :
    Calls Try.prog 16 #[.pointer none, .pointer none, .agg #[.int .i64 2, .int .u64 n, .string st]] w (Ans w (.bool true)) := by
  have HB : Hid (Below w.heap.size w (w.alloc (.cells #[.int .i64 2, .int .u64 n, .string st] 50))) := (Below.refl _ _).alloc (Nat.le_refl _) _
  go_enter Try.func16, Try.ntmps16
  go_wp2_with fail
  refine (pnVar _).mono ?_
  rintro x w1 ⟨rfl, rfl⟩
  go_wp2_with fail
  refine (qnVar _).mono ?_
  rintro x w2 ⟨rfl, n2, rfl⟩
  go_wp2
  go_ret
  exact ⟨by simp, below_drewN HB.out _⟩

theorem rnU32 (w : World) (n : Nat) (st : ByteArray) :
    Calls Try.prog 16 #[.pointer none, .pointer none, .agg #[.int .i64 3, .int .u64 n, .string st]] w (Ans w (.bool true)) := by
  have HB : Hid (Below w.heap.size w (w.alloc (.cells #[.int .i64 3, .int .u64 n, .string st] 50))) := (Below.refl _ _).alloc (Nat.le_refl _) _
  go_enter Try.func16, Try.ntmps16
  go_wp2_with fail
  refine (pnU32 _).mono ?_
  rintro x w1 ⟨rfl, rfl⟩
  go_wp2_with fail
  refine (qnU32 _).mono ?_
  rintro x w2 ⟨rfl, n2, rfl⟩
  go_wp2
  go_ret
  exact ⟨by simp, below_drewN HB.out _⟩

theorem rnU64 (w : World) (n : Nat) (st : ByteArray) :
    Calls Try.prog 16 #[.pointer none, .pointer none, .agg #[.int .i64 4, .int .u64 n, .string st]] w (Ans w (.bool true)) := by
  have HB : Hid (Below w.heap.size w (w.alloc (.cells #[.int .i64 4, .int .u64 n, .string st] 50))) := (Below.refl _ _).alloc (Nat.le_refl _) _
  go_enter Try.func16, Try.ntmps16
  go_wp2_with fail
  refine (pnU64 _).mono ?_
  rintro x w1 ⟨rfl, rfl⟩
  go_wp2_with fail
  refine (qnU64 _).mono ?_
  rintro x w2 ⟨rfl, n2, rfl⟩
  go_wp2
  go_ret
  exact ⟨by simp, below_drewN HB.out _⟩

theorem rnFail (w : World) (n : Nat) (st : ByteArray) :
    Calls Try.prog 16 #[.pointer none, .pointer none, .agg #[.int .i64 12, .int .u64 n, .string st]] w (Ans w (.bool true)) := by
  have HB : Hid (Below w.heap.size w (w.alloc (.cells #[.int .i64 12, .int .u64 n, .string st] 50))) := (Below.refl _ _).alloc (Nat.le_refl _) _
  go_enter Try.func16, Try.ntmps16
  go_wp2_with fail
  refine (pnFail _ _).mono ?_
  rintro x w1 ⟨rfl, rfl⟩
  go_wp2_with fail
  refine (qnFail _ _).mono ?_
  rintro x w2 ⟨rfl, n2, rfl⟩
  go_wp2
  go_ret
  exact ⟨rfl, below_drewN HB.out _⟩

theorem rnLook (w : World) (n : Nat) (st : ByteArray) :
    Calls Try.prog 16 #[.pointer none, .pointer none, .agg #[.int .i64 11, .int .u64 n, .string st]] w (Ans w (.bool true)) := by
  have HB : Hid (Below w.heap.size w (w.alloc (.cells #[.int .i64 11, .int .u64 n, .string st] 50))) := (Below.refl _ _).alloc (Nat.le_refl _) _
  go_enter Try.func16, Try.ntmps16
  go_wp2_with fail
  refine (pnRest _).mono ?_
  rintro x w1 ⟨rfl, rfl⟩
  go_wp2_with fail
  refine (qnRest _).mono ?_
  rintro x w2 ⟨rfl, n2, rfl⟩
  go_wp2_with fail
  refine (pnEnd _).mono ?_
  rintro x w3 ⟨rfl, hb3⟩
  have HB3 : Hid (Below w.heap.size w w3) := HB.out.trans ((below_drewN (Below.refl _ _) n2).trans (hb3.mono (by simp)))
  clear hb3
  go_wp2_with fail
  refine (qnEnd _).mono ?_
  rintro x w4 ⟨rfl, hb4⟩
  have HB4 : Hid (Below w.heap.size w w4) := below_on HB3.out hb4
  clear hb4
  go_wp2
  go_ret
  exact ⟨by simp, HB4.out⟩

theorem rnRaw (w : World) (n : Nat) (st : ByteArray) :
    Calls Try.prog 16 #[.pointer none, .pointer none, .agg #[.int .i64 10, .int .u64 n, .string st]] w (Ans w (.bool true)) := by
  have HB : Hid (Below w.heap.size w (w.alloc (.cells #[.int .i64 10, .int .u64 n, .string st] 50))) := (Below.refl _ _).alloc (Nat.le_refl _) _
  have hbx := wrap64_range n
  go_enter Try.func16, Try.ntmps16
  go_wp2_with fail
  refine (pnRaw _ _).mono ?_
  rintro x w1 ⟨v1, r1, rfl, ho1, hb1, hr1⟩
  have HO1 : Hid (Own w1 v1 [] r1) := ho1
  have HB1 : Hid (Below w.heap.size w w1) := below_on HB.out hb1
  have HR1 : Hid (∀ q, r1 = some q → w.heap.size ≤ q) := fun q hq => by have := hr1 q hq; simp at this; omega
  have hbox : w1.cell? ⟨w.heap.size, 1, none⟩ = some (.int .u64 n) := by
    rw [hb1.cell (p := ⟨w.heap.size, 1, none⟩) (by simp)]
    simp
  clear ho1 hb1 hr1
  go_wp2_with fail
  refine (qnRaw _ _).mono ?_
  rintro x w2 ⟨rfl, n2, rfl⟩
  clear hbox
  go_wp2_with fail
  refine (sameBytes _ _ [] [] _ (HO1.out.bytes.drewN n2) (BytesAt.nil _)).mono ?_
  rintro x w3 ⟨rfl, n3, rfl⟩
  go_wp2_with fail
  refine (marked v1 [] r1 4 0 _ rfl (HO1.out.later (below_drewN (Below.refl _ _) _)) (by decide) (by omega)).mono ?_
  rintro x w4 ⟨v4, r4, rfl, -, hg4, -, -⟩
  have HB4 : Hid (Below w.heap.size w w4) := (below_drewN HB1.out _).trans (grow_below hg4 HB1.out.size HR1.out)
  clear hg4
  go_wp2
  go_ret
  exact ⟨by simp, HB4.out⟩

set_option maxHeartbeats 1000000 in
theorem rnText (w : World) (n : Nat) (st : ByteArray) :
    Calls Try.prog 16 #[.pointer none, .pointer none, .agg #[.int .i64 5, .int .u64 n, .string st]] w (Ans w (.bool true)) := by
  have HB : Hid (Below w.heap.size w (w.alloc (.cells #[.int .i64 5, .int .u64 n, .string st] 50))) := (Below.refl _ _).alloc (Nat.le_refl _) _
  have hmr := wrap64_range n
  go_enter Try.func16, Try.ntmps16
  go_wp2
  go_quiet (first
    | (go_at_call 38; try rw [wrapEq]
       exact Calls.quiet_of_same (pnText (wrap64 n) hmr.1 hmr.2 _))
    | (go_at_call 30; exact Calls.quiet_of (qnText _ _)))
  go_wp2
  go_ret
  exact ⟨by simp, below_drewN HB.out _⟩

theorem rnOther (w : World) (k : Int) (hk : k < 0 ∨ 5 < k) (h10 : k ≠ 10) (h11 : k ≠ 11) (h12 : k ≠ 12) (n : Nat) (st : ByteArray) :
    Calls Try.prog 16 #[.pointer none, .pointer none, .agg #[.int .i64 k, .int .u64 n, .string st]] w (Ans w (.bool true)) := by
  have HB : Hid (Below w.heap.size w (w.alloc (.cells #[.int .i64 k, .int .u64 n, .string st] 50))) := (Below.refl _ _).alloc (Nat.le_refl _) _
  have e0 : (k == 0) = false := by simp; omega
  have e1 : (k == 1) = false := by simp; omega
  have e2 : (k == 2) = false := by simp; omega
  have e3 : (k == 3) = false := by simp; omega
  have e4 : (k == 4) = false := by simp; omega
  have e5 : (k == 5) = false := by simp; omega
  have e10 : (k == 10) = false := by simp; omega
  have e11 : (k == 11) = false := by simp; omega
  have e12 : (k == 12) = false := by simp; omega
  go_enter Try.func16, Try.ntmps16
  go_wp2
  go_ret
  exact ⟨rfl, HB.out⟩

/-- Whatever the step. -/
theorem rdNil (w : World) (k : Int) (n : Nat) (st : ByteArray) :
    Calls Try.prog 16 #[.pointer none, .pointer none, .agg #[.int .i64 k, .int .u64 n, .string st]] w (Ans w (.bool true)) := by
  by_cases k0 : k = 0
  · subst k0; exact rnByte w n st
  by_cases k1 : k = 1
  · subst k1; exact rnUv w n st
  by_cases k2 : k = 2
  · subst k2; exact rnVar w n st
  by_cases k3 : k = 3
  · subst k3; exact rnU32 w n st
  by_cases k4 : k = 4
  · subst k4; exact rnU64 w n st
  by_cases k5 : k = 5
  · subst k5; exact rnText w n st
  by_cases k10 : k = 10
  · subst k10; exact rnRaw w n st
  by_cases k11 : k = 11
  · subst k11; exact rnLook w n st
  by_cases k12 : k = 12
  · subst k12; exact rnFail w n st
  exact rnOther w k (by omega) k10 k11 k12 n st
end Go.Proofs.Ytjefbcphefckiac
