import Derived.Test.YtjefbcphefckiacOb
/-! A step of two readers that stand for the same one. -/
namespace Go.Proofs.Ytjefbcphefckiac
open Go.RowKit Plain
set_option linter.unusedVariables false

/-- They answer alike, and stand for the same one again. -/
abbrev Goes (w : World) (b : Nat) (r : Option Nat) (c g : Nat) : Ending → World → Prop := fun e w' => e = .returned (.bool true) ∧ ∃ s', Pair w' b r c g s' ∧ Fr w w' b c

theorem rdByte (w : World) (b : Nat) (r : Option Nat) (c g : Nat) (s : Rs) (n : Int) (st : ByteArray) (h : Pair w b r c g s) :
    Calls Try.prog 16 #[.pointer (some ⟨b, 0, none⟩), .pointer (some ⟨c, 0, none⟩), .agg #[.int .i64 0, .int .u64 n, .string st]] w (Goes w b r c g) := by
  have HB : Hid (Below w.heap.size w (w.alloc (.cells #[.int .i64 0, .int .u64 n, .string st] 50))) := (Below.refl _ _).alloc (Nat.le_refl _) _
  have HP : Hid (Pair (w.alloc (.cells #[.int .i64 0, .int .u64 n, .string st] 50)) b r c g s) := h.later HB.out
  clear h
  go_enter Try.func16, Try.ntmps16
  go_wp2_with fail
  refine (paByte _ b s r HP.out.p).mono ?_
  rintro x w1 ⟨rfl, hp1, hg1⟩
  have H1 : Hid (PA w1 b (s.on 1) r) := hp1
  have HQ : Hid (QA w1 c s (some g)) := HP.out.left hg1
  have HS1 := hg1.size
  have HF1 : Hid (Fr w w1 b c) := (Fr.of_below HB.out b c).trans (.of_left hg1 c)
  clear hp1 hg1
  go_wp2_with fail
  refine (qaByte _ c g s HQ.out).mono ?_
  rintro x w2 ⟨rfl, hq2, hg2⟩
  have H2 : Hid (Pair w2 b r c g (s.on 1)) := HP.out.right H1.out hq2 hg2 HS1
  have HF2 : Hid (Fr w w2 b c) := HF1.out.trans (.of_right hg2 b)
  clear hq2 hg2
  go_wp2
  go_ret
  exact ⟨by simp, _, H2.out, HF2.out⟩

theorem rdUv (w : World) (b : Nat) (r : Option Nat) (c g : Nat) (s : Rs) (n : Int) (st : ByteArray) (h : Pair w b r c g s) :
    Calls Try.prog 16 #[.pointer (some ⟨b, 0, none⟩), .pointer (some ⟨c, 0, none⟩), .agg #[.int .i64 1, .int .u64 n, .string st]] w (Goes w b r c g) := by
  have HB : Hid (Below w.heap.size w (w.alloc (.cells #[.int .i64 1, .int .u64 n, .string st] 50))) := (Below.refl _ _).alloc (Nat.le_refl _) _
  have HP : Hid (Pair (w.alloc (.cells #[.int .i64 1, .int .u64 n, .string st] 50)) b r c g s) := h.later HB.out
  clear h
  go_enter Try.func16, Try.ntmps16
  go_wp2_with fail
  refine (paUvarint _ b s r HP.out.p).mono ?_
  rintro x w1 ⟨rfl, hp1, hg1⟩
  have H1 : Hid (PA w1 b (s.uvOn) r) := hp1
  have HQ : Hid (QA w1 c s (some g)) := HP.out.left hg1
  have HS1 := hg1.size
  have HF1 : Hid (Fr w w1 b c) := (Fr.of_below HB.out b c).trans (.of_left hg1 c)
  clear hp1 hg1
  go_wp2_with fail
  refine (qaUvarint _ c g s HQ.out).mono ?_
  rintro x w2 ⟨rfl, hq2, hg2⟩
  have H2 : Hid (Pair w2 b r c g (s.uvOn)) := HP.out.right H1.out hq2 hg2 HS1
  have HF2 : Hid (Fr w w2 b c) := HF1.out.trans (.of_right hg2 b)
  clear hq2 hg2
  go_wp2
  go_ret
  exact ⟨by simp, _, H2.out, HF2.out⟩

theorem rdVar (w : World) (b : Nat) (r : Option Nat) (c g : Nat) (s : Rs) (n : Int) (st : ByteArray) (h : Pair w b r c g s) :
    Calls Try.prog 16 #[.pointer (some ⟨b, 0, none⟩), .pointer (some ⟨c, 0, none⟩), .agg #[.int .i64 2, .int .u64 n, .string st]] w (Goes w b r c g) := by
  have HB : Hid (Below w.heap.size w (w.alloc (.cells #[.int .i64 2, .int .u64 n, .string st] 50))) := (Below.refl _ _).alloc (Nat.le_refl _) _
  have HP : Hid (Pair (w.alloc (.cells #[.int .i64 2, .int .u64 n, .string st] 50)) b r c g s) := h.later HB.out
  clear h
  go_enter Try.func16, Try.ntmps16
  go_wp2_with fail
  refine (paVarint _ b s r HP.out.p).mono ?_
  rintro x w1 ⟨rfl, hp1, hg1⟩
  have H1 : Hid (PA w1 b (s.uvOn) r) := hp1
  have HQ : Hid (QA w1 c s (some g)) := HP.out.left hg1
  have HS1 := hg1.size
  have HF1 : Hid (Fr w w1 b c) := (Fr.of_below HB.out b c).trans (.of_left hg1 c)
  clear hp1 hg1
  go_wp2_with fail
  refine (qaVarint _ c g s HQ.out).mono ?_
  rintro x w2 ⟨rfl, hq2, hg2⟩
  have H2 : Hid (Pair w2 b r c g (s.uvOn)) := HP.out.right H1.out hq2 hg2 HS1
  have HF2 : Hid (Fr w w2 b c) := HF1.out.trans (.of_right hg2 b)
  clear hq2 hg2
  go_wp2
  go_ret
  exact ⟨by simp, _, H2.out, HF2.out⟩

theorem rdU32 (w : World) (b : Nat) (r : Option Nat) (c g : Nat) (s : Rs) (n : Int) (st : ByteArray) (h : Pair w b r c g s) :
    Calls Try.prog 16 #[.pointer (some ⟨b, 0, none⟩), .pointer (some ⟨c, 0, none⟩), .agg #[.int .i64 3, .int .u64 n, .string st]] w (Goes w b r c g) := by
  have HB : Hid (Below w.heap.size w (w.alloc (.cells #[.int .i64 3, .int .u64 n, .string st] 50))) := (Below.refl _ _).alloc (Nat.le_refl _) _
  have HP : Hid (Pair (w.alloc (.cells #[.int .i64 3, .int .u64 n, .string st] 50)) b r c g s) := h.later HB.out
  clear h
  go_enter Try.func16, Try.ntmps16
  go_wp2_with fail
  refine (paU32 _ b s r HP.out.p).mono ?_
  rintro x w1 ⟨rfl, hp1, hg1⟩
  have H1 : Hid (PA w1 b (s.on 4) r) := hp1
  have HQ : Hid (QA w1 c s (some g)) := HP.out.left hg1
  have HS1 := hg1.size
  have HF1 : Hid (Fr w w1 b c) := (Fr.of_below HB.out b c).trans (.of_left hg1 c)
  clear hp1 hg1
  go_wp2_with fail
  refine (qaU32 _ c g s HQ.out).mono ?_
  rintro x w2 ⟨rfl, hq2, hg2⟩
  have H2 : Hid (Pair w2 b r c g (s.on 4)) := HP.out.right H1.out hq2 hg2 HS1
  have HF2 : Hid (Fr w w2 b c) := HF1.out.trans (.of_right hg2 b)
  clear hq2 hg2
  go_wp2
  go_ret
  exact ⟨by simp, _, H2.out, HF2.out⟩

theorem rdU64 (w : World) (b : Nat) (r : Option Nat) (c g : Nat) (s : Rs) (n : Int) (st : ByteArray) (h : Pair w b r c g s) :
    Calls Try.prog 16 #[.pointer (some ⟨b, 0, none⟩), .pointer (some ⟨c, 0, none⟩), .agg #[.int .i64 4, .int .u64 n, .string st]] w (Goes w b r c g) := by
  have HB : Hid (Below w.heap.size w (w.alloc (.cells #[.int .i64 4, .int .u64 n, .string st] 50))) := (Below.refl _ _).alloc (Nat.le_refl _) _
  have HP : Hid (Pair (w.alloc (.cells #[.int .i64 4, .int .u64 n, .string st] 50)) b r c g s) := h.later HB.out
  clear h
  go_enter Try.func16, Try.ntmps16
  go_wp2_with fail
  refine (paU64 _ b s r HP.out.p).mono ?_
  rintro x w1 ⟨rfl, hp1, hg1⟩
  have H1 : Hid (PA w1 b (s.on 8) r) := hp1
  have HQ : Hid (QA w1 c s (some g)) := HP.out.left hg1
  have HS1 := hg1.size
  have HF1 : Hid (Fr w w1 b c) := (Fr.of_below HB.out b c).trans (.of_left hg1 c)
  clear hp1 hg1
  go_wp2_with fail
  refine (qaU64 _ c g s HQ.out).mono ?_
  rintro x w2 ⟨rfl, hq2, hg2⟩
  have H2 : Hid (Pair w2 b r c g (s.on 8)) := HP.out.right H1.out hq2 hg2 HS1
  have HF2 : Hid (Fr w w2 b c) := HF1.out.trans (.of_right hg2 b)
  clear hq2 hg2
  go_wp2
  go_ret
  exact ⟨by simp, _, H2.out, HF2.out⟩

end Go.Proofs.Ytjefbcphefckiac
