import Derived.Test.YtbngedfpojnbjabConv
/-! Writers that are nil. -/
namespace Go.Proofs.Ytbngedfpojnbjab
open Go.RowKit Plain
set_option linter.unusedVariables false

theorem nByte (c : Int) (w : World) :
    Calls Try.prog 31 #[.pointer none, .int .u8 c] w fun e w' => e = .returned (.tuple #[]) ∧ w' = w := by
  go_enter Try.func31, Try.ntmps31
  go_wp2
  go_end0
  exact ⟨rfl, rfl⟩

theorem nUvarint (c : Int) (w : World) :
    Calls Try.prog 33 #[.pointer none, .int .u64 c] w fun e w' => e = .returned (.tuple #[]) ∧ w' = w := by
  go_enter Try.func33, Try.ntmps33
  go_wp2
  go_end0
  exact ⟨rfl, rfl⟩

theorem nText (s : ByteArray) (w : World) :
    Calls Try.prog 41 #[.pointer none, .string s] w fun e w' => e = .returned (.tuple #[]) ∧ w' = w := by
  go_enter Try.func41, Try.ntmps41
  go_wp2
  go_end0
  exact ⟨rfl, rfl⟩

theorem nRaw (x : Value) (w : World) :
    Calls Try.prog 43 #[.pointer none, x] w fun e w' => e = .returned (.tuple #[]) ∧ w' = w := by
  go_enter Try.func43, Try.ntmps43
  go_wp2
  go_end0
  exact ⟨rfl, rfl⟩

theorem mRaw (x : Value) (w : World) :
    Calls Try.prog 44 #[.pointer none, x] w fun e w' => e = .returned (.tuple #[]) ∧ w' = w := by
  go_enter Try.func44, Try.ntmps44
  go_wp2
  go_end0
  exact ⟨rfl, rfl⟩

theorem nVarint (s : Int) (w : World) (h1 : -9223372036854775808 ≤ s) (h2 : s ≤ 9223372036854775807) :
    Calls Try.prog 35 #[.pointer none, .int .i64 s] w fun e w' => e = .returned (.tuple #[]) ∧ w' = w := by
  go_enter Try.func35, Try.ntmps35
  go_wp2_with fail
  refine (zigzag s _ h1 h2).mono ?_
  rintro e w1 ⟨rfl, rfl⟩
  go_wp2_with fail
  refine (nUvarint _ _).mono ?_
  rintro e w2 ⟨rfl, rfl⟩
  go_wp2
  go_end0
  exact ⟨rfl, rfl⟩

theorem nFixed (v n : Nat) (w : World) (hv : v < 18446744073709551616) (hn : n ≤ 8) :
    Calls Try.prog 48 #[.pointer none, .int .u64 v, .int .i64 n] w fun e w' => e = .returned (.tuple #[]) ∧ w' = w := by
  go_enter Try.func48, Try.ntmps48
  go_wp2
  go_loop [2] (fun i => ∃ k : Nat, k ≤ n ∧ i = .int .i64 k) (fun i => (intOf i).toNat)
  case atStart => exact ⟨n, by omega, rfl⟩
  case round =>
    obtain ⟨k, hk, rfl⟩ := hrel
    by_cases hk0 : k = 0
    · subst hk0
      go_wp2
      go_end0
      exact ⟨rfl, rfl⟩
    · obtain ⟨m, rfl⟩ : ∃ m, k = m + 1 := ⟨k - 1, by omega⟩
      have hm8 : m ≤ 7 := by omega
      go_wp2_with fail
      refine (nByte _ _).mono ?_
      rintro e w1 ⟨rfl, rfl⟩
      go_wp2
      go_round
      case rel => exact ⟨m, by omega, by go_num⟩
      case measure => simp [intOf]

theorem nU32 (v : Nat) (w : World) (hv : v < 4294967296) :
    Calls Try.prog 37 #[.pointer none, .int .u32 v] w fun e w' => e = .returned (.tuple #[]) ∧ w' = w := by
  go_enter Try.func37, Try.ntmps37
  go_wp2_with fail
  refine (nFixed v 4 _ (by omega) (by omega)).mono ?_
  rintro e w1 ⟨rfl, rfl⟩
  go_wp2
  go_end0
  exact ⟨rfl, rfl⟩

theorem nU64 (v : Nat) (w : World) (hv : v < 18446744073709551616) :
    Calls Try.prog 39 #[.pointer none, .int .u64 v] w fun e w' => e = .returned (.tuple #[]) ∧ w' = w := by
  go_enter Try.func39, Try.ntmps39
  go_wp2_with fail
  refine (nFixed v 8 _ (by omega) (by omega)).mono ?_
  rintro e w1 ⟨rfl, rfl⟩
  go_wp2
  go_end0
  exact ⟨rfl, rfl⟩

theorem nLen (w : World) : Calls Try.prog 26 #[.pointer none] w fun e w' => e = .returned (.int .i64 0) ∧ w' = w := by
  go_enter Try.func26, Try.ntmps26
  go_wp2
  go_ret
  exact ⟨rfl, rfl⟩

theorem nBytes (w : World) : Calls Try.prog 25 #[.pointer none] w fun e w' => e = .returned (.slice none 0 0) ∧ w' = w := by
  go_enter Try.func25, Try.ntmps25
  go_wp2
  go_ret
  exact ⟨rfl, rfl⟩

theorem mBytes (w : World) : Calls Try.prog 45 #[.pointer none] w fun e w' => e = .returned (.slice none 0 0) ∧ w' = w := by
  go_enter Try.func45, Try.ntmps45
  go_wp2
  go_ret
  exact ⟨rfl, rfl⟩

theorem mByte (c : Int) (w : World) :
    Calls Try.prog 32 #[.pointer none, .int .u8 c] w fun e w' => e = .returned (.tuple #[]) ∧ Below w.heap.size w w' := by
  go_enter Try.func32, Try.ntmps32
  go_wp2_with fail
  refine (mRaw _ _).mono ?_
  rintro e w1 ⟨rfl, rfl⟩
  go_wp2
  go_end0
  exact ⟨rfl, (Below.refl _ _).alloc (Nat.le_refl _) _⟩

theorem mUvarint (v : Nat) (w : World) (hv : v < 18446744073709551616) :
    Calls Try.prog 34 #[.pointer none, .int .u64 v] w fun e w' => e = .returned (.tuple #[]) ∧ Below w.heap.size w w' := by
  go_enter Try.func34, Try.ntmps34
  go_wp2_with fail
  refine (refUvarint v _ hv).mono ?_
  rintro e w1 ⟨v1, g1, rfl, ho1, hg1, hb1⟩
  have HB : Hid (Below w.heap.size w w1) := hb1
  clear ho1 hg1 hb1
  go_wp2_with fail
  refine (mRaw _ _).mono ?_
  rintro e w2 ⟨rfl, rfl⟩
  go_wp2
  go_end0
  exact ⟨rfl, HB.out⟩

theorem mVarint (s : Int) (w : World) (h1 : -9223372036854775808 ≤ s) (h2 : s ≤ 9223372036854775807) :
    Calls Try.prog 36 #[.pointer none, .int .i64 s] w fun e w' => e = .returned (.tuple #[]) ∧ Below w.heap.size w w' := by
  have hz := zz_range s h1 h2
  obtain ⟨z, hzz⟩ : ∃ z : Nat, zz s = (z : Int) := ⟨(zz s).toNat, by omega⟩
  go_enter Try.func36, Try.ntmps36
  go_wp2_with fail
  refine (refZigzag s _ h1 h2).mono ?_
  rintro e w1 ⟨rfl, rfl⟩
  rw [hzz]
  go_wp2_with fail
  refine (refUvarint z _ (by omega)).mono ?_
  rintro e w2 ⟨v1, g1, rfl, ho1, hg1, hb1⟩
  have HB : Hid (Below w1.heap.size w1 w2) := hb1
  clear ho1 hg1 hb1
  go_wp2_with fail
  refine (mRaw _ _).mono ?_
  rintro e w3 ⟨rfl, rfl⟩
  go_wp2
  go_end0
  exact ⟨rfl, HB.out⟩

theorem mU32 (v : Nat) (w : World) (hv : v < 4294967296) :
    Calls Try.prog 38 #[.pointer none, .int .u32 v] w fun e w' => e = .returned (.tuple #[]) ∧ Below w.heap.size w w' := by
  go_enter Try.func38, Try.ntmps38
  go_wp2_with fail
  refine (refFixed4 v _ (by omega)).mono ?_
  rintro e w1 ⟨v1, g1, rfl, ho1, hg1, hb1⟩
  have HB : Hid (Below w.heap.size w w1) := hb1
  clear ho1 hg1 hb1
  go_wp2_with fail
  refine (mRaw _ _).mono ?_
  rintro e w2 ⟨rfl, rfl⟩
  go_wp2
  go_end0
  exact ⟨rfl, HB.out⟩

theorem mU64 (v : Nat) (w : World) (hv : v < 18446744073709551616) :
    Calls Try.prog 40 #[.pointer none, .int .u64 v] w fun e w' => e = .returned (.tuple #[]) ∧ Below w.heap.size w w' := by
  go_enter Try.func40, Try.ntmps40
  go_wp2_with fail
  refine (refFixed8 v _ (by omega)).mono ?_
  rintro e w1 ⟨v1, g1, rfl, ho1, hg1, hb1⟩
  have HB : Hid (Below w.heap.size w w1) := hb1
  clear ho1 hg1 hb1
  go_wp2_with fail
  refine (mRaw _ _).mono ?_
  rintro e w2 ⟨rfl, rfl⟩
  go_wp2
  go_end0
  exact ⟨rfl, HB.out⟩

theorem mText (s : ByteArray) (w : World) (hs : s.size ≤ 140737488355328) :
    Calls Try.prog 42 #[.pointer none, .string s] w fun e w' => e = .returned (.tuple #[]) ∧ Below w.heap.size w w' := by
  have hsm : s.size ≤ maxLen := by unfold maxLen; omega
  go_enter Try.func42, Try.ntmps42
  go_wp2_with fail
  refine (refUvarint s.size _ (by omega)).mono ?_
  rintro e w1 ⟨v1, g1, rfl, ho1, hg1, hb1⟩
  have HB : Hid (Below w.heap.size w w1) := hb1
  clear ho1 hg1 hb1
  go_wp2_with fail
  refine (mRaw _ _).mono ?_
  rintro e w2 ⟨rfl, rfl⟩
  go_wp2_with (refine wpList_to_bytes _ rfl _ rfl s hsm rfl ?_)
  intro v3 w3 g3 ho3 hb3 hg3
  have HB3 : Hid (Below w.heap.size w w3) := below_on HB.out hb3
  clear ho3 hb3 hg3
  go_wp2_with fail
  refine (mRaw _ _).mono ?_
  rintro e w4 ⟨rfl, rfl⟩
  go_wp2
  go_end0
  exact ⟨rfl, HB3.out⟩
end Go.Proofs.Ytbngedfpojnbjab
