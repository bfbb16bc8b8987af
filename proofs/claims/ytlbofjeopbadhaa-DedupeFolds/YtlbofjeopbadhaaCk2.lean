import Derived.Test.YtlbofjeopbadhaaCk
namespace Go.Proofs.Ytlbofjeopbadhaa
open Go.RowKit Plain
set_option linter.unusedVariables false

set_option maxHeartbeats 2000000 in
theorem refTail0 (k o t : Int) (key val : ByteArray) (w : World) (hkm : key.size ≤ 9223372036854775807) (hvm : val.size ≤ 9223372036854775807) (hk2 : k = 1 ∨ k = 2) (ho : inR o 0 1099511627776 = true) (ht : inR t 0 1125899906842624 = true) (hp : inR 0 0 4294967296 = true) 
    (HC : Hid (chk ⟨k, o, t, 0, 0, key, val⟩ = if key.size = 0 ∨ 64 < key.size then 42 else if 1024 < val.size ∨ (k = 2 ∧ 0 < val.size) then 43 else 0)) (HB : Hid (Below w.heap.size w (w.alloc (.cells #[.int .i64 k, .int .i64 o, .int .i64 t, .int .i64 0, .int .i64 0, .string key, .string val] 32)))) :
    Calls Try.prog 18 #[.agg #[.int .i64 k, .int .i64 o, .int .i64 t, .int .i64 0, .int .i64 0, .string key, .string val]] w (ChkPost ⟨k, o, t, 0, 0, key, val⟩ w) := by
  by_cases h0 : key.size = 0
  · have HD : Hid (chk ⟨k, o, t, 0, 0, key, val⟩ = 42) := by unfold Hid; rw [HC.out, if_pos (.inl h0)]
    have h0' : ((key.size : Nat) : Int) < 1 := by omega
    rcases hk2 with rfl | rfl
    all_goals
      go_enter Try.func18, Try.ntmps18
      go_wp2_with fail
      refine (belowAny o 0 1099511627776 _).mono ?_
      rintro x w1 ⟨rfl, rfl⟩
      go_wp2_with fail
      refine (belowAny t 0 1125899906842624 _).mono ?_
      rintro x w1 ⟨rfl, rfl⟩
      go_wp2_with fail
      refine (belowAny 0 0 4294967296 _).mono ?_
      rintro x w1 ⟨rfl, rfl⟩
      go_wp2
      go_ret
      exact ⟨by rw [HD.out]; rfl, HB.out⟩
  by_cases h1 : 64 < key.size
  · have HD : Hid (chk ⟨k, o, t, 0, 0, key, val⟩ = 42) := by unfold Hid; rw [HC.out, if_pos (.inr h1)]
    have e0 : ¬ (((key.size : Nat) : Int) < 1) := by omega
    clear h0
    rcases hk2 with rfl | rfl
    all_goals
      go_enter Try.func18, Try.ntmps18
      go_wp2_with fail
      refine (belowAny o 0 1099511627776 _).mono ?_
      rintro x w1 ⟨rfl, rfl⟩
      go_wp2_with fail
      refine (belowAny t 0 1125899906842624 _).mono ?_
      rintro x w1 ⟨rfl, rfl⟩
      go_wp2_with fail
      refine (belowAny 0 0 4294967296 _).mono ?_
      rintro x w1 ⟨rfl, rfl⟩
      go_wp2
      go_ret
      exact ⟨by rw [HD.out]; rfl, HB.out⟩
  have e0 : ¬ (((key.size : Nat) : Int) < 1) := by omega
  have h1' : ¬ ((64 : Int) < (key.size : Int)) := by omega
  have HE : Hid (chk ⟨k, o, t, 0, 0, key, val⟩ = if 1024 < val.size ∨ (k = 2 ∧ 0 < val.size) then 43 else 0) := by unfold Hid; rw [HC.out, if_neg (by omega)]
  clear h0 HC
  by_cases h2 : 1024 < val.size
  · have HD : Hid (chk ⟨k, o, t, 0, 0, key, val⟩ = 43) := by unfold Hid; rw [HE.out, if_pos (.inl h2)]
    rcases hk2 with rfl | rfl
    all_goals
      go_enter Try.func18, Try.ntmps18
      go_wp2_with fail
      refine (belowAny o 0 1099511627776 _).mono ?_
      rintro x w1 ⟨rfl, rfl⟩
      go_wp2_with fail
      refine (belowAny t 0 1125899906842624 _).mono ?_
      rintro x w1 ⟨rfl, rfl⟩
      go_wp2_with fail
      refine (belowAny 0 0 4294967296 _).mono ?_
      rintro x w1 ⟨rfl, rfl⟩
      go_wp2
      go_ret
      exact ⟨by rw [HD.out]; rfl, HB.out⟩
  have h2' : ¬ ((1024 : Int) < (val.size : Int)) := by omega
  rcases hk2 with rfl | rfl
  · have HD : Hid (chk ⟨1, o, t, 0, 0, key, val⟩ = 0) := by unfold Hid; rw [HE.out, if_neg (by omega)]
    go_enter Try.func18, Try.ntmps18
    go_wp2_with fail
    refine (belowAny o 0 1099511627776 _).mono ?_
    rintro x w1 ⟨rfl, rfl⟩
    go_wp2_with fail
    refine (belowAny t 0 1125899906842624 _).mono ?_
    rintro x w1 ⟨rfl, rfl⟩
    go_wp2_with fail
    refine (belowAny 0 0 4294967296 _).mono ?_
    rintro x w1 ⟨rfl, rfl⟩
    go_wp2
    go_ret
    exact ⟨by rw [HD.out]; rfl, HB.out⟩
  · by_cases h3 : 0 < val.size
    · have HD : Hid (chk ⟨2, o, t, 0, 0, key, val⟩ = 43) := by unfold Hid; rw [HE.out, if_pos (.inr ⟨rfl, h3⟩)]
      go_enter Try.func18, Try.ntmps18
      go_wp2_with fail
      refine (belowAny o 0 1099511627776 _).mono ?_
      rintro x w1 ⟨rfl, rfl⟩
      go_wp2_with fail
      refine (belowAny t 0 1125899906842624 _).mono ?_
      rintro x w1 ⟨rfl, rfl⟩
      go_wp2_with fail
      refine (belowAny 0 0 4294967296 _).mono ?_
      rintro x w1 ⟨rfl, rfl⟩
      go_wp2
      go_ret
      exact ⟨by rw [HD.out]; rfl, HB.out⟩
    · have HD : Hid (chk ⟨2, o, t, 0, 0, key, val⟩ = 0) := by unfold Hid; rw [HE.out, if_neg (by omega)]
      have h3' : ¬ ((0 : Int) < (val.size : Int)) := by omega
      go_enter Try.func18, Try.ntmps18
      go_wp2_with fail
      refine (belowAny o 0 1099511627776 _).mono ?_
      rintro x w1 ⟨rfl, rfl⟩
      go_wp2_with fail
      refine (belowAny t 0 1125899906842624 _).mono ?_
      rintro x w1 ⟨rfl, rfl⟩
      go_wp2_with fail
      refine (belowAny 0 0 4294967296 _).mono ?_
      rintro x w1 ⟨rfl, rfl⟩
      go_wp2
      go_ret
      exact ⟨by rw [HD.out]; rfl, HB.out⟩

set_option maxHeartbeats 2000000 in
theorem refTail1 (k o t p q : Int) (key val : ByteArray) (w : World) (hkm : key.size ≤ 9223372036854775807) (hvm : val.size ≤ 9223372036854775807) (hk2 : k = 1 ∨ k = 2) (ho : inR o 0 1099511627776 = true) (ht : inR t 0 1125899906842624 = true) (hp : inR p 0 4294967296 = true) (h0p : 0 < p) (hq : inR q 1 1099511627776 = true)
    (HC : Hid (chk ⟨k, o, t, p, q, key, val⟩ = if key.size = 0 ∨ 64 < key.size then 42 else if 1024 < val.size ∨ (k = 2 ∧ 0 < val.size) then 43 else 0)) (HB : Hid (Below w.heap.size w (w.alloc (.cells #[.int .i64 k, .int .i64 o, .int .i64 t, .int .i64 p, .int .i64 q, .string key, .string val] 32)))) :
    Calls Try.prog 18 #[.agg #[.int .i64 k, .int .i64 o, .int .i64 t, .int .i64 p, .int .i64 q, .string key, .string val]] w (ChkPost ⟨k, o, t, p, q, key, val⟩ w) := by
  have ep : (p == 0) = false := by rw [beq_eq_false_iff_ne]; omega
  by_cases h0 : key.size = 0
  · have HD : Hid (chk ⟨k, o, t, p, q, key, val⟩ = 42) := by unfold Hid; rw [HC.out, if_pos (.inl h0)]
    have h0' : ((key.size : Nat) : Int) < 1 := by omega
    rcases hk2 with rfl | rfl
    all_goals
      go_enter Try.func18, Try.ntmps18
      go_wp2_with fail
      refine (belowAny o 0 1099511627776 _).mono ?_
      rintro x w1 ⟨rfl, rfl⟩
      go_wp2_with fail
      refine (belowAny t 0 1125899906842624 _).mono ?_
      rintro x w1 ⟨rfl, rfl⟩
      go_wp2_with fail
      refine (belowAny p 0 4294967296 _).mono ?_
      rintro x w1 ⟨rfl, rfl⟩
      go_wp2_with fail
      refine (belowAny q 1 1099511627776 _).mono ?_
      rintro x w1 ⟨rfl, rfl⟩
      go_wp2
      go_ret
      exact ⟨by rw [HD.out]; rfl, HB.out⟩
  by_cases h1 : 64 < key.size
  · have HD : Hid (chk ⟨k, o, t, p, q, key, val⟩ = 42) := by unfold Hid; rw [HC.out, if_pos (.inr h1)]
    have e0 : ¬ (((key.size : Nat) : Int) < 1) := by omega
    clear h0
    rcases hk2 with rfl | rfl
    all_goals
      go_enter Try.func18, Try.ntmps18
      go_wp2_with fail
      refine (belowAny o 0 1099511627776 _).mono ?_
      rintro x w1 ⟨rfl, rfl⟩
      go_wp2_with fail
      refine (belowAny t 0 1125899906842624 _).mono ?_
      rintro x w1 ⟨rfl, rfl⟩
      go_wp2_with fail
      refine (belowAny p 0 4294967296 _).mono ?_
      rintro x w1 ⟨rfl, rfl⟩
      go_wp2_with fail
      refine (belowAny q 1 1099511627776 _).mono ?_
      rintro x w1 ⟨rfl, rfl⟩
      go_wp2
      go_ret
      exact ⟨by rw [HD.out]; rfl, HB.out⟩
  have e0 : ¬ (((key.size : Nat) : Int) < 1) := by omega
  have h1' : ¬ ((64 : Int) < (key.size : Int)) := by omega
  have HE : Hid (chk ⟨k, o, t, p, q, key, val⟩ = if 1024 < val.size ∨ (k = 2 ∧ 0 < val.size) then 43 else 0) := by unfold Hid; rw [HC.out, if_neg (by omega)]
  clear h0 HC
  by_cases h2 : 1024 < val.size
  · have HD : Hid (chk ⟨k, o, t, p, q, key, val⟩ = 43) := by unfold Hid; rw [HE.out, if_pos (.inl h2)]
    rcases hk2 with rfl | rfl
    all_goals
      go_enter Try.func18, Try.ntmps18
      go_wp2_with fail
      refine (belowAny o 0 1099511627776 _).mono ?_
      rintro x w1 ⟨rfl, rfl⟩
      go_wp2_with fail
      refine (belowAny t 0 1125899906842624 _).mono ?_
      rintro x w1 ⟨rfl, rfl⟩
      go_wp2_with fail
      refine (belowAny p 0 4294967296 _).mono ?_
      rintro x w1 ⟨rfl, rfl⟩
      go_wp2_with fail
      refine (belowAny q 1 1099511627776 _).mono ?_
      rintro x w1 ⟨rfl, rfl⟩
      go_wp2
      go_ret
      exact ⟨by rw [HD.out]; rfl, HB.out⟩
  have h2' : ¬ ((1024 : Int) < (val.size : Int)) := by omega
  rcases hk2 with rfl | rfl
  · have HD : Hid (chk ⟨1, o, t, p, q, key, val⟩ = 0) := by unfold Hid; rw [HE.out, if_neg (by omega)]
    go_enter Try.func18, Try.ntmps18
    go_wp2_with fail
    refine (belowAny o 0 1099511627776 _).mono ?_
    rintro x w1 ⟨rfl, rfl⟩
    go_wp2_with fail
    refine (belowAny t 0 1125899906842624 _).mono ?_
    rintro x w1 ⟨rfl, rfl⟩
    go_wp2_with fail
    refine (belowAny p 0 4294967296 _).mono ?_
    rintro x w1 ⟨rfl, rfl⟩
    go_wp2_with fail
    refine (belowAny q 1 1099511627776 _).mono ?_
    rintro x w1 ⟨rfl, rfl⟩
    go_wp2
    go_ret
    exact ⟨by rw [HD.out]; rfl, HB.out⟩
  · by_cases h3 : 0 < val.size
    · have HD : Hid (chk ⟨2, o, t, p, q, key, val⟩ = 43) := by unfold Hid; rw [HE.out, if_pos (.inr ⟨rfl, h3⟩)]
      go_enter Try.func18, Try.ntmps18
      go_wp2_with fail
      refine (belowAny o 0 1099511627776 _).mono ?_
      rintro x w1 ⟨rfl, rfl⟩
      go_wp2_with fail
      refine (belowAny t 0 1125899906842624 _).mono ?_
      rintro x w1 ⟨rfl, rfl⟩
      go_wp2_with fail
      refine (belowAny p 0 4294967296 _).mono ?_
      rintro x w1 ⟨rfl, rfl⟩
      go_wp2_with fail
      refine (belowAny q 1 1099511627776 _).mono ?_
      rintro x w1 ⟨rfl, rfl⟩
      go_wp2
      go_ret
      exact ⟨by rw [HD.out]; rfl, HB.out⟩
    · have HD : Hid (chk ⟨2, o, t, p, q, key, val⟩ = 0) := by unfold Hid; rw [HE.out, if_neg (by omega)]
      have h3' : ¬ ((0 : Int) < (val.size : Int)) := by omega
      go_enter Try.func18, Try.ntmps18
      go_wp2_with fail
      refine (belowAny o 0 1099511627776 _).mono ?_
      rintro x w1 ⟨rfl, rfl⟩
      go_wp2_with fail
      refine (belowAny t 0 1125899906842624 _).mono ?_
      rintro x w1 ⟨rfl, rfl⟩
      go_wp2_with fail
      refine (belowAny p 0 4294967296 _).mono ?_
      rintro x w1 ⟨rfl, rfl⟩
      go_wp2_with fail
      refine (belowAny q 1 1099511627776 _).mono ?_
      rintro x w1 ⟨rfl, rfl⟩
      go_wp2
      go_ret
      exact ⟨by rw [HD.out]; rfl, HB.out⟩

end Go.Proofs.Ytlbofjeopbadhaa
