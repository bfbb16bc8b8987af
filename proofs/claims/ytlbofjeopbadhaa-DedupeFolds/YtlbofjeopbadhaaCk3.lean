import Derived.Test.YtlbofjeopbadhaaCk2
namespace Go.Proofs.Ytlbofjeopbadhaa
open Go.RowKit Plain
set_option linter.unusedVariables false

set_option maxHeartbeats 2000000 in
theorem refCheckAny (x : Rc) (hx : x.Ok) (w : World) : Calls Try.prog 18 #[x.agg] w (ChkPost x w) := by
  obtain ⟨k, o, t, p, q, key, val⟩ := x
  have hkm := hx.key
  have hvm := hx.val
  unfold maxLen at hkm hvm
  simp only at hkm hvm
  have HB : Hid (Below w.heap.size w (w.alloc (.cells #[.int .i64 k, .int .i64 o, .int .i64 t, .int .i64 p, .int .i64 q, .string key, .string val] 32))) := (Below.refl _ _).alloc (Nat.le_refl _) _
  clear hx
  unfold Rc.agg
  by_cases hk : k ≠ 1 ∧ k ≠ 2
  · have HC : Hid (chk ⟨k, o, t, p, q, key, val⟩ = 44) := by unfold Hid chk; rw [if_pos hk]
    have e1 : (k != 1) = true := by simpa using hk.1
    have e2 : (k != 2) = true := by simpa using hk.2
    clear hk
    go_enter Try.func18, Try.ntmps18
    go_wp2
    go_ret
    exact ⟨by rw [HC.out]; rfl, HB.out⟩
  have hk2 : k = 1 ∨ k = 2 := by omega
  cases ho : inR o 0 1099511627776 with
  | false =>
    have HC : Hid (chk ⟨k, o, t, p, q, key, val⟩ = 45) := by unfold Hid chk; rw [if_neg hk, if_pos ho]
    clear hk
    rcases hk2 with rfl | rfl
    all_goals
      go_enter Try.func18, Try.ntmps18
      go_wp2_with fail
      refine (belowAny o 0 1099511627776 _).mono ?_
      rintro x w1 ⟨rfl, rfl⟩
      go_wp2
      go_ret
      exact ⟨by rw [HC.out]; rfl, HB.out⟩
  | true =>
  cases ht : inR t 0 1125899906842624 with
  | false =>
    have HC : Hid (chk ⟨k, o, t, p, q, key, val⟩ = 45) := by unfold Hid chk; simp [hk, ho, ht]
    clear hk
    rcases hk2 with rfl | rfl
    all_goals
      go_enter Try.func18, Try.ntmps18
      go_wp2_with fail
      refine (belowAny o 0 1099511627776 _).mono ?_
      rintro x w1 ⟨rfl, rfl⟩
      go_wp2_with fail
      refine (belowAny t 0 1125899906842624 _).mono ?_
      rintro x w1 ⟨rfl, rfl⟩
      go_wp2
      go_ret
      exact ⟨by rw [HC.out]; rfl, HB.out⟩
  | true =>
  cases hp : inR p 0 4294967296 with
  | false =>
    have hpr : prod p q = false := by
      simp [inR] at hp
      unfold prod
      rw [if_neg (by omega)]
      simp [inR]
      omega
    have HC : Hid (chk ⟨k, o, t, p, q, key, val⟩ = 45) := by unfold Hid chk; simp [hk, ho, ht, hpr]
    clear hk hpr
    rcases hk2 with rfl | rfl
    all_goals
      go_enter Try.func18, Try.ntmps18
      go_wp2_with fail
      refine (belowAny o 0 1099511627776 _).mono ?_
      rintro x w1 ⟨rfl, rfl⟩
      go_wp2_with fail
      refine (belowAny t 0 1125899906842624 _).mono ?_
      rintro x w1 ⟨rfl, rfl⟩
      go_wp2_with fail
      refine (belowAny p 0 4294967296 _).mono ?_
      rintro x w1 ⟨rfl, rfl⟩
      go_wp2
      go_ret
      exact ⟨by rw [HC.out]; rfl, HB.out⟩
  | true =>
  have hp0 : 0 ≤ p ∧ p < 4294967296 := by simpa [inR] using hp
  by_cases h0p : p = 0
  · by_cases h0q : q = 0
    · have HC : Hid (chk ⟨k, o, t, p, q, key, val⟩ = if key.size = 0 ∨ 64 < key.size then 42 else if 1024 < val.size ∨ (k = 2 ∧ 0 < val.size) then 43 else 0) := by unfold Hid chk; simp [hk, ho, ht, prod, h0p, h0q]
      subst h0p
      subst h0q
      exact refTail0 k o t key val w hkm hvm hk2 ho ht hp HC HB
    · have HC : Hid (chk ⟨k, o, t, p, q, key, val⟩ = 45) := by unfold Hid chk; simp [hk, ho, ht, prod, h0p, h0q]
      have eq : (q != 0) = true := by simpa using h0q
      subst h0p
      clear hk hp0 h0q
      rcases hk2 with rfl | rfl
      all_goals
        go_enter Try.func18, Try.ntmps18
        go_wp2_with fail
        refine (belowAny o 0 1099511627776 _).mono ?_
        rintro x w1 ⟨rfl, rfl⟩
        go_wp2_with fail
        refine (belowAny t 0 1125899906842624 _).mono ?_
        rintro x w1 ⟨rfl, rfl⟩
        go_wp2_with fail
        refine (belowAny 0 0 4294967296 _).mono ?_
        rintro x w1 ⟨rfl, rfl⟩
        go_wp2
        go_ret
        exact ⟨by rw [HC.out]; rfl, HB.out⟩
  · have h0p' : 0 < p := by omega
    have ep : (p == 0) = false := by rw [beq_eq_false_iff_ne]; omega
    cases hq : inR q 1 1099511627776 with
    | true =>
      have hpr : prod p q = true := by
        unfold prod
        rw [if_neg h0p, hq]
        simp [inR]
        omega
      have HC : Hid (chk ⟨k, o, t, p, q, key, val⟩ = if key.size = 0 ∨ 64 < key.size then 42 else if 1024 < val.size ∨ (k = 2 ∧ 0 < val.size) then 43 else 0) := by unfold Hid chk; simp [hk, ho, ht, hpr]
      exact refTail1 k o t p q key val w hkm hvm hk2 ho ht hp h0p' hq HC HB
    | false =>
      have HC : Hid (chk ⟨k, o, t, p, q, key, val⟩ = 45) := by unfold Hid chk; simp [hk, ho, ht, prod, h0p, hq]
      clear hk hp0 h0p
      rcases hk2 with rfl | rfl
      all_goals
        go_enter Try.func18, Try.ntmps18
        go_wp2_with fail
        refine (belowAny o 0 1099511627776 _).mono ?_
        rintro x w1 ⟨rfl, rfl⟩
        go_wp2_with fail
        refine (belowAny t 0 1125899906842624 _).mono ?_
        rintro x w1 ⟨rfl, rfl⟩
        go_wp2_with fail
        refine (belowAny p 0 4294967296 _).mono ?_
        rintro x w1 ⟨rfl, rfl⟩
        go_wp2_with fail
        refine (belowAny q 1 1099511627776 _).mono ?_
        rintro x w1 ⟨rfl, rfl⟩
        go_wp2
        go_ret
        exact ⟨by rw [HC.out]; rfl, HB.out⟩
end Go.Proofs.Ytlbofjeopbadhaa
