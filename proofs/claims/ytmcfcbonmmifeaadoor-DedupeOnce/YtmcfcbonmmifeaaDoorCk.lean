import Derived.Test.YtmcfcbonmmifeaaDoorRc
/-! May a record be? Both answers. -/
namespace Go.Proofs.YtmcfcbonmmifeaaDoor
open Go.RowKit Plain
set_option linter.unusedVariables false

def inR (v a e : Int) : Bool := decide (a ≤ v) && decide (v < e)
theorem withinAny (v a e : Int) (w : World) : Calls Tryd.prog 30 #[.int .i64 v, .int .i64 a, .int .i64 e] w fun x w' => x = .returned (.bool (inR v a e)) ∧ w' = w := by
  by_cases h1 : a ≤ v
  · by_cases h2 : v < e
    all_goals
      go_enter Tryd.func30, Tryd.ntmps30
      go_wp2
      go_ret
      exact ⟨by simp [inR, h1, h2], rfl⟩
  · go_enter Tryd.func30, Tryd.ntmps30
    go_wp2
    go_ret
    exact ⟨by simp [inR]; omega, rfl⟩
def prod (p q : Int) : Bool := if p = 0 then decide (q = 0) else inR p 1 4294967296 && inR q 1 1099511627776
theorem rightPAny (p q : Int) (w : World) : Calls Tryd.prog 31 #[.int .i64 p, .int .i64 q] w fun x w' => x = .returned (.bool (prod p q)) ∧ w' = w := by
  by_cases h0 : p = 0
  · subst h0
    by_cases hq : q = 0
    · subst hq
      go_enter Tryd.func31, Tryd.ntmps31
      go_wp2
      go_ret
      exact ⟨by simp [prod], rfl⟩
    · have e0 : (q == 0) = false := by simpa using hq
      go_enter Tryd.func31, Tryd.ntmps31
      go_wp2
      go_ret
      exact ⟨by simp [prod, hq], rfl⟩
  · have e0 : (p == 0) = false := by simpa using h0
    cases h1 : inR p 1 4294967296 with
    | true =>
      go_enter Tryd.func31, Tryd.ntmps31
      go_wp2_with fail
      refine (withinAny p 1 4294967296 _).mono ?_
      rintro x w1 ⟨rfl, rfl⟩
      go_wp2_with fail
      refine (withinAny q 1 1099511627776 _).mono ?_
      rintro x w1 ⟨rfl, rfl⟩
      go_wp2
      go_ret
      exact ⟨by simp [prod, h0, h1], rfl⟩
    | false =>
      go_enter Tryd.func31, Tryd.ntmps31
      go_wp2_with fail
      refine (withinAny p 1 4294967296 _).mono ?_
      rintro x w1 ⟨rfl, rfl⟩
      go_wp2
      go_ret
      exact ⟨by simp [prod, h0, h1], rfl⟩

def chk (x : Rc) : Int :=
  if x.k ≠ 1 ∧ x.k ≠ 2 then 44 else if inR x.o 0 1099511627776 = false then 45 else if inR x.t 0 1125899906842624 = false then 45 else if prod x.p x.q = false then 45
  else if x.key.size = 0 ∨ 64 < x.key.size then 42 else if 1024 < x.val.size ∨ (x.k = 2 ∧ 0 < x.val.size) then 43 else 0

abbrev ChkPost (x : Rc) (w : World) : Ending → World → Prop := fun e w' => e = .returned (.int .i64 (chk x)) ∧ Below w.heap.size w w'

set_option maxHeartbeats 2000000 in
theorem checkAny (x : Rc) (hx : x.Ok) (w : World) : Calls Tryd.prog 24 #[x.agg] w (ChkPost x w) := by
  obtain ⟨k, o, t, p, q, key, val⟩ := x
  have hkm := hx.key
  have hvm := hx.val
  unfold maxLen at hkm hvm
  simp only at hkm hvm
  have HB : Hid (Below w.heap.size w (w.alloc (.cells #[.int .i64 k, .int .i64 o, .int .i64 t, .int .i64 p, .int .i64 q, .string key, .string val] 35))) := (Below.refl _ _).alloc (Nat.le_refl _) _
  clear hx
  unfold Rc.agg
  by_cases hk : k ≠ 1 ∧ k ≠ 2
  · have HC : Hid (chk ⟨k, o, t, p, q, key, val⟩ = 44) := by unfold Hid chk; rw [if_pos hk]
    have e1 : (k == 1) = false := by simpa using hk.1
    have e2 : (k == 2) = false := by simpa using hk.2
    have e3 : (k != 1) = true := by simpa using hk.1
    clear hk
    go_enter Tryd.func24, Tryd.ntmps24
    go_wp2
    go_ret
    exact ⟨by rw [HC.out]; rfl, HB.out⟩
  obtain ⟨dead, hd⟩ : ∃ dead : Bool, dead = (k == 2) := ⟨_, rfl⟩
  have hk2 : k = 1 ∨ k = 2 := by omega
  have start : ∀ (Q : Ending → World → Prop), True := fun _ => trivial
  cases ho : inR o 0 1099511627776 with
  | false =>
    have HC : Hid (chk ⟨k, o, t, p, q, key, val⟩ = 45) := by unfold Hid chk; rw [if_neg hk, if_pos ho]
    rcases hk2 with rfl | rfl
    all_goals
      clear hk
      go_enter Tryd.func24, Tryd.ntmps24
      go_wp2_with fail
      refine (withinAny o 0 1099511627776 _).mono ?_
      rintro x w1 ⟨rfl, rfl⟩
      go_wp2
      go_ret
      exact ⟨by rw [HC.out]; rfl, HB.out⟩
  | true =>
  cases ht : inR t 0 1125899906842624 with
  | false =>
    have HC : Hid (chk ⟨k, o, t, p, q, key, val⟩ = 45) := by unfold Hid chk; simp [hk, ho, ht]
    rcases hk2 with rfl | rfl
    all_goals
      clear hk
      go_enter Tryd.func24, Tryd.ntmps24
      go_wp2_with fail
      refine (withinAny o 0 1099511627776 _).mono ?_
      rintro x w1 ⟨rfl, rfl⟩
      go_wp2_with fail
      refine (withinAny t 0 1125899906842624 _).mono ?_
      rintro x w1 ⟨rfl, rfl⟩
      go_wp2
      go_ret
      exact ⟨by rw [HC.out]; rfl, HB.out⟩
  | true =>
  cases hp : prod p q with
  | false =>
    have HC : Hid (chk ⟨k, o, t, p, q, key, val⟩ = 45) := by unfold Hid chk; simp [hk, ho, ht, hp]
    rcases hk2 with rfl | rfl
    all_goals
      clear hk
      go_enter Tryd.func24, Tryd.ntmps24
      go_wp2_with fail
      refine (withinAny o 0 1099511627776 _).mono ?_
      rintro x w1 ⟨rfl, rfl⟩
      go_wp2_with fail
      refine (withinAny t 0 1125899906842624 _).mono ?_
      rintro x w1 ⟨rfl, rfl⟩
      go_wp2_with fail
      refine (rightPAny p q _).mono ?_
      rintro x w1 ⟨rfl, rfl⟩
      go_wp2
      go_ret
      exact ⟨by rw [HC.out]; rfl, HB.out⟩
  | true =>
  have HC : Hid (chk ⟨k, o, t, p, q, key, val⟩ = if key.size = 0 ∨ 64 < key.size then 42 else if 1024 < val.size ∨ (k = 2 ∧ 0 < val.size) then 43 else 0) := by unfold Hid chk; simp [hk, ho, ht, hp]
  clear hd start dead hk
  by_cases h0 : key.size = 0
  · have HD : Hid (chk ⟨k, o, t, p, q, key, val⟩ = 42) := by unfold Hid; rw [HC.out, if_pos (.inl h0)]
    rcases hk2 with rfl | rfl
    all_goals
      go_enter Tryd.func24, Tryd.ntmps24
      go_wp2_with fail
      refine (withinAny o 0 1099511627776 _).mono ?_
      rintro x w1 ⟨rfl, rfl⟩
      go_wp2_with fail
      refine (withinAny t 0 1125899906842624 _).mono ?_
      rintro x w1 ⟨rfl, rfl⟩
      go_wp2_with fail
      refine (rightPAny p q _).mono ?_
      rintro x w1 ⟨rfl, rfl⟩
      go_wp2
      go_ret
      exact ⟨by rw [HD.out]; rfl, HB.out⟩
  by_cases h1 : 64 < key.size
  · have HD : Hid (chk ⟨k, o, t, p, q, key, val⟩ = 42) := by unfold Hid; rw [HC.out, if_pos (.inr h1)]
    have e0 : (((key.size : Nat) : Int) == 0) = false := by rw [beq_eq_false_iff_ne]; omega
    clear h0
    rcases hk2 with rfl | rfl
    all_goals
      go_enter Tryd.func24, Tryd.ntmps24
      go_wp2_with fail
      refine (withinAny o 0 1099511627776 _).mono ?_
      rintro x w1 ⟨rfl, rfl⟩
      go_wp2_with fail
      refine (withinAny t 0 1125899906842624 _).mono ?_
      rintro x w1 ⟨rfl, rfl⟩
      go_wp2_with fail
      refine (rightPAny p q _).mono ?_
      rintro x w1 ⟨rfl, rfl⟩
      go_wp2
      go_ret
      exact ⟨by rw [HD.out]; rfl, HB.out⟩
  have e0 : (((key.size : Nat) : Int) == 0) = false := by rw [beq_eq_false_iff_ne]; omega
  have h1' : ¬ ((64 : Int) < (key.size : Int)) := by omega
  have HE : Hid (chk ⟨k, o, t, p, q, key, val⟩ = if 1024 < val.size ∨ (k = 2 ∧ 0 < val.size) then 43 else 0) := by unfold Hid; rw [HC.out, if_neg (by omega)]
  clear h0 HC
  by_cases h2 : 1024 < val.size
  · have HD : Hid (chk ⟨k, o, t, p, q, key, val⟩ = 43) := by unfold Hid; rw [HE.out, if_pos (.inl h2)]
    rcases hk2 with rfl | rfl
    all_goals
      go_enter Tryd.func24, Tryd.ntmps24
      go_wp2_with fail
      refine (withinAny o 0 1099511627776 _).mono ?_
      rintro x w1 ⟨rfl, rfl⟩
      go_wp2_with fail
      refine (withinAny t 0 1125899906842624 _).mono ?_
      rintro x w1 ⟨rfl, rfl⟩
      go_wp2_with fail
      refine (rightPAny p q _).mono ?_
      rintro x w1 ⟨rfl, rfl⟩
      go_wp2
      go_ret
      exact ⟨by rw [HD.out]; rfl, HB.out⟩
  have h2' : ¬ ((1024 : Int) < (val.size : Int)) := by omega
  rcases hk2 with rfl | rfl
  · have HD : Hid (chk ⟨1, o, t, p, q, key, val⟩ = 0) := by unfold Hid; rw [HE.out, if_neg (by omega)]
    go_enter Tryd.func24, Tryd.ntmps24
    go_wp2_with fail
    refine (withinAny o 0 1099511627776 _).mono ?_
    rintro x w1 ⟨rfl, rfl⟩
    go_wp2_with fail
    refine (withinAny t 0 1125899906842624 _).mono ?_
    rintro x w1 ⟨rfl, rfl⟩
    go_wp2_with fail
    refine (rightPAny p q _).mono ?_
    rintro x w1 ⟨rfl, rfl⟩
    go_wp2
    go_ret
    exact ⟨by rw [HD.out]; rfl, HB.out⟩
  · by_cases h3 : 0 < val.size
    · have HD : Hid (chk ⟨2, o, t, p, q, key, val⟩ = 43) := by unfold Hid; rw [HE.out, if_pos (.inr ⟨rfl, h3⟩)]
      go_enter Tryd.func24, Tryd.ntmps24
      go_wp2_with fail
      refine (withinAny o 0 1099511627776 _).mono ?_
      rintro x w1 ⟨rfl, rfl⟩
      go_wp2_with fail
      refine (withinAny t 0 1125899906842624 _).mono ?_
      rintro x w1 ⟨rfl, rfl⟩
      go_wp2_with fail
      refine (rightPAny p q _).mono ?_
      rintro x w1 ⟨rfl, rfl⟩
      go_wp2
      go_ret
      exact ⟨by rw [HD.out]; rfl, HB.out⟩
    · have HD : Hid (chk ⟨2, o, t, p, q, key, val⟩ = 0) := by unfold Hid; rw [HE.out, if_neg (by omega)]
      have h3' : ¬ ((0 : Int) < (val.size : Int)) := by omega
      go_enter Tryd.func24, Tryd.ntmps24
      go_wp2_with fail
      refine (withinAny o 0 1099511627776 _).mono ?_
      rintro x w1 ⟨rfl, rfl⟩
      go_wp2_with fail
      refine (withinAny t 0 1125899906842624 _).mono ?_
      rintro x w1 ⟨rfl, rfl⟩
      go_wp2_with fail
      refine (rightPAny p q _).mono ?_
      rintro x w1 ⟨rfl, rfl⟩
      go_wp2
      go_ret
      exact ⟨by rw [HD.out]; rfl, HB.out⟩
end Go.Proofs.YtmcfcbonmmifeaaDoor
