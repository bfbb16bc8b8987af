import Derived.Test.YtmhaodcgognhiaaMgs
import Derived.Test.YtmhaodcgognhiaaMga
/-! merge: sums and products that stay at the greatest number. -/
namespace Go.Proofs.Ytmhaodcgognhiaa
open Go.RowKit Plain
set_option linter.unusedVariables false

theorem wpList_mxN {ops : Array Oper} {rest : List Oper} {o : Oper} {a : Act} {Q : Exit → Act → World → Prop} {w : World} (hgd : o.guard = none) (s x : Operand) (t tx : TypeId) (z y m : Int)
    (ho : o.op = .call { callee := .builtin .max, args := #[s, x], argTypes := #[t, tx] }) (hs : a.eval s = .int .i64 z) (hx : a.eval x = .int .i64 y) (hm : (if y > z then y else z) = m)
    (h : wpList Try.prog ops Q rest (a.put o.dst (.int .i64 m)) w) : wpList Try.prog ops Q (o :: rest) a w :=
  wpList_plain hgd fun _ hK => by
    have hr := run_max_int2 (P := Try.prog) (w := w) #[t, tx] o.type .i64 .i64 z y
    rw [hm] at hr
    unfold Oper.wp execOp
    simp only [ho, resolve, invoke, builtin, Sem.run_bind, Sem.run_pure, Result.andThen_ok, List.map_toArray, List.map_cons, List.map_nil, hs, hx, hr]
    exact hK _ _ h
theorem wpList_mnN {ops : Array Oper} {rest : List Oper} {o : Oper} {a : Act} {Q : Exit → Act → World → Prop} {w : World} (hgd : o.guard = none) (s x : Operand) (t tx : TypeId) (z y m : Int)
    (ho : o.op = .call { callee := .builtin .min, args := #[s, x], argTypes := #[t, tx] }) (hs : a.eval s = .int .i64 z) (hx : a.eval x = .int .i64 y) (hm : (if y < z then y else z) = m)
    (h : wpList Try.prog ops Q rest (a.put o.dst (.int .i64 m)) w) : wpList Try.prog ops Q (o :: rest) a w :=
  wpList_plain hgd fun _ hK => by
    have hr := run_min_int2 (P := Try.prog) (w := w) #[t, tx] o.type .i64 .i64 z y
    rw [hm] at hr
    unfold Oper.wp execOp
    simp only [ho, resolve, invoke, builtin, Sem.run_bind, Sem.run_pure, Result.andThen_ok, List.map_toArray, List.map_cons, List.map_nil, hs, hx, hr]
    exact hK _ _ h

def plusN (a b : Int) : Int := if b ≤ 0 then a else if 9223372036854775807 - b < a then 9223372036854775807 else a + b
def timesN (a b : Int) : Int := if 9223372036854775807 < a * b then 9223372036854775807 else a * b
theorem plusN_b {a b : Int} (ha : 0 ≤ a ∧ a ≤ 9223372036854775807) (hb : I64 b) : 0 ≤ plusN a b ∧ plusN a b ≤ 9223372036854775807 := by
  unfold I64 at hb
  unfold plusN
  split
  · omega
  · split <;> omega
theorem timesN_comm (a b : Int) : timesN a b = timesN b a := by unfold timesN; rw [Int.mul_comm]

theorem msumOf (a b : Int) (ha : 0 ≤ a ∧ a ≤ 9223372036854775807) (hb : I64 b) (w : World) : Calls Try.prog 17 #[.int .i64 a, .int .i64 b] w fun e w' => e = .returned (.int .i64 (plusN a b)) ∧ w' = w := by
  unfold I64 at hb
  obtain ⟨m, hm⟩ : ∃ m : Int, (if (0 : Int) > b then 0 else b) = m := ⟨_, rfl⟩
  have hm2 : 0 ≤ m ∧ m ≤ 9223372036854775807 := by rw [← hm]; split <;> omega
  obtain ⟨q, hq⟩ : ∃ q : Int, (if 9223372036854775807 - a < m then 9223372036854775807 - a else m) = q := ⟨_, rfl⟩
  have hw1 : wrap64 (9223372036854775807 - a) = 9223372036854775807 - a := by unfold wrap64; omega
  have hq2 : 0 ≤ q ∧ a + q ≤ 9223372036854775807 := by rw [← hq]; split <;> omega
  have hw2 : wrap64 (a + q) = a + q := by unfold wrap64; omega
  have HE : Hid (plusN a b = a + q) := by
    unfold Hid plusN
    rw [← hq, ← hm]
    repeat' split
    all_goals omega
  have HM : Hid ((if (0 : Int) > b then 0 else b) = m) := hm
  have HQ : Hid ((if 9223372036854775807 - a < m then 9223372036854775807 - a else m) = q) := hq
  clear hm hq
  go_enter Try.func17, Try.ntmps17
  go_wp2_with (first | refine wpList_mxN (by with_reducible rfl) _ _ 3 3 _ _ _ (by with_reducible rfl) (by rfl) (by rfl) HM.out ?_ | refine wpList_mnN (by with_reducible rfl) _ _ 3 3 _ _ _ (by with_reducible rfl) (by rfl) (by rfl) HQ.out ?_)
  go_ret
  exact ⟨by rw [HE.out]; rfl, rfl⟩

theorem plusOf (a b : Int) (ha : 0 ≤ a ∧ a ≤ 9223372036854775807) (hb : I64 b) (w : World) : Calls Try.prog 19 #[.int .i64 a, .int .i64 b] w fun e w' => e = .returned (.int .i64 (plusN a b)) ∧ w' = w := by
  unfold I64 at hb
  by_cases h1 : b ≤ 0
  · have HE : Hid (plusN a b = a) := by unfold Hid plusN; rw [if_pos h1]
    go_enter Try.func19, Try.ntmps19
    go_wp2
    go_ret
    exact ⟨by rw [HE.out]; rfl, rfl⟩
  have hw1 : wrap64 (9223372036854775807 - b) = 9223372036854775807 - b := by unfold wrap64; omega
  by_cases h2 : a > 9223372036854775807 - b
  · have HE : Hid (plusN a b = 9223372036854775807) := by unfold Hid plusN; rw [if_neg h1, if_pos (by omega)]
    go_enter Try.func19, Try.ntmps19
    go_wp2
    go_ret
    exact ⟨by rw [HE.out]; rfl, rfl⟩
  have hw2 : wrap64 (a + b) = a + b := by unfold wrap64; omega
  have HE : Hid (plusN a b = a + b) := by unfold Hid plusN; rw [if_neg h1, if_neg (by omega)]
  go_enter Try.func19, Try.ntmps19
  go_wp2
  go_ret
  exact ⟨by rw [HE.out]; rfl, rfl⟩

theorem over_div {a b : Int} (hb : 0 < b) : (9223372036854775807 : Int) / b < a ↔ 9223372036854775807 < a * b := Int.ediv_lt_iff_lt_mul hb

theorem timesOf (a b : Int) (ha : 0 ≤ a ∧ a ≤ 9223372036854775807) (hb : 0 ≤ b ∧ b ≤ 9223372036854775807) (w : World) : Calls Try.prog 18 #[.int .i64 a, .int .i64 b] w fun e w' => e = .returned (.int .i64 (timesN a b)) ∧ w' = w := by
  by_cases h0 : b = 0
  · subst h0
    have HE : Hid (timesN a 0 = 0) := by unfold Hid timesN; simp
    go_enter Try.func18, Try.ntmps18
    go_wp2
    go_ret
    exact ⟨by rw [HE.out]; simp, rfl⟩
  have hb0 : 0 < b := by omega
  have hd : Int.tdiv 9223372036854775807 b = 9223372036854775807 / b := Int.tdiv_eq_ediv_of_nonneg (by decide)
  have hdb : 0 ≤ (9223372036854775807 : Int) / b ∧ (9223372036854775807 : Int) / b ≤ 9223372036854775807 := ⟨Int.ediv_nonneg (by decide) (by omega), Int.ediv_le_self _ (by decide)⟩
  have hwd : wrap64 (9223372036854775807 / b) = 9223372036854775807 / b := by unfold wrap64; omega
  by_cases h2 : a > 9223372036854775807 / b
  · have HE : Hid (timesN a b = 9223372036854775807) := by unfold Hid timesN; rw [if_pos ((over_div hb0).mp h2)]
    go_enter Try.func18, Try.ntmps18
    go_wp2
    go_ret
    exact ⟨by rw [HE.out]; rfl, rfl⟩
  have hab : ¬ 9223372036854775807 < a * b := fun h => h2 ((over_div hb0).mpr h)
  have hab0 : 0 ≤ a * b := Int.mul_nonneg ha.1 hb.1
  have hw2 : wrap64 (a * b) = a * b := by unfold wrap64; omega
  have HE : Hid (timesN a b = a * b) := by unfold Hid timesN; rw [if_neg hab]
  go_enter Try.func18, Try.ntmps18
  go_wp2
  go_ret
  exact ⟨by rw [HE.out]; rfl, rfl⟩

theorem rtimesOf (a b : Int) (ha : 0 ≤ a ∧ a ≤ 9223372036854775807) (hb : 0 ≤ b ∧ b ≤ 9223372036854775807) (w : World) : Calls Try.prog 20 #[.int .i64 a, .int .i64 b] w fun e w' => e = .returned (.int .i64 (timesN a b)) ∧ w' = w := by
  by_cases h0 : a = 0
  · subst h0
    have HE : Hid (timesN 0 b = 0) := by unfold Hid timesN; simp
    go_enter Try.func20, Try.ntmps20
    go_wp2
    go_ret
    exact ⟨by rw [HE.out]; rfl, rfl⟩
  by_cases h1 : b = 0
  · subst h1
    have HE : Hid (timesN a 0 = 0) := by unfold Hid timesN; simp
    go_enter Try.func20, Try.ntmps20
    go_wp2
    go_ret
    exact ⟨by rw [HE.out]; rfl, rfl⟩
  have e0 : (a == 0) = false := by simp [h0]
  have e1 : (b == 0) = false := by simp [h1]
  have hb0 : 0 < b := by omega
  have hd : Int.tdiv 9223372036854775807 b = 9223372036854775807 / b := Int.tdiv_eq_ediv_of_nonneg (by decide)
  have hdb : 0 ≤ (9223372036854775807 : Int) / b ∧ (9223372036854775807 : Int) / b ≤ 9223372036854775807 := ⟨Int.ediv_nonneg (by decide) (by omega), Int.ediv_le_self _ (by decide)⟩
  have hwd : wrap64 (9223372036854775807 / b) = 9223372036854775807 / b := by unfold wrap64; omega
  by_cases h2 : a > 9223372036854775807 / b
  · have HE : Hid (timesN a b = 9223372036854775807) := by unfold Hid timesN; rw [if_pos ((over_div hb0).mp h2)]
    go_enter Try.func20, Try.ntmps20
    go_wp2
    go_ret
    exact ⟨by rw [HE.out]; rfl, rfl⟩
  have hab : ¬ 9223372036854775807 < a * b := fun h => h2 ((over_div hb0).mpr h)
  have hab0 : 0 ≤ a * b := Int.mul_nonneg ha.1 hb.1
  have hw2 : wrap64 (a * b) = a * b := by unfold wrap64; omega
  have HE : Hid (timesN a b = a * b) := by unfold Hid timesN; rw [if_neg hab]
  go_enter Try.func20, Try.ntmps20
  go_wp2
  go_ret
  exact ⟨by rw [HE.out]; rfl, rfl⟩
end Go.Proofs.Ytmhaodcgognhiaa
