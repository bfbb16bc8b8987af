import Derived.Test.YtbeaefokpggmpabProg
import Derived.WalkKit
import Derived.WalkLawsBesides
import Derived.Deep.QuietTactic
import Derived.BigQuiet
import Derived.WalkSmall
import Derived.OpenShut
import Derived.Laws.StructEq
import Derived.Deep.RegionHeld3
import Derived.BigRegion
/-! quota: buckets as plain values. -/
namespace Go.Proofs.Ytbeaefokpggmpab
open Go.RowKit
set_option linter.unusedVariables false

def I64 (z : Int) : Prop := -9223372036854775808 ≤ z ∧ z ≤ 9223372036854775807
structure Bk where
  num : Int
  den : Int
  burst : Int
  lvl : Int
  part : Int
  at_ : Int
abbrev Bk.v (b : Bk) : Value := .agg #[.int .i64 b.num, .int .i64 b.den, .int .i64 b.burst, .int .i64 b.lvl, .int .i64 b.part, .int .i64 b.at_]
structure Bk.Ok (b : Bk) : Prop where
  num : I64 b.num
  den : I64 b.den
  burst : I64 b.burst
  lvl : I64 b.lvl
  part : I64 b.part
  at_ : I64 b.at_
/-- 13.1: a bucket that may be. -/
structure Bk.Good (b : Bk) : Prop where
  n0 : 1 ≤ b.num
  n1 : b.num ≤ 1073741824
  d0 : 1 ≤ b.den
  d1 : b.den ≤ 1048576
  b0 : 1 ≤ b.burst
  b1 : b.burst ≤ 1073741824
  l0 : 0 ≤ b.lvl
  l1 : b.lvl ≤ b.burst
  p0 : 0 ≤ b.part
  p1 : b.part < b.den
  f : b.lvl = b.burst → b.part = 0
  a0 : 0 ≤ b.at_
  a1 : b.at_ < 1125899906842624
def Bk.zero : Bk := ⟨0, 0, 0, 0, 0, 0⟩
theorem Bk.Good.ok {b : Bk} (h : b.Good) : b.Ok := by
  obtain ⟨h1, h2, h3, h4, h5, h6, h7, h8, h9, h10, h11, h12, h13⟩ := h
  constructor <;> (unfold I64; omega)
def goodDec (b : Bk) : Decidable b.Good :=
  decidable_of_iff ((1 ≤ b.num ∧ b.num ≤ 1073741824 ∧ 1 ≤ b.den ∧ b.den ≤ 1048576 ∧ 1 ≤ b.burst ∧ b.burst ≤ 1073741824) ∧ (0 ≤ b.lvl ∧ b.lvl ≤ b.burst ∧ 0 ≤ b.part ∧ b.part < b.den) ∧ (b.lvl = b.burst → b.part = 0) ∧ 0 ≤ b.at_ ∧ b.at_ < 1125899906842624)
    ⟨fun h => ⟨h.1.1, h.1.2.1, h.1.2.2.1, h.1.2.2.2.1, h.1.2.2.2.2.1, h.1.2.2.2.2.2, h.2.1.1, h.2.1.2.1, h.2.1.2.2.1, h.2.1.2.2.2, h.2.2.1, h.2.2.2.1, h.2.2.2.2⟩,
     fun h => ⟨⟨h.n0, h.n1, h.d0, h.d1, h.b0, h.b1⟩, ⟨h.l0, h.l1, h.p0, h.p1⟩, h.f, h.a0, h.a1⟩⟩
def goodNow (b : Bk) (now : Int) : Decidable (b.Good ∧ b.at_ < now) := @instDecidableAnd _ _ (goodDec b) _
def chkB (b : Bk) : Int := @ite Int b.Good (goodDec b) 0 130
theorem chkB_good {b : Bk} (h : b.Good) : chkB b = 0 := by unfold chkB; rw [if_pos h]
theorem chkB_bad {b : Bk} (h : ¬ b.Good) : chkB b = 130 := by unfold chkB; rw [if_neg h]
/-- How many parts are in it. -/
def Bk.parts (b : Bk) : Int := b.lvl * b.den + b.part
/-- A bucket with so many parts, at a tick. -/
def Bk.withP (b : Bk) (p t : Int) : Bk := if b.burst * b.den ≤ p then { b with lvl := b.burst, part := 0, at_ := t } else { b with lvl := p / b.den, part := p % b.den, at_ := t }
/-- 13.2 -/
def fillP (b : Bk) (now : Int) : Bk :=
  @ite Bk (b.Good ∧ b.at_ < now) (goodNow b now) (b.withP (b.parts + b.num * (min now 1125899906842623 - b.at_)) (min now 1125899906842623)) b
/-- 13.3 -/
def takeP (b : Bk) (now n : Int) : Bk × Int :=
  @ite (Bk × Int) b.Good (goodDec b)
    (let c := fillP b now
    if n < 0 ∨ b.burst < n then (c, -1) else if n ≤ c.lvl then ({ c with lvl := c.lvl - n }, 0) else (c, (n * c.den - c.parts + c.num - 1) / c.num))
    (b, -1)

theorem mul_le_of {a b m n : Int} (ha : 0 ≤ a) (hb : 0 ≤ b) (h1 : a ≤ m) (h2 : b ≤ n) : 0 ≤ a * b ∧ a * b ≤ m * n :=
  ⟨Int.mul_nonneg ha hb, Int.mul_le_mul h1 h2 hb (Int.le_trans ha h1)⟩
theorem Bk.Good.prod {b : Bk} (h : b.Good) : 0 ≤ b.lvl * b.den ∧ b.lvl * b.den ≤ 1125899906842624 ∧ 1 ≤ b.burst * b.den ∧ b.burst * b.den ≤ 1125899906842624 ∧ b.lvl * b.den + b.part ≤ b.burst * b.den := by
  have h1 := mul_le_of (a := b.lvl) (b := b.den) (m := 1073741824) (n := 1048576) h.l0 (by have := h.d0; omega) (by have := h.l1; have := h.b1; omega) h.d1
  have h2 := mul_le_of (a := b.burst) (b := b.den) (m := 1073741824) (n := 1048576) (by have := h.b0; omega) (by have := h.d0; omega) h.b1 h.d1
  have h3 : 1 * 1 ≤ b.burst * b.den := Int.mul_le_mul h.b0 h.d0 (by omega) (by have := h.b0; omega)
  refine ⟨h1.1, by omega, by omega, by omega, ?_⟩
  by_cases hf : b.lvl = b.burst
  · rw [hf, h.f hf]; omega
  · have h4 : (b.lvl + 1) * b.den ≤ b.burst * b.den := Int.mul_le_mul (by have := h.l1; omega) (Int.le_refl _) (by have := h.d0; omega) (by have := h.b0; omega)
    rw [Int.add_mul] at h4
    have := h.p1
    omega
/-- A bucket with some parts may be. -/
theorem Bk.Good.withP {b : Bk} (h : b.Good) {p t : Int} (hp : 0 ≤ p) (h0 : 0 ≤ t) (h1 : t < 1125899906842624) : (b.withP p t).Good := by
  unfold Bk.withP
  split
  · exact ⟨h.n0, h.n1, h.d0, h.d1, h.b0, h.b1, by have := h.b0; simp only; omega, Int.le_refl _, Int.le_refl _, by have := h.d0; simp only; omega, fun _ => rfl, h0, h1⟩
  · rename_i hlt
    have hd := h.d0
    have e := Int.emod_nonneg p (b := b.den) (by omega)
    have e1 := Int.emod_lt_of_pos p (b := b.den) (by omega)
    have e2 := Int.ediv_nonneg hp (by omega : 0 ≤ b.den)
    have e3 : p / b.den < b.burst := Int.ediv_lt_of_lt_mul (by omega) (by omega)
    exact ⟨h.n0, h.n1, h.d0, h.d1, h.b0, h.b1, e2, by simp only; omega, e, e1, fun hx => by simp only at hx; omega, h0, h1⟩
theorem Bk.withP_parts {b : Bk} (h : b.Good) {p t : Int} : (b.withP p t).parts = min p (b.burst * b.den) := by
  unfold Bk.withP
  split
  · unfold Bk.parts; simp only; omega
  · unfold Bk.parts; simp only
    have := Int.mul_ediv_add_emod p b.den
    rw [Int.mul_comm] at this
    omega
theorem Bk.Good.fill {b : Bk} (h : b.Good) (now : Int) : (fillP b now).Good := by
  unfold fillP
  split
  · rename_i hh
    have hp := h.prod
    have := h.a0
    have := h.a1
    have := h.p0
    have := Int.mul_nonneg (a := b.num) (b := min now 1125899906842623 - b.at_) (by have := h.n0; omega) (by omega)
    exact h.withP (by unfold Bk.parts; omega) (by omega) (by omega)
  · exact h
/-- A bucket is told by its parts. -/
theorem Bk.withP_id {b : Bk} (h : b.Good) (t : Int) : b.withP b.parts t = { b with at_ := t } := by
  have hp := h.prod
  have h0 := h.p0
  have h1 := h.p1
  unfold Bk.withP
  split
  · rename_i hh
    unfold Bk.parts at hh
    by_cases hf : b.lvl = b.burst
    · have := h.f hf
      cases b; simp_all
    · exfalso
      have h4 : (b.lvl + 1) * b.den ≤ b.burst * b.den := Int.mul_le_mul (by have := h.l1; omega) (Int.le_refl _) (by have := h.d0; omega) (by have := h.b0; omega)
      rw [Int.add_mul] at h4
      omega
  · have e1 : b.parts / b.den = b.lvl := by
      unfold Bk.parts
      rw [Int.add_comm, Int.add_mul_ediv_right _ _ (by omega : b.den ≠ 0), Int.ediv_eq_zero_of_lt h0 h1]; omega
    have e2 : b.parts % b.den = b.part := by
      unfold Bk.parts
      rw [Int.add_comm, Int.add_mul_emod_self_right, Int.emod_eq_of_lt h0 h1]
    rw [e1, e2]
end Go.Proofs.Ytbeaefokpggmpab
