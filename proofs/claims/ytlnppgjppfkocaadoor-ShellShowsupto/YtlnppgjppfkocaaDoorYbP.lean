import Derived.Test.YtlnppgjppfkocaaDoorXsB
import Derived.Lib.Join
import Derived.Lib.SlTrimSet
/-! What the program's writer writes, plainly: words by number, trimmed texts, joined parts. -/
namespace Go.Proofs.YtlnppgjppfkocaaDoor.Xs
set_option linter.unusedVariables false
set_option linter.unusedSimpArgs false

/-- The words of a table that has none for 0. -/
def opsL : List By := [] :: oW ++ List.replicate 48 [] ++ [delW]
def kindsL : List By := [[], valueW, tombW]
/-- What named tells. -/
def namedL (ws : List By) (n : Int) (p : By) : By := if 0 ≤ n ∧ n < ws.length ∧ ws.getD n.toNat [] ≠ [] then ws.getD n.toNat [] else p ++ Lib.itoa n
theorem opsL_len : opsL.length = 65 := by decide +kernel
theorem named_op (n : Int) : namedL opsL n opP = opT n := by
  unfold namedL opT
  rw [opsL_len]
  by_cases h1 : 1 ≤ n ∧ n ≤ 15
  · have key : ∀ i : Fin 15, opsL.getD (i.val + 1) [] = oW.getD i.val [] ∧ oW.getD i.val [] ≠ [] := by decide +kernel
    obtain ⟨k1, k2⟩ := key ⟨n.toNat - 1, by omega⟩
    have e : n.toNat - 1 + 1 = n.toNat := by omega
    simp only [e] at k1 k2
    rw [if_pos h1, if_pos ⟨by omega, by omega, by rw [k1]; exact k2⟩, k1]
  · rw [if_neg h1]
    by_cases h2 : n = 64
    · subst h2
      rw [if_pos rfl, if_pos ⟨by omega, by omega, by decide +kernel⟩]
      decide +kernel
    · rw [if_neg h2, if_neg]
      rintro ⟨a, b, c⟩
      have key : ∀ i : Fin 65, i.val = 64 ∨ (1 ≤ i.val ∧ i.val ≤ 15) ∨ opsL.getD i.val [] = [] := by decide +kernel
      rcases key ⟨n.toNat, by omega⟩ with k | k | k
      · simp only at k; omega
      · simp only at k; exact h1 (by omega)
      · exact c k
theorem named_code (n : Int) : namedL cW n codeP = codeT n := by
  unfold namedL codeT
  have hl : cW.length = 12 := by decide +kernel
  rw [hl]
  by_cases h : 0 ≤ n ∧ n < 12
  · have key : ∀ i : Fin 12, cW.getD i.val [] ≠ [] := by decide +kernel
    rw [if_pos h, if_pos ⟨h.1, by omega, key ⟨n.toNat, by omega⟩⟩]
  · rw [if_neg h, if_neg]
    rintro ⟨a, b, _⟩
    exact h (by omega)
theorem named_kind (n : Int) : namedL kindsL n kindP = kindT n := by
  unfold namedL kindT
  have hl : kindsL.length = 3 := by decide
  rw [hl]
  by_cases h1 : n = 1
  · subst h1; rw [if_pos rfl, if_pos ⟨by omega, by omega, by decide⟩]; decide
  · rw [if_neg h1]
    by_cases h2 : n = 2
    · subst h2; rw [if_pos rfl, if_pos ⟨by omega, by omega, by decide⟩]; decide
    · rw [if_neg h2, if_neg]
      rintro ⟨a, b, c⟩
      have : n = 0 := by omega
      subst this
      exact c (by decide)

/-! ### Trimmed texts -/
def plainB : By := [97, 98, 99, 100, 101, 102, 103, 104, 105, 106, 107, 108, 109, 110, 111, 112, 113, 114, 115, 116, 117, 118, 119, 120, 121, 122, 65, 66, 67, 68, 69, 70, 71, 72, 73, 74, 75, 76, 77, 78, 79, 80, 81, 82, 83, 84, 85, 86, 87, 88, 89, 90, 48, 49, 50, 51, 52, 53, 54, 55, 56, 57, 46, 95, 45]
theorem plain_has : ∀ c : UInt8, plainB.contains c = plB c := all256 (by decide +kernel)
theorem dropWhile_nil {α : Type} (p : α → Bool) : ∀ (l : List α), l.dropWhile p = [] ↔ l.all p = true
  | [] => by simp
  | x :: l => by
    cases h : p x
    · simp [List.dropWhile, h]
    · simpa [List.dropWhile, h] using dropWhile_nil p l
theorem drop_all {α : Type} (p : α → Bool) : ∀ (l : List α), (l.dropWhile p).all p = l.all p
  | [] => rfl
  | x :: l => by
    cases h : p x
    · simp [List.dropWhile, h]
    · simpa [List.dropWhile, h] using drop_all p l
theorem trim_nil (s : By) : Lib.trimS s plainB = [] ↔ s.all plB = true := by
  unfold Lib.trimS Lib.trimLeftS Lib.trimRightS
  have e : (fun c : UInt8 => plainB.contains c) = plB := funext plain_has
  rw [e, dropWhile_nil, List.all_reverse, drop_all, List.all_reverse]

/-! ### Joined parts -/
theorem join_tail (ps : List By) : Lib.joinTail [32] ps = ps.flatMap (fun x => 32 :: x) := by
  induction ps with
  | nil => rfl
  | cons x ps ih => rw [List.flatMap_cons, ← ih]; simp [Lib.joinTail]
theorem join_is (p : By) (ps : List By) : Lib.join (p :: ps) [32] = joinL p ps := by
  rw [Lib.join_cons, join_tail]; rfl
end Go.Proofs.YtlnppgjppfkocaaDoor.Xs
