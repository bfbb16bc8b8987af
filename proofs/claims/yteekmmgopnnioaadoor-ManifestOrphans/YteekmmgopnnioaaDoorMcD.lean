import Derived.Test.YteekmmgopnnioaaDoorMcC
/-! manifest: producers that may be. -/
namespace Go.Proofs.YteekmmgopnnioaaDoor
open Go.RowKit Plain
set_option linter.unusedVariables false
set_option linter.unusedSimpArgs false

def goodP (l : List Pr) (next : Int) (i : Nat) : Bool := inW (l.getD i Pr.zero).pid 1 4294967295 && inW (l.getD i Pr.zero).seq 1 1099511627775 && inW (l.getD i Pr.zero).off 0 (next - 1) && (decide (i = 0) || decide ((l.getD (i - 1) Pr.zero).pid < (l.getD i Pr.zero).pid))
def okProds (l : List Pr) (next : Int) : Bool := decide (l.length ≤ 64) && allB l.length (goodP l next)
def aheadP (l : List Pr) (k : Nat) : Int := if k = 0 then 0 else (l.getD (k - 1) Pr.zero).pid
theorem aheadP_succ (l : List Pr) (k : Nat) : aheadP l (k + 1) = (l.getD k Pr.zero).pid := by unfold aheadP; simp
theorem aheadP_ok {l : List Pr} {next : Int} {k : Nat} (h : allB k (goodP l next) = true) : 0 ≤ aheadP l k ∧ aheadP l k ≤ 4294967295 := by
  unfold aheadP
  split
  · omega
  · have := allB_at h (k := k - 1) (by omega)
    unfold goodP inW at this
    simp only [Bool.and_eq_true, decide_eq_true_eq] at this
    omega
theorem goodP_ahead {l : List Pr} {next : Int} {k : Nat} (h : allB k (goodP l next) = true) : goodP l next k = (inW (l.getD k Pr.zero).pid (aheadP l k + 1) 4294967295 && inW (l.getD k Pr.zero).seq 1 1099511627775 && inW (l.getD k Pr.zero).off 0 (next - 1)) := by
  have ha := aheadP_ok h
  unfold goodP
  by_cases hk : k = 0
  · subst hk
    unfold aheadP
    simp
  · have e : aheadP l k = (l.getD (k - 1) Pr.zero).pid := by unfold aheadP; rw [if_neg hk]
    rw [← e]
    generalize aheadP l k = a at ha
    generalize l.getD k Pr.zero = p
    unfold inW
    rw [Bool.eq_iff_iff]
    simp only [Bool.and_eq_true, Bool.or_eq_true, decide_eq_true_eq]
    omega
end Go.Proofs.YteekmmgopnnioaaDoor
