import Derived.Test.YtelhjdplghpnbabSdI
/-! What Check answers, way by way. -/
namespace Go.Proofs.Ytelhjdplghpnbab
open Go.RowKit Plain
set_option linter.unusedVariables false
set_option linter.unusedSimpArgs false

theorem chk_head {t : Tr} (h : headB t = true) : chkT t = 190 := by unfold chkT; rw [if_pos h]
theorem chk_bad {t : Tr} (h : headB t = false) {i : Nat} (hi : i < t.qs.length) (hb : badQ t i = true) : chkT t = 190 := by
  unfold chkT
  rw [if_neg (by simp [h]), if_pos (anyTo_true hi hb)]
theorem chk_cost {t : Tr} (h : headB t = false) (hq : ∀ i, i < t.qs.length → badQ t i = false) {i : Nat} (hi : i < t.qs.length) (hb : badL (t.q i).costs = true) : chkT t = 191 := by
  unfold chkT
  rw [if_neg (by simp [h]), if_neg (by rw [anyTo_false.mpr hq]; simp), if_pos (anyTo_true (f := fun i => badL (t.q i).costs) hi hb)]
theorem badQ_iff (t : Tr) (i : Nat) : badQ t i = true ↔ ((t.q i).id < 0 ∨ (0 < i ∧ (t.q i).id ≤ (t.q (i - 1)).id) ∨ (t.q i).quantum < 1 ∨ 65536 < (t.q i).quantum ∨ (t.q i).deficit < 0 ∨ t.most i < (t.q i).deficit ∨ ((t.q i).costs.length = 0 ∧ 0 < (t.q i).deficit)) := by
  unfold badQ
  simp [or_assoc, List.isEmpty_iff]
theorem chk_fine {t : Tr} (h : headB t = false) (hq : ∀ i, i < t.qs.length → badQ t i = false) (hc : ∀ i, i < t.qs.length → badL (t.q i).costs = false) : chkT t = 0 := by
  unfold chkT
  rw [if_neg (by simp [h]), if_neg (by rw [anyTo_false.mpr hq]; simp), if_neg (by rw [anyTo_false.mpr hc]; simp)]
end Go.Proofs.Ytelhjdplghpnbab
