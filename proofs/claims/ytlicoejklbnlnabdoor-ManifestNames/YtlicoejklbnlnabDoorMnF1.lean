import Derived.Test.YtlicoejklbnlnabDoorMnG1
import Derived.Test.YtlicoejklbnlnabDoorMnG2
import Derived.Test.YtlicoejklbnlnabDoorMnF3
import Derived.Test.YtlicoejklbnlnabDoorMnF4
import Derived.Test.YtlicoejklbnlnabDoorMnF0
import Derived.Test.YtlicoejklbnlnabDoorMnE1
import Derived.Test.YtlicoejklbnlnabDoorMnE2
/-! Names of files: the document's Name, whatever the kind. -/
namespace Go.Proofs.YtlicoejklbnlnabDoor
open Go.RowKit
set_option linter.unusedVariables false

theorem rnameOf (n : FN) (hok : n.Ok) (w : World) :
    Calls Tryd.prog 6 #[n.val] w fun e w' => e = .returned (.string ⟨(nameL n).toArray⟩) ∧ Below w.heap.size w w' := by
  obtain ⟨k, i, s, t⟩ := n
  have hI : isN i = true → 0 ≤ i ∧ i < 1073741824 := fun h => by unfold isN at h; simpa using h
  have hS : isS s = true → 1 ≤ s ∧ s < 1073741824 := fun h => by unfold isS at h; simpa using h
  by_cases h1 : k = 1
  · subst h1
    by_cases hv : isN i = true ∧ isS s = true
    · exact rnameY1 i s t hok hv.1 hv.2 (hI hv.1).1 (hI hv.1).2 (hS hv.2).1 (hS hv.2).2 w
    · exact rnameN1 i s t hok hv w
  by_cases h2 : k = 2
  · subst h2
    by_cases hv : isN i = true ∧ isS s = true
    · exact rnameY2 i s t hok hv.1 hv.2 (hI hv.1).1 (hI hv.1).2 (hS hv.2).1 (hS hv.2).2 w
    · exact rnameN2 i s t hok hv w
  by_cases h3 : k = 3
  · subst h3; exact rname3 i s t hok w
  by_cases h4 : k = 4
  · subst h4; exact rname4 i s t hok w
  exact rname0 k i s t hok h1 h2 h3 h4 w
end Go.Proofs.YtlicoejklbnlnabDoor
