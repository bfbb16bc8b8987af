import Derived.Test.YtelhjdplghpnbaaSyN
import Derived.Test.YtelhjdplghpnbaaSyR
import Derived.Test.YtelhjdplghpnbaaSyU
import Derived.Test.YtelhjdplghpnbaaSyW
/-! What the program's calls answer. -/
namespace Go.Proofs.Ytelhjdplghpnbaa
theorem schedOk : SchedOk := ⟨enterOk, leaveOk, askOk, nextOk⟩
end Go.Proofs.Ytelhjdplghpnbaa
