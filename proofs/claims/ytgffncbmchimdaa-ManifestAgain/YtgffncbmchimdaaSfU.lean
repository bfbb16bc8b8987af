import Derived.Test.YtgffncbmchimdaaSfK
/-! Dead, Ops, Used, Quota. -/
namespace Go.Proofs.Ytgffncbmchimdaa
open Go.RowKit Go.Maps Plain
set_option linter.unusedVariables false
set_option linter.unusedSimpArgs false
set_option maxRecDepth 1000000

end Go.Proofs.Ytgffncbmchimdaa
