import Derived.Test.YtbeaefokpggmpabQvs
/-! quota: the program's Shares, Spread stand. -/
namespace Go.Proofs.Ytbeaefokpggmpab
end Go.Proofs.Ytbeaefokpggmpab
