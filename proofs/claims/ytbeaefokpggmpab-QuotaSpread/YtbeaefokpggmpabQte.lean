import Derived.Test.YtbeaefokpggmpabQtd
/-! quota: the document's Take. -/
namespace Go.Proofs.Ytbeaefokpggmpab
open Go.RowKit
set_option linter.unusedVariables false

theorem fillP_same (b : Bk) (now : Int) : ∃ l p a, fillP b now = ⟨b.num, b.den, b.burst, l, p, a⟩ := by
  unfold fillP Bk.withP
  split
  · split
    · exact ⟨_, _, _, rfl⟩
    · exact ⟨_, _, _, rfl⟩
  · exact ⟨_, _, _, rfl⟩
abbrev TakePost (b : Bk) (now n : Int) (w : World) : Ending → World → Prop := fun e w' => e = .returned (.tuple #[(takeP b now n).1.v, .int .i64 (takeP b now n).2]) ∧ Below w.heap.size w w'
end Go.Proofs.Ytbeaefokpggmpab
