/-
  DERIVED. GIVEN WITH THE SEED: THE CARDS: each row of YtmcfcbonmmifeaaDoorRows.lean that lists a variable, with what it lists TIED to the program's text (the seventh form; the later family's looks); each row that meets fmt, with fmt's text TOLD by the authors' own Lean function (tested against real Go, not proved from fmt's source: count such statements apart). THE CARD IS WHAT COUNTS. Prove the row's statement (the work); the ties are given (YtmcfcbonmmifeaaDoorTie.lean); close each card by the builder's one call (the guide's Derived/Test/ToyasCard.lean, 'card_holds'). Laid BY PROGRAM, IN A SANDBOX (cutbox-door.mjs). By AI agents, Wed Nov 11 2026. No macro, syntax, notation, axiom, sorry.
-/
import Derived.Test.YtmcfcbonmmifeaaDoorRows
import GoSem.ClaimSeven
namespace Go.Proofs.YtmcfcbonmmifeaaDoor
namespace Rows

/-- THE TIED CARD OF 'chroniclelaw9.DedupeOnce'. -/
def dedupeOnceCard : Claim7 := { stood := { row := dedupeOnceRow, standIns := [], harness := (true, "212c9fd1fa05f93e165fbe2770b25d7cff6db0ca4d2ae4d881d0dc52968224a9"), looks := false }, kinds := [], alts := [], laidByText := true, laidKinds := [.data], laidTests := true, laidLooks := .later }
def DedupeOnceCardSaid : Prop := Claim7.holds Tryd.pinned (.plain (OpenSpec.ofChange dedupeOnceSpec)) dedupeOnceCard

/-- THE SECOND FORM's CARD OF 'chroniclelaw9.DedupeOnce'. -/
def dedupeOnceUptoCard : Claim7 := { stood := { row := dedupeOnceUptoRow, standIns := [], harness := (true, "212c9fd1fa05f93e165fbe2770b25d7cff6db0ca4d2ae4d881d0dc52968224a9"), looks := false }, kinds := [], alts := [], laidByText := true, laidKinds := [.data], laidTests := true, laidLooks := .later }
def DedupeOnceUptoCardSaid : Prop := Claim7.holds Tryd.pinned (.plain (OpenSpec.upto dedupeOnceSpec)) dedupeOnceUptoCard
end Rows
end Go.Proofs.YtmcfcbonmmifeaaDoor
