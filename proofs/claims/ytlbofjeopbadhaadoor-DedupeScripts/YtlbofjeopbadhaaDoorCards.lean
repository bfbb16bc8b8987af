/-
  DERIVED. GIVEN WITH THE SEED: THE CARDS: each row of YtlbofjeopbadhaaDoorRows.lean that lists a variable, with what it lists TIED to the program's text (the seventh form; the later family's looks); each row that meets fmt, with fmt's text TOLD by the authors' own Lean function (tested against real Go, not proved from fmt's source: count such statements apart). THE CARD IS WHAT COUNTS. Prove the row's statement (the work); the ties are given (YtlbofjeopbadhaaDoorTie.lean); close each card by the builder's one call (the guide's Derived/Test/ToyasCard.lean, 'card_holds'). Laid BY PROGRAM, IN A SANDBOX (cutbox-door.mjs). By AI agents, Wed Nov 11 2026. No macro, syntax, notation, axiom, sorry.
-/
import Derived.Test.YtlbofjeopbadhaaDoorRows
import GoSem.ClaimSeven
namespace Go.Proofs.YtlbofjeopbadhaaDoor
namespace Rows

/-- THE TIED CARD OF 'chroniclelaw9.DedupeNil'. -/
def dedupeNilCard : Claim7 := { stood := { row := dedupeNilRow, standIns := [], harness := (true, "a4b7651ab2e020f239ebe44fc207a02c827cdaa2ea0ad940e74687f00f48caf6"), looks := true }, kinds := [], alts := [], laidByText := true, laidKinds := [.data], laidTests := true, laidLooks := .later }
def DedupeNilCardSaid : Prop := Claim7.holds Tryd.pinned (.plain (OpenSpec.ofChange dedupeNilSpec)) dedupeNilCard

/-- THE TIED CARD OF 'chroniclelaw9.DedupeApart'. -/
def dedupeApartCard : Claim7 := { stood := { row := dedupeApartRow, standIns := [], harness := (true, "a4b7651ab2e020f239ebe44fc207a02c827cdaa2ea0ad940e74687f00f48caf6"), looks := true }, kinds := [], alts := [], laidByText := true, laidKinds := [.data], laidTests := true, laidLooks := .later }
def DedupeApartCardSaid : Prop := Claim7.holds Tryd.pinned (.plain (OpenSpec.ofChange dedupeApartSpec)) dedupeApartCard

/-- THE TIED CARD OF 'chroniclelaw9.DedupeOnce'. -/
def dedupeOnceCard : Claim7 := { stood := { row := dedupeOnceRow, standIns := [], harness := (true, "a4b7651ab2e020f239ebe44fc207a02c827cdaa2ea0ad940e74687f00f48caf6"), looks := true }, kinds := [], alts := [], laidByText := true, laidKinds := [.data], laidTests := true, laidLooks := .later }
def DedupeOnceCardSaid : Prop := Claim7.holds Tryd.pinned (.plain (OpenSpec.ofChange dedupeOnceSpec)) dedupeOnceCard

/-- THE TIED CARD OF 'chroniclelaw9.DedupeScripts'. -/
def dedupeScriptsCard : Claim7 := { stood := { row := dedupeScriptsRow, standIns := [], harness := (true, "a4b7651ab2e020f239ebe44fc207a02c827cdaa2ea0ad940e74687f00f48caf6"), looks := true }, kinds := [], alts := [], laidByText := true, laidKinds := [.data], laidTests := true, laidLooks := .later }
def DedupeScriptsCardSaid : Prop := Claim7.holds Tryd.pinned (.plain (OpenSpec.ofChange dedupeScriptsSpec)) dedupeScriptsCard

/-- THE SECOND FORM's CARD OF 'chroniclelaw9.DedupeNil'. -/
def dedupeNilUptoCard : Claim7 := { stood := { row := dedupeNilUptoRow, standIns := [], harness := (true, "a4b7651ab2e020f239ebe44fc207a02c827cdaa2ea0ad940e74687f00f48caf6"), looks := true }, kinds := [], alts := [], laidByText := true, laidKinds := [.data], laidTests := true, laidLooks := .later }
def DedupeNilUptoCardSaid : Prop := Claim7.holds Tryd.pinned (.plain (OpenSpec.upto dedupeNilSpec)) dedupeNilUptoCard

/-- THE SECOND FORM's CARD OF 'chroniclelaw9.DedupeApart'. -/
def dedupeApartUptoCard : Claim7 := { stood := { row := dedupeApartUptoRow, standIns := [], harness := (true, "a4b7651ab2e020f239ebe44fc207a02c827cdaa2ea0ad940e74687f00f48caf6"), looks := true }, kinds := [], alts := [], laidByText := true, laidKinds := [.data], laidTests := true, laidLooks := .later }
def DedupeApartUptoCardSaid : Prop := Claim7.holds Tryd.pinned (.plain (OpenSpec.upto dedupeApartSpec)) dedupeApartUptoCard

/-- THE SECOND FORM's CARD OF 'chroniclelaw9.DedupeOnce'. -/
def dedupeOnceUptoCard : Claim7 := { stood := { row := dedupeOnceUptoRow, standIns := [], harness := (true, "a4b7651ab2e020f239ebe44fc207a02c827cdaa2ea0ad940e74687f00f48caf6"), looks := true }, kinds := [], alts := [], laidByText := true, laidKinds := [.data], laidTests := true, laidLooks := .later }
def DedupeOnceUptoCardSaid : Prop := Claim7.holds Tryd.pinned (.plain (OpenSpec.upto dedupeOnceSpec)) dedupeOnceUptoCard

/-- THE SECOND FORM's CARD OF 'chroniclelaw9.DedupeScripts'. -/
def dedupeScriptsUptoCard : Claim7 := { stood := { row := dedupeScriptsUptoRow, standIns := [], harness := (true, "a4b7651ab2e020f239ebe44fc207a02c827cdaa2ea0ad940e74687f00f48caf6"), looks := true }, kinds := [], alts := [], laidByText := true, laidKinds := [.data], laidTests := true, laidLooks := .later }
def DedupeScriptsUptoCardSaid : Prop := Claim7.holds Tryd.pinned (.plain (OpenSpec.upto dedupeScriptsSpec)) dedupeScriptsUptoCard
end Rows
end Go.Proofs.YtlbofjeopbadhaaDoor
