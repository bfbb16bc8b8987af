/-
  No cell of these rows narrows 'for every input' (looked for: loops, veiled, ifaces, maps, wideKeys, modest, calm, conditions, laid).
  DERIVED. THE GIVEN ROWS OF THIS SEAT. 4 by the template 'for every input the law returns true; each argument reads behind the call as it read before'; 0 by the template 'total and deterministic' (their statements: YtbeaefokpggmpabTotals.lean).
  GIVEN WITH THE SEED: the statements are not yours to turn. If you find one false, say at which input.
  Laid BY PROGRAM, IN A SANDBOX (cutbox-rows.mjs): the forced cells as the released guide's own fill.sh prints them over the translation 7ea532b15d2af26b… (all of the seat's roots in one cut). By AI agents, Wed Nov 11 2026. No macro, syntax, notation, axiom, sorry.
-/
import Derived.Test.YtbeaefokpggmpabChecked
import GoSem.Claim
import GoSem.ClaimJoined
import GoSem.ClaimMapViews
import Derived.JoinedTies
import Derived.KernelRfl
namespace Go.Proofs.Ytbeaefokpggmpab
/- THE CELL 'sum', in the pinned program and in every row, IS THE sha256 OF THE DUMP (.gsa) THAT YtbeaefokpggmpabProg.lean LOADS. Nothing in Lean hashes anything: it is a label: what it is worth is what the hold of that sum in a sandbox is worth. -/
noncomputable def Try.pinned : Pinned := { name := "ytbeaefokpggmpab", sum := "7ea532b15d2af26b4266cea8e370c53c3a82fd9f703a6025f003b3dbd4bf6264", checked := Try.checked }
namespace Rows
def none {H : Type} : Left H := { results := [], args := [] }

/-- 'chroniclelaw13.QuotaFair': WHATEVER THE INPUT: true; the input reads as it did. -/
def quotaFairSpec : ChangeSpec := { name := "quotaFair", fn := fun _ => fun
  | [d1, d2] => { results := [.lit (.bool true)], args := [d1, d2] }
  | _ => none }
def quotaFairRow : OpenClaim := { program := "ytbeaefokpggmpab", sum := "7ea532b15d2af26b4266cea8e370c53c3a82fd9f703a6025f003b3dbd4bf6264", func := "chronicle/chroniclelaw13.QuotaFair", spec := "quotaFair", unfollowed := true, recurses := true, apart := false }
def QuotaFairSaid : Prop := quotaFairRow.holds Try.pinned (OpenSpec.ofChange quotaFairSpec)

/-- ITS FALSE NEIGHBOUR: 'it returns false'. Refute it at one input. -/
def quotaFairWrong : ChangeSpec := { name := "quotaFair", fn := fun _ => fun
  | [d1, d2] => { results := [.lit (.bool false)], args := [d1, d2] }
  | _ => none }
def QuotaFairWrongFalsely : Prop := quotaFairRow.holds Try.pinned (OpenSpec.ofChange quotaFairWrong)

/-- 'chroniclelaw13.QuotaShares': WHATEVER THE INPUT: true; the input reads as it did. -/
def quotaSharesSpec : ChangeSpec := { name := "quotaShares", fn := fun _ => fun
  | [d1, d2] => { results := [.lit (.bool true)], args := [d1, d2] }
  | _ => none }
def quotaSharesRow : OpenClaim := { program := "ytbeaefokpggmpab", sum := "7ea532b15d2af26b4266cea8e370c53c3a82fd9f703a6025f003b3dbd4bf6264", func := "chronicle/chroniclelaw13.QuotaShares", spec := "quotaShares", unfollowed := true, recurses := true, apart := false }
def QuotaSharesSaid : Prop := quotaSharesRow.holds Try.pinned (OpenSpec.ofChange quotaSharesSpec)

/-- ITS FALSE NEIGHBOUR: 'it returns false'. Refute it at one input. -/
def quotaSharesWrong : ChangeSpec := { name := "quotaShares", fn := fun _ => fun
  | [d1, d2] => { results := [.lit (.bool false)], args := [d1, d2] }
  | _ => none }
def QuotaSharesWrongFalsely : Prop := quotaSharesRow.holds Try.pinned (OpenSpec.ofChange quotaSharesWrong)

/-- 'chroniclelaw13.QuotaSpread': WHATEVER THE INPUT: true; the input reads as it did. -/
def quotaSpreadSpec : ChangeSpec := { name := "quotaSpread", fn := fun _ => fun
  | [d1, d2] => { results := [.lit (.bool true)], args := [d1, d2] }
  | _ => none }
def quotaSpreadRow : OpenClaim := { program := "ytbeaefokpggmpab", sum := "7ea532b15d2af26b4266cea8e370c53c3a82fd9f703a6025f003b3dbd4bf6264", func := "chronicle/chroniclelaw13.QuotaSpread", spec := "quotaSpread", unfollowed := true, recurses := true, apart := false }
def QuotaSpreadSaid : Prop := quotaSpreadRow.holds Try.pinned (OpenSpec.ofChange quotaSpreadSpec)

/-- ITS FALSE NEIGHBOUR: 'it returns false'. Refute it at one input. -/
def quotaSpreadWrong : ChangeSpec := { name := "quotaSpread", fn := fun _ => fun
  | [d1, d2] => { results := [.lit (.bool false)], args := [d1, d2] }
  | _ => none }
def QuotaSpreadWrongFalsely : Prop := quotaSpreadRow.holds Try.pinned (OpenSpec.ofChange quotaSpreadWrong)

/-- 'chroniclelaw13.QuotaWeights': WHATEVER THE INPUT: true; the input reads as it did. -/
def quotaWeightsSpec : ChangeSpec := { name := "quotaWeights", fn := fun _ => fun
  | [d1, d2] => { results := [.lit (.bool true)], args := [d1, d2] }
  | _ => none }
def quotaWeightsRow : OpenClaim := { program := "ytbeaefokpggmpab", sum := "7ea532b15d2af26b4266cea8e370c53c3a82fd9f703a6025f003b3dbd4bf6264", func := "chronicle/chroniclelaw13.QuotaWeights", spec := "quotaWeights", unfollowed := true, recurses := true, apart := false }
def QuotaWeightsSaid : Prop := quotaWeightsRow.holds Try.pinned (OpenSpec.ofChange quotaWeightsSpec)

/-- ITS FALSE NEIGHBOUR: 'it returns false'. Refute it at one input. -/
def quotaWeightsWrong : ChangeSpec := { name := "quotaWeights", fn := fun _ => fun
  | [d1, d2] => { results := [.lit (.bool false)], args := [d1, d2] }
  | _ => none }
def QuotaWeightsWrongFalsely : Prop := quotaWeightsRow.holds Try.pinned (OpenSpec.ofChange quotaWeightsWrong)

/- THE SECOND FORM. 'bulk': how many values and letters a reading holds, each counted each time it is reached (what is shared counts as often as it is met; a slice's spare places count too). A statement '..UptoSaid' is the law's where the arguments, and the package variables that the reading takes, are together of bulk at most 1048576: NARROWER than '..Said'. Prove '..Said' where nothing that the law and all that it calls make is longer than what came in: it says more and counts as full. Else prove '..UptoSaid'. A law counts once. -/
mutual
def uptoBulk {H : Type} : DataW H → Nat
  | .lit (.string bytes) => bytes.length + 1
  | .lit _ => 1
  | .nil => 1
  | .ptr d => uptoBulk d + 1
  | .slice elems spare => uptoBulkAll elems + uptoBulkAll spare + 1
  | .agg parts => uptoBulkAll parts + 1
  | .iface _ d => uptoBulk d + 1
  | .map entries => uptoBulkEntries entries + 1
  | .held _ => 1
def uptoBulkAll {H : Type} : List (DataW H) → Nat
  | [] => 0
  | d :: r => uptoBulk d + uptoBulkAll r
def uptoBulkEntries {H : Type} : List (Lit × DataW H) → Nat
  | [] => 0
  | x :: r => uptoBulkEntry x + uptoBulkEntries r
def uptoBulkEntry {H : Type} : Lit × DataW H → Nat
  | (.string bytes, d) => bytes.length + uptoBulk d + 1
  | (_, d) => uptoBulk d + 1
 end
def uptoSmall : (H : Type) → List (DataW H) → Bool := fun _ ds => decide (uptoBulkAll ds ≤ 1048576)
def OpenSpec.upto (s : _root_.Go.ChangeSpec) : _root_.Go.OpenSpec := { _root_.Go.OpenSpec.ofChange s with cond := some uptoSmall }

/-- 'chroniclelaw13.QuotaFair', WHERE WHAT IT READS IS OF BULK AT MOST 1048576: true; the input reads as it did. -/
def quotaFairUptoRow : OpenClaim := { program := "ytbeaefokpggmpab", sum := "7ea532b15d2af26b4266cea8e370c53c3a82fd9f703a6025f003b3dbd4bf6264", func := "chronicle/chroniclelaw13.QuotaFair", spec := "quotaFair", unfollowed := true, recurses := true, apart := false, narrowed := true }
def QuotaFairUptoSaid : Prop := quotaFairUptoRow.holds Try.pinned (OpenSpec.upto quotaFairSpec)

/-- 'chroniclelaw13.QuotaShares', WHERE WHAT IT READS IS OF BULK AT MOST 1048576: true; the input reads as it did. -/
def quotaSharesUptoRow : OpenClaim := { program := "ytbeaefokpggmpab", sum := "7ea532b15d2af26b4266cea8e370c53c3a82fd9f703a6025f003b3dbd4bf6264", func := "chronicle/chroniclelaw13.QuotaShares", spec := "quotaShares", unfollowed := true, recurses := true, apart := false, narrowed := true }
def QuotaSharesUptoSaid : Prop := quotaSharesUptoRow.holds Try.pinned (OpenSpec.upto quotaSharesSpec)

/-- 'chroniclelaw13.QuotaSpread', WHERE WHAT IT READS IS OF BULK AT MOST 1048576: true; the input reads as it did. -/
def quotaSpreadUptoRow : OpenClaim := { program := "ytbeaefokpggmpab", sum := "7ea532b15d2af26b4266cea8e370c53c3a82fd9f703a6025f003b3dbd4bf6264", func := "chronicle/chroniclelaw13.QuotaSpread", spec := "quotaSpread", unfollowed := true, recurses := true, apart := false, narrowed := true }
def QuotaSpreadUptoSaid : Prop := quotaSpreadUptoRow.holds Try.pinned (OpenSpec.upto quotaSpreadSpec)

/-- 'chroniclelaw13.QuotaWeights', WHERE WHAT IT READS IS OF BULK AT MOST 1048576: true; the input reads as it did. -/
def quotaWeightsUptoRow : OpenClaim := { program := "ytbeaefokpggmpab", sum := "7ea532b15d2af26b4266cea8e370c53c3a82fd9f703a6025f003b3dbd4bf6264", func := "chronicle/chroniclelaw13.QuotaWeights", spec := "quotaWeights", unfollowed := true, recurses := true, apart := false, narrowed := true }
def QuotaWeightsUptoSaid : Prop := quotaWeightsUptoRow.holds Try.pinned (OpenSpec.upto quotaWeightsSpec)

end Rows
end Go.Proofs.Ytbeaefokpggmpab
