/-
  No cell of these rows narrows 'for every input' (looked for: loops, veiled, ifaces, maps, wideKeys, modest, calm, conditions, laid).
  DERIVED. THE GIVEN ROWS OF THIS SEAT. 2 by the template 'for every input the law returns true; each argument reads behind the call as it read before'; 0 by the template 'total and deterministic' (their statements: YtgffncbmchimdaaTotals.lean).
  GIVEN WITH THE SEED: the statements are not yours to turn. If you find one false, say at which input.
  Laid BY PROGRAM, IN A SANDBOX (cutbox-rows.mjs): the forced cells as the released guide's own fill.sh prints them over the translation d55e67474f16a605… (all of the seat's roots in one cut). By AI agents, Wed Nov 11 2026. No macro, syntax, notation, axiom, sorry.
-/
import Derived.Test.YtgffncbmchimdaaChecked
import GoSem.Claim
import GoSem.ClaimJoined
import GoSem.ClaimMapViews
import Derived.JoinedTies
import Derived.KernelRfl
namespace Go.Proofs.Ytgffncbmchimdaa
/- THE CELL 'sum', in the pinned program and in every row, IS THE sha256 OF THE DUMP (.gsa) THAT YtgffncbmchimdaaProg.lean LOADS. Nothing in Lean hashes anything: it is a label: what it is worth is what the hold of that sum in a sandbox is worth. -/
noncomputable def Try.pinned : Pinned := { name := "ytgffncbmchimdaa", sum := "d55e67474f16a605f83906fc442e02e9c2d107322de54e8606023e112d4f9048", checked := Try.checked }
namespace Rows
def none {H : Type} : Left H := { results := [], args := [] }

/-- 'chroniclelaw3.SimfsSettled': WHATEVER THE INPUT: true; the input reads as it did. -/
def simfsSettledSpec : ChangeSpec := { name := "simfsSettled", fn := fun _ => fun
  | [d1, d2, d3, d4] => { results := [.lit (.bool true)], args := [d1, d2, d3, d4] }
  | _ => none }
def simfsSettledRow : OpenClaim := { program := "ytgffncbmchimdaa", sum := "d55e67474f16a605f83906fc442e02e9c2d107322de54e8606023e112d4f9048", func := "chronicle/chroniclelaw3.SimfsSettled", spec := "simfsSettled", inPlace := ["maps.clone"], unfollowed := true, recurses := true, apart := false }
def SimfsSettledSaid : Prop := simfsSettledRow.holds Try.pinned (OpenSpec.ofChange simfsSettledSpec)

/-- ITS FALSE NEIGHBOUR: 'it returns false'. Refute it at one input. -/
def simfsSettledWrong : ChangeSpec := { name := "simfsSettled", fn := fun _ => fun
  | [d1, d2, d3, d4] => { results := [.lit (.bool false)], args := [d1, d2, d3, d4] }
  | _ => none }
def SimfsSettledWrongFalsely : Prop := simfsSettledRow.holds Try.pinned (OpenSpec.ofChange simfsSettledWrong)

/-- 'chroniclelaw7.ManifestAgain': WHATEVER THE INPUT: true; the input reads as it did. -/
def manifestAgainSpec : ChangeSpec := { name := "manifestAgain", fn := fun _ => fun
  | [d1, d2, d3] => { results := [.lit (.bool true)], args := [d1, d2, d3] }
  | _ => none }
def manifestAgainRow : OpenClaim := { program := "ytgffncbmchimdaa", sum := "d55e67474f16a605f83906fc442e02e9c2d107322de54e8606023e112d4f9048", func := "chronicle/chroniclelaw7.ManifestAgain", spec := "manifestAgain", inPlace := ["maps.clone"], unfollowed := true, recurses := true, apart := false }
def ManifestAgainSaid : Prop := manifestAgainRow.holds Try.pinned (OpenSpec.ofChange manifestAgainSpec)

/-- ITS FALSE NEIGHBOUR: 'it returns false'. Refute it at one input. -/
def manifestAgainWrong : ChangeSpec := { name := "manifestAgain", fn := fun _ => fun
  | [d1, d2, d3] => { results := [.lit (.bool false)], args := [d1, d2, d3] }
  | _ => none }
def ManifestAgainWrongFalsely : Prop := manifestAgainRow.holds Try.pinned (OpenSpec.ofChange manifestAgainWrong)

/- THE SECOND FORM. 'bulk': how many values and letters a reading holds, each counted each time it is reached (what is shared counts as often as it is met; a slice's spare places count too). A statement '..UptoSaid' is the law's where the arguments, and the package variables that the reading takes, are together of bulk at most 1048576: NARROWER than '..Said'. Prove '..Said' where nothing that the law and all that it calls make is longer than what came in: it says more and counts as full. Else prove '..UptoSaid'. A law counts once. -/
mutual
def uptoBulk {H : Type} : DataW H → Nat
  | .lit (.string bytes) => bytes.length + 1
  | .lit _ => 1
  | .nil => 1
  | .ptr d => uptoBulk d + 1
  | .slice elems spare => uptoBulkAll elems + uptoBulkAll spare + 1
  | .agg parts => uptoBulkAll parts + 1
  | .iface _ d => uptoBulk d + 1
  | .map entries => uptoBulkEntries entries + 1
  | .held _ => 1
def uptoBulkAll {H : Type} : List (DataW H) → Nat
  | [] => 0
  | d :: r => uptoBulk d + uptoBulkAll r
def uptoBulkEntries {H : Type} : List (Lit × DataW H) → Nat
  | [] => 0
  | x :: r => uptoBulkEntry x + uptoBulkEntries r
def uptoBulkEntry {H : Type} : Lit × DataW H → Nat
  | (.string bytes, d) => bytes.length + uptoBulk d + 1
  | (_, d) => uptoBulk d + 1
 end
def uptoSmall : (H : Type) → List (DataW H) → Bool := fun _ ds => decide (uptoBulkAll ds ≤ 1048576)
def OpenSpec.upto (s : _root_.Go.ChangeSpec) : _root_.Go.OpenSpec := { _root_.Go.OpenSpec.ofChange s with cond := some uptoSmall }

/-- 'chroniclelaw3.SimfsSettled', WHERE WHAT IT READS IS OF BULK AT MOST 1048576: true; the input reads as it did. -/
def simfsSettledUptoRow : OpenClaim := { program := "ytgffncbmchimdaa", sum := "d55e67474f16a605f83906fc442e02e9c2d107322de54e8606023e112d4f9048", func := "chronicle/chroniclelaw3.SimfsSettled", spec := "simfsSettled", inPlace := ["maps.clone"], unfollowed := true, recurses := true, apart := false, narrowed := true }
def SimfsSettledUptoSaid : Prop := simfsSettledUptoRow.holds Try.pinned (OpenSpec.upto simfsSettledSpec)

/-- 'chroniclelaw7.ManifestAgain', WHERE WHAT IT READS IS OF BULK AT MOST 1048576: true; the input reads as it did. -/
def manifestAgainUptoRow : OpenClaim := { program := "ytgffncbmchimdaa", sum := "d55e67474f16a605f83906fc442e02e9c2d107322de54e8606023e112d4f9048", func := "chronicle/chroniclelaw7.ManifestAgain", spec := "manifestAgain", inPlace := ["maps.clone"], unfollowed := true, recurses := true, apart := false, narrowed := true }
def ManifestAgainUptoSaid : Prop := manifestAgainUptoRow.holds Try.pinned (OpenSpec.upto manifestAgainSpec)

end Rows
end Go.Proofs.Ytgffncbmchimdaa
