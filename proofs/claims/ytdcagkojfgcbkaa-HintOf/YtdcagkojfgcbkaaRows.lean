/-
  No cell of these rows narrows 'for every input' (looked for: loops, veiled, ifaces, maps, wideKeys, modest, calm, conditions, laid).
  DERIVED. THE GIVEN ROWS OF THIS SEAT. 2 by the template 'for every input the law returns true; each argument reads behind the call as it read before'; 0 by the template 'total and deterministic' (their statements: YtdcagkojfgcbkaaTotals.lean).
  GIVEN WITH THE SEED: the statements are not yours to turn. If you find one false, say at which input.
  Laid BY PROGRAM, IN A SANDBOX (cutbox-rows.mjs): the forced cells as the released guide's own fill.sh prints them over the translation 7fdd6cf3b130f6dd… (all of the seat's roots in one cut). By AI agents, Wed Nov 11 2026. No macro, syntax, notation, axiom, sorry.
-/
import Derived.Test.YtdcagkojfgcbkaaChecked
import GoSem.Claim
import GoSem.ClaimJoined
import GoSem.ClaimMapViews
import Derived.JoinedTies
import Derived.KernelRfl
namespace Go.Proofs.Ytdcagkojfgcbkaa
/- THE CELL 'sum', in the pinned program and in every row, IS THE sha256 OF THE DUMP (.gsa) THAT YtdcagkojfgcbkaaProg.lean LOADS. Nothing in Lean hashes anything: it is a label: what it is worth is what the hold of that sum in a sandbox is worth. -/
noncomputable def Try.pinned : Pinned := { name := "ytdcagkojfgcbkaa", sum := "7fdd6cf3b130f6ddfa6e053d99abe00305c146c1bcb42cf5067af6936a163a94", checked := Try.checked }
namespace Rows
def none {H : Type} : Left H := { results := [], args := [] }

/-- 'chroniclelaw6.HintKeys': WHATEVER THE INPUT: true; the input reads as it did. -/
def hintKeysSpec : ChangeSpec := { name := "hintKeys", fn := fun _ => fun
  | [d1, d2, d3] => { results := [.lit (.bool true)], args := [d1, d2, d3] }
  | _ => none }
def hintKeysRow : OpenClaim := { program := "ytdcagkojfgcbkaa", sum := "7fdd6cf3b130f6ddfa6e053d99abe00305c146c1bcb42cf5067af6936a163a94", func := "chronicle/chroniclelaw6.HintKeys", spec := "hintKeys", recurses := true, apart := false }
def HintKeysSaid : Prop := hintKeysRow.holds Try.pinned (OpenSpec.ofChange hintKeysSpec)

/-- ITS FALSE NEIGHBOUR: 'it returns false'. Refute it at one input. -/
def hintKeysWrong : ChangeSpec := { name := "hintKeys", fn := fun _ => fun
  | [d1, d2, d3] => { results := [.lit (.bool false)], args := [d1, d2, d3] }
  | _ => none }
def HintKeysWrongFalsely : Prop := hintKeysRow.holds Try.pinned (OpenSpec.ofChange hintKeysWrong)

/-- 'chroniclelaw6.HintOf': WHATEVER THE INPUT: true; the input reads as it did. -/
def hintOfSpec : ChangeSpec := { name := "hintOf", fn := fun _ => fun
  | [d1, d2, d3] => { results := [.lit (.bool true)], args := [d1, d2, d3] }
  | _ => none }
def hintOfRow : OpenClaim := { program := "ytdcagkojfgcbkaa", sum := "7fdd6cf3b130f6ddfa6e053d99abe00305c146c1bcb42cf5067af6936a163a94", func := "chronicle/chroniclelaw6.HintOf", spec := "hintOf", recurses := true, apart := false }
def HintOfSaid : Prop := hintOfRow.holds Try.pinned (OpenSpec.ofChange hintOfSpec)

/-- ITS FALSE NEIGHBOUR: 'it returns false'. Refute it at one input. -/
def hintOfWrong : ChangeSpec := { name := "hintOf", fn := fun _ => fun
  | [d1, d2, d3] => { results := [.lit (.bool false)], args := [d1, d2, d3] }
  | _ => none }
def HintOfWrongFalsely : Prop := hintOfRow.holds Try.pinned (OpenSpec.ofChange hintOfWrong)

/- THE SECOND FORM. 'bulk': how many values and letters a reading holds, each counted each time it is reached (what is shared counts as often as it is met; a slice's spare places count too). A statement '..UptoSaid' is the law's where the arguments, and the package variables that the reading takes, are together of bulk at most 1048576: NARROWER than '..Said'. Prove '..Said' where nothing that the law and all that it calls make is longer than what came in: it says more and counts as full. Else prove '..UptoSaid'. A law counts once. -/
mutual
def uptoBulk {H : Type} : DataW H → Nat
  | .lit (.string bytes) => bytes.length + 1
  | .lit _ => 1
  | .nil => 1
  | .ptr d => uptoBulk d + 1
  | .slice elems spare => uptoBulkAll elems + uptoBulkAll spare + 1
  | .agg parts => uptoBulkAll parts + 1
  | .iface _ d => uptoBulk d + 1
  | .map entries => uptoBulkEntries entries + 1
  | .held _ => 1
def uptoBulkAll {H : Type} : List (DataW H) → Nat
  | [] => 0
  | d :: r => uptoBulk d + uptoBulkAll r
def uptoBulkEntries {H : Type} : List (Lit × DataW H) → Nat
  | [] => 0
  | x :: r => uptoBulkEntry x + uptoBulkEntries r
def uptoBulkEntry {H : Type} : Lit × DataW H → Nat
  | (.string bytes, d) => bytes.length + uptoBulk d + 1
  | (_, d) => uptoBulk d + 1
 end
def uptoSmall : (H : Type) → List (DataW H) → Bool := fun _ ds => decide (uptoBulkAll ds ≤ 1048576)
def OpenSpec.upto (s : _root_.Go.ChangeSpec) : _root_.Go.OpenSpec := { _root_.Go.OpenSpec.ofChange s with cond := some uptoSmall }

/-- 'chroniclelaw6.HintKeys', WHERE WHAT IT READS IS OF BULK AT MOST 1048576: true; the input reads as it did. -/
def hintKeysUptoRow : OpenClaim := { program := "ytdcagkojfgcbkaa", sum := "7fdd6cf3b130f6ddfa6e053d99abe00305c146c1bcb42cf5067af6936a163a94", func := "chronicle/chroniclelaw6.HintKeys", spec := "hintKeys", recurses := true, apart := false, narrowed := true }
def HintKeysUptoSaid : Prop := hintKeysUptoRow.holds Try.pinned (OpenSpec.upto hintKeysSpec)

/-- 'chroniclelaw6.HintOf', WHERE WHAT IT READS IS OF BULK AT MOST 1048576: true; the input reads as it did. -/
def hintOfUptoRow : OpenClaim := { program := "ytdcagkojfgcbkaa", sum := "7fdd6cf3b130f6ddfa6e053d99abe00305c146c1bcb42cf5067af6936a163a94", func := "chronicle/chroniclelaw6.HintOf", spec := "hintOf", recurses := true, apart := false, narrowed := true }
def HintOfUptoSaid : Prop := hintOfUptoRow.holds Try.pinned (OpenSpec.upto hintOfSpec)

end Rows
end Go.Proofs.Ytdcagkojfgcbkaa
