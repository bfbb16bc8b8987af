/-
  NARROWER THAN 'FOR EVERY INPUT', by the rows' own cells (each row's printed sentence says how): DedupeOnce: laid.
  DERIVED. THE GIVEN ROWS OF THIS SEAT. 1 by the template 'for every input the law returns true; each argument reads behind the call as it read before'; 0 by the template 'total and deterministic' (their statements: YtmcfcbonmmifeaaDoorTotals.lean).
  GIVEN WITH THE SEED: the statements are not yours to turn. If you find one false, say at which input.
  Laid BY PROGRAM, IN A SANDBOX (cutbox-rows.mjs): the forced cells as the released guide's own fill.sh prints them over the translation 4a38144ad7b03b78… (all of the seat's roots in one cut). By AI agents, Wed Nov 11 2026. No macro, syntax, notation, axiom, sorry.
-/
import Derived.Test.YtmcfcbonmmifeaaDoorChecked
import GoSem.Claim
import GoSem.ClaimJoined
import GoSem.ClaimMapViews
import Derived.JoinedTies
import Derived.KernelRfl
namespace Go.Proofs.YtmcfcbonmmifeaaDoor
/- THE CELL 'sum', in the pinned program and in every row, IS THE sha256 OF THE DUMP (.gsa) THAT YtmcfcbonmmifeaaDoorProg.lean LOADS. Nothing in Lean hashes anything: it is a label: what it is worth is what the hold of that sum in a sandbox is worth. -/
noncomputable def Tryd.pinned : Pinned := { name := "ytmcfcbonmmifeaadoor", sum := "4a38144ad7b03b78ee1b4f459c2a39b3e3b10470b9976e40c9c993e5e9df6572", checked := Tryd.checked }
namespace Rows
def none {H : Type} : Left H := { results := [], args := [] }

/- WHAT THE LISTED PACKAGE-LEVEL VARIABLES READ AS WHEN THE CALL BEGINS. Each datum BY PROGRAM (the guide's laid-datum.mjs) off the statement by which the dump's own 'gosem.cut.vars' lays the variable. In a bare row this is a premise. The card (YtmcfcbonmmifeaaDoorCards.lean) ties it to the program's text. -/
def laid_chronicle_dedupe_refusals {H : Type} : DataW H := .agg [.lit (.int .i64 93), .lit (.int .i64 0), .lit (.int .i64 0), .lit (.int .i64 0), .lit (.int .i64 91), .lit (.int .i64 90), .lit (.int .i64 92)]

/-- 'chroniclelaw9.DedupeOnce': WHATEVER THE INPUT: true; the input reads as it did. -/
def dedupeOnceSpec : ChangeSpec := { name := "dedupeOnce", fn := fun _ => fun
  | [d1, d2] => { results := [.lit (.bool true)], args := [d1, d2] }
  | _ => none }
def dedupeOnceRow : OpenClaim := { program := "ytmcfcbonmmifeaadoor", sum := "4a38144ad7b03b78ee1b4f459c2a39b3e3b10470b9976e40c9c993e5e9df6572", func := "chronicle/chroniclelaw9.DedupeOnce", spec := "dedupeOnce", unfollowed := true, recurses := true, named := ["chronicle/dedupe.refusals"], apart := false, laid := [("chronicle/dedupe.refusals", laid_chronicle_dedupe_refusals)] }
def DedupeOnceSaid : Prop := dedupeOnceRow.holds Tryd.pinned (OpenSpec.ofChange dedupeOnceSpec)

/-- ITS FALSE NEIGHBOUR: 'it returns false'. Refute it at one input. -/
def dedupeOnceWrong : ChangeSpec := { name := "dedupeOnce", fn := fun _ => fun
  | [d1, d2] => { results := [.lit (.bool false)], args := [d1, d2] }
  | _ => none }
def DedupeOnceWrongFalsely : Prop := dedupeOnceRow.holds Tryd.pinned (OpenSpec.ofChange dedupeOnceWrong)

/- THE SECOND FORM. 'bulk': how many values and letters a reading holds, each counted each time it is reached (what is shared counts as often as it is met; a slice's spare places count too). A statement '..UptoSaid' is the law's where the arguments, and the package variables that the reading takes, are together of bulk at most 1048576: NARROWER than '..Said'. Prove '..Said' where nothing that the law and all that it calls make is longer than what came in: it says more and counts as full. Else prove '..UptoSaid'. A law counts once. -/
mutual
def uptoBulk {H : Type} : DataW H → Nat
  | .lit (.string bytes) => bytes.length + 1
  | .lit _ => 1
  | .nil => 1
  | .ptr d => uptoBulk d + 1
  | .slice elems spare => uptoBulkAll elems + uptoBulkAll spare + 1
  | .agg parts => uptoBulkAll parts + 1
  | .iface _ d => uptoBulk d + 1
  | .map entries => uptoBulkEntries entries + 1
  | .held _ => 1
def uptoBulkAll {H : Type} : List (DataW H) → Nat
  | [] => 0
  | d :: r => uptoBulk d + uptoBulkAll r
def uptoBulkEntries {H : Type} : List (Lit × DataW H) → Nat
  | [] => 0
  | x :: r => uptoBulkEntry x + uptoBulkEntries r
def uptoBulkEntry {H : Type} : Lit × DataW H → Nat
  | (.string bytes, d) => bytes.length + uptoBulk d + 1
  | (_, d) => uptoBulk d + 1
 end
def uptoSmall : (H : Type) → List (DataW H) → Bool := fun _ ds => decide (uptoBulkAll ds ≤ 1048576)
def OpenSpec.upto (s : _root_.Go.ChangeSpec) : _root_.Go.OpenSpec := { _root_.Go.OpenSpec.ofChange s with cond := some uptoSmall }

/-- 'chroniclelaw9.DedupeOnce', WHERE WHAT IT READS IS OF BULK AT MOST 1048576: true; the input reads as it did. -/
def dedupeOnceUptoRow : OpenClaim := { program := "ytmcfcbonmmifeaadoor", sum := "4a38144ad7b03b78ee1b4f459c2a39b3e3b10470b9976e40c9c993e5e9df6572", func := "chronicle/chroniclelaw9.DedupeOnce", spec := "dedupeOnce", unfollowed := true, recurses := true, named := ["chronicle/dedupe.refusals"], apart := false, laid := [("chronicle/dedupe.refusals", laid_chronicle_dedupe_refusals)], narrowed := true }
def DedupeOnceUptoSaid : Prop := dedupeOnceUptoRow.holds Tryd.pinned (OpenSpec.upto dedupeOnceSpec)

end Rows
end Go.Proofs.YtmcfcbonmmifeaaDoor
