/-
  No cell of these rows narrows 'for every input' (looked for: loops, veiled, ifaces, maps, wideKeys, modest, calm, conditions, laid).
  DERIVED. THE GIVEN ROWS OF THIS SEAT. 6 by the template 'for every input the law returns true; each argument reads behind the call as it read before'; 0 by the template 'total and deterministic' (their statements: YthkodbngbalohabTotals.lean).
  GIVEN WITH THE SEED: the statements are not yours to turn. If you find one false, say at which input.
  Laid BY PROGRAM, IN A SANDBOX (cutbox-rows.mjs): the forced cells as the released guide's own fill.sh prints them over the translation 061063c2d510b9a7… (all of the seat's roots in one cut). By AI agents, Wed Nov 11 2026. No macro, syntax, notation, axiom, sorry.
-/
import Derived.Test.YthkodbngbalohabChecked
import GoSem.Claim
import GoSem.ClaimJoined
import GoSem.ClaimMapViews
import Derived.JoinedTies
import Derived.KernelRfl
namespace Go.Proofs.Ythkodbngbalohab
/- THE CELL 'sum', in the pinned program and in every row, IS THE sha256 OF THE DUMP (.gsa) THAT YthkodbngbalohabProg.lean LOADS. Nothing in Lean hashes anything: it is a label: what it is worth is what the hold of that sum in a sandbox is worth. -/
noncomputable def Try.pinned : Pinned := { name := "ythkodbngbalohab", sum := "061063c2d510b9a743b855e57b648256961ae3f2b003be7f66a12e113817bdaa", checked := Try.checked }
namespace Rows
def none {H : Type} : Left H := { results := [], args := [] }

/-- 'chroniclelaw2.SqueezeEncode': WHATEVER THE INPUT: true; the input reads as it did. -/
def squeezeEncodeSpec : ChangeSpec := { name := "squeezeEncode", fn := fun _ => fun
  | [d] => { results := [.lit (.bool true)], args := [d] }
  | _ => none }
def squeezeEncodeRow : OpenClaim := { program := "ythkodbngbalohab", sum := "061063c2d510b9a743b855e57b648256961ae3f2b003be7f66a12e113817bdaa", func := "chronicle/chroniclelaw2.SqueezeEncode", spec := "squeezeEncode", apart := false }
def SqueezeEncodeSaid : Prop := squeezeEncodeRow.holds Try.pinned (OpenSpec.ofChange squeezeEncodeSpec)

/-- ITS FALSE NEIGHBOUR: 'it returns false'. Refute it at one input. -/
def squeezeEncodeWrong : ChangeSpec := { name := "squeezeEncode", fn := fun _ => fun
  | [d] => { results := [.lit (.bool false)], args := [d] }
  | _ => none }
def SqueezeEncodeWrongFalsely : Prop := squeezeEncodeRow.holds Try.pinned (OpenSpec.ofChange squeezeEncodeWrong)

/-- 'chroniclelaw2.SqueezeUnlike': WHATEVER THE INPUT: true; the input reads as it did. -/
def squeezeUnlikeSpec : ChangeSpec := { name := "squeezeUnlike", fn := fun _ => fun
  | [d1, d2, d3] => { results := [.lit (.bool true)], args := [d1, d2, d3] }
  | _ => none }
def squeezeUnlikeRow : OpenClaim := { program := "ythkodbngbalohab", sum := "061063c2d510b9a743b855e57b648256961ae3f2b003be7f66a12e113817bdaa", func := "chronicle/chroniclelaw2.SqueezeUnlike", spec := "squeezeUnlike", apart := false }
def SqueezeUnlikeSaid : Prop := squeezeUnlikeRow.holds Try.pinned (OpenSpec.ofChange squeezeUnlikeSpec)

/-- ITS FALSE NEIGHBOUR: 'it returns false'. Refute it at one input. -/
def squeezeUnlikeWrong : ChangeSpec := { name := "squeezeUnlike", fn := fun _ => fun
  | [d1, d2, d3] => { results := [.lit (.bool false)], args := [d1, d2, d3] }
  | _ => none }
def SqueezeUnlikeWrongFalsely : Prop := squeezeUnlikeRow.holds Try.pinned (OpenSpec.ofChange squeezeUnlikeWrong)

/-- 'chroniclelaw2.SqueezeFar': WHATEVER THE INPUT: true; the input reads as it did. -/
def squeezeFarSpec : ChangeSpec := { name := "squeezeFar", fn := fun _ => fun
  | [d] => { results := [.lit (.bool true)], args := [d] }
  | _ => none }
def squeezeFarRow : OpenClaim := { program := "ythkodbngbalohab", sum := "061063c2d510b9a743b855e57b648256961ae3f2b003be7f66a12e113817bdaa", func := "chronicle/chroniclelaw2.SqueezeFar", spec := "squeezeFar", apart := false }
def SqueezeFarSaid : Prop := squeezeFarRow.holds Try.pinned (OpenSpec.ofChange squeezeFarSpec)

/-- ITS FALSE NEIGHBOUR: 'it returns false'. Refute it at one input. -/
def squeezeFarWrong : ChangeSpec := { name := "squeezeFar", fn := fun _ => fun
  | [d] => { results := [.lit (.bool false)], args := [d] }
  | _ => none }
def SqueezeFarWrongFalsely : Prop := squeezeFarRow.holds Try.pinned (OpenSpec.ofChange squeezeFarWrong)

/-- 'chroniclelaw2.SqueezeOnly': WHATEVER THE INPUT: true; the input reads as it did. -/
def squeezeOnlySpec : ChangeSpec := { name := "squeezeOnly", fn := fun _ => fun
  | [d] => { results := [.lit (.bool true)], args := [d] }
  | _ => none }
def squeezeOnlyRow : OpenClaim := { program := "ythkodbngbalohab", sum := "061063c2d510b9a743b855e57b648256961ae3f2b003be7f66a12e113817bdaa", func := "chronicle/chroniclelaw2.SqueezeOnly", spec := "squeezeOnly", apart := false }
def SqueezeOnlySaid : Prop := squeezeOnlyRow.holds Try.pinned (OpenSpec.ofChange squeezeOnlySpec)

/-- ITS FALSE NEIGHBOUR: 'it returns false'. Refute it at one input. -/
def squeezeOnlyWrong : ChangeSpec := { name := "squeezeOnly", fn := fun _ => fun
  | [d] => { results := [.lit (.bool false)], args := [d] }
  | _ => none }
def SqueezeOnlyWrongFalsely : Prop := squeezeOnlyRow.holds Try.pinned (OpenSpec.ofChange squeezeOnlyWrong)

/-- 'chroniclelaw2.SqueezeRuns': WHATEVER THE INPUT: true; the input reads as it did. -/
def squeezeRunsSpec : ChangeSpec := { name := "squeezeRuns", fn := fun _ => fun
  | [d1, d2] => { results := [.lit (.bool true)], args := [d1, d2] }
  | _ => none }
def squeezeRunsRow : OpenClaim := { program := "ythkodbngbalohab", sum := "061063c2d510b9a743b855e57b648256961ae3f2b003be7f66a12e113817bdaa", func := "chronicle/chroniclelaw2.SqueezeRuns", spec := "squeezeRuns", apart := false }
def SqueezeRunsSaid : Prop := squeezeRunsRow.holds Try.pinned (OpenSpec.ofChange squeezeRunsSpec)

/-- ITS FALSE NEIGHBOUR: 'it returns false'. Refute it at one input. -/
def squeezeRunsWrong : ChangeSpec := { name := "squeezeRuns", fn := fun _ => fun
  | [d1, d2] => { results := [.lit (.bool false)], args := [d1, d2] }
  | _ => none }
def SqueezeRunsWrongFalsely : Prop := squeezeRunsRow.holds Try.pinned (OpenSpec.ofChange squeezeRunsWrong)

/-- 'chroniclelaw2.SqueezeBack': WHATEVER THE INPUT: true; the input reads as it did. -/
def squeezeBackSpec : ChangeSpec := { name := "squeezeBack", fn := fun _ => fun
  | [d] => { results := [.lit (.bool true)], args := [d] }
  | _ => none }
def squeezeBackRow : OpenClaim := { program := "ythkodbngbalohab", sum := "061063c2d510b9a743b855e57b648256961ae3f2b003be7f66a12e113817bdaa", func := "chronicle/chroniclelaw2.SqueezeBack", spec := "squeezeBack", apart := false }
def SqueezeBackSaid : Prop := squeezeBackRow.holds Try.pinned (OpenSpec.ofChange squeezeBackSpec)

/-- ITS FALSE NEIGHBOUR: 'it returns false'. Refute it at one input. -/
def squeezeBackWrong : ChangeSpec := { name := "squeezeBack", fn := fun _ => fun
  | [d] => { results := [.lit (.bool false)], args := [d] }
  | _ => none }
def SqueezeBackWrongFalsely : Prop := squeezeBackRow.holds Try.pinned (OpenSpec.ofChange squeezeBackWrong)

/- THE SECOND FORM. 'bulk': how many values and letters a reading holds, each counted each time it is reached (what is shared counts as often as it is met; a slice's spare places count too). A statement '..UptoSaid' is the law's where the arguments, and the package variables that the reading takes, are together of bulk at most 1048576: NARROWER than '..Said'. Prove '..Said' where nothing that the law and all that it calls make is longer than what came in: it says more and counts as full. Else prove '..UptoSaid'. A law counts once. -/
mutual
def uptoBulk {H : Type} : DataW H → Nat
  | .lit (.string bytes) => bytes.length + 1
  | .lit _ => 1
  | .nil => 1
  | .ptr d => uptoBulk d + 1
  | .slice elems spare => uptoBulkAll elems + uptoBulkAll spare + 1
  | .agg parts => uptoBulkAll parts + 1
  | .iface _ d => uptoBulk d + 1
  | .map entries => uptoBulkEntries entries + 1
  | .held _ => 1
def uptoBulkAll {H : Type} : List (DataW H) → Nat
  | [] => 0
  | d :: r => uptoBulk d + uptoBulkAll r
def uptoBulkEntries {H : Type} : List (Lit × DataW H) → Nat
  | [] => 0
  | x :: r => uptoBulkEntry x + uptoBulkEntries r
def uptoBulkEntry {H : Type} : Lit × DataW H → Nat
  | (.string bytes, d) => bytes.length + uptoBulk d + 1
  | (_, d) => uptoBulk d + 1
 end
def uptoSmall : (H : Type) → List (DataW H) → Bool := fun _ ds => decide (uptoBulkAll ds ≤ 1048576)
def OpenSpec.upto (s : _root_.Go.ChangeSpec) : _root_.Go.OpenSpec := { _root_.Go.OpenSpec.ofChange s with cond := some uptoSmall }

/-- 'chroniclelaw2.SqueezeEncode', WHERE WHAT IT READS IS OF BULK AT MOST 1048576: true; the input reads as it did. -/
def squeezeEncodeUptoRow : OpenClaim := { program := "ythkodbngbalohab", sum := "061063c2d510b9a743b855e57b648256961ae3f2b003be7f66a12e113817bdaa", func := "chronicle/chroniclelaw2.SqueezeEncode", spec := "squeezeEncode", apart := false, narrowed := true }
def SqueezeEncodeUptoSaid : Prop := squeezeEncodeUptoRow.holds Try.pinned (OpenSpec.upto squeezeEncodeSpec)

/-- 'chroniclelaw2.SqueezeUnlike', WHERE WHAT IT READS IS OF BULK AT MOST 1048576: true; the input reads as it did. -/
def squeezeUnlikeUptoRow : OpenClaim := { program := "ythkodbngbalohab", sum := "061063c2d510b9a743b855e57b648256961ae3f2b003be7f66a12e113817bdaa", func := "chronicle/chroniclelaw2.SqueezeUnlike", spec := "squeezeUnlike", apart := false, narrowed := true }
def SqueezeUnlikeUptoSaid : Prop := squeezeUnlikeUptoRow.holds Try.pinned (OpenSpec.upto squeezeUnlikeSpec)

/-- 'chroniclelaw2.SqueezeFar', WHERE WHAT IT READS IS OF BULK AT MOST 1048576: true; the input reads as it did. -/
def squeezeFarUptoRow : OpenClaim := { program := "ythkodbngbalohab", sum := "061063c2d510b9a743b855e57b648256961ae3f2b003be7f66a12e113817bdaa", func := "chronicle/chroniclelaw2.SqueezeFar", spec := "squeezeFar", apart := false, narrowed := true }
def SqueezeFarUptoSaid : Prop := squeezeFarUptoRow.holds Try.pinned (OpenSpec.upto squeezeFarSpec)

/-- 'chroniclelaw2.SqueezeOnly', WHERE WHAT IT READS IS OF BULK AT MOST 1048576: true; the input reads as it did. -/
def squeezeOnlyUptoRow : OpenClaim := { program := "ythkodbngbalohab", sum := "061063c2d510b9a743b855e57b648256961ae3f2b003be7f66a12e113817bdaa", func := "chronicle/chroniclelaw2.SqueezeOnly", spec := "squeezeOnly", apart := false, narrowed := true }
def SqueezeOnlyUptoSaid : Prop := squeezeOnlyUptoRow.holds Try.pinned (OpenSpec.upto squeezeOnlySpec)

/-- 'chroniclelaw2.SqueezeRuns', WHERE WHAT IT READS IS OF BULK AT MOST 1048576: true; the input reads as it did. -/
def squeezeRunsUptoRow : OpenClaim := { program := "ythkodbngbalohab", sum := "061063c2d510b9a743b855e57b648256961ae3f2b003be7f66a12e113817bdaa", func := "chronicle/chroniclelaw2.SqueezeRuns", spec := "squeezeRuns", apart := false, narrowed := true }
def SqueezeRunsUptoSaid : Prop := squeezeRunsUptoRow.holds Try.pinned (OpenSpec.upto squeezeRunsSpec)

/-- 'chroniclelaw2.SqueezeBack', WHERE WHAT IT READS IS OF BULK AT MOST 1048576: true; the input reads as it did. -/
def squeezeBackUptoRow : OpenClaim := { program := "ythkodbngbalohab", sum := "061063c2d510b9a743b855e57b648256961ae3f2b003be7f66a12e113817bdaa", func := "chronicle/chroniclelaw2.SqueezeBack", spec := "squeezeBack", apart := false, narrowed := true }
def SqueezeBackUptoSaid : Prop := squeezeBackUptoRow.holds Try.pinned (OpenSpec.upto squeezeBackSpec)

end Rows
end Go.Proofs.Ythkodbngbalohab
