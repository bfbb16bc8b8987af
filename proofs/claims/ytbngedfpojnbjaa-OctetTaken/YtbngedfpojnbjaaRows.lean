/-
  No cell of these rows narrows 'for every input' (looked for: loops, veiled, ifaces, maps, wideKeys, modest, calm, conditions, laid).
  DERIVED. THE GIVEN ROWS OF THIS SEAT. 3 by the template 'for every input the law returns true; each argument reads behind the call as it read before'; 0 by the template 'total and deterministic' (their statements: YtbngedfpojnbjaaTotals.lean).
  GIVEN WITH THE SEED: the statements are not yours to turn. If you find one false, say at which input.
  Laid BY PROGRAM, IN A SANDBOX (cutbox-rows.mjs): the forced cells as the released guide's own fill.sh prints them over the translation e5d2c4b4c86dc9e5… (all of the seat's roots in one cut). By AI agents, Wed Nov 11 2026. No macro, syntax, notation, axiom, sorry.
-/
import Derived.Test.YtbngedfpojnbjaaChecked
import GoSem.Claim
import GoSem.ClaimJoined
import GoSem.ClaimMapViews
import Derived.JoinedTies
import Derived.KernelRfl
namespace Go.Proofs.Ytbngedfpojnbjaa
/- THE CELL 'sum', in the pinned program and in every row, IS THE sha256 OF THE DUMP (.gsa) THAT YtbngedfpojnbjaaProg.lean LOADS. Nothing in Lean hashes anything: it is a label: what it is worth is what the hold of that sum in a sandbox is worth. -/
noncomputable def Try.pinned : Pinned := { name := "ytbngedfpojnbjaa", sum := "e5d2c4b4c86dc9e50a66328bd6d113a3aa1370688c4f651d634000e3573f6e43", checked := Try.checked }
namespace Rows
def none {H : Type} : Left H := { results := [], args := [] }

/-- 'chroniclelaw1.OctetTaken': WHATEVER THE INPUT: true; the input reads as it did. -/
def octetTakenSpec : ChangeSpec := { name := "octetTaken", fn := fun _ => fun
  | [d] => { results := [.lit (.bool true)], args := [d] }
  | _ => none }
def octetTakenRow : OpenClaim := { program := "ytbngedfpojnbjaa", sum := "e5d2c4b4c86dc9e50a66328bd6d113a3aa1370688c4f651d634000e3573f6e43", func := "chronicle/chroniclelaw1.OctetTaken", spec := "octetTaken", apart := false }
def OctetTakenSaid : Prop := octetTakenRow.holds Try.pinned (OpenSpec.ofChange octetTakenSpec)

/-- ITS FALSE NEIGHBOUR: 'it returns false'. Refute it at one input. -/
def octetTakenWrong : ChangeSpec := { name := "octetTaken", fn := fun _ => fun
  | [d] => { results := [.lit (.bool false)], args := [d] }
  | _ => none }
def OctetTakenWrongFalsely : Prop := octetTakenRow.holds Try.pinned (OpenSpec.ofChange octetTakenWrong)

/-- 'chroniclelaw1.OctetOrder': WHATEVER THE INPUT: true; the input reads as it did. -/
def octetOrderSpec : ChangeSpec := { name := "octetOrder", fn := fun _ => fun
  | [d1, d2, d3, d4] => { results := [.lit (.bool true)], args := [d1, d2, d3, d4] }
  | _ => none }
def octetOrderRow : OpenClaim := { program := "ytbngedfpojnbjaa", sum := "e5d2c4b4c86dc9e50a66328bd6d113a3aa1370688c4f651d634000e3573f6e43", func := "chronicle/chroniclelaw1.OctetOrder", spec := "octetOrder", apart := false }
def OctetOrderSaid : Prop := octetOrderRow.holds Try.pinned (OpenSpec.ofChange octetOrderSpec)

/-- ITS FALSE NEIGHBOUR: 'it returns false'. Refute it at one input. -/
def octetOrderWrong : ChangeSpec := { name := "octetOrder", fn := fun _ => fun
  | [d1, d2, d3, d4] => { results := [.lit (.bool false)], args := [d1, d2, d3, d4] }
  | _ => none }
def OctetOrderWrongFalsely : Prop := octetOrderRow.holds Try.pinned (OpenSpec.ofChange octetOrderWrong)

/-- 'chroniclelaw1.OctetCompares': WHATEVER THE INPUT: true; the input reads as it did. -/
def octetComparesSpec : ChangeSpec := { name := "octetCompares", fn := fun _ => fun
  | [d1, d2] => { results := [.lit (.bool true)], args := [d1, d2] }
  | _ => none }
def octetComparesRow : OpenClaim := { program := "ytbngedfpojnbjaa", sum := "e5d2c4b4c86dc9e50a66328bd6d113a3aa1370688c4f651d634000e3573f6e43", func := "chronicle/chroniclelaw1.OctetCompares", spec := "octetCompares", apart := false }
def OctetComparesSaid : Prop := octetComparesRow.holds Try.pinned (OpenSpec.ofChange octetComparesSpec)

/-- ITS FALSE NEIGHBOUR: 'it returns false'. Refute it at one input. -/
def octetComparesWrong : ChangeSpec := { name := "octetCompares", fn := fun _ => fun
  | [d1, d2] => { results := [.lit (.bool false)], args := [d1, d2] }
  | _ => none }
def OctetComparesWrongFalsely : Prop := octetComparesRow.holds Try.pinned (OpenSpec.ofChange octetComparesWrong)

/- THE SECOND FORM. 'bulk': how many values and letters a reading holds, each counted each time it is reached (what is shared counts as often as it is met; a slice's spare places count too). A statement '..UptoSaid' is the law's where the arguments, and the package variables that the reading takes, are together of bulk at most 1048576: NARROWER than '..Said'. Prove '..Said' where nothing that the law and all that it calls make is longer than what came in: it says more and counts as full. Else prove '..UptoSaid'. A law counts once. -/
mutual
def uptoBulk {H : Type} : DataW H → Nat
  | .lit (.string bytes) => bytes.length + 1
  | .lit _ => 1
  | .nil => 1
  | .ptr d => uptoBulk d + 1
  | .slice elems spare => uptoBulkAll elems + uptoBulkAll spare + 1
  | .agg parts => uptoBulkAll parts + 1
  | .iface _ d => uptoBulk d + 1
  | .map entries => uptoBulkEntries entries + 1
  | .held _ => 1
def uptoBulkAll {H : Type} : List (DataW H) → Nat
  | [] => 0
  | d :: r => uptoBulk d + uptoBulkAll r
def uptoBulkEntries {H : Type} : List (Lit × DataW H) → Nat
  | [] => 0
  | x :: r => uptoBulkEntry x + uptoBulkEntries r
def uptoBulkEntry {H : Type} : Lit × DataW H → Nat
  | (.string bytes, d) => bytes.length + uptoBulk d + 1
  | (_, d) => uptoBulk d + 1
 end
def uptoSmall : (H : Type) → List (DataW H) → Bool := fun _ ds => decide (uptoBulkAll ds ≤ 1048576)
def OpenSpec.upto (s : _root_.Go.ChangeSpec) : _root_.Go.OpenSpec := { _root_.Go.OpenSpec.ofChange s with cond := some uptoSmall }

/-- 'chroniclelaw1.OctetTaken', WHERE WHAT IT READS IS OF BULK AT MOST 1048576: true; the input reads as it did. -/
def octetTakenUptoRow : OpenClaim := { program := "ytbngedfpojnbjaa", sum := "e5d2c4b4c86dc9e50a66328bd6d113a3aa1370688c4f651d634000e3573f6e43", func := "chronicle/chroniclelaw1.OctetTaken", spec := "octetTaken", apart := false, narrowed := true }
def OctetTakenUptoSaid : Prop := octetTakenUptoRow.holds Try.pinned (OpenSpec.upto octetTakenSpec)

/-- 'chroniclelaw1.OctetOrder', WHERE WHAT IT READS IS OF BULK AT MOST 1048576: true; the input reads as it did. -/
def octetOrderUptoRow : OpenClaim := { program := "ytbngedfpojnbjaa", sum := "e5d2c4b4c86dc9e50a66328bd6d113a3aa1370688c4f651d634000e3573f6e43", func := "chronicle/chroniclelaw1.OctetOrder", spec := "octetOrder", apart := false, narrowed := true }
def OctetOrderUptoSaid : Prop := octetOrderUptoRow.holds Try.pinned (OpenSpec.upto octetOrderSpec)

/-- 'chroniclelaw1.OctetCompares', WHERE WHAT IT READS IS OF BULK AT MOST 1048576: true; the input reads as it did. -/
def octetComparesUptoRow : OpenClaim := { program := "ytbngedfpojnbjaa", sum := "e5d2c4b4c86dc9e50a66328bd6d113a3aa1370688c4f651d634000e3573f6e43", func := "chronicle/chroniclelaw1.OctetCompares", spec := "octetCompares", apart := false, narrowed := true }
def OctetComparesUptoSaid : Prop := octetComparesUptoRow.holds Try.pinned (OpenSpec.upto octetComparesSpec)

end Rows
end Go.Proofs.Ytbngedfpojnbjaa
