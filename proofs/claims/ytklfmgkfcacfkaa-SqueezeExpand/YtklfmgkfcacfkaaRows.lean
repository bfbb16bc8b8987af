/-
  No cell of these rows narrows 'for every input' (looked for: loops, veiled, ifaces, maps, wideKeys, modest, calm, conditions, laid).
  DERIVED. THE GIVEN ROWS OF THIS SEAT. 6 by the template 'for every input the law returns true; each argument reads behind the call as it read before'; 0 by the template 'total and deterministic' (their statements: YtklfmgkfcacfkaaTotals.lean).
  GIVEN WITH THE SEED: the statements are not yours to turn. If you find one false, say at which input.
  Laid BY PROGRAM, IN A SANDBOX (cutbox-rows.mjs): the forced cells as the released guide's own fill.sh prints them over the translation 92e649fc303cb53d… (all of the seat's roots in one cut). By AI agents, Wed Nov 11 2026. No macro, syntax, notation, axiom, sorry.
-/
import Derived.Test.YtklfmgkfcacfkaaChecked
import GoSem.Claim
import GoSem.ClaimJoined
import GoSem.ClaimMapViews
import Derived.JoinedTies
import Derived.KernelRfl
namespace Go.Proofs.Ytklfmgkfcacfkaa
/- THE CELL 'sum', in the pinned program and in every row, IS THE sha256 OF THE DUMP (.gsa) THAT YtklfmgkfcacfkaaProg.lean LOADS. Nothing in Lean hashes anything: it is a label: what it is worth is what the hold of that sum in a sandbox is worth. -/
noncomputable def Try.pinned : Pinned := { name := "ytklfmgkfcacfkaa", sum := "92e649fc303cb53dd7db8067a817022f6d3df6c56af48f26d6b85f7b8eb7bbcc", checked := Try.checked }
namespace Rows
def none {H : Type} : Left H := { results := [], args := [] }

/-- 'chroniclelaw2.SqueezeGreedy': WHATEVER THE INPUT: true; the input reads as it did. -/
def squeezeGreedySpec : ChangeSpec := { name := "squeezeGreedy", fn := fun _ => fun
  | [d] => { results := [.lit (.bool true)], args := [d] }
  | _ => none }
def squeezeGreedyRow : OpenClaim := { program := "ytklfmgkfcacfkaa", sum := "92e649fc303cb53dd7db8067a817022f6d3df6c56af48f26d6b85f7b8eb7bbcc", func := "chronicle/chroniclelaw2.SqueezeGreedy", spec := "squeezeGreedy", apart := false }
def SqueezeGreedySaid : Prop := squeezeGreedyRow.holds Try.pinned (OpenSpec.ofChange squeezeGreedySpec)

/-- ITS FALSE NEIGHBOUR: 'it returns false'. Refute it at one input. -/
def squeezeGreedyWrong : ChangeSpec := { name := "squeezeGreedy", fn := fun _ => fun
  | [d] => { results := [.lit (.bool false)], args := [d] }
  | _ => none }
def SqueezeGreedyWrongFalsely : Prop := squeezeGreedyRow.holds Try.pinned (OpenSpec.ofChange squeezeGreedyWrong)

/-- 'chroniclelaw2.SqueezeExpand': WHATEVER THE INPUT: true; the input reads as it did. -/
def squeezeExpandSpec : ChangeSpec := { name := "squeezeExpand", fn := fun _ => fun
  | [d] => { results := [.lit (.bool true)], args := [d] }
  | _ => none }
def squeezeExpandRow : OpenClaim := { program := "ytklfmgkfcacfkaa", sum := "92e649fc303cb53dd7db8067a817022f6d3df6c56af48f26d6b85f7b8eb7bbcc", func := "chronicle/chroniclelaw2.SqueezeExpand", spec := "squeezeExpand", apart := false }
def SqueezeExpandSaid : Prop := squeezeExpandRow.holds Try.pinned (OpenSpec.ofChange squeezeExpandSpec)

/-- ITS FALSE NEIGHBOUR: 'it returns false'. Refute it at one input. -/
def squeezeExpandWrong : ChangeSpec := { name := "squeezeExpand", fn := fun _ => fun
  | [d] => { results := [.lit (.bool false)], args := [d] }
  | _ => none }
def SqueezeExpandWrongFalsely : Prop := squeezeExpandRow.holds Try.pinned (OpenSpec.ofChange squeezeExpandWrong)

/-- 'chroniclelaw2.SqueezeBound': WHATEVER THE INPUT: true; the input reads as it did. -/
def squeezeBoundSpec : ChangeSpec := { name := "squeezeBound", fn := fun _ => fun
  | [d] => { results := [.lit (.bool true)], args := [d] }
  | _ => none }
def squeezeBoundRow : OpenClaim := { program := "ytklfmgkfcacfkaa", sum := "92e649fc303cb53dd7db8067a817022f6d3df6c56af48f26d6b85f7b8eb7bbcc", func := "chronicle/chroniclelaw2.SqueezeBound", spec := "squeezeBound", apart := false }
def SqueezeBoundSaid : Prop := squeezeBoundRow.holds Try.pinned (OpenSpec.ofChange squeezeBoundSpec)

/-- ITS FALSE NEIGHBOUR: 'it returns false'. Refute it at one input. -/
def squeezeBoundWrong : ChangeSpec := { name := "squeezeBound", fn := fun _ => fun
  | [d] => { results := [.lit (.bool false)], args := [d] }
  | _ => none }
def SqueezeBoundWrongFalsely : Prop := squeezeBoundRow.holds Try.pinned (OpenSpec.ofChange squeezeBoundWrong)

/-- 'chroniclelaw2.SqueezeTokens': WHATEVER THE INPUT: true; the input reads as it did. -/
def squeezeTokensSpec : ChangeSpec := { name := "squeezeTokens", fn := fun _ => fun
  | [d] => { results := [.lit (.bool true)], args := [d] }
  | _ => none }
def squeezeTokensRow : OpenClaim := { program := "ytklfmgkfcacfkaa", sum := "92e649fc303cb53dd7db8067a817022f6d3df6c56af48f26d6b85f7b8eb7bbcc", func := "chronicle/chroniclelaw2.SqueezeTokens", spec := "squeezeTokens", apart := false }
def SqueezeTokensSaid : Prop := squeezeTokensRow.holds Try.pinned (OpenSpec.ofChange squeezeTokensSpec)

/-- ITS FALSE NEIGHBOUR: 'it returns false'. Refute it at one input. -/
def squeezeTokensWrong : ChangeSpec := { name := "squeezeTokens", fn := fun _ => fun
  | [d] => { results := [.lit (.bool false)], args := [d] }
  | _ => none }
def SqueezeTokensWrongFalsely : Prop := squeezeTokensRow.holds Try.pinned (OpenSpec.ofChange squeezeTokensWrong)

/-- 'chroniclelaw2.SqueezeWrite': WHATEVER THE INPUT: true; the input reads as it did. -/
def squeezeWriteSpec : ChangeSpec := { name := "squeezeWrite", fn := fun _ => fun
  | [d] => { results := [.lit (.bool true)], args := [d] }
  | _ => none }
def squeezeWriteRow : OpenClaim := { program := "ytklfmgkfcacfkaa", sum := "92e649fc303cb53dd7db8067a817022f6d3df6c56af48f26d6b85f7b8eb7bbcc", func := "chronicle/chroniclelaw2.SqueezeWrite", spec := "squeezeWrite", apart := false }
def SqueezeWriteSaid : Prop := squeezeWriteRow.holds Try.pinned (OpenSpec.ofChange squeezeWriteSpec)

/-- ITS FALSE NEIGHBOUR: 'it returns false'. Refute it at one input. -/
def squeezeWriteWrong : ChangeSpec := { name := "squeezeWrite", fn := fun _ => fun
  | [d] => { results := [.lit (.bool false)], args := [d] }
  | _ => none }
def SqueezeWriteWrongFalsely : Prop := squeezeWriteRow.holds Try.pinned (OpenSpec.ofChange squeezeWriteWrong)

/-- 'chroniclelaw2.SqueezeRead': WHATEVER THE INPUT: true; the input reads as it did. -/
def squeezeReadSpec : ChangeSpec := { name := "squeezeRead", fn := fun _ => fun
  | [d] => { results := [.lit (.bool true)], args := [d] }
  | _ => none }
def squeezeReadRow : OpenClaim := { program := "ytklfmgkfcacfkaa", sum := "92e649fc303cb53dd7db8067a817022f6d3df6c56af48f26d6b85f7b8eb7bbcc", func := "chronicle/chroniclelaw2.SqueezeRead", spec := "squeezeRead", apart := false }
def SqueezeReadSaid : Prop := squeezeReadRow.holds Try.pinned (OpenSpec.ofChange squeezeReadSpec)

/-- ITS FALSE NEIGHBOUR: 'it returns false'. Refute it at one input. -/
def squeezeReadWrong : ChangeSpec := { name := "squeezeRead", fn := fun _ => fun
  | [d] => { results := [.lit (.bool false)], args := [d] }
  | _ => none }
def SqueezeReadWrongFalsely : Prop := squeezeReadRow.holds Try.pinned (OpenSpec.ofChange squeezeReadWrong)

/- THE SECOND FORM. 'bulk': how many values and letters a reading holds, each counted each time it is reached (what is shared counts as often as it is met; a slice's spare places count too). A statement '..UptoSaid' is the law's where the arguments, and the package variables that the reading takes, are together of bulk at most 1048576: NARROWER than '..Said'. Prove '..Said' where nothing that the law and all that it calls make is longer than what came in: it says more and counts as full. Else prove '..UptoSaid'. A law counts once. -/
mutual
def uptoBulk {H : Type} : DataW H → Nat
  | .lit (.string bytes) => bytes.length + 1
  | .lit _ => 1
  | .nil => 1
  | .ptr d => uptoBulk d + 1
  | .slice elems spare => uptoBulkAll elems + uptoBulkAll spare + 1
  | .agg parts => uptoBulkAll parts + 1
  | .iface _ d => uptoBulk d + 1
  | .map entries => uptoBulkEntries entries + 1
  | .held _ => 1
def uptoBulkAll {H : Type} : List (DataW H) → Nat
  | [] => 0
  | d :: r => uptoBulk d + uptoBulkAll r
def uptoBulkEntries {H : Type} : List (Lit × DataW H) → Nat
  | [] => 0
  | x :: r => uptoBulkEntry x + uptoBulkEntries r
def uptoBulkEntry {H : Type} : Lit × DataW H → Nat
  | (.string bytes, d) => bytes.length + uptoBulk d + 1
  | (_, d) => uptoBulk d + 1
 end
def uptoSmall : (H : Type) → List (DataW H) → Bool := fun _ ds => decide (uptoBulkAll ds ≤ 1048576)
def OpenSpec.upto (s : _root_.Go.ChangeSpec) : _root_.Go.OpenSpec := { _root_.Go.OpenSpec.ofChange s with cond := some uptoSmall }

/-- 'chroniclelaw2.SqueezeGreedy', WHERE WHAT IT READS IS OF BULK AT MOST 1048576: true; the input reads as it did. -/
def squeezeGreedyUptoRow : OpenClaim := { program := "ytklfmgkfcacfkaa", sum := "92e649fc303cb53dd7db8067a817022f6d3df6c56af48f26d6b85f7b8eb7bbcc", func := "chronicle/chroniclelaw2.SqueezeGreedy", spec := "squeezeGreedy", apart := false, narrowed := true }
def SqueezeGreedyUptoSaid : Prop := squeezeGreedyUptoRow.holds Try.pinned (OpenSpec.upto squeezeGreedySpec)

/-- 'chroniclelaw2.SqueezeExpand', WHERE WHAT IT READS IS OF BULK AT MOST 1048576: true; the input reads as it did. -/
def squeezeExpandUptoRow : OpenClaim := { program := "ytklfmgkfcacfkaa", sum := "92e649fc303cb53dd7db8067a817022f6d3df6c56af48f26d6b85f7b8eb7bbcc", func := "chronicle/chroniclelaw2.SqueezeExpand", spec := "squeezeExpand", apart := false, narrowed := true }
def SqueezeExpandUptoSaid : Prop := squeezeExpandUptoRow.holds Try.pinned (OpenSpec.upto squeezeExpandSpec)

/-- 'chroniclelaw2.SqueezeBound', WHERE WHAT IT READS IS OF BULK AT MOST 1048576: true; the input reads as it did. -/
def squeezeBoundUptoRow : OpenClaim := { program := "ytklfmgkfcacfkaa", sum := "92e649fc303cb53dd7db8067a817022f6d3df6c56af48f26d6b85f7b8eb7bbcc", func := "chronicle/chroniclelaw2.SqueezeBound", spec := "squeezeBound", apart := false, narrowed := true }
def SqueezeBoundUptoSaid : Prop := squeezeBoundUptoRow.holds Try.pinned (OpenSpec.upto squeezeBoundSpec)

/-- 'chroniclelaw2.SqueezeTokens', WHERE WHAT IT READS IS OF BULK AT MOST 1048576: true; the input reads as it did. -/
def squeezeTokensUptoRow : OpenClaim := { program := "ytklfmgkfcacfkaa", sum := "92e649fc303cb53dd7db8067a817022f6d3df6c56af48f26d6b85f7b8eb7bbcc", func := "chronicle/chroniclelaw2.SqueezeTokens", spec := "squeezeTokens", apart := false, narrowed := true }
def SqueezeTokensUptoSaid : Prop := squeezeTokensUptoRow.holds Try.pinned (OpenSpec.upto squeezeTokensSpec)

/-- 'chroniclelaw2.SqueezeWrite', WHERE WHAT IT READS IS OF BULK AT MOST 1048576: true; the input reads as it did. -/
def squeezeWriteUptoRow : OpenClaim := { program := "ytklfmgkfcacfkaa", sum := "92e649fc303cb53dd7db8067a817022f6d3df6c56af48f26d6b85f7b8eb7bbcc", func := "chronicle/chroniclelaw2.SqueezeWrite", spec := "squeezeWrite", apart := false, narrowed := true }
def SqueezeWriteUptoSaid : Prop := squeezeWriteUptoRow.holds Try.pinned (OpenSpec.upto squeezeWriteSpec)

/-- 'chroniclelaw2.SqueezeRead', WHERE WHAT IT READS IS OF BULK AT MOST 1048576: true; the input reads as it did. -/
def squeezeReadUptoRow : OpenClaim := { program := "ytklfmgkfcacfkaa", sum := "92e649fc303cb53dd7db8067a817022f6d3df6c56af48f26d6b85f7b8eb7bbcc", func := "chronicle/chroniclelaw2.SqueezeRead", spec := "squeezeRead", apart := false, narrowed := true }
def SqueezeReadUptoSaid : Prop := squeezeReadUptoRow.holds Try.pinned (OpenSpec.upto squeezeReadSpec)

end Rows
end Go.Proofs.Ytklfmgkfcacfkaa
