import Derived.Test.YteekmmgopnnioaaDoorMcB
import Derived.Laws.RangeString
import Derived.Laws.RangeAny
import Derived.Laws.Strings
/-! manifest: which names topics may have. -/
namespace Go.Proofs.YteekmmgopnnioaaDoor
open Go.RowKit Plain
set_option linter.unusedVariables false
set_option linter.unusedSimpArgs false

def sgB (r : Int) : Bool := inW r 97 122 || inW r 48 57 || r == 45
/-- The byte at a place. -/
def byteN (s : ByteArray) (i : Nat) : Int := ((s.data.toList.getD i 0).toNat : Int)
theorem byteN_at {s : ByteArray} {i : Nat} (h : i < s.size) : ((s[i]'h).toNat : Int) = byteN s i := by
  unfold byteN
  have : i < s.data.toList.length := by simpa using h
  rw [List.getD_eq_getElem?_getD, List.getElem?_eq_getElem this]
  rfl
def nameB (s : ByteArray) : Bool := inW s.size 1 24 && allB s.size (fun i => sgB (byteN s i))
def nameA (s : ByteArray) : Int := if nameB s = true then 0 else 74
theorem sgB_high {r : Int} (h : 128 ≤ r) : sgB r = false := by
  unfold sgB inW
  have h1 : ¬ r ≤ 122 := by omega
  have h2 : ¬ r ≤ 57 := by omega
  have h3 : ¬ r = 45 := by omega
  simp [h1, h2, h3]
end Go.Proofs.YteekmmgopnnioaaDoor
