import Derived.Test.YteekmmgopnnioaaDoorCCmp
import Derived.Test.YteekmmgopnnioaaDoorRd
import Derived.WalkKit
import Derived.WalkLawsBesides
import Derived.Deep.QuietTactic
import Derived.BigQuiet
import Derived.Laws.RangeString
import Derived.Laws.RangeAny
import Derived.WalkSmall
namespace Go.Proofs.YteekmmgopnnioaaDoor
open Go.RowKit Plain
set_option linter.unusedVariables false

theorem drop_at (s : ByteArray) (k : Nat) (h : k < s.size) : s.data.toList.drop k = s[k] :: s.data.toList.drop (k + 1) := by
  rw [List.drop_eq_getElem_cons (by simpa using h)]; rfl

theorem drop_off (s : ByteArray) (k : Nat) (h : s.size ≤ k) : s.data.toList.drop k = [] := List.drop_eq_nil_of_le (by simpa using h)

theorem ret_i {k : IntKind} {a b : Int} (h : a = b) : Ending.returned (.int k a) = .returned (.int k b) := by rw [h]

theorem dn3 (w : World) (a b c : Nat) : ∃ n, ((w.drewN a).drewN b).drewN c = w.drewN n := ⟨a + (b + c), by rw [World.drewN_drewN, World.drewN_drewN]⟩

/-- The bytes of a from f to t, held against those of b from f on. -/
def piece (a b : ByteArray) (f t : Nat) : Int := cmpP ((a.data.toList.drop f).take (t - f)) (b.data.toList.drop f)

theorem piece_end (a b : ByteArray) (t : Nat) : piece a b t t = 0 := by simp [piece, cmpP]

theorem piece_off (a b : ByteArray) (f t : Nat) (h : f < t) (ht : t ≤ a.size) (hb : b.size ≤ f) : piece a b f t = 1 := by
  unfold piece
  rw [drop_at a f (by omega), drop_off b f hb, show t - f = (t - f - 1) + 1 by omega]
  rfl

theorem piece_step (a b : ByteArray) (f t : Nat) (h : f < t) (ht : t ≤ a.size) (hb : f < b.size) :
    piece a b f t = if (a[f]'(by omega)).toNat < b[f].toNat then -1 else if b[f].toNat < (a[f]'(by omega)).toNat then 1 else piece a b (f + 1) t := by
  unfold piece
  rw [drop_at a f (by omega), drop_at b f hb, show t - f = (t - (f + 1)) + 1 by omega]
  rfl

end Go.Proofs.YteekmmgopnnioaaDoor
