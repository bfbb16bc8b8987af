import Derived.Test.YteekmmgopnnioaaDoorCWalkA
import Derived.Lib.OthersKept
import Derived.Laws.IdiomStrings
namespace Go.Proofs.YteekmmgopnnioaaDoor
open Go.RowKit Go.Lib Plain
set_option linter.unusedVariables false

theorem width_pos (s : ByteArray) (pos : Nat) (h : pos < s.size) : 1 ≤ (Utf8.decode s pos).2 := by
  by_cases ha : (s[pos]'h).toNat < 128
  · rw [decode_ascii s pos h ha]
    exact Nat.le_refl _
  · exact (decode_high s pos h (by omega)).2

theorem piece_take (a b : ByteArray) (f t : Nat) (hft : f ≤ t) (ht : t ≤ a.size) (hr : cmpL a.data.toList b.data.toList = cmpL (a.data.toList.drop f) (b.data.toList.drop f)) :
    (piece a b f t ≠ 0 → cmpL a.data.toList b.data.toList = piece a b f t) ∧ (piece a b f t = 0 → cmpL a.data.toList b.data.toList = cmpL (a.data.toList.drop t) (b.data.toList.drop t)) := by
  have h := cmpP_take (t - f) (a.data.toList.drop f) (b.data.toList.drop f) (by rw [List.length_drop]; exact Nat.sub_le_sub_right ht f)
  rw [← hr] at h
  refine ⟨h.1, fun h0 => ?_⟩
  rw [(h.2 h0).2, List.drop_drop, List.drop_drop, show f + (t - f) = t by omega]

theorem piece_last (a b : ByteArray) (f : Nat) (hft : f ≤ a.size) (hr : cmpL a.data.toList b.data.toList = cmpL (a.data.toList.drop f) (b.data.toList.drop f)) (h0 : piece a b f a.size = 0) :
    cmpL a.data.toList b.data.toList = if a.size < b.size then -1 else 0 := by
  rw [(piece_take a b f a.size hft (Nat.le_refl _) hr).2 h0]
  have h1 : a.data.toList.drop a.size = [] := drop_off a a.size (Nat.le_refl _)
  rw [h1]
  by_cases h : a.size < b.size
  · rw [if_pos h, drop_at b a.size h]; rfl
  · rw [if_neg h, drop_off b a.size (by omega)]; rfl

end Go.Proofs.YteekmmgopnnioaaDoor
