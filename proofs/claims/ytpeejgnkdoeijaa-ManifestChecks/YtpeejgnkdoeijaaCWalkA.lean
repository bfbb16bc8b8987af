import Derived.Test.YtpeejgnkdoeijaaCCmp
import Derived.Test.YtpeejgnkdoeijaaRd
import Derived.WalkKit
import Derived.WalkLawsBesides
import Derived.Deep.QuietTactic
import Derived.BigQuiet
import Derived.Laws.RangeString
import Derived.Laws.RangeAny
import Derived.WalkSmall
namespace Go.Proofs.Ytpeejgnkdoeijaa
open Go.RowKit Plain
set_option linter.unusedVariables false

theorem drop_at (s : ByteArray) (k : Nat) (h : k < s.size) : s.data.toList.drop k = s[k] :: s.data.toList.drop (k + 1) := by
  rw [List.drop_eq_getElem_cons (by simpa using h)]; rfl

theorem drop_off (s : ByteArray) (k : Nat) (h : s.size ≤ k) : s.data.toList.drop k = [] := List.drop_eq_nil_of_le (by simpa using h)

theorem ret_i {k : IntKind} {a b : Int} (h : a = b) : Ending.returned (.int k a) = .returned (.int k b) := by rw [h]

theorem dn3 (w : World) (a b c : Nat) : ∃ n, ((w.drewN a).drewN b).drewN c = w.drewN n := ⟨a + (b + c), by rw [World.drewN_drewN, World.drewN_drewN]⟩

/-- The bytes of a from f to t, held against those of b from f on. -/
def piece (a b : ByteArray) (f t : Nat) : Int := cmpP ((a.data.toList.drop f).take (t - f)) (b.data.toList.drop f)

theorem piece_end (a b : ByteArray) (t : Nat) : piece a b t t = 0 := by simp [piece, cmpP]

theorem piece_off (a b : ByteArray) (f t : Nat) (h : f < t) (ht : t ≤ a.size) (hb : b.size ≤ f) : piece a b f t = 1 := by
  unfold piece
  rw [drop_at a f (by omega), drop_off b f hb, show t - f = (t - f - 1) + 1 by omega]
  rfl

theorem piece_step (a b : ByteArray) (f t : Nat) (h : f < t) (ht : t ≤ a.size) (hb : f < b.size) :
    piece a b f t = if (a[f]'(by omega)).toNat < b[f].toNat then -1 else if b[f].toNat < (a[f]'(by omega)).toNat then 1 else piece a b (f + 1) t := by
  unfold piece
  rw [drop_at a f (by omega), drop_at b f hb, show t - f = (t - (f + 1)) + 1 by omega]
  rfl

set_option maxHeartbeats 400000 in
theorem comparePiece (a b : ByteArray) (f t : Nat) (w : World) (ha : a.size ≤ maxLen) (hb : b.size ≤ maxLen) (hft : f ≤ t) (ht : t ≤ a.size) :
    Calls Try.prog 76 #[.string a, .string b, .int .i64 f, .int .i64 t] w fun e w' => e = .returned (.int .i64 (piece a b f t)) ∧ ∃ n, w' = w.drewN n := by
  unfold maxLen at ha hb
  go_enter Try.func76, Try.ntmps76
  go_wp2
  go_loopw [9] (fun i w' => ∃ k n : Nat, w' = w.drewN n ∧ f ≤ k ∧ k ≤ t ∧ i = .int .i64 k ∧ piece a b f t = piece a b k t) (fun i _ => t - (intOf i).toNat)
  case atStart => exact ⟨f, 0, rfl, by omega, by omega, rfl, rfl⟩
  case round =>
    obtain ⟨k, n, rfl, hka, hkb, rfl, hr⟩ := hrel
    have HR : Hid (piece a b f t = piece a b k t) := hr
    clear hr
    by_cases h1 : k < t
    · by_cases h2 : k < b.size
      · have hka' : k < a.size := by omega
        have HS : Hid (piece a b f t = if a[k].toNat < b[k].toNat then -1 else if b[k].toNat < a[k].toNat then 1 else piece a b (k + 1) t) := by
          unfold Hid; rw [HR.out, piece_step a b k t h1 ht h2]
        clear HR
        have hg : decide (b.size ≤ k) = false := by simpa using h2
        go_wp2
        go_quiet (fail)
        go_wp2
        · go_ret
          exact ⟨ret_i (by rw [HS.out, if_neg (by omega), if_pos (by assumption)]), dn2 _ _ _⟩
        · go_quiet (fail)
          go_wp2
          · go_ret
            exact ⟨ret_i (by rw [HS.out, if_pos (by assumption)]), dn3 _ _ _ _⟩
          · go_roundw
            case rel => exact ⟨k + 1, _, rfl, by omega, by omega, by go_num, by rw [HS.out, if_neg (by assumption), if_neg (by assumption)]⟩
            case measure => simp [intOf]; omega
      · have HS : Hid (piece a b f t = 1) := by unfold Hid; rw [HR.out, piece_off a b k t h1 ht (by omega)]
        clear HR
        have hg : decide (b.size ≤ k) = true := by simp; omega
        go_wp2
        go_quiet (fail)
        go_wp2
        go_ret
        exact ⟨ret_i HS.out.symm, dn2 _ _ _⟩
    · have hkk : k = t := by omega
      have HS : Hid (piece a b f t = 0) := by unfold Hid; rw [HR.out, hkk, piece_end]
      clear HR hkk
      go_wp2
      go_ret
      exact ⟨ret_i HS.out.symm, _, rfl⟩
end Go.Proofs.Ytpeejgnkdoeijaa
