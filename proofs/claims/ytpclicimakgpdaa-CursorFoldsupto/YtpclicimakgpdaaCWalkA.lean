import Derived.Test.YtpclicimakgpdaaCCmp
import Derived.Test.YtpclicimakgpdaaRd
import Derived.WalkKit
import Derived.WalkLawsBesides
import Derived.Deep.QuietTactic
import Derived.BigQuiet
import Derived.Laws.RangeString
import Derived.Laws.RangeAny
import Derived.WalkSmall
namespace Go.Proofs.Ytpclicimakgpdaa
open Go.RowKit Plain
set_option linter.unusedVariables false

theorem drop_at (s : ByteArray) (k : Nat) (h : k < s.size) : s.data.toList.drop k = s[k] :: s.data.toList.drop (k + 1) := by
  rw [List.drop_eq_getElem_cons (by simpa using h)]; rfl

theorem drop_off (s : ByteArray) (k : Nat) (h : s.size ≤ k) : s.data.toList.drop k = [] := List.drop_eq_nil_of_le (by simpa using h)

theorem ret_i {k : IntKind} {a b : Int} (h : a = b) : Ending.returned (.int k a) = .returned (.int k b) := by rw [h]

theorem dn3 (w : World) (a b c : Nat) : ∃ n, ((w.drewN a).drewN b).drewN c = w.drewN n := ⟨a + (b + c), by rw [World.drewN_drewN, World.drewN_drewN]⟩

set_option maxHeartbeats 400000 in
theorem refCompare (a b : ByteArray) (w : World) (ha : a.size ≤ maxLen) (hb : b.size ≤ maxLen) :
    Calls Try.prog 16 #[.string a, .string b] w fun e w' => e = .returned (.int .i64 (cmpL a.data.toList b.data.toList)) ∧ ∃ n, w' = w.drewN n := by
  unfold maxLen at ha hb
  go_enter Try.func16, Try.ntmps16
  go_wp2
  go_loopw [5] (fun i w' => ∃ k n : Nat, w' = w.drewN n ∧ k ≤ a.size ∧ k ≤ b.size ∧ i = .int .i64 k ∧ cmpL a.data.toList b.data.toList = cmpL (a.data.toList.drop k) (b.data.toList.drop k)) (fun i _ => a.size - (intOf i).toNat)
  case atStart => exact ⟨0, 0, rfl, by omega, by omega, rfl, rfl⟩
  case round =>
    obtain ⟨k, n, rfl, hka, hkb, rfl, hr⟩ := hrel
    have HR : Hid (cmpL a.data.toList b.data.toList = cmpL (a.data.toList.drop k) (b.data.toList.drop k)) := hr
    clear hr
    by_cases h1 : k < a.size
    · by_cases h2 : k < b.size
      · have ea := drop_at a k h1
        have eb := drop_at b k h2
        have HS : Hid (cmpL a.data.toList b.data.toList = if a[k].toNat < b[k].toNat then -1 else if b[k].toNat < a[k].toNat then 1 else cmpL (a.data.toList.drop (k + 1)) (b.data.toList.drop (k + 1))) := by
          rw [HR.out, ea, eb]; rfl
        clear ea eb HR
        go_wp2
        go_quiet (fail)
        go_wp2
        · go_ret
          exact ⟨ret_i (by rw [HS.out, if_pos (by assumption)]), dn2 _ _ _⟩
        · go_quiet (fail)
          go_wp2
          · go_ret
            exact ⟨ret_i (by rw [HS.out, if_neg (by assumption), if_pos (by assumption)]), dn3 _ _ _ _⟩
          · go_roundw
            case rel => exact ⟨k + 1, _, rfl, by omega, by omega, by go_num, by rw [HS.out, if_neg (by assumption), if_neg (by assumption)]⟩
            case measure => simp [intOf]; omega
      · have eb := drop_off b k (by omega)
        have ea := drop_at a k h1
        have HS : Hid (cmpL a.data.toList b.data.toList = 1) := by rw [HR.out, ea, eb]; rfl
        clear ea eb HR
        go_wp2
        go_ret
        exact ⟨ret_i HS.out.symm, _, rfl⟩
    · have ea := drop_off a k (by omega)
      have hkk : k = a.size := by omega
      by_cases h2 : k < b.size
      · have eb := drop_at b k h2
        have HS : Hid (cmpL a.data.toList b.data.toList = -1) := by rw [HR.out, ea, eb]; rfl
        clear ea eb HR hkk
        go_wp2
        go_ret
        exact ⟨ret_i HS.out.symm, _, rfl⟩
      · have eb := drop_off b k (by omega)
        have HS : Hid (cmpL a.data.toList b.data.toList = 0) := by rw [HR.out, ea, eb]; rfl
        clear ea eb HR hkk
        go_wp2
        go_ret
        exact ⟨ret_i HS.out.symm, _, rfl⟩

/-- The bytes of a from f to t, held against those of b from f on. -/
def piece (a b : ByteArray) (f t : Nat) : Int := cmpP ((a.data.toList.drop f).take (t - f)) (b.data.toList.drop f)

theorem piece_end (a b : ByteArray) (t : Nat) : piece a b t t = 0 := by simp [piece, cmpP]

theorem piece_off (a b : ByteArray) (f t : Nat) (h : f < t) (ht : t ≤ a.size) (hb : b.size ≤ f) : piece a b f t = 1 := by
  unfold piece
  rw [drop_at a f (by omega), drop_off b f hb, show t - f = (t - f - 1) + 1 by omega]
  rfl

theorem piece_step (a b : ByteArray) (f t : Nat) (h : f < t) (ht : t ≤ a.size) (hb : f < b.size) :
    piece a b f t = if (a[f]'(by omega)).toNat < b[f].toNat then -1 else if b[f].toNat < (a[f]'(by omega)).toNat then 1 else piece a b (f + 1) t := by
  unfold piece
  rw [drop_at a f (by omega), drop_at b f hb, show t - f = (t - (f + 1)) + 1 by omega]
  rfl

end Go.Proofs.Ytpclicimakgpdaa
