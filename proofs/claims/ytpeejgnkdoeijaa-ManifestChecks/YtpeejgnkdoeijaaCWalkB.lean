import Derived.Test.YtpeejgnkdoeijaaCWalkA
import Derived.Lib.OthersKept
import Derived.Laws.IdiomStrings
namespace Go.Proofs.Ytpeejgnkdoeijaa
open Go.RowKit Go.Lib Plain
set_option linter.unusedVariables false

theorem width_pos (s : ByteArray) (pos : Nat) (h : pos < s.size) : 1 ≤ (Utf8.decode s pos).2 := by
  by_cases ha : (s[pos]'h).toNat < 128
  · rw [decode_ascii s pos h ha]
    exact Nat.le_refl _
  · exact (decode_high s pos h (by omega)).2

theorem piece_take (a b : ByteArray) (f t : Nat) (hft : f ≤ t) (ht : t ≤ a.size) (hr : cmpL a.data.toList b.data.toList = cmpL (a.data.toList.drop f) (b.data.toList.drop f)) :
    (piece a b f t ≠ 0 → cmpL a.data.toList b.data.toList = piece a b f t) ∧ (piece a b f t = 0 → cmpL a.data.toList b.data.toList = cmpL (a.data.toList.drop t) (b.data.toList.drop t)) := by
  have h := cmpP_take (t - f) (a.data.toList.drop f) (b.data.toList.drop f) (by rw [List.length_drop]; exact Nat.sub_le_sub_right ht f)
  rw [← hr] at h
  refine ⟨h.1, fun h0 => ?_⟩
  rw [(h.2 h0).2, List.drop_drop, List.drop_drop, show f + (t - f) = t by omega]

theorem piece_last (a b : ByteArray) (f : Nat) (hft : f ≤ a.size) (hr : cmpL a.data.toList b.data.toList = cmpL (a.data.toList.drop f) (b.data.toList.drop f)) (h0 : piece a b f a.size = 0) :
    cmpL a.data.toList b.data.toList = if a.size < b.size then -1 else 0 := by
  rw [(piece_take a b f a.size hft (Nat.le_refl _) hr).2 h0]
  have h1 : a.data.toList.drop a.size = [] := drop_off a a.size (Nat.le_refl _)
  rw [h1]
  by_cases h : a.size < b.size
  · rw [if_pos h, drop_at b a.size h]; rfl
  · rw [if_neg h, drop_off b a.size (by omega)]; rfl

set_option maxHeartbeats 400000 in
theorem compare (a b : ByteArray) (w : World) (ha : a.size ≤ maxLen) (hb : b.size ≤ maxLen) :
    Calls Try.prog 57 #[.string a, .string b] w fun e w' => e = .returned (.int .i64 (cmpL a.data.toList b.data.toList)) ∧ Below w.heap.size w w' := by
  have ha' := ha
  have hb' := hb
  unfold maxLen at ha hb
  go_enter Try.func57, Try.ntmps57
  go_wp2
  go_loopw [5] (fun i w' => ∃ f p : Nat, Below w.heap.size w w' ∧ w'.heap[w.heap.size]? = some (.stringIter a p) ∧ f ≤ a.size ∧ f ≤ p ∧ i = .int .i64 f ∧ cmpL a.data.toList b.data.toList = cmpL (a.data.toList.drop f) (b.data.toList.drop f)) (fun _ w' => a.size - w'.iterPos w.heap.size)
  case atStart => exact ⟨0, 0, (Below.refl _ _).alloc (Nat.le_refl _) _, World.iter_heap w a 0, by omega, by omega, rfl, rfl⟩
  case round =>
    obtain ⟨f, p, hbl, hit, hfa, hfp, rfl, hr⟩ := hrel
    have HR : Hid (cmpL a.data.toList b.data.toList = cmpL (a.data.toList.drop f) (b.data.toList.drop f)) := hr
    clear hr
    by_cases hp : p < a.size
    · have hnx := fun ty => run_next_any_at (P := Try.prog) wr w.heap.size a p ty hit hp
      have hwd := width_pos a p hp
      go_wp2_with (go_at_call 76; refine (comparePiece a b f p _ ha' hb' hfp (by omega)).mono ?_; rintro e w' ⟨rfl, nd, rfl⟩)
      · have hne : (piece a b f p != 0) = true := by assumption
        go_ret
        exact ⟨ret_i ((piece_take a b f p hfp (by omega) HR.out).1 (by simpa using hne)).symm, below_drewN (below_iterAt hbl (Nat.le_refl _) _ _) _⟩
      · have heq : (piece a b f p != 0) = false := by assumption
        go_roundw
        case rel => exact ⟨p, p + (Utf8.decode a p).2, below_drewN (below_iterAt hbl (Nat.le_refl _) _ _) _, iterAt_heap wr _ a p _ hit, by omega, by omega, rfl, (piece_take a b f p hfp (by omega) HR.out).2 (by simpa using heq)⟩
        case measure =>
          have e1 := iterPos_of (w := (wr.iterAt w.heap.size a (p + (Utf8.decode a p).2)).drewN nd) (iterAt_heap wr _ a p _ hit)
          have e2 := iterPos_of hit
          rw [e1, e2]
          omega
    · have hnx := fun ty => run_next_end_at (P := Try.prog) wr w.heap.size a p ty hit hp
      go_wp2_with (go_at_call 76; refine (comparePiece a b f a.size _ ha' hb' hfa (by omega)).mono ?_; rintro e w' ⟨rfl, nd, rfl⟩)
      · have hne : (piece a b f a.size != 0) = true := by assumption
        go_ret
        exact ⟨ret_i ((piece_take a b f a.size hfa (by omega) HR.out).1 (by simpa using hne)).symm, below_drewN hbl _⟩
      · have heq : (piece a b f a.size != 0) = false := by assumption
        go_ret
        exact ⟨ret_i (by rw [piece_last a b f hfa HR.out (by simpa using heq), if_pos (by assumption)]), below_drewN hbl _⟩
      · have heq : (piece a b f a.size != 0) = false := by assumption
        go_ret
        exact ⟨ret_i (by rw [piece_last a b f hfa HR.out (by simpa using heq), if_neg (by assumption)]), below_drewN hbl _⟩
end Go.Proofs.Ytpeejgnkdoeijaa
