import Derived.Test.YtpdhkojiehifeaaCWalkB
import Derived.Sort.Grow
namespace Go.Proofs.Ytpdhkojiehifeaa
open Go.RowKit Go.Lib Plain
set_option linter.unusedVariables false

theorem grow_it (w : World) (n : Nat) (a : ByteArray) (p : Nat) : (Go.Sort.grow (w.drewN n) #[.stringIter a p]).heap[w.heap.size]? = some (.stringIter a p) := by
  show (w.heap ++ #[Obj.stringIter a p])[w.heap.size]? = _
  simp
theorem grow_iter' {w wr : World} {n : Nat} {a : ByteArray} {p : Nat} (h : wr = Go.Sort.grow (w.drewN n) #[.stringIter a p]) (p' nd : Nat) : (wr.iterAt w.heap.size a p').drewN nd = Go.Sort.grow (w.drewN (n + nd)) #[.stringIter a p'] := by
  subst h
  unfold World.iterAt Go.Sort.grow World.drewN
  simp
  refine ⟨?_, by omega⟩
  apply Array.ext'
  simp
theorem grow_iter {w wr : World} {n : Nat} {a : ByteArray} {p : Nat} (h : wr = Go.Sort.grow (w.drewN n) #[.stringIter a p]) (p' nd : Nat) : ∃ q os', (wr.iterAt w.heap.size a p').drewN nd = Go.Sort.grow (w.drewN q) os' := ⟨_, _, grow_iter' h p' nd⟩
theorem grow_same {w wr : World} {n : Nat} {a : ByteArray} {p : Nat} (h : wr = Go.Sort.grow (w.drewN n) #[.stringIter a p]) (nd : Nat) : ∃ q os', wr.drewN nd = Go.Sort.grow (w.drewN q) os' := ⟨n + nd, #[.stringIter a p], by rw [h, ← World.drewN_drewN]; rfl⟩

set_option maxHeartbeats 400000 in
theorem compareG (a b : ByteArray) (w : World) (ha : a.size ≤ maxLen) (hb : b.size ≤ maxLen) :
    Calls Try.prog 21 #[.string a, .string b] w fun e w' => e = .returned (.int .i64 (cmpL a.data.toList b.data.toList)) ∧ ∃ q os', w' = Go.Sort.grow (w.drewN q) os' := by
  have ha' := ha
  have hb' := hb
  unfold maxLen at ha hb
  go_enter Try.func21, Try.ntmps21
  go_wp2
  go_loopw [5] (fun i w' => ∃ f p n : Nat, w' = Go.Sort.grow (w.drewN n) #[.stringIter a p] ∧ f ≤ a.size ∧ f ≤ p ∧ i = .int .i64 f ∧ cmpL a.data.toList b.data.toList = cmpL (a.data.toList.drop f) (b.data.toList.drop f)) (fun _ w' => a.size - w'.iterPos w.heap.size)
  case atStart => exact ⟨0, 0, 0, by rw [← Go.Sort.alloc_eq_grow]; rfl, by omega, by omega, rfl, rfl⟩
  case round =>
    obtain ⟨f, p, n, hwr, hfa, hfp, rfl, hr⟩ := hrel
    have HWR : Hid (wr = Go.Sort.grow (w.drewN n) #[.stringIter a p]) := hwr
    have hit : wr.heap[w.heap.size]? = some (.stringIter a p) := by rw [hwr]; exact grow_it w n a p
    clear hwr
    have HR : Hid (cmpL a.data.toList b.data.toList = cmpL (a.data.toList.drop f) (b.data.toList.drop f)) := hr
    clear hr
    by_cases hp : p < a.size
    · have hnx := fun ty => run_next_any_at (P := Try.prog) wr w.heap.size a p ty hit hp
      have hwd := width_pos a p hp
      go_wp2_with (go_at_call 29; refine (comparePiece a b f p _ ha' hb' hfp (by omega)).mono ?_; rintro e w' ⟨rfl, nd, rfl⟩)
      · have hne : (piece a b f p != 0) = true := by assumption
        go_ret
        exact ⟨ret_i ((piece_take a b f p hfp (by omega) HR.out).1 (by simpa using hne)).symm, grow_iter HWR.out _ _⟩
      · have heq : (piece a b f p != 0) = false := by assumption
        go_roundw
        case rel => exact ⟨p, p + (Utf8.decode a p).2, n + nd, grow_iter' HWR.out _ _, by omega, by omega, rfl, (piece_take a b f p hfp (by omega) HR.out).2 (by simpa using heq)⟩
        case measure =>
          have e1 := iterPos_of (w := (wr.iterAt w.heap.size a (p + (Utf8.decode a p).2)).drewN nd) (iterAt_heap wr _ a p _ hit)
          have e2 := iterPos_of hit
          rw [e1, e2]
          omega
    · have hnx := fun ty => run_next_end_at (P := Try.prog) wr w.heap.size a p ty hit hp
      go_wp2_with (go_at_call 29; refine (comparePiece a b f a.size _ ha' hb' hfa (by omega)).mono ?_; rintro e w' ⟨rfl, nd, rfl⟩)
      · have hne : (piece a b f a.size != 0) = true := by assumption
        go_ret
        exact ⟨ret_i ((piece_take a b f a.size hfa (by omega) HR.out).1 (by simpa using hne)).symm, grow_same HWR.out _⟩
      · have heq : (piece a b f a.size != 0) = false := by assumption
        go_ret
        exact ⟨ret_i (by rw [piece_last a b f hfa HR.out (by simpa using heq), if_pos (by assumption)]), grow_same HWR.out _⟩
      · have heq : (piece a b f a.size != 0) = false := by assumption
        go_ret
        exact ⟨ret_i (by rw [piece_last a b f hfa HR.out (by simpa using heq), if_neg (by assumption)]), grow_same HWR.out _⟩
end Go.Proofs.Ytpdhkojiehifeaa
