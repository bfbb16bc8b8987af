import Derived.Test.YtlicoejklbnlnabDoorMnP
import Derived.Test.YtlicoejklbnlnabDoorMnR
/-! Names of files: the law's walk. -/
namespace Go.Proofs.YtlicoejklbnlnabDoor
open Go.RowKit
set_option linter.unusedVariables false
set_option linter.unusedSimpArgs false

set_option maxHeartbeats 4000000 in
set_option maxRecDepth 100000 in
theorem namesWalk (n : FN) (hok : n.Ok) (s : ByteArray) (hs : s.size ≤ 281474976710656) (w : World) (h : Errs w) (ht : Tab w) :
    Calls Tryd.prog 3 #[n.val, .string s] w fun e w' => e = .returned (.bool true) ∧ Below w.heap.size w w' := by
  obtain ⟨k, i, g, t⟩ := n
  obtain ⟨W1, hW1⟩ : ∃ W1, w.alloc (.cells #[.int .i64 k, .int .i64 i, .int .i64 g, .bool t] 23) = W1 := ⟨_, rfl⟩
  have HB1 : Hid (Below w.heap.size w W1) := by
    unfold Hid
    rw [← hW1]
    exact (Below.refl _ _).alloc (Nat.le_refl _) _
  have HZ : Hid (Own4 W1 w.heap.size (.int .i64 k) (.int .i64 i) (.int .i64 g) (.bool t)) := by
    unfold Hid
    rw [← hW1]; exact Own4.new _ _ _ _ _
  have HN5 : Hid (∀ v, Below W1.heap.size W1 v → Calls Tryd.prog 5 #[.agg #[.int .i64 k, .int .i64 i, .int .i64 g, .bool t]] v fun e w' => e = .returned (.string ⟨(nameL ⟨k, i, g, t⟩).toArray⟩) ∧ Below v.heap.size v w') := fun v hv => nameOf ⟨k, i, g, t⟩ hok v (ht.later (below_on HB1.out hv))
  have HN6 : Hid (∀ v, Below W1.heap.size W1 v → Calls Tryd.prog 6 #[.agg #[.int .i64 k, .int .i64 i, .int .i64 g, .bool t]] v fun e w' => e = .returned (.string ⟨(nameL ⟨k, i, g, t⟩).toArray⟩) ∧ Below v.heap.size v w') := fun v hv => rnameOf ⟨k, i, g, t⟩ hok v
  have HN7 : Hid (∀ v, Below W1.heap.size W1 v → Calls Tryd.prog 7 #[.string s] v fun e w' => e = .returned (parseL s.data.toList).val ∧ Below v.heap.size v w') := fun v hv => parseOf s hs v (h.later (below_on HB1.out hv)) (ht.later (below_on HB1.out hv))
  have HN8 : Hid (∀ v, Below W1.heap.size W1 v → Calls Tryd.prog 8 #[.string s] v fun e w' => e = .returned (parseL s.data.toList).val ∧ Below v.heap.size v w') := fun v hv => rparseOf s hs v
  generalize nameL ⟨k, i, g, t⟩ = L at *
  generalize parseL s.data.toList = m at *
  obtain ⟨mk, mi, mg, mt⟩ := m
  obtain ⟨z0, z1, z2, z3, _⟩ := HZ.out
  clear h ht hok hs
  go_enter Tryd.func3, Tryd.ntmps3
  go_wp2
  clear hW1
  go_region_with (first
    | (go_at_call 5
       refine (HN5.out _ (by first | exact HB.out | exact (Below.refl _ W1).drew)).mono ?_
       rintro e w1 ⟨rfl, hb⟩
       have HB : Hid (Below W1.heap.size W1 w1) := by
         unfold Hid
         first
           | exact below_on HB.out hb
           | exact below_on ((Below.refl _ W1).drew) hb
       obtain ⟨y0, y1, y2, y3, _⟩ := HZ.out.later HB.out
       clear hb)
    | (go_at_call 6
       refine (HN6.out _ (by first | exact HB.out | exact (Below.refl _ W1).drew)).mono ?_
       rintro e w1 ⟨rfl, hb⟩
       have HB : Hid (Below W1.heap.size W1 w1) := by
         unfold Hid
         first
           | exact below_on HB.out hb
           | exact below_on ((Below.refl _ W1).drew) hb
       obtain ⟨y0, y1, y2, y3, _⟩ := HZ.out.later HB.out
       clear hb)
    | (go_at_call 7
       refine (HN7.out _ (by first | exact HB.out | exact (Below.refl _ W1).drew)).mono ?_
       rintro e w1 ⟨rfl, hb⟩
       have HB : Hid (Below W1.heap.size W1 w1) := by
         unfold Hid
         first
           | exact below_on HB.out hb
           | exact below_on ((Below.refl _ W1).drew) hb
       clear hb)
    | (go_at_call 8
       refine (HN8.out _ (by first | exact HB.out | exact (Below.refl _ W1).drew)).mono ?_
       rintro e w1 ⟨rfl, hb⟩
       have HB : Hid (Below W1.heap.size W1 w1) := by
         unfold Hid
         first
           | exact below_on HB.out hb
           | exact below_on ((Below.refl _ W1).drew) hb
       clear hb))
  all_goals
    go_wp2
    go_ret
    exact ⟨rfl, below_on HB1.out HB.out⟩
end Go.Proofs.YtlicoejklbnlnabDoor
