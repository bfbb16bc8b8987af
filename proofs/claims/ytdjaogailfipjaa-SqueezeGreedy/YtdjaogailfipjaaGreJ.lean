import Derived.Test.YtdjaogailfipjaaGrwS
import Derived.Test.YtdjaogailfipjaaGrwL
namespace Go.Proofs.Ytdjaogailfipjaa
open Go.RowKit Plain
set_option linter.unusedVariables false

set_option maxHeartbeats 400000 in
set_option maxRecDepth 1000000 in
theorem greedyNil (a : Option Addr) (cap : Nat) (w : World) (hcm : cap ≤ maxLen) :
    Calls Try.prog 3 #[.slice a 0 cap] w fun e w' => e = .returned (.bool true) ∧ Below w.heap.size w w' := by
  have HC : Hid (Calls Try.prog 9 #[.slice a 0 cap] w fun e w' => e = .returned (.tuple #[.slice none 0 0, .int .i64 0]) ∧ Below w.heap.size w w') := tokensNil a cap w hcm
  go_enter Try.func3, Try.ntmps3
  go_wp2_with fail
  refine HC.out.mono ?_
  rintro e w' ⟨rfl, hb⟩
  have HB : Hid (Below w.heap.size w w') := hb
  clear hb
  go_wp2
  refine wp_loop_rounds 1 ?_
  rw [rounds_succ]
  go_wp2
  go_ret
  exact ⟨rfl, HB.out⟩

theorem greedyAny (v : Value) (l : List Nat) (w : World) (h : BytesAt w v l) :
    Calls Try.prog 3 #[v] w fun e w' => e = .returned (.bool true) ∧ Below w.heap.size w w' := by
  obtain ⟨a, cap, rfl, h1, h2, h3, h4⟩ := h
  by_cases hne : l = []
  · subst hne
    exact greedyNil a cap w h2
  · obtain ⟨b, off, rfl, h5⟩ := h4 hne
    have hB : BytesAt w (.slice (some ⟨b, off, none⟩) l.length cap) l := ⟨_, cap, rfl, h1, h2, h3, fun _ => ⟨b, off, rfl, h5⟩⟩
    by_cases hlong : 4096 < l.length
    · exact greedyL l b off cap w hB (List.length_pos_iff.mpr hne) hlong
    · exact greedyS l b off cap w hB (List.length_pos_iff.mpr hne) hlong
end Go.Proofs.Ytdjaogailfipjaa
