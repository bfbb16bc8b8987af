import Derived.Test.YtbeaefokpggmpabQvc
/-! quota: a stable sort: two pieces side by side turned; insertion. -/
namespace Go.Proofs.Ytbeaefokpggmpab
open Go.RowKit Plain
set_option linter.unusedVariables false

theorem w64 {x : Int} (h : -9223372036854775808 ≤ x ∧ x ≤ 9223372036854775807) : wrap64 x = x := by unfold wrap64; omega
theorem rot_c {m j i : Nat} (hi : i ≤ m) : ((m + j - i : Nat) : Int) = (m : Int) + (j : Int) - (i : Int) := by omega
set_option maxHeartbeats 4000000 in
theorem sRotOf {W0 W : World} {g n cap a m b : Nat} {f : Nat → Nat} (fv : Value) (h : SRow W0 W g n f) (hn : n ≤ 64) (h1 : a < m) (h2 : m < b) (h3 : b ≤ n) :
    Calls Try.prog 57 #[.slice (some ⟨g, 0, none⟩) n cap, .int .i64 a, .int .i64 m, .int .i64 b, fv] W fun e w' => e = .returned (.tuple #[]) ∧ SRow W0 w' g n (rotF f a m b) := by
  have HR : Hid (SRow W0 W g n f) := h
  clear h
  go_enter Try.func57, Try.ntmps57
  go_wp2
  go_loopw [10, 11] (fun s t wr => ∃ (i j : Nat) (h : Nat → Nat), s = .int .i64 i ∧ t = .int .i64 j ∧ 0 < i ∧ 0 < j ∧ i ≤ m ∧ m + j ≤ n ∧ Hid (SRow W0 wr g n h) ∧ Hid (rotF h (m - i) m (m + j) = rotF f a m b)) (fun i j _ => (intOf i).toNat + (intOf j).toNat)
  case atStart => exact ⟨m - a, b - m, f, (show Value.int .i64 ((m : Int) - (a : Int)) = Value.int .i64 ((m - a : Nat) : Int) from congrArg _ (by omega)), (show Value.int .i64 ((b : Int) - (m : Int)) = Value.int .i64 ((b - m : Nat) : Int) from congrArg _ (by omega)), by omega, by omega, by omega, by omega, HR, by unfold Hid; rw [show m - (m - a) = a by omega, show m + (b - m) = b by omega]⟩
  case round =>
    obtain ⟨i, j, h, rfl, rfl, hi0, hj0, hi, hj, HRi, HE⟩ := hrel
    have hmi : ((m - i : Nat) : Int) = (m : Int) - (i : Int) := by omega
    have HMI : Hid (((m - i : Nat) : Int) = (m : Int) - (i : Int)) := hmi
    clear hmi
    by_cases hne : i = j
    · subst hne
      have HS : Hid (∀ u, SRow W0 u g n h → Calls Try.prog 63 #[.slice (some ⟨g, 0, none⟩) n cap, .int .i64 ((m : Int) - (i : Int)), .int .i64 m, .int .i64 i, fv] u fun e w' => e = .returned (.tuple #[]) ∧ SRow W0 w' g n (rotF f a m b)) := fun u hu => by
        have := sSwapOf (cap := cap) (a := m - i) (b := m) (k := i) fv hu hn (by omega) (by omega)
        rw [rot_same hi, HE.out, HMI.out] at this
        exact this
      go_wp2_with fail
      refine (HS.out _ HRi.out).mono ?_
      rintro e w1 ⟨rfl, hw1⟩
      have HW : Hid (SRow W0 w1 g n (rotF f a m b)) := hw1
      clear hw1
      go_wp2
      exact ⟨rfl, _, results_none rfl _ _ _, rfl, HW.out⟩
    · have hnb : ((i : Int) == (j : Int)) = false := by simpa using (by omega : ¬ (i : Int) = (j : Int))
      by_cases hlt : j < i
      · have hli : (j : Int) < (i : Int) := by omega
        have HS : Hid (∀ u, SRow W0 u g n h → Calls Try.prog 63 #[.slice (some ⟨g, 0, none⟩) n cap, .int .i64 ((m : Int) - (i : Int)), .int .i64 m, .int .i64 j, fv] u fun e w' => e = .returned (.tuple #[]) ∧ SRow W0 w' g n (swR h (m - i) m j)) := fun u hu => by
          have := sSwapOf (cap := cap) (a := m - i) (b := m) (k := j) fv hu hn (by omega) (by omega)
          rw [HMI.out] at this
          exact this
        have HE2 : Hid (rotF (swR h (m - i) m j) (m - (i - j)) m (m + j) = rotF f a m b) := by unfold Hid; rw [rot_left hlt hi, HE.out]
        go_wp2_with fail
        refine (HS.out _ HRi.out).mono ?_
        rintro e w1 ⟨rfl, hw1⟩
        have HW : Hid (SRow W0 w1 g n (swR h (m - i) m j)) := hw1
        clear hw1
        go_wp2
        go_roundw
        case rel => exact ⟨i - j, j, swR h (m - i) m j, (show Value.int .i64 ((i : Int) - (j : Int)) = Value.int .i64 ((i - j : Nat) : Int) from congrArg _ (by omega)), rfl, by omega, by omega, by omega, by omega, HW, HE2⟩
        case measure => simp [intOf]; omega
      · have hli : ¬ (j : Int) < (i : Int) := by omega
        have HS : Hid (∀ u, SRow W0 u g n h → Calls Try.prog 63 #[.slice (some ⟨g, 0, none⟩) n cap, .int .i64 ((m : Int) - (i : Int)), .int .i64 ((m : Int) + (j : Int) - (i : Int)), .int .i64 i, fv] u fun e w' => e = .returned (.tuple #[]) ∧ SRow W0 w' g n (swR h (m - i) (m + j - i) i)) := fun u hu => by
          have := sSwapOf (cap := cap) (a := m - i) (b := m + j - i) (k := i) fv hu hn (by omega) (by omega)
          rw [HMI.out, rot_c hi] at this
          exact this
        have HE2 : Hid (rotF (swR h (m - i) (m + j - i) i) (m - i) m (m + (j - i)) = rotF f a m b) := by unfold Hid; rw [rot_right (by omega) hi, HE.out]
        go_wp2_with fail
        refine (HS.out _ HRi.out).mono ?_
        rintro e w1 ⟨rfl, hw1⟩
        have HW : Hid (SRow W0 w1 g n (swR h (m - i) (m + j - i) i)) := hw1
        clear hw1
        go_wp2
        go_roundw
        case rel => exact ⟨i, j - i, swR h (m - i) (m + j - i) i, rfl, (show Value.int .i64 ((j : Int) - (i : Int)) = Value.int .i64 ((j - i : Nat) : Int) from congrArg _ (by omega)), by omega, by omega, by omega, by omega, HW, HE2⟩
        case measure => simp [intOf]; omega
end Go.Proofs.Ytbeaefokpggmpab
