import Derived.Test.YtgffncbmchimdaaOwn
/-! A disk that is nil. -/
namespace Go.Proofs.Ytgffncbmchimdaa
open Go.RowKit Plain
set_option linter.unusedVariables false

/-- What is answered, and that only new memory was touched. -/
abbrev Ans (w : World) (v : Value) : Ending → World → Prop := fun e w' => e = .returned v ∧ Below w.heap.size w w'

theorem readyNil (v : Value) (w : World) : Calls Try.prog 29 #[.pointer none, v] w fun e w' => e = .returned (.int .i64 1) ∧ w' = w := by
  go_enter Try.func29, Try.ntmps29
  go_wp2
  go_ret
  exact ⟨rfl, rfl⟩

theorem findNil (s : ByteArray) (w : World) : Calls Try.prog 31 #[.pointer none, .string s] w (Ans w (.tuple #[.pointer none, .int .i64 1])) := by
  go_enter Try.func31, Try.ntmps31
  go_wp2_with fail
  refine (readyNil _ _).mono ?_
  rintro e w1 ⟨rfl, rfl⟩
  go_wp2
  go_ret2
  exact ⟨rfl, (Below.refl _ _).alloc (Nat.le_refl _) _⟩

theorem createNil (s : ByteArray) (w : World) : Calls Try.prog 21 #[.pointer none, .string s] w (Ans w (.int .i64 1)) := by
  go_enter Try.func21, Try.ntmps21
  go_wp2_with fail
  refine (readyNil _ _).mono ?_
  rintro e w1 ⟨rfl, rfl⟩
  go_wp2
  go_ret
  exact ⟨rfl, (Below.refl _ _).alloc (Nat.le_refl _) _⟩

theorem appendNil (s : ByteArray) (v : Value) (w : World) : Calls Try.prog 22 #[.pointer none, .string s, v] w (Ans w (.int .i64 1)) := by
  go_enter Try.func22, Try.ntmps22
  go_wp2_with fail
  refine (findNil _ _).mono ?_
  rintro e w1 ⟨rfl, hb⟩
  go_wp2
  go_ret
  exact ⟨rfl, hb⟩

theorem truncNil (s : ByteArray) (n : Int) (w : World) : Calls Try.prog 26 #[.pointer none, .string s, .int .i64 n] w (Ans w (.int .i64 1)) := by
  go_enter Try.func26, Try.ntmps26
  go_wp2_with fail
  refine (findNil _ _).mono ?_
  rintro e w1 ⟨rfl, hb⟩
  go_wp2
  go_ret
  exact ⟨rfl, hb⟩

theorem syncNil (s : ByteArray) (w : World) : Calls Try.prog 8 #[.pointer none, .string s] w (Ans w (.int .i64 1)) := by
  go_enter Try.func8, Try.ntmps8
  go_wp2_with fail
  refine (findNil _ _).mono ?_
  rintro e w1 ⟨rfl, hb⟩
  go_wp2
  go_ret
  exact ⟨rfl, hb⟩

theorem syncDirNil (w : World) : Calls Try.prog 9 #[.pointer none] w (Ans w (.int .i64 1)) := by
  go_enter Try.func9, Try.ntmps9
  go_wp2_with fail
  refine (readyNil _ _).mono ?_
  rintro e w1 ⟨rfl, rfl⟩
  go_wp2
  go_ret
  exact ⟨rfl, Below.refl _ _⟩

theorem renameNil (s t : ByteArray) (w : World) : Calls Try.prog 27 #[.pointer none, .string s, .string t] w (Ans w (.int .i64 1)) := by
  go_enter Try.func27, Try.ntmps27
  go_wp2_with fail
  refine (readyNil _ _).mono ?_
  rintro e w1 ⟨rfl, rfl⟩
  go_wp2
  go_ret
  exact ⟨rfl, (Below.refl _ _).alloc (Nat.le_refl _) _⟩

theorem removeNil (s : ByteArray) (w : World) : Calls Try.prog 28 #[.pointer none, .string s] w (Ans w (.int .i64 1)) := by
  go_enter Try.func28, Try.ntmps28
  go_wp2_with fail
  refine (findNil _ _).mono ?_
  rintro e w1 ⟨rfl, hb⟩
  go_wp2
  go_ret
  exact ⟨rfl, hb⟩

theorem readNil (s : ByteArray) (a n : Int) (w : World) : Calls Try.prog 23 #[.pointer none, .string s, .int .i64 a, .int .i64 n] w (Ans w (.tuple #[.slice none 0 0, .int .i64 1])) := by
  go_enter Try.func23, Try.ntmps23
  go_wp2_with fail
  refine (findNil _ _).mono ?_
  rintro e w1 ⟨rfl, hb⟩
  go_wp2
  go_ret2
  exact ⟨rfl, hb⟩

theorem sizeNil (s : ByteArray) (w : World) : Calls Try.prog 48 #[.pointer none, .string s] w (Ans w (.tuple #[.int .i64 0, .int .i64 1])) := by
  go_enter Try.func48, Try.ntmps48
  go_wp2_with fail
  refine (findNil _ _).mono ?_
  rintro e w1 ⟨rfl, hb⟩
  go_wp2
  go_ret2
  exact ⟨rfl, hb⟩

theorem listNil (w : World) : Calls Try.prog 7 #[.pointer none] w (Ans w (.tuple #[.slice none 0 0, .int .i64 1])) := by
  go_enter Try.func7, Try.ntmps7
  go_wp2_with fail
  refine (readyNil _ _).mono ?_
  rintro e w1 ⟨rfl, rfl⟩
  go_wp2
  go_ret2
  exact ⟨rfl, Below.refl _ _⟩

theorem fuseNil (n : Int) (w : World) : Calls Try.prog 16 #[.pointer none, .int .i64 n] w (Ans w (.tuple #[])) := by
  go_enter Try.func16, Try.ntmps16
  go_wp2
  go_end0
  exact ⟨rfl, Below.refl _ _⟩

theorem imageNil (w : World) : Calls Try.prog 10 #[.pointer none] w (Ans w (.slice none 0 0)) := by
  go_enter Try.func10, Try.ntmps10
  go_wp2
  go_ret
  exact ⟨rfl, Below.refl _ _⟩

theorem crashNil (v : Value) (w : World) : Calls Try.prog 12 #[.pointer none, v] w (Ans w (.slice none 0 0)) := by
  go_enter Try.func12, Try.ntmps12
  go_wp2
  go_ret
  exact ⟨rfl, Below.refl _ _⟩

end Go.Proofs.Ytgffncbmchimdaa
