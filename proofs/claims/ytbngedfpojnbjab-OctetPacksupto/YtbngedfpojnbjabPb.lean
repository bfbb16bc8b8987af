import Derived.Test.YtbngedfpojnbjabPa
/-! An item is written. -/
namespace Go.Proofs.Ytbngedfpojnbjab
open Go.RowKit Plain
set_option linter.unusedVariables false

theorem itemAny (b : Nat) (data : List Nat) (r : Option Nat) (x : It) (w : World) (h : WAt w b data r) (hn : x.n < 18446744073709551616) (hl : data.length + x.s.size + 10 ≤ 140737488355328) :
    Calls Try.prog 29 #[.pointer (some ⟨b, 0, none⟩), .agg #[.int .i64 x.k, .int .u64 x.n, .string x.s]] w fun e w' => e = .returned (.tuple #[]) ∧ WPost w w' b (data ++ x.bytes) r := by
  obtain ⟨k, n, s⟩ := x
  simp only at hn hl
  have HB : Hid (Below w.heap.size w (w.alloc (.cells #[.int .i64 k, .int .u64 n, .string s] 37))) := (Below.refl _ _).alloc (Nat.le_refl _) _
  have HW : Hid (WAt (w.alloc (.cells #[.int .i64 k, .int .u64 n, .string s] 37)) b data r) := h.later HB.out
  have HK : Hid (Kept2 w (w.alloc (.cells #[.int .i64 k, .int .u64 n, .string s] 37)) b r) := Kept2.of_below HB.out
  clear h
  by_cases k0 : k = 0
  · subst k0
    have hc : ((n : Nat) : Int) % 256 = ((n % 256 : Nat) : Int) := by omega
    have HE : Hid (It.bytes ⟨0, n, s⟩ = [n % 256]) := by unfold Hid It.bytes; simp
    generalize hm : n % 256 = m at hc HE
    go_enter Try.func29, Try.ntmps29
    go_wp2_with fail
    refine (wByte b data r m _ HW.out (by omega) (by omega)).mono ?_
    rintro e w1 ⟨rfl, hp⟩
    have HP : Hid (WPost w w1 b (data ++ [m]) r) := WPost.on HK.out (.inl rfl) hp
    clear hp
    go_wp2
    go_end0
    exact ⟨rfl, by rw [HE.out]; exact HP.out⟩
  by_cases k12 : k = 1 ∨ k = 2
  · have HE : Hid (It.bytes ⟨k, n, s⟩ = uv n) := by unfold Hid It.bytes; simp [k0, k12]
    rcases k12 with rfl | rfl
    all_goals
      go_enter Try.func29, Try.ntmps29
      go_wp2_with fail
      refine (wUvarint b data r n _ HW.out hn (by omega)).mono ?_
      rintro e w1 ⟨rfl, hp⟩
      have HP : Hid (WPost w w1 b (data ++ uv n) r) := WPost.on HK.out (.inl rfl) hp
      clear hp
      go_wp2
      go_end0
      exact ⟨rfl, by rw [HE.out]; exact HP.out⟩
  by_cases k3 : k = 3
  · subst k3
    have hc : ((n : Nat) : Int) % 4294967296 = ((n % 4294967296 : Nat) : Int) := by omega
    have HE : Hid (It.bytes ⟨3, n, s⟩ = be 4 (n % 4294967296)) := by unfold Hid It.bytes; simp
    generalize hm : n % 4294967296 = m at hc HE
    go_enter Try.func29, Try.ntmps29
    go_wp2_with fail
    refine (wU32 b data r m _ HW.out (by omega) (by omega)).mono ?_
    rintro e w1 ⟨rfl, hp⟩
    have HP : Hid (WPost w w1 b (data ++ be 4 m) r) := WPost.on HK.out (.inl rfl) hp
    clear hp
    go_wp2
    go_end0
    exact ⟨rfl, by rw [HE.out]; exact HP.out⟩
  by_cases k4 : k = 4
  · subst k4
    have HE : Hid (It.bytes ⟨4, n, s⟩ = be 8 n) := by unfold Hid It.bytes; simp
    go_enter Try.func29, Try.ntmps29
    go_wp2_with fail
    refine (wU64 b data r n _ HW.out hn (by omega)).mono ?_
    rintro e w1 ⟨rfl, hp⟩
    have HP : Hid (WPost w w1 b (data ++ be 8 n) r) := WPost.on HK.out (.inl rfl) hp
    clear hp
    go_wp2
    go_end0
    exact ⟨rfl, by rw [HE.out]; exact HP.out⟩
  by_cases k5 : k = 5
  · subst k5
    have HE : Hid (It.bytes ⟨5, n, s⟩ = uv s.size ++ bytesOf s) := by unfold Hid It.bytes; simp
    go_enter Try.func29, Try.ntmps29
    go_wp2_with fail
    refine (wText b data r s _ HW.out (by omega)).mono ?_
    rintro e w1 ⟨rfl, hp⟩
    have HP : Hid (WPost w w1 b (data ++ (uv s.size ++ bytesOf s)) r) := WPost.on HK.out (.inl rfl) (by simpa using hp)
    clear hp
    go_wp2
    go_end0
    exact ⟨rfl, by rw [HE.out]; exact HP.out⟩
  have k1 : k ≠ 1 := fun h => k12 (.inl h)
  have k2 : k ≠ 2 := fun h => k12 (.inr h)
  have e0 : (k == 0) = false := by simpa using k0
  have e1 : (k == 1) = false := by simpa using k1
  have e2 : (k == 2) = false := by simpa using k2
  have e3 : (k == 3) = false := by simpa using k3
  have e4 : (k == 4) = false := by simpa using k4
  have e5 : (k == 5) = false := by simpa using k5
  have HE : Hid (It.bytes ⟨k, n, s⟩ = []) := by unfold Hid It.bytes; simp [k0, k1, k2, k3, k4, k5]
  clear k0 k1 k2 k3 k4 k5 k12
  go_enter Try.func29, Try.ntmps29
  go_wp2
  go_end0
  refine ⟨rfl, ?_⟩
  rw [HE.out, List.append_nil]
  exact ⟨r, HW.out, HK.out, .inl rfl⟩
end Go.Proofs.Ytbngedfpojnbjab
