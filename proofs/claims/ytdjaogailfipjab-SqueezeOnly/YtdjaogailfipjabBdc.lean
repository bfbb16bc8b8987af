import Derived.Test.YtdjaogailfipjabBlk
namespace Go.Proofs.Ytdjaogailfipjab
open Go.RowKit Plain
set_option linter.unusedVariables false
set_option linter.unusedSimpArgs false

set_option maxHeartbeats 400000 in
set_option maxRecDepth 1000000 in
theorem lnumber (v : Nat) (w : World) (hv : v ≤ 9223372036854775807) : Calls Try.prog 22 #[.int .i64 v] w fun e w' => e = .returned (.int .i64 (uv v).length) ∧ w' = w := by
  have h10 : (uv v).length ≤ 10 := uv_len10 (by omega)
  go_enter Try.func22, Try.ntmps22
  go_wp2
  go_loop [0, 3] (fun s0 s3 => ∃ u k : Nat, s0 = .int .i64 u ∧ s3 = .int .i64 k ∧ u ≤ 9223372036854775807 ∧ k ≤ 10 ∧ Hid (k + (uv u).length = (uv v).length + 1)) (fun s0 _ => (intOf s0).toNat)
  case atStart => exact ⟨v, 1, rfl, rfl, hv, by omega, by unfold Hid; omega⟩
  case round =>
    obtain ⟨u, k, rfl, rfl, hu, hk, HK⟩ := hrel
    by_cases h : u < 128
    · have HE : Hid (k = (uv v).length) := by
        have := HK.out
        rw [uv_lt h] at this
        simp at this
        exact this
      clear HK
      go_wp2
      go_ret
      exact ⟨ret1 (by rw [HE.out]), rfl⟩
    · have HE : Hid (k + 1 + (uv (u / 128)).length = (uv v).length + 1) := by
        have := HK.out
        rw [uv_ge h] at this
        simp at this
        unfold Hid
        omega
      have hk1 : k + 1 ≤ 10 := by
        have := HE.out
        have := uv_pos (u / 128)
        omega
      clear HK
      go_wp2
      go_round
      case rel => exact ⟨u / 128, k + 1, by go_num, by go_num, by omega, hk1, HE.out⟩
      case measure => simp [intOf]; omega

theorem calls_cast1 {f : Nat} {a b : Int} {w : World} {Q : Ending → World → Prop} (e : a = b) (h : Calls Try.prog f #[.int .u64 a] w Q) : Calls Try.prog f #[.int .u64 b] w Q := by rw [← e]; exact h

set_option maxHeartbeats 400000 in
set_option maxRecDepth 1000000 in
theorem boundOut (n : Int) (w : World) (h : n < 0 ∨ 4096 < n) : Calls Try.prog 23 #[.int .i64 n] w fun e w' => e = .returned (.int .i64 0) ∧ w' = w := by
  rcases h with h | h
  · go_enter Try.func23, Try.ntmps23
    go_wp2
    go_ret
    exact ⟨rfl, rfl⟩
  · have h0 : ¬ n < 0 := by omega
    go_enter Try.func23, Try.ntmps23
    go_wp2
    go_ret
    exact ⟨rfl, rfl⟩

set_option maxHeartbeats 400000 in
set_option maxRecDepth 1000000 in
theorem boundZero (w : World) : Calls Try.prog 23 #[.int .i64 0] w fun e w' => e = .returned (.int .i64 1) ∧ w' = w := by
  go_enter Try.func23, Try.ntmps23
  go_wp2
  go_ret
  exact ⟨rfl, rfl⟩

set_option maxHeartbeats 400000 in
set_option maxRecDepth 1000000 in
theorem boundIn (n : Nat) (w : World) (h0 : 1 ≤ n) (h : n ≤ 4096) : Calls Try.prog 23 #[.int .i64 n] w fun e w' => e = .returned (.int .i64 ((uv n).length + (uv (2 * n)).length + n : Nat)) ∧ Below w.heap.size w w' := by
  have h1 : (uv n).length ≤ 10 := uv_len10 (by omega)
  have h2 : (uv (2 * n)).length ≤ 10 := uv_len10 (by omega)
  go_enter Try.func23, Try.ntmps23
  go_wp2_with fail
  refine (uvarint n w (by omega)).mono ?_
  rintro e w1 ⟨v1, g1, rfl, ho1, hg1, hb1⟩
  obtain ⟨c1, rfl, _, _⟩ := ho1.shape
  have HB1 : Hid (Below w.heap.size w w1) := hb1
  clear ho1 hb1
  go_wp2_with fail
  refine (calls_cast1 (by simp) (uvarint (2 * n) w1 (by omega))).mono ?_
  rintro e w2 ⟨v2, g2, rfl, ho2, hg2, hb2⟩
  obtain ⟨c2, rfl, _, _⟩ := ho2.shape
  have HB2 : Hid (Below w.heap.size w w2) := HB1.out.trans (hb2.mono HB1.out.size)
  clear ho2 hb2
  go_wp2
  go_ret
  exact ⟨ret1 (by simp), HB2.out⟩

end Go.Proofs.Ytdjaogailfipjab
