import Derived.Test.YtbngedfpojnbjabUv
import Derived.Test.YtbngedfpojnbjabZz
namespace Go.Proofs.Ytbngedfpojnbjab
open Go.RowKit Plain
set_option linter.unusedVariables false

theorem refZigzag (s : Int) (w : World) (h1 : -9223372036854775808 ≤ s) (h2 : s ≤ 9223372036854775807) :
    Calls Try.prog 17 #[.int .i64 s] w fun e w' => e = .returned (.int .u64 (zz s)) ∧ w' = w := by
  by_cases h : 0 ≤ s
  · have HV : Hid (zz s = 2 * s) := by unfold Hid zz; rw [if_pos h]
    go_enter Try.func17, Try.ntmps17
    go_wp2
    go_ret
    exact ⟨ret_k (by rw [HV.out]), rfl⟩
  · have HV : Hid (zz s = -2 * s - 1) := by unfold Hid zz; rw [if_neg h]
    go_enter Try.func17, Try.ntmps17
    go_wp2
    go_ret
    exact ⟨ret_k (by rw [HV.out]; omega), rfl⟩

theorem refUnzigzag (u : Int) (w : World) (h1 : 0 ≤ u) (h2 : u ≤ 18446744073709551615) :
    Calls Try.prog 18 #[.int .u64 u] w fun e w' => e = .returned (.int .i64 (unzz u)) ∧ w' = w := by
  by_cases h : u % 2 = 0
  · have HV : Hid (unzz u = u / 2) := by unfold Hid unzz; rw [if_pos h]
    go_enter Try.func18, Try.ntmps18
    go_wp2
    go_ret
    exact ⟨ret_k (by rw [HV.out]), rfl⟩
  · have HV : Hid (unzz u = -(u / 2) - 1) := by unfold Hid unzz; rw [if_neg h]
    have h' : (u % 2 == 0) = false := by simpa using h
    clear h
    go_enter Try.func18, Try.ntmps18
    go_wp2
    go_ret
    exact ⟨ret_k (by rw [HV.out]), rfl⟩

set_option maxRecDepth 1000000 in
theorem refUvarint (v : Nat) (w : World) (hv : v < 18446744073709551616) :
    Calls Try.prog 16 #[.int .u64 v] w fun e w' => ∃ v' g, e = .returned v' ∧ Own w' v' (uv v) (some g) ∧ w.heap.size ≤ g ∧ Below w.heap.size w w' := by
  have h10 := uv_len10 (show v < 2 ^ 64 from hv)
  go_enter Try.func16, Try.ntmps16
  go_wp2
  go_loopw [0, 3] (fun t b wr => ∃ (d : List Nat) (u : Nat) (q : Option Nat), t = .int .u64 u ∧ u < 18446744073709551616 ∧ uv v = d ++ uv u ∧ Own wr b d q ∧ Below w.heap.size w wr ∧ (∀ g, q = some g → w.heap.size ≤ g)) (fun t _ _ => (intOf t).toNat)
  case atStart => exact ⟨[], v, none, rfl, hv, rfl, Own.nil w, Below.refl _ _, by simp⟩
  case round =>
    obtain ⟨d, u, q, rfl, hu, hd, ho, hb, hq⟩ := hrel
    have HD : Hid (uv v = d ++ uv u) := hd
    have hd10 := uv_split_len hd h10
    have hlen : d.length + 1 ≤ 140737488355328 := by omega
    have HQ : Hid (∀ g, q = some g → w.heap.size ≤ g) := hq
    clear hd hq
    by_cases h128 : u < 128
    · have HE : Hid (uv v = d ++ [u]) := by unfold Hid; rw [HD.out, uv_lt h128]
      clear HD
      go_wp2_with (at_builtin; refine wpList_append_row _ rfl _ _ 23 23 rfl Try.underlying23 _ _ d [u] q rfl rfl ?hOwn ?hByte ?hSrc ?hLen ?_)
      case hOwn => exact ho.later ((Below.refl _ _).alloc (Nat.le_refl _) _)
      case hByte => simp; omega
      case hSrc => exact src_one wr u 23 5 Try.underlying23
      case hLen => exact hlen
      intro v' w1 r' ho' hg' hr' hn'
      have HO : Hid (Own w1 v' (d ++ [u]) r') := ho'
      have HN : Hid (r' ≠ none) := hn'
      have HB : Hid (Below w.heap.size w w1) := (hb.alloc hb.size _).trans (grow_below hg' (by have := hb.size; simp; omega) HQ.out)
      have HR : Hid (∀ g, r' = some g → w.heap.size ≤ g) := fun g hg => by
        rcases hr' with rfl | rfl
        · exact HQ.out g hg
        · have := hb.size
          simp at hg; omega
      clear ho' hn' hg' hr'
      go_wp2
      go_ret
      cases r' with
      | none => exact absurd rfl HN.out
      | some g => exact ⟨v', g, rfl, by rw [HE.out]; exact HO.out, HR.out g rfl, HB.out⟩
    · obtain ⟨c, hc⟩ : ∃ c, c = u % 128 + 128 := ⟨_, rfl⟩
      have hor : (u : Int) % 128 + 128 = (c : Int) := by omega
      have HE : Hid (uv v = (d ++ [c]) ++ uv (u / 128)) := by unfold Hid; rw [uv_split HD.out h128, ← hc]
      have hc256 : c < 256 := by omega
      clear HD hc
      go_wp2_with (at_builtin; refine wpList_append_row _ rfl _ _ 23 23 rfl Try.underlying23 _ _ d [c] q rfl rfl ?hOwn ?hByte ?hSrc ?hLen ?_)
      case hOwn => exact ho.later ((Below.refl _ _).alloc (Nat.le_refl _) _)
      case hByte => simp; omega
      case hSrc => exact src_one wr c 23 5 Try.underlying23
      case hLen => exact hlen
      intro v' w1 r' ho' hg' hr' hn'
      have HO : Hid (Own w1 v' (d ++ [c]) r') := ho'
      have HB : Hid (Below w.heap.size w w1) := (hb.alloc hb.size _).trans (grow_below hg' (by have := hb.size; simp; omega) HQ.out)
      have HR : Hid (∀ g, r' = some g → w.heap.size ≤ g) := fun g hg => by
        rcases hr' with rfl | rfl
        · exact HQ.out g hg
        · have := hb.size
          simp at hg; omega
      clear ho' hn' hg' hr'
      go_wp2
      go_roundw
      case rel => exact ⟨d ++ [c], u / 128, r', by go_num, by omega, HE.out, HO.out, HB.out, HR.out⟩
      case measure => simp [intOf]; omega
end Go.Proofs.Ytbngedfpojnbjab
