import Derived.Test.YtjefbcphefckiacOd
/-! A step of two readers that stand for the same one: Text. -/
namespace Go.Proofs.Ytjefbcphefckiac
open Go.RowKit Plain
set_option linter.unusedVariables false

theorem ret_bool {t : Bool} (h : t = true) : Ending.returned (.bool t) = .returned (.bool true) := by rw [h]

theorem wrapEq (x : Int) : IntKind.i64.wrap x = wrap64 x := by
  rw [IntKind.wrap_i64]
  unfold wrap64
  omega

set_option maxHeartbeats 1000000 in
theorem rdText (w : World) (b : Nat) (r : Option Nat) (c g : Nat) (s : Rs) (n : Nat) (st : ByteArray) (h : Pair w b r c g s) :
    Calls Try.prog 16 #[.pointer (some ⟨b, 0, none⟩), .pointer (some ⟨c, 0, none⟩), .agg #[.int .i64 5, .int .u64 n, .string st]] w (Goes w b r c g) := by
  have HB : Hid (Below w.heap.size w (w.alloc (.cells #[.int .i64 5, .int .u64 n, .string st] 50))) := (Below.refl _ _).alloc (Nat.le_refl _) _
  have HP : Hid (Pair (w.alloc (.cells #[.int .i64 5, .int .u64 n, .string st] 50)).drew b r c g s) := (h.later HB.out).later ((Below.refl _ _).drew)
  have hbw := h.p.lt
  clear h
  have hmr := wrap64_range n
  go_enter Try.func16, Try.ntmps16
  go_wp2
  go_region_with (first
    | (go_at_call 38
       try rw [wrapEq]
       refine (paText _ b s r (wrap64 n) hmr.1 hmr.2 HP.out.p).mono ?_
       rintro x w1 ⟨rfl, hp1, hg1⟩
       have hbox : w1.cell? ⟨w.heap.size, 1, none⟩ = some (.int .u64 n) := by
         rw [World.cell?_of_block (a := ⟨w.heap.size, 1, none⟩) (hg1.block w.heap.size (by simp) (by simp; omega))]
         simp
       have H1 : Hid (PA w1 b (s.textOn (wrap64 n)) r) := hp1
       have HQ : Hid (QA w1 c s (some g)) := HP.out.left hg1
       have HS1 := hg1.size
       have HF1 : Hid (Fr w w1 b c) := (Fr.of_below HB.out.drew b c).trans (.of_left hg1 c)
       clear hp1 hg1)
    | (go_at_call 30
       try rw [wrapEq]
       refine (qaText _ c g s (wrap64 n) hmr.1 hmr.2 HQ.out).mono ?_
       rintro x w2 ⟨rfl, hq2, hg2⟩
       have H2 : Hid (Pair w2 b r c g (s.textOn (wrap64 n))) := HP.out.right H1.out hq2 hg2 HS1
       have HF2 : Hid (Fr w w2 b c) := HF1.out.trans (.of_right hg2 b)
       clear hq2 hg2))
  all_goals
    go_wp2
    go_ret
    refine ⟨ret_bool ?_, _, H2.out, HF2.out⟩
    simp

/-- Whatever the step. -/
theorem rdLive (w : World) (b : Nat) (r : Option Nat) (c g : Nat) (s : Rs) (k : Int) (n : Nat) (st : ByteArray) (h : Pair w b r c g s) :
    Calls Try.prog 16 #[.pointer (some ⟨b, 0, none⟩), .pointer (some ⟨c, 0, none⟩), .agg #[.int .i64 k, .int .u64 n, .string st]] w (Goes w b r c g) := by
  by_cases k0 : k = 0
  · subst k0; exact rdByte w b r c g s n st h
  by_cases k1 : k = 1
  · subst k1; exact rdUv w b r c g s n st h
  by_cases k2 : k = 2
  · subst k2; exact rdVar w b r c g s n st h
  by_cases k3 : k = 3
  · subst k3; exact rdU32 w b r c g s n st h
  by_cases k4 : k = 4
  · subst k4; exact rdU64 w b r c g s n st h
  by_cases k5 : k = 5
  · subst k5; exact rdText w b r c g s n st h
  by_cases k10 : k = 10
  · subst k10; exact rdRaw w b r c g s n st h
  by_cases k11 : k = 11
  · subst k11; exact rdLook w b r c g s n st h
  by_cases k12 : k = 12
  · subst k12; exact rdFail w b r c g s n st h
  exact rdOther w b r c g s k (by omega) k10 k11 k12 n st h
end Go.Proofs.Ytjefbcphefckiac
