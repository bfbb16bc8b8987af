import Derived.Test.YtjefbcphefckiacOc
/-! A step of two readers that stand for the same one: the other kinds. -/
namespace Go.Proofs.Ytjefbcphefckiac
open Go.RowKit Plain
set_option linter.unusedVariables false

theorem rdFail (w : World) (b : Nat) (r : Option Nat) (c g : Nat) (s : Rs) (n : Nat) (st : ByteArray) (h : Pair w b r c g s) :
    Calls Try.prog 16 #[.pointer (some ⟨b, 0, none⟩), .pointer (some ⟨c, 0, none⟩), .agg #[.int .i64 12, .int .u64 n, .string st]] w (Goes w b r c g) := by
  have HB : Hid (Below w.heap.size w (w.alloc (.cells #[.int .i64 12, .int .u64 n, .string st] 50))) := (Below.refl _ _).alloc (Nat.le_refl _) _
  have HP : Hid (Pair (w.alloc (.cells #[.int .i64 12, .int .u64 n, .string st] 50)) b r c g s) := h.later HB.out
  have h0 := h
  clear h
  go_enter Try.func16, Try.ntmps16
  go_wp2_with fail
  refine (paFail _ b s r (wrap64 n) HP.out.p).mono ?_
  rintro x w1 ⟨rfl, hp1, hg1⟩
  have H1 : Hid (PA w1 b (s.fail (wrap64 n)) r) := hp1
  have HQ : Hid (QA w1 c s (some g)) := HP.out.left hg1
  have HS1 := hg1.size
  have HF1 : Hid (Fr w w1 b c) := (Fr.of_below HB.out b c).trans (.of_left hg1 c)
  have hbox : w1.cell? ⟨w.heap.size, 1, none⟩ = some (.int .u64 n) := by
    rw [World.cell?_of_block (a := ⟨w.heap.size, 1, none⟩) (hg1.block w.heap.size (by simp) (by have := h0.p.lt; simp; omega))]
    simp
  clear hp1 hg1
  go_wp2_with fail
  refine (qaFail _ c s (some g) (wrap64 n) HQ.out).mono ?_
  rintro x w2 ⟨rfl, hq2, hg2⟩
  have H2 : Hid (Pair w2 b r c g (s.fail (wrap64 n))) := HP.out.right H1.out hq2 hg2 HS1
  have HF2 : Hid (Fr w w2 b c) := HF1.out.trans (.of_right hg2 b)
  clear hq2 hg2
  go_wp2
  go_ret
  exact ⟨rfl, _, H2.out, HF2.out⟩

set_option maxHeartbeats 400000 in
theorem rdLook (w : World) (b : Nat) (r : Option Nat) (c g : Nat) (s : Rs) (n : Nat) (st : ByteArray) (h : Pair w b r c g s) :
    Calls Try.prog 16 #[.pointer (some ⟨b, 0, none⟩), .pointer (some ⟨c, 0, none⟩), .agg #[.int .i64 11, .int .u64 n, .string st]] w (Goes w b r c g) := by
  have HB : Hid (Below w.heap.size w (w.alloc (.cells #[.int .i64 11, .int .u64 n, .string st] 50))) := (Below.refl _ _).alloc (Nat.le_refl _) _
  have HP : Hid (Pair (w.alloc (.cells #[.int .i64 11, .int .u64 n, .string st] 50)) b r c g s) := h.later HB.out
  clear h
  go_enter Try.func16, Try.ntmps16
  go_wp2_with fail
  refine (paRest _ b s r HP.out.p).mono ?_
  rintro x w1 ⟨rfl, n1, rfl⟩
  go_wp2_with fail
  refine (qaRest _ c s (some g) (HP.out.q.later (below_drewN (Below.refl _ _) n1))).mono ?_
  rintro x w1 ⟨rfl, n2, rfl⟩
  have hq : ((s.rest : Int) == (s.rest : Int)) = true := by simp
  go_wp2_with fail
  refine (paEnd _ b s r (HP.out.p.later (below_drewN (Below.refl _ _) _))).mono ?_
  rintro x w3 ⟨rfl, hb3⟩
  have HB3 : Hid (Below w.heap.size w w3) := HB.out.trans ((below_drewN (Below.refl _ _) _).trans (hb3.mono (by simp)))
  have HQ3 : Hid (Pair w3 b r c g s) := (HP.out.later (below_drewN (Below.refl _ _) _)).later hb3
  clear hb3
  go_wp2_with fail
  refine (qaEnd _ c s (some g) HQ3.out.q).mono ?_
  rintro x w4 ⟨rfl, hb4⟩
  have HB4 : Hid (Below w.heap.size w w4) := below_on HB3.out hb4
  have HQ4 : Hid (Pair w4 b r c g s) := HQ3.out.later hb4
  clear hb4
  go_wp2
  go_ret
  exact ⟨by simp, _, HQ4.out, .of_below HB4.out b c⟩

theorem rdOther (w : World) (b : Nat) (r : Option Nat) (c g : Nat) (s : Rs) (k : Int) (hk : k < 0 ∨ 5 < k) (h10 : k ≠ 10) (h11 : k ≠ 11) (h12 : k ≠ 12) (n : Nat) (st : ByteArray) (h : Pair w b r c g s) :
    Calls Try.prog 16 #[.pointer (some ⟨b, 0, none⟩), .pointer (some ⟨c, 0, none⟩), .agg #[.int .i64 k, .int .u64 n, .string st]] w (Goes w b r c g) := by
  have HB : Hid (Below w.heap.size w (w.alloc (.cells #[.int .i64 k, .int .u64 n, .string st] 50))) := (Below.refl _ _).alloc (Nat.le_refl _) _
  have HP : Hid (Pair (w.alloc (.cells #[.int .i64 k, .int .u64 n, .string st] 50)) b r c g s) := h.later HB.out
  clear h
  have e0 : (k == 0) = false := by simp; omega
  have e1 : (k == 1) = false := by simp; omega
  have e2 : (k == 2) = false := by simp; omega
  have e3 : (k == 3) = false := by simp; omega
  have e4 : (k == 4) = false := by simp; omega
  have e5 : (k == 5) = false := by simp; omega
  have e10 : (k == 10) = false := by simp; omega
  have e11 : (k == 11) = false := by simp; omega
  have e12 : (k == 12) = false := by simp; omega
  go_enter Try.func16, Try.ntmps16
  go_wp2
  go_ret
  exact ⟨rfl, s, HP.out, .of_below HB.out b c⟩

set_option maxHeartbeats 400000 in
theorem rdRaw (w : World) (b : Nat) (r : Option Nat) (c g : Nat) (s : Rs) (n : Nat) (st : ByteArray) (h : Pair w b r c g s) :
    Calls Try.prog 16 #[.pointer (some ⟨b, 0, none⟩), .pointer (some ⟨c, 0, none⟩), .agg #[.int .i64 10, .int .u64 n, .string st]] w (Goes w b r c g) := by
  have HB : Hid (Below w.heap.size w (w.alloc (.cells #[.int .i64 10, .int .u64 n, .string st] 50))) := (Below.refl _ _).alloc (Nat.le_refl _) _
  have HP : Hid (Pair (w.alloc (.cells #[.int .i64 10, .int .u64 n, .string st] 50)) b r c g s) := h.later HB.out
  have h0 := h
  have HLEN : Hid (∀ m, (s.rawOut m).length ≤ 140737488351232) := fun m => by
    unfold Rs.rawOut
    split
    · simp
    · unfold Rs.out
      split
      · simp
      · rename_i he
        have := h.p.len (by simpa using he)
        split
        · simp; omega
        · simp
  obtain ⟨m, hm⟩ : ∃ m, m = wrap64 n := ⟨_, rfl⟩
  have hmr := wrap64_range n
  rw [← hm] at hmr
  clear h
  go_enter Try.func16, Try.ntmps16
  go_wp2_with fail
  rw [← hm]
  refine (paRaw _ b s r m hmr.1 hmr.2 HP.out.p).mono ?_
  rintro x w1 ⟨v1, r1, rfl, ho1, hp1, hg1, hr1⟩
  have H1 : Hid (PA w1 b (s.rawOn m) r) := hp1
  have HO1 : Hid (Own w1 v1 (s.rawOut m) r1) := ho1
  have HQ : Hid (QA w1 c s (some g)) := HP.out.left hg1
  have HS1 := hg1.size
  have HR1 : Hid (∀ q, r1 = some q → w.heap.size + 1 ≤ q) := by unfold Hid; simpa using hr1
  have HF1 : Hid (Fr w w1 b c) := (Fr.of_below HB.out b c).trans (.of_left hg1 c)
  have hbox : w1.cell? ⟨w.heap.size, 1, none⟩ = some (.int .u64 n) := by
    rw [World.cell?_of_block (a := ⟨w.heap.size, 1, none⟩) (hg1.block w.heap.size (by simp) (by have := h0.p.lt; simp; omega))]
    simp
  clear hp1 hg1 ho1 hr1
  go_wp2_with fail
  rw [← hm]
  refine (qaRaw _ c g s m HQ.out).mono ?_
  rintro x w2 ⟨v2, r2, rfl, ho2, hq2, hg2, hr2⟩
  have H2 : Hid (Pair w2 b r c g (s.rawOn m)) := HP.out.right H1.out hq2 hg2 HS1
  have HF2 : Hid (Fr w w2 b c) := HF1.out.trans (.of_right hg2 b)
  have HO12 : Hid (Own w2 v1 (s.rawOut m) r1) := HO1.out.kept hg2 (by
    rcases hr : r1 with _ | q
    · exact .inl rfl
    · right
      have := HR1.out q hr
      have := h0.q.lt
      simp; omega)
  have HO2 : Hid (Own w2 v2 (s.rawOut m) r2) := ho2
  clear hq2 hg2 ho2 hr2 hbox
  go_wp2_with fail
  refine (sameBytes _ _ _ _ _ HO12.out.bytes HO2.out.bytes).mono ?_
  rintro x w3 ⟨rfl, n3, rfl⟩
  go_wp2_with fail
  refine (marked v1 (s.rawOut m) r1 4 (s.rawOut m).length (w2.drewN n3) rfl (HO12.out.later (below_drewN (Below.refl _ _) n3)) (by decide) (HLEN.out m)).mono ?_
  rintro x w4 ⟨v4, r4, rfl, -, hg4, -, -⟩
  have hw2 := HF2.out.size
  have hbb : Below w.heap.size (w2.drewN n3) w4 := grow_below hg4 (by show w.heap.size ≤ w2.heap.size; exact hw2) (fun q hq => by have := HR1.out q hq; omega)
  have H4 : Hid (Pair w4 b r c g (s.rawOn m)) := (H2.out.later (below_drewN (Below.refl _ _) n3)).low hbb h0.p.lt h0.q.lt h0.q.glt h0.rl
  have HF4 : Hid (Fr w w4 b c) := ⟨hg4.os.trans HF2.out.os, hg4.tape.trans HF2.out.tape, hg4.output.trans HF2.out.output, Nat.le_trans HF2.out.size hg4.size, fun k hk h1 h2 => (hbb.block k hk).trans (HF2.out.block k hk h1 h2)⟩
  clear hg4 hbb
  go_wp2
  go_ret
  exact ⟨by simp, _, H4.out, HF4.out⟩
end Go.Proofs.Ytjefbcphefckiac
