import Derived.Test.YtjefbcphefckiacRq
namespace Go.Proofs.Ytjefbcphefckiac
open Go.RowKit Plain
set_option linter.unusedVariables false

set_option maxHeartbeats 1000000 in
theorem qaRawOkB (w : World) (b g : Nat) (s : Rs) (n : Nat) (hn : n ≤ s.l.length - s.p) (h : RAt w b (.slice (some ⟨g, 0, none⟩) s.l.length s.p) s.l s.p 0 0 (some g)) :
    Calls Try.prog 40 #[.pointer (some ⟨b, 0, none⟩), .int .i64 n] w fun x w' => ∃ v r', x = .returned v ∧ Own w' v ((s.l.drop s.p).take n) (some r') ∧ w.heap.size ≤ r' ∧ RAt w' b (.slice (some ⟨g, 0, none⟩) s.l.length s.p) s.l (s.p + n) 0 0 (some g) ∧ w.grownBy w' (some b) := by
  have HR : Hid (RAt w b (.slice (some ⟨g, 0, none⟩) s.l.length s.p) s.l s.p 0 0 (some g)) := h
  have hp := h.pl
  have hl := h.ll
  have hblt := h.lt
  obtain ⟨cap', e, hc1, hc2⟩ := h.ow.shape
  simp only [Value.slice.injEq, true_and] at e
  rw [← e] at hc1 hc2
  clear e
  unfold maxLen at hc2
  have c0 := h.c0
  have c1 := h.c1
  have c2 := h.c2
  clear h
  go_enter Try.func40, Try.ntmps40
  go_wp2
  go_quiet (fail)
  rename_i nq
  go_wp2
  obtain ⟨W, hW⟩ : ∃ W, W = w.drewN nq := ⟨_, rfl⟩
  have HRW : Hid (RAt W b (.slice (some ⟨g, 0, none⟩) s.l.length s.p) s.l s.p 0 0 (some g)) := by rw [hW]; exact HR.out.drewN nq
  have HGW : Hid (w.grownBy W (some b)) := by rw [hW]; exact drewN_grow w nq (some b)
  rw [← hW]
  have hbW := HRW.out.lt
  clear hW c0 c1 c2 HR
  obtain ⟨c0, c1, c2⟩ := And.intro HRW.out.c0 (And.intro HRW.out.c1 HRW.out.c2)
  have HSUB : Hid (BytesAt (W.alloc (.cells #[] 5)).drew (.slice (some ⟨g, 0, none⟩) (s.p + n - s.p) (s.p - s.p)) ((s.l.drop s.p).take n)) := by
    unfold Hid
    obtain rfl : n = 0 := by omega
    rw [show s.p + 0 - s.p = 0 by omega, show s.p - s.p = 0 by omega, List.take_zero]
    exact ⟨_, 0, rfl, by simp, by simp, by simp, by simp⟩
  have HOW : Hid (Own (W.alloc (.cells #[] 5)).drew (.slice (some ⟨W.heap.size, 0, none⟩) 0 0) [] (some W.heap.size)) := Own.empty W 5
  have HLE : Hid (([] : List Nat).length + ((s.l.drop s.p).take n).length ≤ 140737488355328) := by unfold Hid; simp; omega
  have d0 : (W.alloc (.cells #[] 5)).cell? ⟨b, 0, none⟩ = some (.slice (some ⟨g, 0, none⟩) s.l.length s.p) := (World.cell?_alloc_past (w := W) _ _ _ HRW.out.lt).trans HRW.out.c0
  have d1 : (W.alloc (.cells #[] 5)).cell? ⟨b, 1, none⟩ = some (.int .i64 s.p) := (World.cell?_alloc_past (w := W) _ _ _ HRW.out.lt).trans HRW.out.c1
  have HALL : Hid (∀ (v' : Value) (w' : World) (r' : Option Nat), (W.alloc (.cells #[] 5)).drew.grownBy w' (some W.heap.size) → (r' = some W.heap.size ∨ r' = some (W.alloc (.cells #[] 5)).drew.heap.size) →
      ∃ q, r' = some q ∧ W.heap.size ≤ q ∧ RAt w' b (.slice (some ⟨g, 0, none⟩) s.l.length s.p) s.l s.p 0 0 (some g) ∧ W.grownBy w' none) := by
    intro v' w' r' hg hr
    have h1 : W.grownBy w' none := grow_trans (b := (W.alloc (.cells #[] 5)).drew) (r' := some W.heap.size) (grow_drewN (World.grownBy_alloc W (.cells #[] 5) none) 1) hg (.inr (.inr ⟨_, rfl, Nat.le_refl _⟩))
    have h2 := HRW.out.later (grow_below h1 (Nat.le_refl _) (by simp))
    rcases hr with rfl | rfl
    · exact ⟨_, rfl, Nat.le_refl _, h2, h1⟩
    · exact ⟨_, rfl, by show W.heap.size ≤ (W.alloc (.cells #[] 5)).heap.size; simp, h2, h1⟩
  have hwr : IntKind.i64.wrap ((s.p : Int) + (n : Int)) = (s.p : Int) + (n : Int) := by
    exact wrap_in_i64 (by omega) (by omega)
  have q1 : (0 : Int) ≤ (s.p : Int) + (n : Int) := by omega
  have q2 : (s.p : Int) + (n : Int) ≤ (s.p : Int) := by omega
  have q3 : ((s.p : Int) + (n : Int)).toNat = s.p + n := by omega
  go_region_law (refine step_append_row rfl (.tmp 34) (.tmp 49) 24 24 rfl Try.underlying24 (.slice (some ⟨W.heap.size, 0, none⟩) 0 0) (.slice (some ⟨g, 0, none⟩) (s.p + n - s.p) (s.p - s.p)) [] ((s.l.drop s.p).take n) (some W.heap.size) (by simp [Act.eval, Act.put]) (by simp [Act.eval, Act.put]) HOW.out HSUB.out.byte (src_of Try.underlying24 HSUB.out) HLE.out ?_; intro v' w' r' ho' hg' hr')
  all_goals
    obtain ⟨q, rfl, hq, hra, hgr⟩ := HALL.out v' w' r' hg' hr'
    have HO : Hid (Own w' v' ((s.l.drop s.p).take n) (some q)) := ho'
    have HRA : Hid (RAt w' b (.slice (some ⟨g, 0, none⟩) s.l.length s.p) s.l s.p 0 0 (some g)) := hra
    have HGR : Hid (W.grownBy w' none) := hgr
    have e1 := hra.c1
    have e2 := hra.f1
    clear ho' hg' hr' hra hgr
    go_wp2
    go_ret
    refine ⟨v', q, rfl, HO.out.kept (grow_set w' b 1 _) (.inr (by simp; omega)), by have := HGW.out.size; omega, HRA.out.move (s.p + n) (by omega), grow_trans (grow_trans HGW.out HGR.out (.inr (.inl rfl))) (grow_set w' b 1 _) (.inl rfl)⟩
end Go.Proofs.Ytjefbcphefckiac
