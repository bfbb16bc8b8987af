import Derived.Test.YtjefbcphefckiacRp4
import Derived.Deep.RegionLaw
namespace Go.Proofs.Ytjefbcphefckiac
open Go.RowKit Plain
set_option linter.unusedVariables false

set_option maxHeartbeats 400000 in
set_option maxRecDepth 1000000 in
theorem readFixed (v : Value) (L : List Nat) (w : World) (h : BytesAt w v L) (hL : L.length ≤ 8) :
    Calls Try.prog 48 #[v] w fun x w' => x = .returned (.int .u64 (val 0 L : Int)) ∧ w' = w := by
  have HBY : Hid (∀ c ∈ L, c < 256) := h.byte
  obtain ⟨a, cap, rfl, hlc, hcm, _, hcells⟩ := h
  unfold maxLen at hcm
  by_cases hnil : L = []
  · subst hnil
    clear hcells
    go_enter Try.func48, Try.ntmps48
    go_wp2
    refine wp_loop_rounds 1 ?_
    rw [rounds_succ]
    go_wp2
    go_ret
    exact ⟨rfl, rfl⟩
  · obtain ⟨b', off, rfl, hc⟩ := hcells hnil
    clear hcells
    go_enter Try.func48, Try.ntmps48
    go_wp2
    go_loop [3, 4] (fun t i => ∃ k : Nat, k ≤ L.length ∧ i = .int .i64 k ∧ t = .int .u64 (val 0 (L.take k) : Nat)) (fun _ i => L.length - (intOf i).toNat)
    case atStart => exact ⟨0, by omega, rfl, rfl⟩
    case round =>
      obtain ⟨k, hk, rfl, rfl⟩ := hrel
      by_cases hlt : k < L.length
      · have hcell := hc k hlt
        obtain ⟨c, hcv⟩ : ∃ c, L.getD k 0 = c := ⟨_, rfl⟩
        have hc256 : c < 256 := HBY.out c (by rw [← hcv, List.getD_eq_getElem?_getD, List.getElem?_eq_getElem hlt]; simp)
        rw [hcv] at hcell
        have hvl := val_take_lt L k HBY.out (by omega)
        have HS : Hid (val 0 (L.take (k + 1)) = val 0 (L.take k) * 256 + c) := by unfold Hid; rw [take_snoc hlt, val_snoc, hcv]
        generalize val 0 (L.take k) = V at hvl HS
        clear hcv hc
        go_wp2
        go_round
        case rel => exact ⟨k + 1, by omega, by go_num, by rw [HS.out]; go_num⟩
        case measure => simp [intOf]; omega
      · have HE : Hid (val 0 (L.take k) = val 0 L) := by unfold Hid; rw [List.take_of_length_le (by omega)]
        clear hc
        go_wp2
        go_ret
        exact ⟨ret_k (by rw [HE.out]), rfl⟩

theorem qaRawNeg (w : World) (b : Nat) (s : Rs) (r : Option Nat) (n : Int) (hn : n < 0) (h : QA w b s r) :
    Calls Try.prog 40 #[.pointer (some ⟨b, 0, none⟩), .int .i64 n] w fun x w' => x = .returned (.slice none 0 0) ∧ QA w' b (s.fail 14) r ∧ w.grownBy w' (some b) := by
  have HP : Hid (QA w b s r) := h
  clear h
  go_enter Try.func40, Try.ntmps40
  go_wp2_with fail
  refine (qaFail w b s r 14 HP.out).mono ?_
  rintro x w1 ⟨rfl, hp1, hg1⟩
  have H1 : Hid (QA w1 b (s.fail 14) r) := hp1
  have HG1 : Hid (w.grownBy w1 (some b)) := hg1
  clear hp1 hg1
  go_wp2
  go_ret
  exact ⟨rfl, H1.out, HG1.out⟩

theorem qaRawDead (w : World) (b : Nat) (s : Rs) (r : Option Nat) (n : Nat) (h0 : s.e ≠ 0) (h : QA w b s r) :
    Calls Try.prog 40 #[.pointer (some ⟨b, 0, none⟩), .int .i64 n] w fun x w' => x = .returned (.slice none 0 0) ∧ w' = w := by
  rcases h with ⟨h1, _⟩ | ⟨_, dv, h⟩
  · exact absurd h1 h0
  have c2 := h.c2
  have he : (s.e != 0) = true := by simpa using h0
  clear h h0
  go_enter Try.func40, Try.ntmps40
  go_wp2
  go_ret
  exact ⟨rfl, rfl⟩

set_option maxHeartbeats 400000 in
theorem qaRawShort (w : World) (b : Nat) (s : Rs) (r : Option Nat) (n : Nat) (h0 : s.e = 0) (hn : ¬ n ≤ s.l.length - s.p) (h : QA w b s r) :
    Calls Try.prog 40 #[.pointer (some ⟨b, 0, none⟩), .int .i64 n] w fun x w' => x = .returned (.slice none 0 0) ∧ QA w' b (s.fail 10) r ∧ w.grownBy w' (some b) := by
  have HP : Hid (QA w b s r) := h
  rcases h with ⟨_, dv, h⟩ | ⟨h1, _⟩
  · obtain ⟨a, cap, rfl⟩ := h.ow.isSlice
    have c0 := h.c0
    have c1 := h.c1
    have c2 := h.c2
    have hp := h.pl
    have hl := h.ll
    have hblt := h.lt
    clear h h0
    go_enter Try.func40, Try.ntmps40
    go_wp2
    go_quiet (fail)
    go_wp2_with fail
    refine (qaFail _ b s r 10 (HP.out.later (below_drewN (Below.refl _ _) _))).mono ?_
    rintro x w1 ⟨rfl, hp1, hg1⟩
    have H1 : Hid (QA w1 b (s.fail 10) r) := hp1
    have HG1 : Hid (w.grownBy w1 (some b)) := grow_trans (drewN_grow w _ (some b)) hg1 (.inl rfl)
    clear hp1 hg1
    go_wp2
    go_ret
    exact ⟨rfl, H1.out, HG1.out⟩
  · exact absurd h0 h1

/-- append onto a row of the call's own, as one step of a region that draws. -/
theorem step_append_row {ops : Array Oper} {o : Oper} {a : Act} {w : World} {K : Act → World → Prop} {Q : Exit → Act → World → Prop} {E : Prop}
    (hg : o.guard = none) (s x : Operand) (t tx : TypeId) (hop : o.op = Op.call { callee := Callee.builtin Builtin.append, args := #[s, x], argTypes := #[t, tx] }) (ht : Try.prog.underlying t = some (.slice 5)) (v xv : Value) (l k : List Nat) (r : Option Nat)
    (hs : a.eval s = v) (hx : a.eval x = xv) (hown : Own w v l r) (hk : ∀ c ∈ k, c < 256) (hsrc : Src Try.prog 1 tx xv k.length (cellsOf k) w) (hlen : l.length + k.length ≤ 140737488355328)
    (hK : ∀ v' w' r', Own w' v' (l ++ k) r' → w.grownBy w' r → (r' = r ∨ r' = some w.heap.size) → K (a.put o.dst v') w') :
    if Region.wanted o (yielded ops a.tmps) = true then Oper.wp Try.prog o a w K Q else E := by
  have hw : Region.wanted o (yielded ops a.tmps) = true := by simp [Region.wanted, hg]
  rw [if_pos hw]
  obtain ⟨v', w', r', hrun, h1, h2, h3, h4⟩ := run_append_row w t tx o.type ht v xv l k r hown hk hsrc hlen
  unfold Oper.wp
  simp [execOp, hop, resolve, invoke, builtin, hs, hx, hrun, Result.andThen]
  exact hK v' w' r' h1 h2 h3

theorem wrap_in_i64 {x : Int} (h1 : -9223372036854775808 ≤ x) (h2 : x ≤ 9223372036854775807) : IntKind.i64.wrap x = x := by
  unfold IntKind.wrap
  simp [IntKind.bits, IntKind.signed]
  omega

set_option maxHeartbeats 1000000 in
theorem qaRawOkA (w : World) (b g cap : Nat) (s : Rs) (n : Nat) (hn : n ≤ s.l.length - s.p) (h : RAt w b (.slice (some ⟨g, 0, none⟩) s.l.length cap) s.l s.p 0 0 (some g)) (hpc : s.p < cap) :
    Calls Try.prog 40 #[.pointer (some ⟨b, 0, none⟩), .int .i64 n] w fun x w' => ∃ v r', x = .returned v ∧ Own w' v ((s.l.drop s.p).take n) (some r') ∧ w.heap.size ≤ r' ∧ RAt w' b (.slice (some ⟨g, 0, none⟩) s.l.length cap) s.l (s.p + n) 0 0 (some g) ∧ w.grownBy w' (some b) := by
  have HR : Hid (RAt w b (.slice (some ⟨g, 0, none⟩) s.l.length cap) s.l s.p 0 0 (some g)) := h
  have hp := h.pl
  have hl := h.ll
  have hblt := h.lt
  obtain ⟨cap', e, hc1, hc2⟩ := h.ow.shape
  simp only [Value.slice.injEq, true_and] at e
  subst e
  unfold maxLen at hc2
  have c0 := h.c0
  have c1 := h.c1
  have c2 := h.c2
  clear h
  go_enter Try.func40, Try.ntmps40
  go_wp2
  go_quiet (fail)
  rename_i nq
  go_wp2
  obtain ⟨W, hW⟩ : ∃ W, W = w.drewN nq := ⟨_, rfl⟩
  have HRW : Hid (RAt W b (.slice (some ⟨g, 0, none⟩) s.l.length cap) s.l s.p 0 0 (some g)) := by rw [hW]; exact HR.out.drewN nq
  have HGW : Hid (w.grownBy W (some b)) := by rw [hW]; exact drewN_grow w nq (some b)
  rw [← hW]
  have hbW := HRW.out.lt
  clear hW c0 c1 c2 HR
  obtain ⟨c0, c1, c2⟩ := And.intro HRW.out.c0 (And.intro HRW.out.c1 HRW.out.c2)
  have HSUB : Hid (BytesAt (W.alloc (.cells #[] 5)).drew (.slice (some ⟨g, s.p, none⟩) (s.p + n - s.p) (cap - s.p)) ((s.l.drop s.p).take n)) := by
    unfold Hid
    rw [show s.p + n - s.p = n by omega]
    exact (BytesAt.sub HRW.out.ow.bytes s.p n (cap - s.p) (by omega) (by omega) (by omega)).later ((Below.refl _ _).alloc (Nat.le_refl _) _).drew
  have HOW : Hid (Own (W.alloc (.cells #[] 5)).drew (.slice (some ⟨W.heap.size, 0, none⟩) 0 0) [] (some W.heap.size)) := Own.empty W 5
  have HLE : Hid (([] : List Nat).length + ((s.l.drop s.p).take n).length ≤ 140737488355328) := by unfold Hid; simp; omega
  have d0 : (W.alloc (.cells #[] 5)).cell? ⟨b, 0, none⟩ = some (.slice (some ⟨g, 0, none⟩) s.l.length cap) := (World.cell?_alloc_past (w := W) _ _ _ HRW.out.lt).trans HRW.out.c0
  have d1 : (W.alloc (.cells #[] 5)).cell? ⟨b, 1, none⟩ = some (.int .i64 s.p) := (World.cell?_alloc_past (w := W) _ _ _ HRW.out.lt).trans HRW.out.c1
  have HALL : Hid (∀ (v' : Value) (w' : World) (r' : Option Nat), (W.alloc (.cells #[] 5)).drew.grownBy w' (some W.heap.size) → (r' = some W.heap.size ∨ r' = some (W.alloc (.cells #[] 5)).drew.heap.size) →
      ∃ q, r' = some q ∧ W.heap.size ≤ q ∧ RAt w' b (.slice (some ⟨g, 0, none⟩) s.l.length cap) s.l s.p 0 0 (some g) ∧ W.grownBy w' none) := by
    intro v' w' r' hg hr
    have h1 : W.grownBy w' none := grow_trans (b := (W.alloc (.cells #[] 5)).drew) (r' := some W.heap.size) (grow_drewN (World.grownBy_alloc W (.cells #[] 5) none) 1) hg (.inr (.inr ⟨_, rfl, Nat.le_refl _⟩))
    have h2 := HRW.out.later (grow_below h1 (Nat.le_refl _) (by simp))
    rcases hr with rfl | rfl
    · exact ⟨_, rfl, Nat.le_refl _, h2, h1⟩
    · exact ⟨_, rfl, by show W.heap.size ≤ (W.alloc (.cells #[] 5)).heap.size; simp, h2, h1⟩
  have hwr : IntKind.i64.wrap ((s.p : Int) + (n : Int)) = (s.p : Int) + (n : Int) := by
    exact wrap_in_i64 (by omega) (by omega)
  have q1 : (0 : Int) ≤ (s.p : Int) + (n : Int) := by omega
  have q2 : (s.p : Int) + (n : Int) ≤ (cap : Int) := by omega
  have q3 : ((s.p : Int) + (n : Int)).toNat = s.p + n := by omega
  have q4 : ¬ cap = s.p := by omega
  go_region_law (refine step_append_row rfl (.tmp 34) (.tmp 49) 24 24 rfl Try.underlying24 (.slice (some ⟨W.heap.size, 0, none⟩) 0 0) (.slice (some ⟨g, s.p, none⟩) (s.p + n - s.p) (cap - s.p)) [] ((s.l.drop s.p).take n) (some W.heap.size) (by simp [Act.eval, Act.put]) (by simp [Act.eval, Act.put]) HOW.out HSUB.out.byte (src_of Try.underlying24 HSUB.out) HLE.out ?_; intro v' w' r' ho' hg' hr')
  all_goals
    obtain ⟨q, rfl, hq, hra, hgr⟩ := HALL.out v' w' r' hg' hr'
    have HO : Hid (Own w' v' ((s.l.drop s.p).take n) (some q)) := ho'
    have HRA : Hid (RAt w' b (.slice (some ⟨g, 0, none⟩) s.l.length cap) s.l s.p 0 0 (some g)) := hra
    have HGR : Hid (W.grownBy w' none) := hgr
    have e1 := hra.c1
    have e2 := hra.f1
    clear ho' hg' hr' hra hgr
    go_wp2
    go_ret
    refine ⟨v', q, rfl, HO.out.kept (grow_set w' b 1 _) (.inr (by simp; omega)), by have := HGW.out.size; omega, HRA.out.move (s.p + n) (by omega), grow_trans (grow_trans HGW.out HGR.out (.inr (.inl rfl))) (grow_set w' b 1 _) (.inl rfl)⟩
end Go.Proofs.Ytjefbcphefckiac
