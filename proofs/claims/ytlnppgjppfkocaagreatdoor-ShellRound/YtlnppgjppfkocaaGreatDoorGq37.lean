import Derived.Test.YtlnppgjppfkocaaGreatDoorGq36
import Derived.Test.YtlnppgjppfkocaaGreatDoorGq10
import Derived.Test.YtlnppgjppfkocaaGreatDoorGq34
import Derived.Test.YtlnppgjppfkocaaGreatDoorGq16
/-! When a command fits its verb, plainly. -/
namespace Go.Proofs.YtlnppgjppfkocaaGreatDoor.Xs
open Go.RowKit Plain
set_option linter.unusedVariables false
set_option linter.unusedSimpArgs false

theorem an_bits (b1 b2 b3 b4 : Bool) :
    (bits .andNot .i64 (fillN b1 b2 b3 b4) 0 == 0) = (!b1 && !b2 && !b3 && !b4) ∧ (bits .andNot .i64 (fillN b1 b2 b3 b4) 1 == 0) = (!b2 && !b3 && !b4) ∧
    (bits .andNot .i64 (fillN b1 b2 b3 b4) 3 == 0) = (!b3 && !b4) ∧ (bits .andNot .i64 (fillN b1 b2 b3 b4) 5 == 0) = (!b2 && !b4) ∧ (bits .andNot .i64 (fillN b1 b2 b3 b4) 8 == 0) = (!b1 && !b2 && !b3) := by
  cases b1 <;> cases b2 <;> cases b3 <;> cases b4 <;> decide +kernel
theorem an2 : (bits .and .i64 0 2 == 0) = true ∧ (bits .and .i64 1 2 == 0) = true ∧ (bits .and .i64 3 2 == 0) = false ∧ (bits .and .i64 5 2 == 0) = true ∧ (bits .and .i64 8 2 == 0) = true := by decide +kernel
theorem fill_bits (c : Cm) : (!(c.conn != 0)) = (c.conn == 0) ∧ (!(!rqEq c.req Rq.zero)) = rqEq c.req Rq.zero ∧ (!decide (0 < c.raw.length)) = c.raw.isEmpty ∧ (!decide (0 < c.picks.length)) = c.picks.isEmpty := by
  refine ⟨?_, ?_, ?_, ?_⟩
  · show (!(!(c.conn == 0))) = _
    rw [Bool.not_not]
  · rw [Bool.not_not]
  · cases c.raw <;> simp
  · cases c.picks <;> simp
set_option maxHeartbeats 4000000 in
theorem fits_iff (c : Cm) (h0 : 0 ≤ c.verb) (h1 : c.verb < 11) : fitsV (rowV c.verb) c = true ↔ (OkC c ∧ c.raw.length ≤ 4096 ∧ c.picks.length ≤ 4096) := by
  obtain ⟨n0, n1, n3, n5, n8⟩ := an_bits (c.conn != 0) (!rqEq c.req Rq.zero) (decide (0 < c.raw.length)) (decide (0 < c.picks.length))
  obtain ⟨m0, m1, m3, m5, m8⟩ := an2
  obtain ⟨f1, f2, f3, f4⟩ := fill_bits c
  rw [f1, f2, f3, f4] at n0
  rw [f2, f3, f4] at n1
  rw [f3, f4] at n3
  rw [f2, f4] at n5
  rw [f1, f2, f3] at n8
  have hrow : rowV c.verb = vrL.getD c.verb.toNat Vr.zero := by unfold rowV; rw [if_pos ⟨h0, h1⟩]
  have hv : c.verb = 0 ∨ c.verb = 1 ∨ c.verb = 2 ∨ c.verb = 3 ∨ c.verb = 4 ∨ c.verb = 5 ∨ c.verb = 6 ∨ c.verb = 7 ∨ c.verb = 8 ∨ c.verb = 9 ∨ c.verb = 10 := by omega
  rw [okC_iff]
  unfold fitsV fillC okC1 okC2 okC3 okC4 cnB pkB
  rw [hrow]
  clear f1 f2 f3 f4 hrow
  generalize fillN (c.conn != 0) (!rqEq c.req Rq.zero) (decide (0 < c.raw.length)) (decide (0 < c.picks.length)) = F at *
  generalize rqEq c.req Rq.zero = Q at *
  generalize (okR1 c.req && okR2 c.req && okR3 c.req) = R at *
  generalize c.raw.isEmpty = E1 at *
  generalize c.picks.isEmpty = E2 at *
  rcases hv with e | e | e | e | e | e | e | e | e | e | e
  all_goals
    rw [e]
    simp only [vrL, List.getD_cons_zero, List.getD_cons_succ, show (0 : Int).toNat = 0 from rfl, show (1 : Int).toNat = 1 from rfl, show (2 : Int).toNat = 2 from rfl, show (3 : Int).toNat = 3 from rfl, show (4 : Int).toNat = 4 from rfl, show (5 : Int).toNat = 5 from rfl, show (6 : Int).toNat = 6 from rfl, show (7 : Int).toNat = 7 from rfl, show (8 : Int).toNat = 8 from rfl, show (9 : Int).toNat = 9 from rfl, show (10 : Int).toNat = 10 from rfl, n0, n1, n3, n5, n8, m0, m1, m3, m5, m8]
    clear n0 n1 n3 n5 n8 m0 m1 m3 m5 m8
    simp only [Bool.and_eq_true, Bool.or_eq_true, decide_eq_true_eq, beq_iff_eq, Bool.true_or, Bool.false_or, Bool.false_eq_true, if_true, if_false, reduceIte]
    simp
    grind
end Go.Proofs.YtlnppgjppfkocaaGreatDoor.Xs

/-! The program's writeSay. -/
namespace Go.Proofs.YtlnppgjppfkocaaGreatDoor.Xs
open Go.RowKit Plain
set_option linter.unusedVariables false
set_option linter.unusedSimpArgs false

theorem CmAt.T {u : World} {X : Nat} {c : Cm} {vr vp : Value} (h : CmAt u X c vr vp) {i : Nat} (hi : i < 3) : u.cell? ⟨X, 4 + i, none⟩ = some (.string (ba (fT c.req i))) := by
  have : i = 0 ∨ i = 1 ∨ i = 2 := by omega
  rcases this with rfl | rfl | rfl
  · exact h.c4
  · exact h.c5
  · exact h.c6
theorem CmAt.N {u : World} {X : Nat} {c : Cm} {vr vp : Value} (h : CmAt u X c vr vp) {i : Nat} (hi : i < 4) : u.cell? ⟨X, 7 + i, none⟩ = some (.int .i64 (fN c.req i)) := by
  have : i = 0 ∨ i = 1 ∨ i = 2 ∨ i = 3 := by omega
  rcases this with rfl | rfl | rfl | rfl
  · exact h.c7
  · exact h.c8
  · exact h.c9
  · exact h.c10
theorem fT_len {c : Cm} (h1 : c.req.topic.length ≤ 8796093022208) (h2 : c.req.key.length ≤ 8796093022208) (h3 : c.req.value.length ≤ 8796093022208) (i : Nat) : (fT c.req i).length ≤ 8796093022208 := by
  unfold fT
  split
  · exact h1
  · split
    · exact h2
    · exact h3
theorem fN_64 {r : Rq} (h : WfR r) (i : Nat) : I64 (fN r i) := by
  unfold fN
  split
  · exact h.offset
  · split
    · exact h.number
    · split
      · exact h.pid
      · exact h.seq
set_option maxHeartbeats 32000000 in
set_option maxRecDepth 100000 in
theorem wSayOf (c : Cm) (vr vp : Value) (hw : WfC c) (o1 : 1 ≤ c.req.op) (o2 : c.req.op ≤ 15) (t1 : c.req.topic.length ≤ 8796093022208) (t2 : c.req.key.length ≤ 8796093022208) (t3 : c.req.value.length ≤ 8796093022208)
    (P : Nat → Prop) (W w : World) (g : Nat) (l : List By) (hT : Tab W) (hO : OpsAt W) (h : Wr P W w g l) (hl : l.length ≤ 1000) :
    Calls Tryz.prog 64 #[.pointer (some ⟨g, 0, none⟩), cmV c vr vp] w fun e w' => e = .returned (.tuple #[]) ∧ Wr P W w' g (l ++ (Lib.itoa c.conn :: Lib.itoa c.req.id :: opT c.req.op :: (fldL c.req.op).map (fldT c.req))) ∧ Kp P w w' := by
  obtain ⟨P1, W1, hW1, hw1, hp1, hk1, hc1, hb1, hpx, hlx⟩ := cm_box h c vr vp
  have HZ := mkW hc1
  have HO : Hid (∀ u, Below W.heap.size W u → OpsAt u) := fun u hu => hO.later hu
  have HL1 : Hid ((l ++ [Lib.itoa c.conn]).length ≤ 1001) := by unfold Hid; rw [List.length_append]; simp; omega
  have HL2 : Hid ((l ++ [Lib.itoa c.conn] ++ [Lib.itoa c.req.id]).length ≤ 1002) := by unfold Hid; rw [List.length_append, List.length_append]; simp; omega
  have HC1 : Hid (Calls Tryz.prog 62 #[.pointer (some ⟨g, 0, none⟩), cmV c vr vp] W1 fun e w' => e = .returned (.tuple #[]) ∧ Wr P1 W w' g (l ++ [Lib.itoa c.conn]) ∧ Kp P1 W1 w') := wConnOf c vr vp hw.conn 1000 (by omega) P1 W W1 g l hT hw1 hl
  have HC2 : Hid (∀ u, Wr P1 W u g (l ++ [Lib.itoa c.conn]) → Calls Tryz.prog 34 #[.pointer (some ⟨g, 0, none⟩), .int .i64 c.req.id] u fun e w' => e = .returned (.tuple #[]) ∧ Wr P1 W w' g (l ++ [Lib.itoa c.conn] ++ [Lib.itoa c.req.id]) ∧ Kp P1 u w') := fun u hu => numOf c.req.id ⟨by have := hw.req.id1; omega, by have := hw.req.id2; omega⟩ P1 W u g _ hT hu (by have := HL1.out; omega)
  have HFN : Hid (l ++ [Lib.itoa c.conn] ++ [Lib.itoa c.req.id] ++ [opT c.req.op] ++ (usT c.req.op).map (fun i => txt (fT c.req i)) ++ (usN c.req.op).map (fun i => Lib.itoa (fN c.req i)) = l ++ (Lib.itoa c.conn :: Lib.itoa c.req.id :: opT c.req.op :: (fldL c.req.op).map (fldT c.req))) := by
    unfold Hid
    rw [← used_fld c.req o1 o2]
    simp
  have HF : Hid (∀ w', Wr P1 W w' g (l ++ [Lib.itoa c.conn] ++ [Lib.itoa c.req.id] ++ [opT c.req.op] ++ (usT c.req.op).map (fun i => txt (fT c.req i)) ++ (usN c.req.op).map (fun i => Lib.itoa (fN c.req i))) → Kp P1 W1 w' → Wr P W w' g (l ++ (Lib.itoa c.conn :: Lib.itoa c.req.id :: opT c.req.op :: (fldL c.req.op).map (fldT c.req))) ∧ Kp P w w') := fun w' a b => ⟨by have := a.weak hp1; rwa [HFN.out] at this, hk1.trans (b.weak hp1)⟩
  have HTX : Hid (∀ i, (fT c.req i).length ≤ 8796093022208) := fT_len t1 t2 t3
  have HNX : Hid (∀ i, I64 (fN c.req i)) := fN_64 hw.req
  have hidw : IntKind.i64.wrap c.req.id = c.req.id := by have := hw.req.id1; have := hw.req.id2; rw [IntKind.wrap_i64]; omega
  obtain ⟨z0, z1, z2, z3, z4, z5, z6, z7, z8, z9, z10, z11, z12, z13⟩ := hc1 W1 (Kp.refl _ _)
  have HPX := mkW hpx
  have hX0l := hlx
  obtain ⟨X0, hX0⟩ : ∃ X, w.heap.size = X := ⟨_, rfl⟩
  rw [hX0] at HZ z0 z1 z2 z3 z4 z5 z6 z7 z8 z9 z10 z11 z12 z13 HPX
  clear hw1 hp1 hk1 hc1 hb1 h hpx hlx hX0l HFN t1 t2 t3 hw hO
  go_enter Tryz.func64, Tryz.ntmps64
  go_wp2_with (go_at_call 62; refine HC1.out.mono ?_; rintro e w2 ⟨rfl, hw2, hk2⟩; have y2 := (HZ.out w2 hk2).c2)
  have HW2 := mkW hw2
  have HK2 := mkW hk2
  clear hw2 hk2 HC1 z0 z1 z2 z3 z4 z5 z6 z7 z8 z9 z10 z11 z12 z13
  go_wp2_with (go_at_call 34; refine (HC2.out _ HW2.out).mono ?_; rintro e w3 ⟨rfl, hw3, hk3⟩)
  have HW3 := mkW hw3
  have HK3 := mkW (HK2.out.trans hk3)
  have q3 := (HZ.out w3 HK3.out).c3
  clear hw3 hk3 HC2 y2 HW2 HK2
  obtain ⟨k, hk⟩ : ∃ k : Nat, c.req.op = (k : Int) := ⟨c.req.op.toNat, by omega⟩
  have hk1 : 1 ≤ k := by omega
  have hk2 : k ≤ 15 := by omega
  have hword : opsL.getD k [] = opT c.req.op := by
    have key : ∀ i : Fin 15, opsL.getD (i.val + 1) [] = opT ((i.val : Int) + 1) := by decide +kernel
    have := key ⟨k - 1, by omega⟩
    simp only at this
    rw [show k - 1 + 1 = k by omega, show ((k - 1 : Nat) : Int) + 1 = (k : Int) by omega] at this
    rw [hk]; exact this
  rw [hk] at q3
  clear hk
  refine wp_region_noPanic ?_
  refine Till.start 7 (S := fun u => u.cell? ⟨X0, 3, none⟩ = some (.int .i64 (k : Int))) (by kernel_rfl) q3 (fun hHeld => ?_)
  refine' Till.take 0 rfl (by kernel_rfl) (by kernel_rfl) (by kernel_rfl) (by kernel_rfl) (fun _ _ _ h => h) (Or.inl ⟨by rfl, ?_⟩) (by assumption) ?_
  rotate_left
  · (intro w hSw; (try dsimp only at hSw); go_simp <;> with_reducible rfl)
  try simp only [Act.put, List.setIfInBounds_toArray, List.set_cons_zero, List.set_cons_succ]
  refine' Till.take 2 rfl (by kernel_rfl) (by kernel_rfl) (by kernel_rfl) (by kernel_rfl) (fun _ _ _ h => h) (Or.inl ⟨by rfl, ?_⟩) (by assumption) ?_
  rotate_left
  · (intro w hSw; (try dsimp only at hSw); go_simp <;> with_reducible rfl)
  try simp only [Act.put, List.setIfInBounds_toArray, List.set_cons_zero, List.set_cons_succ]
  refine' Till.take 3 rfl (by kernel_rfl) (by kernel_rfl) (by kernel_rfl) (by kernel_rfl) (fun _ _ _ h => h) (Or.inl ⟨by rfl, ?_⟩) (by assumption) ?_
  rotate_left
  · (intro w hSw; (try dsimp only at hSw); go_simp <;> with_reducible rfl)
  try simp only [Act.put, List.setIfInBounds_toArray, List.set_cons_zero, List.set_cons_succ]
  refine' Till.take 4 rfl (by kernel_rfl) (by kernel_rfl) (by kernel_rfl) (by kernel_rfl) (fun _ _ _ h => h) (Or.inl ⟨by rfl, ?_⟩) (by assumption) ?_
  rotate_left
  · (intro w hSw; (try dsimp only at hSw); go_simp <;> with_reducible rfl)
  try simp only [Act.put, List.setIfInBounds_toArray, List.set_cons_zero, List.set_cons_succ]
  refine Till.one 1 (by kernel_rfl) rfl (fun K hK => ?_)
  go_simp
  go_at_call 36
  refine (opWordsOf _).mono ?_
  rintro e wa ⟨va, rfl, hna, hba⟩
  have hka : Kp P1 w3 wa := (HW3.out.kp (Below.refl _ w3).drew).trans (HW3.out.drew.kp hba)
  have sa0 : wa.cell? ⟨X0, 3, none⟩ = some (.int .i64 (k : Int)) := (hka.cell HPX.out).trans q3
  refine hK.out _ _ ?_ (fun hHeld => ?_)
  · exact sa0
  clear hK K
  try simp only [Act.put, List.setIfInBounds_toArray, List.set_cons_zero, List.set_cons_succ]
  obtain ⟨aw, cw, rfl, hn0, hn1, hn2, hn3⟩ := hna
  obtain ⟨bw, ow, rfl, hcw⟩ := hn3 (by decide)
  have ck := hcw k (by rw [opsL_len]; omega)
  rw [hword] at ck
  have hol := opsL_len
  rw [hol]
  have hki : (k : Int) < 65 := by omega
  refine Till.one 5 (by kernel_rfl) rfl (fun K hK => ?_)
  go_simp
  refine hK.out _ _ ?_ (fun hHeld => ?_)
  · exact sa0
  clear hK K
  try simp only [Act.put, List.setIfInBounds_toArray, List.set_cons_zero, List.set_cons_succ]
  refine Till.one 6 (by kernel_rfl) rfl (fun K hK => ?_)
  go_simp
  refine hK.out _ _ ?_ (fun hHeld => ?_)
  · exact sa0
  clear hK K
  try simp only [Act.put, List.setIfInBounds_toArray, List.set_cons_zero, List.set_cons_succ]
  refine Till.last (by kernel_rfl) (by kernel_rfl) rfl (fun K hK => ?_)
  go_simp
  go_at_call 22
  refine (wordOf _ P1 W _ g _ (HW3.out.drew.later hba) (by have := HL2.out; omega)).mono ?_
  rintro e w4 ⟨rfl, hw4, hk4⟩
  refine hK.out _ _ ?_
  clear hK K
  try simp only [Act.put, List.setIfInBounds_toArray, List.set_cons_zero, List.set_cons_succ]
  refine NoPanic.normal ?_
  have HW4 := mkW hw4
  have HK4 : Hid (Kp P1 W1 w4) := HK3.out.trans (hka.trans hk4)
  have y3 := (HZ.out w4 HK4.out).c3
  clear hw4 hk4 hka sa0 hba hcw ck hn0 hn1 hn2 hn3 HW3 HK3 q3 hHeld
  have HUT : Hid (∀ u, Below W.heap.size W u → u.cell? ⟨X0, 2 + 1, none⟩ = some (.int .i64 c.req.op) → Calls Tryz.prog 96 #[.pointer (some ⟨X0, 2, none⟩), fnV 97, .string (ba [120])] u fun e w' => ∃ v r, e = .returned v ∧ OwnV w' v (ptrs X0 (2 + 2) (usT c.req.op)) r ∧ (∀ x, r = some x → u.heap.size ≤ x) ∧ Below u.heap.size u w') := fun u hu hc => usedTOf X0 2 c.req.op u (HO.out u hu) hc

  go_wp2_with (go_at_call 96; refine (HUT.out _ HW4.out.bel ((HZ.out _ HK4.out).c3)).mono ?_; rintro e we5 ⟨v5, r5, rfl, hov5, hor5, hbe5⟩; obtain ⟨av5, cv5, rfl, _, _⟩ := hov5.shape; rw [ptrs_len] at hov5 ⊢)
  have HWg5 := mkW (HW4.out.guardO hbe5 r5 (fun x e => ⟨hor5 x e, ownv_lt hov5 x e⟩))
  have HKg5 := mkW (HK4.out.trans (HW4.out.kp hbe5))
  have HOV5 := mkW hov5
  have hul5 := usT_len c.req.op
  obtain ⟨P2, hP5⟩ : ∃ P', (fun b => P1 b ∨ r5 = some b) = P' := ⟨_, rfl⟩
  rw [hP5] at HWg5
  have HPr5 : Hid ((∀ x, r5 = some x → P2 x) ∧ ∀ b, P1 b → P2 b) := by
    rw [← hP5]; exact ⟨fun x e => .inr e, fun b k => .inl k⟩
  have HLb5 : Hid ((l ++ [Lib.itoa c.conn] ++ [Lib.itoa c.req.id] ++ [opT c.req.op]).length ≤ 1003) := by
    unfold Hid
    have := HL2.out; rw [List.length_append]; simp; omega
  clear hov5 hor5 hbe5 hP5 HW4 HK4 HUT
  go_loopw [28] (fun i wl => ∃ (k : Nat), k ≤ (usT c.req.op).length ∧ i = .int .i64 k ∧ Hid (Wr P2 W wl g (l ++ [Lib.itoa c.conn] ++ [Lib.itoa c.req.id] ++ [opT c.req.op] ++ ((usT c.req.op).take k).map (fun i => txt (fT c.req i)))) ∧ Hid (Kp P2 we5 wl)) (fun i _ => (usT c.req.op).length + 10 - (intOf i).toNat)
  case atStart => exact ⟨0, Nat.zero_le _, rfl, by simpa using HWg5, Kp.refl _ _⟩
  case round =>
    clear HWg5
    obtain ⟨k, hk, rfl, HW, HK⟩ := hrel
    by_cases hp : k < (usT c.req.op).length
    · have hki : (k : Int) < ((usT c.req.op).length : Int) := by omega
      obtain ⟨bl, rfl, cl⟩ := ownv_at HOV5.out (ptrs_get hp) HK.out HPr5.out.1
      have hil : (usT c.req.op).getD k 0 < 3 := usT_lt (op := c.req.op) (by rw [List.getD_eq_getElem?_getD, List.getElem?_eq_getElem hp]; exact List.getElem_mem hp)
      have HT : Hid (l ++ [Lib.itoa c.conn] ++ [Lib.itoa c.req.id] ++ [opT c.req.op] ++ ((usT c.req.op).take k).map (fun i => txt (fT c.req i)) ++ [txt (fT c.req ((usT c.req.op).getD k 0))] = l ++ [Lib.itoa c.conn] ++ [Lib.itoa c.req.id] ++ [opT c.req.op] ++ ((usT c.req.op).take (k + 1)).map (fun i => txt (fT c.req i))) := by
        unfold Hid
        rw [getD_take 0 hp, List.map_append, List.append_assoc]; rfl
      have HLK : Hid ((l ++ [Lib.itoa c.conn] ++ [Lib.itoa c.req.id] ++ [opT c.req.op] ++ ((usT c.req.op).take k).map (fun i => txt (fT c.req i))).length ≤ 2000) := by
        unfold Hid
        rw [List.length_append, List.length_map, List.length_take]
        have := HLb5.out
        omega
      obtain ⟨lk, hlk⟩ : ∃ lk, l ++ [Lib.itoa c.conn] ++ [Lib.itoa c.req.id] ++ [opT c.req.op] ++ ((usT c.req.op).take k).map (fun i => txt (fT c.req i)) = lk := ⟨_, rfl⟩
      rw [hlk] at HW HT HLK
      obtain ⟨i, hi⟩ : ∃ i, (usT c.req.op).getD k 0 = i := ⟨_, rfl⟩
      rw [hi] at cl hil HT
      have cf : wr.cell? ⟨X0, 2 + 2 + i, none⟩ = some (.string (ba (fT c.req i))) := (HZ.out wr (HKg5.out.trans (HK.out.weak HPr5.out.2))).T hil
      have HC : Hid (Calls Tryz.prog 39 #[.pointer (some ⟨g, 0, none⟩), .string (ba (fT c.req i))] wr fun e w' => e = .returned (.tuple #[]) ∧ Wr P2 W w' g (lk ++ [txt (fT c.req i)]) ∧ Kp P2 wr w') := textOf _ (HTX.out i) P2 W _ g lk HW.out (by have := HLK.out; omega)
      obtain ⟨X2, hX2⟩ : ∃ x, 2 + 2 + i = x := ⟨_, rfl⟩
      rw [hX2] at cl cf
      clear hlk hi hil hX2
      go_wp2_with (go_at_call 39; refine HC.out.mono ?_; rintro e wd ⟨rfl, hwd, hkd⟩)
      have HWd := mkW hwd
      have HKd := mkW (HK.out.trans hkd)
      rw [HT.out] at HWd
      clear hwd hkd HC HW HK cl cf HT HLK
      go_wp2
      go_roundw
      case rel => exact ⟨k + 1, by omega, by go_num, HWd, HKd⟩
      case measure => (first | (simp [intOf]; omega) | omega | (show _ < _; simp only [intOf]; omega))
    · have hki : ¬ (k : Int) < ((usT c.req.op).length : Int) := by omega
      have hke : k = (usT c.req.op).length := by omega
      subst hke
      rw [List.take_length] at HW
      have HWn : Hid (Wr P1 W wr g (l ++ [Lib.itoa c.conn] ++ [Lib.itoa c.req.id] ++ [opT c.req.op] ++ (usT c.req.op).map (fun i => txt (fT c.req i)))) := HW.out.weak HPr5.out.2
      have HKn : Hid (Kp P1 W1 wr) := HKg5.out.trans (HK.out.weak HPr5.out.2)
      have y3n := (HZ.out wr HKn.out).c3
      clear HW HK HOV5 HPr5 HKg5
      have HUN : Hid (∀ u, Below W.heap.size W u → u.cell? ⟨X0, 2 + 1, none⟩ = some (.int .i64 c.req.op) → Calls Tryz.prog 98 #[.pointer (some ⟨X0, 2, none⟩), fnV 99, .int .i64 1] u fun e w' => ∃ v r, e = .returned v ∧ OwnV w' v (ptrs X0 (2 + 5) (usN c.req.op)) r ∧ (∀ x, r = some x → u.heap.size ≤ x) ∧ Below u.heap.size u w') := fun u hu hc => usedNOf X0 2 c.req.op u (HO.out u hu) hc
      go_wp2_with (go_at_call 98; refine (HUN.out _ HWn.out.bel ((HZ.out _ HKn.out).c3)).mono ?_; rintro e we6 ⟨v6, r6, rfl, hov6, hor6, hbe6⟩; obtain ⟨av6, cv6, rfl, _, _⟩ := hov6.shape; rw [ptrs_len] at hov6 ⊢)
      have HWg6 := mkW (HWn.out.guardO hbe6 r6 (fun x e => ⟨hor6 x e, ownv_lt hov6 x e⟩))
      have HKg6 := mkW (HKn.out.trans (HWn.out.kp hbe6))
      have HOV6 := mkW hov6
      have hul6 := usN_len c.req.op
      obtain ⟨P3, hP6⟩ : ∃ P', (fun b => P1 b ∨ r6 = some b) = P' := ⟨_, rfl⟩
      rw [hP6] at HWg6
      have HPr6 : Hid ((∀ x, r6 = some x → P3 x) ∧ ∀ b, P1 b → P3 b) := by
        rw [← hP6]; exact ⟨fun x e => .inr e, fun b k => .inl k⟩
      have HLb6 : Hid ((l ++ [Lib.itoa c.conn] ++ [Lib.itoa c.req.id] ++ [opT c.req.op] ++ (usT c.req.op).map (fun i => txt (fT c.req i))).length ≤ 1006) := by
        unfold Hid
        have := HLb5.out; have := usT_len c.req.op; rw [List.length_append, List.length_map]; omega
      clear hov6 hor6 hbe6 hP6 HWn HKn HUN
      go_loopw [41] (fun i wl => ∃ (k : Nat), k ≤ (usN c.req.op).length ∧ i = .int .i64 k ∧ Hid (Wr P3 W wl g (l ++ [Lib.itoa c.conn] ++ [Lib.itoa c.req.id] ++ [opT c.req.op] ++ (usT c.req.op).map (fun i => txt (fT c.req i)) ++ ((usN c.req.op).take k).map (fun i => Lib.itoa (fN c.req i)))) ∧ Hid (Kp P3 we6 wl)) (fun i _ => (usN c.req.op).length + 10 - (intOf i).toNat)
      case atStart => exact ⟨0, Nat.zero_le _, rfl, by simpa using HWg6, Kp.refl _ _⟩
      case round =>
        clear HWg6
        obtain ⟨k, hk, rfl, HW, HK⟩ := hrel
        by_cases hp : k < (usN c.req.op).length
        · have hki : (k : Int) < ((usN c.req.op).length : Int) := by omega
          obtain ⟨bl, rfl, cl⟩ := ownv_at HOV6.out (ptrs_get hp) HK.out HPr6.out.1
          have hil : (usN c.req.op).getD k 0 < 4 := usN_lt (op := c.req.op) (by rw [List.getD_eq_getElem?_getD, List.getElem?_eq_getElem hp]; exact List.getElem_mem hp)
          have HT : Hid (l ++ [Lib.itoa c.conn] ++ [Lib.itoa c.req.id] ++ [opT c.req.op] ++ (usT c.req.op).map (fun i => txt (fT c.req i)) ++ ((usN c.req.op).take k).map (fun i => Lib.itoa (fN c.req i)) ++ [Lib.itoa (fN c.req ((usN c.req.op).getD k 0))] = l ++ [Lib.itoa c.conn] ++ [Lib.itoa c.req.id] ++ [opT c.req.op] ++ (usT c.req.op).map (fun i => txt (fT c.req i)) ++ ((usN c.req.op).take (k + 1)).map (fun i => Lib.itoa (fN c.req i))) := by
            unfold Hid
            rw [getD_take 0 hp, List.map_append, List.append_assoc]; rfl
          have HLK : Hid ((l ++ [Lib.itoa c.conn] ++ [Lib.itoa c.req.id] ++ [opT c.req.op] ++ (usT c.req.op).map (fun i => txt (fT c.req i)) ++ ((usN c.req.op).take k).map (fun i => Lib.itoa (fN c.req i))).length ≤ 2000) := by
            unfold Hid
            rw [List.length_append, List.length_map, List.length_take]
            have := HLb6.out
            omega
          obtain ⟨lk, hlk⟩ : ∃ lk, l ++ [Lib.itoa c.conn] ++ [Lib.itoa c.req.id] ++ [opT c.req.op] ++ (usT c.req.op).map (fun i => txt (fT c.req i)) ++ ((usN c.req.op).take k).map (fun i => Lib.itoa (fN c.req i)) = lk := ⟨_, rfl⟩
          rw [hlk] at HW HT HLK
          obtain ⟨i, hi⟩ : ∃ i, (usN c.req.op).getD k 0 = i := ⟨_, rfl⟩
          rw [hi] at cl hil HT
          have cf : wr.cell? ⟨X0, 2 + 5 + i, none⟩ = some (.int .i64 (fN c.req i)) := (HZ.out wr (HKg6.out.trans (HK.out.weak HPr6.out.2))).N hil
          have HC : Hid (Calls Tryz.prog 34 #[.pointer (some ⟨g, 0, none⟩), .int .i64 (fN c.req i)] wr fun e w' => e = .returned (.tuple #[]) ∧ Wr P3 W w' g (lk ++ [Lib.itoa (fN c.req i)]) ∧ Kp P3 wr w') := numOf _ (HNX.out i) P3 W _ g lk hT HW.out (by have := HLK.out; omega)
          obtain ⟨X2, hX2⟩ : ∃ x, 2 + 5 + i = x := ⟨_, rfl⟩
          rw [hX2] at cl cf
          clear hlk hi hil hX2
          go_wp2_with (go_at_call 34; refine HC.out.mono ?_; rintro e wd ⟨rfl, hwd, hkd⟩)
          have HWd := mkW hwd
          have HKd := mkW (HK.out.trans hkd)
          rw [HT.out] at HWd
          clear hwd hkd HC HW HK cl cf HT HLK
          go_wp2
          go_roundw
          case rel => exact ⟨k + 1, by omega, by go_num, HWd, HKd⟩
          case measure => (first | (simp [intOf]; omega) | omega | (show _ < _; simp only [intOf]; omega))
        · have hki : ¬ (k : Int) < ((usN c.req.op).length : Int) := by omega
          have hke : k = (usN c.req.op).length := by omega
          subst hke
          rw [List.take_length] at HW
          have hf := HF.out _ (HW.out.weak HPr6.out.2) (HKg6.out.trans (HK.out.weak HPr6.out.2))
          go_wp2
          go_end0
          exact ⟨rfl, hf⟩
end Go.Proofs.YtlnppgjppfkocaaGreatDoor.Xs
