import Derived.Test.YthfnbcicpcbgjaaKtg
/-! keydir: a key is taken out of a tree. -/
namespace Go.Proofs.Ythfnbcicpcbgjaa
open Go.RowKit Plain
set_option linter.unusedVariables false

set_option maxHeartbeats 8000000 in
theorem withoutOf (P : Nat → Prop) (key : ByteArray) (hk : key.size ≤ maxLen) : ∀ (n : Nat) (w : World) (p : Option Addr) (l : List Ke), (∀ g, w.heap.size ≤ g → P g) → TreeAt P w n p l → Srt l → findL key l ≠ none → l.length ≤ 1125899906842620 → Calls Try.prog 37 #[.pointer p, .string key] w (TreeRet P w (delL key l)) := by
  intro n
  induction n with
  | zero =>
    intro w p l hP ht hs hf hl
    obtain ⟨rfl, rfl⟩ := ht
    simp [findL] at hf
  | succ n ih0 =>
  intro w p l hP ht hs hf hl
  cases p with
  | none =>
    obtain rfl := ht.none_is
    simp [findL] at hf
  | some ar =>
  obtain ⟨m', g, k, pl, pr, ll, lr, hm, rfl, hPg, hkk, hng, rfl, hl1, hr1⟩ := ht.some_is
  have hm' : m' = n := by omega
  subst hm'
  have ih : ∀ (w : World) (p : Option Addr) (l : List Ke), (∀ g, w.heap.size ≤ g → P g) → TreeAt P w m' p l → Srt l → findL key l ≠ none → l.length ≤ 1125899906842620 → Calls Try.prog 37 #[.pointer p, .string key] w (TreeRet P w (delL key l)) := ih0
  have hlen : (ll ++ k :: lr).length = ll.length + lr.length + 1 := by simp; omega
  rw [hlen] at hl hng
  have hsp := hs.parts
  have HPU : Hid (∀ u, Below w.heap.size w u → ∀ g, u.heap.size ≤ g → P g) := fun u hu g hg => hP g (Nat.le_trans hu.size hg)
  have HNR : Hid (∀ u, Below w.heap.size w u → NodeAt u g k (ll.length + lr.length + 1) pl pr) := fun u hu => hng.block (hu.block _ hng.lt)
  have HCM : Hid (∀ u, Calls Try.prog 39 #[.string key, .string k.key] u fun e w' => e = .returned (.int .i64 (kc key k.key)) ∧ Below u.heap.size u w') := fun u => compare key k.key u hk (by unfold maxLen; omega)
  obtain ⟨c0, c1, c2, c3, c4, c5, c6, c7, c8, c9⟩ := HNR.out w (Below.refl _ _)
  clear ht hng ih0
  go_enter Try.func37, Try.ntmps37
  go_wp2_with fail
  refine (HCM.out _).mono ?_
  rintro e w1 ⟨rfl, hb1⟩
  have HB1 : Hid (Below w.heap.size w w1) := hb1
  clear c0 c1 c2 c3 c4 c5 c6 c7 c8 c9 hb1
  obtain ⟨c0, c1, c2, c3, c4, c5, c6, c7, c8, c9⟩ := HNR.out w1 HB1.out
  rcases kc_range key k.key with hc | hc | hc
  · rw [hc]
    have hf1 : findL key ll ≠ none := by rw [← findL_lt hs hc]; exact hf
    have HW : Hid (∀ u, Below w.heap.size w u → Calls Try.prog 37 #[.pointer pl, .string key] u (TreeRet P u (delL key ll))) := fun u hu => ih u pl ll (HPU.out u hu) (hl1.later hu) hsp.1 hf1 (by omega)
    have HBA : Hid (∀ u n p, Below w.heap.size w u → TreeAt P u n p (delL key ll) → Calls Try.prog 64 #[k.v, .pointer p, .pointer pr] u (TreeRet P u (delL key ll ++ k :: lr))) := fun u n p hu ht => balancedOf k u (HPU.out u hu) hkk ht (hr1.later hu) (by have := delL_len key ll; omega)
    go_wp2
    go_region_held3 (fun w' => w'.cell? ⟨g, 0, none⟩ = some (.string k.key) ∧ w'.cell? ⟨g, 1, none⟩ = some (.int .i64 k.e.seg) ∧ w'.cell? ⟨g, 2, none⟩ = some (.int .i64 k.e.pos) ∧ w'.cell? ⟨g, 3, none⟩ = some (.int .i64 k.e.size) ∧ w'.cell? ⟨g, 4, none⟩ = some (.int .i64 k.e.off) ∧ w'.cell? ⟨g, 5, none⟩ = some (.int .i64 k.e.time) ∧ w'.cell? ⟨g, 6, none⟩ = some (.bool k.e.tomb) ∧ w'.cell? ⟨g, 8, none⟩ = some (.pointer pl) ∧ w'.cell? ⟨g, 9, none⟩ = some (.pointer pr)) (go_keep) (first
      | (go_at_call 37
         refine (HW.out _ (by first | exact HB1.out | exact Below.drew HB1.out)).mono ?_
         rintro e w2 ⟨n2, p2, rfl, ht2, hb2⟩
         have hb12 : Below w1.heap.size w1 w2 := (Below.drew (Below.refl _ w1)).trans hb2
         have HB2 : Hid (Below w.heap.size w w2) := HB1.out.trans (hb12.mono HB1.out.size)
         have HT2 : Hid (TreeAt P w2 n2 p2 (delL key ll)) := ht2
         rcases HNR.out w2 HB2.out with ⟨x0, x1, x2, x3, x4, x5, x6, x7, x8, x9⟩
         clear ht2 hb2 HW)
      | (go_at_call 64
         refine (HBA.out _ _ _ HB2.out HT2.out).mono ?_
         rintro e w3 ⟨n3, p3, rfl, ht3, hb3⟩
         have HB3 : Hid (Below w.heap.size w w3) := HB2.out.trans (hb3.mono HB2.out.size)
         have HT3 : Hid (TreeAt P w3 n3 p3 (delL key ll ++ k :: lr)) := ht3
         rcases HNR.out w3 HB3.out with ⟨z0, z1, z2, z3, z4, z5, z6, z7, z8, z9⟩
         clear ht3 hb3))
    go_wp2
    go_ret
    exact ⟨n3, p3, rfl, by rw [delL_lt hs hc]; exact HT3.out, HB3.out⟩
  · rw [hc]
    have hde := delL_eq hs hc
    cases hpr : pr with
    | none =>
      rw [hpr] at hr1 c9
      have hlr := hr1.none_is
      subst hlr hpr
      have HF : Hid (TreeRet P w (delL key (ll ++ [k])) (.returned (.pointer pl)) w1) := ⟨_, pl, rfl, by rw [hde, List.append_nil]; exact hl1.later HB1.out, HB1.out⟩
      clear hde
      go_wp2
      go_ret
      exact HF.out
    | some arr =>
      rw [hpr] at hr1 c9
      have hln : lr ≠ [] := by
        obtain ⟨_, _, _, _, _, _, _, _, _, _, _, _, h, _⟩ := hr1.some_is
        rw [h]; simp
      have HNR2 : Hid (∀ u, Below w.heap.size w u → NodeAt u g k (ll.length + lr.length + 1) pl (some arr)) := by rw [← hpr]; exact HNR
      have HCU : Hid (Calls Try.prog 65 #[.pointer (some arr)] w1 (CutPost P w1 lr)) := cutOf _ P w1 (some arr) lr (HPU.out w1 HB1.out) (hr1.later HB1.out) hln (by omega)
      have HDE : Hid (delL key (ll ++ k :: lr) = ll ++ lr) := hde
      clear hpr hde HNR
      go_wp2_with fail
      refine HCU.out.mono ?_
      rintro e w2 ⟨n1, q1, x1, rest1, hx1, hk1, rfl, ht1, hb1⟩
      have HXE : Hid (lr = x1 :: rest1) := hx1
      have hlr2 : lr.length = rest1.length + 1 := by rw [hx1]; simp
      have hb2 : Below w.heap.size w w2 := HB1.out.trans (hb1.mono HB1.out.size)
      obtain ⟨w3, hw3⟩ : ∃ w3, w2.alloc (.cells #[.string x1.key, .int .i64 x1.e.seg, .int .i64 x1.e.pos, .int .i64 x1.e.size, .int .i64 x1.e.off, .int .i64 x1.e.time, .bool x1.e.tomb] 28) = w3 := ⟨_, rfl⟩
      have hb23 : Below w2.heap.size w2 w3 := by rw [← hw3]; exact (Below.refl _ _).alloc (Nat.le_refl _) _
      have hb3 : Below w.heap.size w w3 := hb2.trans (hb23.mono hb2.size)
      have HX : Hid (∀ u, Below w3.heap.size w3 u → KeAt u w2.heap.size x1) := fun u hu => by
        have h : KeAt w3 w2.heap.size x1 := by rw [← hw3]; exact KeAt.new w2 x1
        exact h.block (hu.block _ h.lt)
      have HT1 : Hid (TreeAt P w3 n1 q1 rest1) := ht1.later hb23
      have HBA : Hid (∀ u, Below w3.heap.size w3 u → Calls Try.prog 64 #[x1.v, .pointer pl, .pointer q1] u (TreeRet P u (ll ++ x1 :: rest1))) := fun u hu => balancedOf x1 u (HPU.out u (hb3.trans (hu.mono hb3.size))) hk1 (hl1.later (hb3.trans (hu.mono hb3.size))) (HT1.out.later hu) (by omega)
      have HBW3 : Hid (Below w.heap.size w w3) := hb3
      clear c0 c1 c2 c3 c4 c5 c6 c7 c8 c9 ht1 hb1 hb23 HCU hx1
      obtain ⟨c0, c1, c2, c3, c4, c5, c6, c7, c8, c9⟩ := HNR2.out w3 hb3
      obtain ⟨d0, d1, d2, d3, d4, d5, d6⟩ := HX.out w3 (Below.refl _ _)
      go_wp2
      go_region_held3 (fun w' => w'.cell? ⟨g, 8, none⟩ = some (.pointer pl) ∧ w'.cell? ⟨w2.heap.size, 0, none⟩ = some (.string x1.key) ∧ w'.cell? ⟨w2.heap.size, 1, none⟩ = some (.int .i64 x1.e.seg) ∧ w'.cell? ⟨w2.heap.size, 2, none⟩ = some (.int .i64 x1.e.pos) ∧ w'.cell? ⟨w2.heap.size, 3, none⟩ = some (.int .i64 x1.e.size) ∧ w'.cell? ⟨w2.heap.size, 4, none⟩ = some (.int .i64 x1.e.off) ∧ w'.cell? ⟨w2.heap.size, 5, none⟩ = some (.int .i64 x1.e.time) ∧ w'.cell? ⟨w2.heap.size, 6, none⟩ = some (.bool x1.e.tomb)) (go_keep) (first
        | (go_at_call 64
           refine (HBA.out _ (Below.drew (Below.refl _ _))).mono ?_
           rintro e w4 ⟨n4, p4, rfl, ht4, hb4⟩
           have hb34 : Below w3.heap.size w3 w4 := (Below.drew (Below.refl _ w3)).trans hb4
           have HB4 : Hid (Below w.heap.size w w4) := HBW3.out.trans (hb34.mono HBW3.out.size)
           have HT4 : Hid (TreeAt P w4 n4 p4 (ll ++ x1 :: rest1)) := ht4
           rcases HNR2.out w4 HB4.out with ⟨a0, a1, a2, a3, a4, a5, a6, a7, a8, a9⟩
           rcases HX.out w4 hb34 with ⟨b0, b1, b2, b3, b4, b5, b6⟩
           clear ht4 hb4 HBA))
      go_wp2
      go_ret
      exact ⟨n4, p4, rfl, by rw [HDE.out, HXE.out]; exact HT4.out, HB4.out⟩
  · rw [hc]
    have hf1 : findL key lr ≠ none := by rw [← findL_gt hs hc]; exact hf
    have HW : Hid (∀ u, Below w.heap.size w u → Calls Try.prog 37 #[.pointer pr, .string key] u (TreeRet P u (delL key lr))) := fun u hu => ih u pr lr (HPU.out u hu) (hr1.later hu) hsp.2.1 hf1 (by omega)
    have HBA : Hid (∀ u n p, Below w.heap.size w u → TreeAt P u n p (delL key lr) → Calls Try.prog 64 #[k.v, .pointer pl, .pointer p] u (TreeRet P u (ll ++ k :: delL key lr))) := fun u n p hu ht => balancedOf k u (HPU.out u hu) hkk (hl1.later hu) ht (by have := delL_len key lr; omega)
    go_wp2
    go_region_held3 (fun w' => w'.cell? ⟨g, 0, none⟩ = some (.string k.key) ∧ w'.cell? ⟨g, 1, none⟩ = some (.int .i64 k.e.seg) ∧ w'.cell? ⟨g, 2, none⟩ = some (.int .i64 k.e.pos) ∧ w'.cell? ⟨g, 3, none⟩ = some (.int .i64 k.e.size) ∧ w'.cell? ⟨g, 4, none⟩ = some (.int .i64 k.e.off) ∧ w'.cell? ⟨g, 5, none⟩ = some (.int .i64 k.e.time) ∧ w'.cell? ⟨g, 6, none⟩ = some (.bool k.e.tomb) ∧ w'.cell? ⟨g, 8, none⟩ = some (.pointer pl) ∧ w'.cell? ⟨g, 9, none⟩ = some (.pointer pr)) (go_keep) (first
      | (go_at_call 37
         refine (HW.out _ (by first | exact HB1.out | exact Below.drew HB1.out)).mono ?_
         rintro e w2 ⟨n2, p2, rfl, ht2, hb2⟩
         have hb12 : Below w1.heap.size w1 w2 := (Below.drew (Below.refl _ w1)).trans hb2
         have HB2 : Hid (Below w.heap.size w w2) := HB1.out.trans (hb12.mono HB1.out.size)
         have HT2 : Hid (TreeAt P w2 n2 p2 (delL key lr)) := ht2
         rcases HNR.out w2 HB2.out with ⟨x0, x1, x2, x3, x4, x5, x6, x7, x8, x9⟩
         clear ht2 hb2 HW)
      | (go_at_call 64
         refine (HBA.out _ _ _ HB2.out HT2.out).mono ?_
         rintro e w3 ⟨n3, p3, rfl, ht3, hb3⟩
         have HB3 : Hid (Below w.heap.size w w3) := HB2.out.trans (hb3.mono HB2.out.size)
         have HT3 : Hid (TreeAt P w3 n3 p3 (ll ++ k :: delL key lr)) := ht3
         rcases HNR.out w3 HB3.out with ⟨z0, z1, z2, z3, z4, z5, z6, z7, z8, z9⟩
         clear ht3 hb3))
    go_wp2
    go_ret
    exact ⟨n3, p3, rfl, by rw [delL_gt hs hc]; exact HT3.out, HB3.out⟩
end Go.Proofs.Ythfnbcicpcbgjaa
