import Derived.Test.YthfnbcicpcbgjaaKtb
import Derived.Deep.RegionHeld3
/-! keydir: nodes are turned, and put into balance. -/
namespace Go.Proofs.Ythfnbcicpcbgjaa
open Go.RowKit Plain
set_option linter.unusedVariables false

/-- The cells of a key and its entry, at the beginning of a block. -/
structure KeAt (w : World) (g : Nat) (k : Ke) : Prop where
  c0 : w.cell? ⟨g, 0, none⟩ = some (.string k.key)
  c1 : w.cell? ⟨g, 1, none⟩ = some (.int .i64 k.e.seg)
  c2 : w.cell? ⟨g, 2, none⟩ = some (.int .i64 k.e.pos)
  c3 : w.cell? ⟨g, 3, none⟩ = some (.int .i64 k.e.size)
  c4 : w.cell? ⟨g, 4, none⟩ = some (.int .i64 k.e.off)
  c5 : w.cell? ⟨g, 5, none⟩ = some (.int .i64 k.e.time)
  c6 : w.cell? ⟨g, 6, none⟩ = some (.bool k.e.tomb)
theorem KeAt.lt {w : World} {g : Nat} {k : Ke} (h : KeAt w g k) : g < w.heap.size := cell_lt h.c0
theorem KeAt.block {w w' : World} {g : Nat} {k : Ke} (h : KeAt w g k) (e : w'.heap[g]? = w.heap[g]?) : KeAt w' g k := by
  have hc : ∀ (i : Nat), w'.cell? ⟨g, i, none⟩ = w.cell? ⟨g, i, none⟩ := fun i => World.cell?_of_block (w := w) e
  exact ⟨(hc 0).trans h.c0, (hc 1).trans h.c1, (hc 2).trans h.c2, (hc 3).trans h.c3, (hc 4).trans h.c4, (hc 5).trans h.c5, (hc 6).trans h.c6⟩
theorem KeAt.new (w : World) (k : Ke) : KeAt (w.alloc (.cells #[.string k.key, .int .i64 k.e.seg, .int .i64 k.e.pos, .int .i64 k.e.size, .int .i64 k.e.off, .int .i64 k.e.time, .bool k.e.tomb] 28)) w.heap.size k := by
  constructor <;> exact World.cell?_alloc_at _ _ _ _ rfl

set_option maxHeartbeats 4000000 in
theorem turnLOf {P : Nat → Prop} {n m : Nat} {pl pr : Option Addr} {ll lr : List Ke} (k : Ke) (w : World) (hP : ∀ g, w.heap.size ≤ g → P g) (hk : k.key.size ≤ 64) (h1 : TreeAt P w n pl ll) (h2 : TreeAt P w m pr lr) (hl : ll.length + lr.length ≤ 1125899906842623) (hgt : 2 ≤ lr.length) :
    Calls Try.prog 72 #[k.v, .pointer pl, .pointer pr] w (TreeRet P w (ll ++ k :: lr)) := by
  cases pr with
  | none => have := h2.none_is; subst this; simp at hgt
  | some ar =>
  obtain ⟨m', gr, kr, prl, prr, lrl, lrr, rfl, rfl, hPr, hkr, hnr, rfl, hl2, hr2⟩ := h2.some_is
  have hlen : (lrl ++ kr :: lrr).length = lrl.length + lrr.length + 1 := by simp; omega
  rw [hlen] at hl hgt hnr
  have HNR : Hid (∀ u, Below w.heap.size w u → NodeAt u gr kr (lrl.length + lrr.length + 1) prl prr) := fun u hu => hnr.block (hu.block _ hnr.lt)
  have HWM : Hid (∀ u, Below w.heap.size w u → Calls Try.prog 71 #[.pointer prl] u fun e w' => e = .returned (.int .i64 (lrl.length + 1)) ∧ w' = u) := fun u hu => weightOf u (hl2.later hu) (by omega)
  have HWR : Hid (∀ u, Below w.heap.size w u → Calls Try.prog 71 #[.pointer prr] u fun e w' => e = .returned (.int .i64 (lrr.length + 1)) ∧ w' = u) := fun u hu => weightOf u (hr2.later hu) (by omega)
  obtain ⟨w0, hw0⟩ : ∃ w0, w.alloc (.cells #[.string k.key, .int .i64 k.e.seg, .int .i64 k.e.pos, .int .i64 k.e.size, .int .i64 k.e.off, .int .i64 k.e.time, .bool k.e.tomb] 28) = w0 := ⟨_, rfl⟩
  have hb0 : Below w.heap.size w w0 := by rw [← hw0]; exact (Below.refl _ _).alloc (Nat.le_refl _) _
  have HW0 : Hid (w.alloc (.cells #[.string k.key, .int .i64 k.e.seg, .int .i64 k.e.pos, .int .i64 k.e.size, .int .i64 k.e.off, .int .i64 k.e.time, .bool k.e.tomb] 28) = w0) := hw0
  have hwr : IntKind.i64.wrap (2 * ((lrr.length : Int) + 1)) = 2 * ((lrr.length : Int) + 1) := i64w _ (by omega) (by omega)
  obtain ⟨c0, c1, c2, c3, c4, c5, c6, c7, c8, c9⟩ := HNR.out w0 hb0
  clear h2 hnr
  go_enter Try.func72, Try.ntmps72
  go_wp2
  go_region_held3 (fun w' => w'.cell? ⟨gr, 9, none⟩ = some (.pointer prr)) (go_keep) (first
    | (go_at_call 71
       refine (HWM.out _ (by first | exact hb0 | exact Below.drew hb0)).mono ?_
       rintro e w1 ⟨rfl, rfl⟩)
    | (go_at_call 71
       refine (HWR.out _ (by first | exact hb0 | exact Below.drew hb0)).mono ?_
       rintro e w2 ⟨rfl, rfl⟩))
  obtain ⟨w1, hw1⟩ : ∃ w1, w0.drew = w1 := ⟨_, rfl⟩
  have hb1 : Below w.heap.size w w1 := by rw [← hw1]; exact Below.drew hb0
  have HOW : Hid (∀ u, Below w1.heap.size w1 u → KeAt u w.heap.size k) := fun u hu => by
    have h : KeAt w1 w.heap.size k := by rw [← hw1, ← HW0.out]; exact (KeAt.new w k).block rfl
    exact h.block (hu.block _ h.lt)
  have HPU : Hid (∀ u, Below w.heap.size w u → ∀ g, u.heap.size ≤ g → P g) := fun u hu g hg => hP g (Nat.le_trans hu.size hg)
  rw [hw1]
  clear c0 c1 c2 c3 c4 c5 c6 c7 c8 c9 HWM HWR
  obtain ⟨c0, c1, c2, c3, c4, c5, c6, c7, c8, c9⟩ := HNR.out w1 hb1
  obtain ⟨d0, d1, d2, d3, d4, d5, d6⟩ := HOW.out w1 (Below.refl _ _)
  by_cases hlt : (lrl.length : Int) + 1 < 2 * ((lrr.length : Int) + 1)
  · have HOV1 : Hid (∀ u, Below w.heap.size w u → Calls Try.prog 67 #[k.v, .pointer pl, .pointer prl] u (TreeRet P u (ll ++ k :: lrl))) := fun u hu => overOf k u (HPU.out u hu) hk (h1.later hu) (hl2.later hu) (by omega)
    have HOV2 : Hid (∀ u n p, Below w.heap.size w u → TreeAt P u n p (ll ++ k :: lrl) → Calls Try.prog 67 #[kr.v, .pointer p, .pointer prr] u (TreeRet P u ((ll ++ k :: lrl) ++ kr :: lrr))) := fun u n p hu ht => overOf kr u (HPU.out u hu) hkr ht (hr2.later hu) (by simp; omega)
    go_wp2
    go_region_held3 (fun w' => w'.cell? ⟨gr, 0, none⟩ = some (.string kr.key) ∧ w'.cell? ⟨gr, 1, none⟩ = some (.int .i64 kr.e.seg) ∧ w'.cell? ⟨gr, 2, none⟩ = some (.int .i64 kr.e.pos) ∧ w'.cell? ⟨gr, 3, none⟩ = some (.int .i64 kr.e.size) ∧ w'.cell? ⟨gr, 4, none⟩ = some (.int .i64 kr.e.off) ∧ w'.cell? ⟨gr, 5, none⟩ = some (.int .i64 kr.e.time) ∧ w'.cell? ⟨gr, 6, none⟩ = some (.bool kr.e.tomb) ∧ w'.cell? ⟨gr, 9, none⟩ = some (.pointer prr) ∧ w'.cell? ⟨w.heap.size, 0, none⟩ = some (.string k.key) ∧ w'.cell? ⟨w.heap.size, 1, none⟩ = some (.int .i64 k.e.seg) ∧ w'.cell? ⟨w.heap.size, 2, none⟩ = some (.int .i64 k.e.pos) ∧ w'.cell? ⟨w.heap.size, 3, none⟩ = some (.int .i64 k.e.size) ∧ w'.cell? ⟨w.heap.size, 4, none⟩ = some (.int .i64 k.e.off) ∧ w'.cell? ⟨w.heap.size, 5, none⟩ = some (.int .i64 k.e.time) ∧ w'.cell? ⟨w.heap.size, 6, none⟩ = some (.bool k.e.tomb)) (go_keep) (first
      | (go_at_call 67
         refine (HOV1.out _ (by first | exact hb1 | exact Below.drew hb1)).mono ?_
         rintro e w2 ⟨n2, p2, rfl, ht2, hb2⟩
         have hb12 : Below w1.heap.size w1 w2 := (Below.drew (Below.refl _ w1)).trans hb2
         have HB2 : Hid (Below w.heap.size w w2) := hb1.trans (hb12.mono hb1.size)
         have HT2 : Hid (TreeAt P w2 n2 p2 (ll ++ k :: lrl)) := ht2
         rcases HNR.out w2 HB2.out with ⟨a0, a1, a2, a3, a4, a5, a6, a7, a8, a9⟩
         rcases HOW.out w2 hb12 with ⟨b0, b1, b2, b3, b4, b5, b6⟩
         clear ht2 hb2 HOV1)
      | (go_at_call 67
         refine (HOV2.out _ _ _ HB2.out HT2.out).mono ?_
         rintro e w3 ⟨n3, p3, rfl, ht3, hb3⟩
         have HB3 : Hid (Below w.heap.size w w3) := HB2.out.trans (hb3.mono HB2.out.size)
         have HT3 : Hid (TreeAt P w3 n3 p3 ((ll ++ k :: lrl) ++ kr :: lrr)) := ht3
         rcases HNR.out w3 HB3.out with ⟨x0, x1, x2, x3, x4, x5, x6, x7, x8, x9⟩
         rcases (KeAt.mk b0 b1 b2 b3 b4 b5 b6).block (hb3.block _ (cell_lt b0)) with ⟨y0, y1, y2, y3, y4, y5, y6⟩
         clear ht3 hb3))
    go_wp2
    go_ret
    exact ⟨n3, p3, rfl, by have h := HT3.out; simpa using h, HB3.out⟩
  · cases hmp : prl with
    | none => rw [hmp] at hl2; have := hl2.none_is; subst this; simp at hlt; omega
    | some am =>
    rw [hmp] at hl2
    obtain ⟨mm, gm, km, pml, pmr, lml, lmr, hmm, rfl, hPm, hkm, hnm, hlm, hml, hmr⟩ := hl2.some_is
    subst hmp hlm
    have hlen2 : (lml ++ km :: lmr).length = lml.length + lmr.length + 1 := by simp; omega
    rw [hlen2] at hl hnm
    have HNM : Hid (∀ u, Below w.heap.size w u → NodeAt u gm km (lml.length + lmr.length + 1) pml pmr) := fun u hu => hnm.block (hu.block _ hnm.lt)
    have HOV1 : Hid (∀ u, Below w.heap.size w u → Calls Try.prog 67 #[k.v, .pointer pl, .pointer pml] u (TreeRet P u (ll ++ k :: lml))) := fun u hu => overOf k u (HPU.out u hu) hk (h1.later hu) (hml.later hu) (by omega)
    have HOV2 : Hid (∀ u, Below w.heap.size w u → Calls Try.prog 67 #[kr.v, .pointer pmr, .pointer prr] u (TreeRet P u (lmr ++ kr :: lrr))) := fun u hu => overOf kr u (HPU.out u hu) hkr (hmr.later hu) (hr2.later hu) (by omega)
    have HOV3 : Hid (∀ u n m p q, Below w.heap.size w u → TreeAt P u n p (ll ++ k :: lml) → TreeAt P u m q (lmr ++ kr :: lrr) → Calls Try.prog 67 #[km.v, .pointer p, .pointer q] u (TreeRet P u ((ll ++ k :: lml) ++ km :: (lmr ++ kr :: lrr)))) := fun u n m p q hu ht ht' => overOf km u (HPU.out u hu) hkm ht ht' (by simp; omega)
    obtain ⟨z0, z1, z2, z3, z4, z5, z6, z7, z8, z9⟩ := HNM.out w1 hb1
    clear hnm
    go_wp2
    go_region_held3 (fun w' => w'.cell? ⟨gm, 0, none⟩ = some (.string km.key) ∧ w'.cell? ⟨gm, 1, none⟩ = some (.int .i64 km.e.seg) ∧ w'.cell? ⟨gm, 2, none⟩ = some (.int .i64 km.e.pos) ∧ w'.cell? ⟨gm, 3, none⟩ = some (.int .i64 km.e.size) ∧ w'.cell? ⟨gm, 4, none⟩ = some (.int .i64 km.e.off) ∧ w'.cell? ⟨gm, 5, none⟩ = some (.int .i64 km.e.time) ∧ w'.cell? ⟨gm, 6, none⟩ = some (.bool km.e.tomb) ∧ w'.cell? ⟨gm, 8, none⟩ = some (.pointer pml) ∧ w'.cell? ⟨gm, 9, none⟩ = some (.pointer pmr) ∧ w'.cell? ⟨gr, 0, none⟩ = some (.string kr.key) ∧ w'.cell? ⟨gr, 1, none⟩ = some (.int .i64 kr.e.seg) ∧ w'.cell? ⟨gr, 2, none⟩ = some (.int .i64 kr.e.pos) ∧ w'.cell? ⟨gr, 3, none⟩ = some (.int .i64 kr.e.size) ∧ w'.cell? ⟨gr, 4, none⟩ = some (.int .i64 kr.e.off) ∧ w'.cell? ⟨gr, 5, none⟩ = some (.int .i64 kr.e.time) ∧ w'.cell? ⟨gr, 6, none⟩ = some (.bool kr.e.tomb) ∧ w'.cell? ⟨gr, 9, none⟩ = some (.pointer prr) ∧ w'.cell? ⟨w.heap.size, 0, none⟩ = some (.string k.key) ∧ w'.cell? ⟨w.heap.size, 1, none⟩ = some (.int .i64 k.e.seg) ∧ w'.cell? ⟨w.heap.size, 2, none⟩ = some (.int .i64 k.e.pos) ∧ w'.cell? ⟨w.heap.size, 3, none⟩ = some (.int .i64 k.e.size) ∧ w'.cell? ⟨w.heap.size, 4, none⟩ = some (.int .i64 k.e.off) ∧ w'.cell? ⟨w.heap.size, 5, none⟩ = some (.int .i64 k.e.time) ∧ w'.cell? ⟨w.heap.size, 6, none⟩ = some (.bool k.e.tomb)) (go_keep) (first
      | (go_at_call 67
         refine (HOV1.out _ (by first | exact hb1 | exact Below.drew hb1)).mono ?_
         rintro e w2 ⟨n2, p2, rfl, ht2, hb2⟩
         have hb12 : Below w1.heap.size w1 w2 := (Below.drew (Below.refl _ w1)).trans hb2
         have HB2 : Hid (Below w.heap.size w w2) := hb1.trans (hb12.mono hb1.size)
         have HT2 : Hid (TreeAt P w2 n2 p2 (ll ++ k :: lml)) := ht2
         rcases HNR.out w2 HB2.out with ⟨a0, a1, a2, a3, a4, a5, a6, a7, a8, a9⟩
         rcases HNM.out w2 HB2.out with ⟨e0, e1, e2, e3, e4, e5, e6, e7, e8, e9⟩
         rcases HOW.out w2 hb12 with ⟨b0, b1, b2, b3, b4, b5, b6⟩
         clear ht2 hb2 HOV1)
      | (go_at_call 67
         refine (HOV2.out _ HB2.out).mono ?_
         rintro e w3 ⟨n3, p3, rfl, ht3, hb3⟩
         have HB3 : Hid (Below w.heap.size w w3) := HB2.out.trans (hb3.mono HB2.out.size)
         have HT23 : Hid (TreeAt P w3 n2 p2 (ll ++ k :: lml)) := HT2.out.later hb3
         have HT3 : Hid (TreeAt P w3 n3 p3 (lmr ++ kr :: lrr)) := ht3
         rcases HNR.out w3 HB3.out with ⟨x0, x1, x2, x3, x4, x5, x6, x7, x8, x9⟩
         rcases HNM.out w3 HB3.out with ⟨f0, f1, f2, f3, f4, f5, f6, f7, f8, f9⟩
         rcases (KeAt.mk b0 b1 b2 b3 b4 b5 b6).block (hb3.block _ (cell_lt b0)) with ⟨y0, y1, y2, y3, y4, y5, y6⟩
         clear ht3 hb3 HOV2)
      | (go_at_call 67
         refine (HOV3.out _ _ _ _ _ HB3.out HT23.out HT3.out).mono ?_
         rintro e w4 ⟨n4, p4, rfl, ht4, hb4⟩
         have HB4 : Hid (Below w.heap.size w w4) := HB3.out.trans (hb4.mono HB3.out.size)
         have HT4 : Hid (TreeAt P w4 n4 p4 ((ll ++ k :: lml) ++ km :: (lmr ++ kr :: lrr))) := ht4
         rcases HNR.out w4 HB4.out with ⟨r0, r1, r2, r3, r4, r5, r6, r7, r8, r9⟩
         rcases HNM.out w4 HB4.out with ⟨s0, s1, s2, s3, s4, s5, s6, s7, s8, s9⟩
         rcases (KeAt.mk y0 y1 y2 y3 y4 y5 y6).block (hb4.block _ (cell_lt y0)) with ⟨t0, t1, t2, t3, t4, t5, t6⟩
         clear ht4 hb4))
    go_wp2
    go_ret
    exact ⟨n4, p4, rfl, by have h := HT4.out; simpa using h, HB4.out⟩

set_option maxHeartbeats 4000000 in
theorem turnROf {P : Nat → Prop} {n m : Nat} {pl pr : Option Addr} {ll lr : List Ke} (k : Ke) (w : World) (hP : ∀ g, w.heap.size ≤ g → P g) (hk : k.key.size ≤ 64) (h1 : TreeAt P w n pl ll) (h2 : TreeAt P w m pr lr) (hl : ll.length + lr.length ≤ 1125899906842623) (hgt : 2 ≤ ll.length) :
    Calls Try.prog 73 #[k.v, .pointer pl, .pointer pr] w (TreeRet P w (ll ++ k :: lr)) := by
  cases pl with
  | none => have := h1.none_is; subst this; simp at hgt
  | some ar =>
  obtain ⟨m', gr, kr, prl, prr, lrl, lrr, rfl, rfl, hPr, hkr, hnr, rfl, hl2, hr2⟩ := h1.some_is
  have hlen : (lrl ++ kr :: lrr).length = lrl.length + lrr.length + 1 := by simp; omega
  rw [hlen] at hl hgt hnr
  have HNR : Hid (∀ u, Below w.heap.size w u → NodeAt u gr kr (lrl.length + lrr.length + 1) prl prr) := fun u hu => hnr.block (hu.block _ hnr.lt)
  have HWM : Hid (∀ u, Below w.heap.size w u → Calls Try.prog 71 #[.pointer prr] u fun e w' => e = .returned (.int .i64 (lrr.length + 1)) ∧ w' = u) := fun u hu => weightOf u (hr2.later hu) (by omega)
  have HWR : Hid (∀ u, Below w.heap.size w u → Calls Try.prog 71 #[.pointer prl] u fun e w' => e = .returned (.int .i64 (lrl.length + 1)) ∧ w' = u) := fun u hu => weightOf u (hl2.later hu) (by omega)
  obtain ⟨w0, hw0⟩ : ∃ w0, w.alloc (.cells #[.string k.key, .int .i64 k.e.seg, .int .i64 k.e.pos, .int .i64 k.e.size, .int .i64 k.e.off, .int .i64 k.e.time, .bool k.e.tomb] 28) = w0 := ⟨_, rfl⟩
  have hb0 : Below w.heap.size w w0 := by rw [← hw0]; exact (Below.refl _ _).alloc (Nat.le_refl _) _
  have HW0 : Hid (w.alloc (.cells #[.string k.key, .int .i64 k.e.seg, .int .i64 k.e.pos, .int .i64 k.e.size, .int .i64 k.e.off, .int .i64 k.e.time, .bool k.e.tomb] 28) = w0) := hw0
  have hwr : IntKind.i64.wrap (2 * ((lrl.length : Int) + 1)) = 2 * ((lrl.length : Int) + 1) := i64w _ (by omega) (by omega)
  obtain ⟨c0, c1, c2, c3, c4, c5, c6, c7, c8, c9⟩ := HNR.out w0 hb0
  clear h1 hnr
  go_enter Try.func73, Try.ntmps73
  go_wp2
  go_region_held3 (fun w' => w'.cell? ⟨gr, 8, none⟩ = some (.pointer prl)) (go_keep) (first
    | (go_at_call 71
       refine (HWM.out _ (by first | exact hb0 | exact Below.drew hb0)).mono ?_
       rintro e w1 ⟨rfl, rfl⟩)
    | (go_at_call 71
       refine (HWR.out _ (by first | exact hb0 | exact Below.drew hb0)).mono ?_
       rintro e w2 ⟨rfl, rfl⟩))
  obtain ⟨w1, hw1⟩ : ∃ w1, w0.drew = w1 := ⟨_, rfl⟩
  have hb1 : Below w.heap.size w w1 := by rw [← hw1]; exact Below.drew hb0
  have HOW : Hid (∀ u, Below w1.heap.size w1 u → KeAt u w.heap.size k) := fun u hu => by
    have h : KeAt w1 w.heap.size k := by rw [← hw1, ← HW0.out]; exact (KeAt.new w k).block rfl
    exact h.block (hu.block _ h.lt)
  have HPU : Hid (∀ u, Below w.heap.size w u → ∀ g, u.heap.size ≤ g → P g) := fun u hu g hg => hP g (Nat.le_trans hu.size hg)
  rw [hw1]
  clear c0 c1 c2 c3 c4 c5 c6 c7 c8 c9 HWM HWR
  obtain ⟨c0, c1, c2, c3, c4, c5, c6, c7, c8, c9⟩ := HNR.out w1 hb1
  obtain ⟨d0, d1, d2, d3, d4, d5, d6⟩ := HOW.out w1 (Below.refl _ _)
  by_cases hlt : (lrr.length : Int) + 1 < 2 * ((lrl.length : Int) + 1)
  · have HOV1 : Hid (∀ u, Below w.heap.size w u → Calls Try.prog 67 #[k.v, .pointer prr, .pointer pr] u (TreeRet P u (lrr ++ k :: lr))) := fun u hu => overOf k u (HPU.out u hu) hk (hr2.later hu) (h2.later hu) (by omega)
    have HOV2 : Hid (∀ u n p, Below w.heap.size w u → TreeAt P u n p (lrr ++ k :: lr) → Calls Try.prog 67 #[kr.v, .pointer prl, .pointer p] u (TreeRet P u (lrl ++ kr :: (lrr ++ k :: lr)))) := fun u n p hu ht => overOf kr u (HPU.out u hu) hkr (hl2.later hu) ht (by simp; omega)
    go_wp2
    go_region_held3 (fun w' => w'.cell? ⟨gr, 0, none⟩ = some (.string kr.key) ∧ w'.cell? ⟨gr, 1, none⟩ = some (.int .i64 kr.e.seg) ∧ w'.cell? ⟨gr, 2, none⟩ = some (.int .i64 kr.e.pos) ∧ w'.cell? ⟨gr, 3, none⟩ = some (.int .i64 kr.e.size) ∧ w'.cell? ⟨gr, 4, none⟩ = some (.int .i64 kr.e.off) ∧ w'.cell? ⟨gr, 5, none⟩ = some (.int .i64 kr.e.time) ∧ w'.cell? ⟨gr, 6, none⟩ = some (.bool kr.e.tomb) ∧ w'.cell? ⟨gr, 8, none⟩ = some (.pointer prl) ∧ w'.cell? ⟨w.heap.size, 0, none⟩ = some (.string k.key) ∧ w'.cell? ⟨w.heap.size, 1, none⟩ = some (.int .i64 k.e.seg) ∧ w'.cell? ⟨w.heap.size, 2, none⟩ = some (.int .i64 k.e.pos) ∧ w'.cell? ⟨w.heap.size, 3, none⟩ = some (.int .i64 k.e.size) ∧ w'.cell? ⟨w.heap.size, 4, none⟩ = some (.int .i64 k.e.off) ∧ w'.cell? ⟨w.heap.size, 5, none⟩ = some (.int .i64 k.e.time) ∧ w'.cell? ⟨w.heap.size, 6, none⟩ = some (.bool k.e.tomb)) (go_keep) (first
      | (go_at_call 67
         refine (HOV1.out _ (by first | exact hb1 | exact Below.drew hb1)).mono ?_
         rintro e w2 ⟨n2, p2, rfl, ht2, hb2⟩
         have hb12 : Below w1.heap.size w1 w2 := (Below.drew (Below.refl _ w1)).trans hb2
         have HB2 : Hid (Below w.heap.size w w2) := hb1.trans (hb12.mono hb1.size)
         have HT2 : Hid (TreeAt P w2 n2 p2 (lrr ++ k :: lr)) := ht2
         rcases HNR.out w2 HB2.out with ⟨a0, a1, a2, a3, a4, a5, a6, a7, a8, a9⟩
         rcases HOW.out w2 hb12 with ⟨b0, b1, b2, b3, b4, b5, b6⟩
         clear ht2 hb2 HOV1)
      | (go_at_call 67
         refine (HOV2.out _ _ _ HB2.out HT2.out).mono ?_
         rintro e w3 ⟨n3, p3, rfl, ht3, hb3⟩
         have HB3 : Hid (Below w.heap.size w w3) := HB2.out.trans (hb3.mono HB2.out.size)
         have HT3 : Hid (TreeAt P w3 n3 p3 (lrl ++ kr :: (lrr ++ k :: lr))) := ht3
         rcases HNR.out w3 HB3.out with ⟨x0, x1, x2, x3, x4, x5, x6, x7, x8, x9⟩
         rcases (KeAt.mk b0 b1 b2 b3 b4 b5 b6).block (hb3.block _ (cell_lt b0)) with ⟨y0, y1, y2, y3, y4, y5, y6⟩
         clear ht3 hb3))
    go_wp2
    go_ret
    exact ⟨n3, p3, rfl, by have h := HT3.out; simpa using h, HB3.out⟩
  · cases hmp : prr with
    | none => rw [hmp] at hr2; have := hr2.none_is; subst this; simp at hlt; omega
    | some am =>
    rw [hmp] at hr2
    obtain ⟨mm, gm, km, pml, pmr, lml, lmr, hmm, rfl, hPm, hkm, hnm, hlm, hml, hmr⟩ := hr2.some_is
    subst hmp hlm
    have hlen2 : (lml ++ km :: lmr).length = lml.length + lmr.length + 1 := by simp; omega
    rw [hlen2] at hl hnm
    have HNM : Hid (∀ u, Below w.heap.size w u → NodeAt u gm km (lml.length + lmr.length + 1) pml pmr) := fun u hu => hnm.block (hu.block _ hnm.lt)
    have HOV1 : Hid (∀ u, Below w.heap.size w u → Calls Try.prog 67 #[kr.v, .pointer prl, .pointer pml] u (TreeRet P u (lrl ++ kr :: lml))) := fun u hu => overOf kr u (HPU.out u hu) hkr (hl2.later hu) (hml.later hu) (by omega)
    have HOV2 : Hid (∀ u, Below w.heap.size w u → Calls Try.prog 67 #[k.v, .pointer pmr, .pointer pr] u (TreeRet P u (lmr ++ k :: lr))) := fun u hu => overOf k u (HPU.out u hu) hk (hmr.later hu) (h2.later hu) (by omega)
    have HOV3 : Hid (∀ u n m p q, Below w.heap.size w u → TreeAt P u n p (lrl ++ kr :: lml) → TreeAt P u m q (lmr ++ k :: lr) → Calls Try.prog 67 #[km.v, .pointer p, .pointer q] u (TreeRet P u ((lrl ++ kr :: lml) ++ km :: (lmr ++ k :: lr)))) := fun u n m p q hu ht ht' => overOf km u (HPU.out u hu) hkm ht ht' (by simp; omega)
    obtain ⟨z0, z1, z2, z3, z4, z5, z6, z7, z8, z9⟩ := HNM.out w1 hb1
    clear hnm
    go_wp2
    go_region_held3 (fun w' => w'.cell? ⟨gm, 0, none⟩ = some (.string km.key) ∧ w'.cell? ⟨gm, 1, none⟩ = some (.int .i64 km.e.seg) ∧ w'.cell? ⟨gm, 2, none⟩ = some (.int .i64 km.e.pos) ∧ w'.cell? ⟨gm, 3, none⟩ = some (.int .i64 km.e.size) ∧ w'.cell? ⟨gm, 4, none⟩ = some (.int .i64 km.e.off) ∧ w'.cell? ⟨gm, 5, none⟩ = some (.int .i64 km.e.time) ∧ w'.cell? ⟨gm, 6, none⟩ = some (.bool km.e.tomb) ∧ w'.cell? ⟨gm, 8, none⟩ = some (.pointer pml) ∧ w'.cell? ⟨gm, 9, none⟩ = some (.pointer pmr) ∧ w'.cell? ⟨gr, 0, none⟩ = some (.string kr.key) ∧ w'.cell? ⟨gr, 1, none⟩ = some (.int .i64 kr.e.seg) ∧ w'.cell? ⟨gr, 2, none⟩ = some (.int .i64 kr.e.pos) ∧ w'.cell? ⟨gr, 3, none⟩ = some (.int .i64 kr.e.size) ∧ w'.cell? ⟨gr, 4, none⟩ = some (.int .i64 kr.e.off) ∧ w'.cell? ⟨gr, 5, none⟩ = some (.int .i64 kr.e.time) ∧ w'.cell? ⟨gr, 6, none⟩ = some (.bool kr.e.tomb) ∧ w'.cell? ⟨gr, 8, none⟩ = some (.pointer prl) ∧ w'.cell? ⟨w.heap.size, 0, none⟩ = some (.string k.key) ∧ w'.cell? ⟨w.heap.size, 1, none⟩ = some (.int .i64 k.e.seg) ∧ w'.cell? ⟨w.heap.size, 2, none⟩ = some (.int .i64 k.e.pos) ∧ w'.cell? ⟨w.heap.size, 3, none⟩ = some (.int .i64 k.e.size) ∧ w'.cell? ⟨w.heap.size, 4, none⟩ = some (.int .i64 k.e.off) ∧ w'.cell? ⟨w.heap.size, 5, none⟩ = some (.int .i64 k.e.time) ∧ w'.cell? ⟨w.heap.size, 6, none⟩ = some (.bool k.e.tomb)) (go_keep) (first
      | (go_at_call 67
         refine (HOV1.out _ (by first | exact hb1 | exact Below.drew hb1)).mono ?_
         rintro e w2 ⟨n2, p2, rfl, ht2, hb2⟩
         have hb12 : Below w1.heap.size w1 w2 := (Below.drew (Below.refl _ w1)).trans hb2
         have HB2 : Hid (Below w.heap.size w w2) := hb1.trans (hb12.mono hb1.size)
         have HT2 : Hid (TreeAt P w2 n2 p2 (lrl ++ kr :: lml)) := ht2
         rcases HNR.out w2 HB2.out with ⟨a0, a1, a2, a3, a4, a5, a6, a7, a8, a9⟩
         rcases HNM.out w2 HB2.out with ⟨e0, e1, e2, e3, e4, e5, e6, e7, e8, e9⟩
         rcases HOW.out w2 hb12 with ⟨b0, b1, b2, b3, b4, b5, b6⟩
         clear ht2 hb2 HOV1)
      | (go_at_call 67
         refine (HOV2.out _ HB2.out).mono ?_
         rintro e w3 ⟨n3, p3, rfl, ht3, hb3⟩
         have HB3 : Hid (Below w.heap.size w w3) := HB2.out.trans (hb3.mono HB2.out.size)
         have HT23 : Hid (TreeAt P w3 n2 p2 (lrl ++ kr :: lml)) := HT2.out.later hb3
         have HT3 : Hid (TreeAt P w3 n3 p3 (lmr ++ k :: lr)) := ht3
         rcases HNR.out w3 HB3.out with ⟨x0, x1, x2, x3, x4, x5, x6, x7, x8, x9⟩
         rcases HNM.out w3 HB3.out with ⟨f0, f1, f2, f3, f4, f5, f6, f7, f8, f9⟩
         rcases (KeAt.mk b0 b1 b2 b3 b4 b5 b6).block (hb3.block _ (cell_lt b0)) with ⟨y0, y1, y2, y3, y4, y5, y6⟩
         clear ht3 hb3 HOV2)
      | (go_at_call 67
         refine (HOV3.out _ _ _ _ _ HB3.out HT23.out HT3.out).mono ?_
         rintro e w4 ⟨n4, p4, rfl, ht4, hb4⟩
         have HB4 : Hid (Below w.heap.size w w4) := HB3.out.trans (hb4.mono HB3.out.size)
         have HT4 : Hid (TreeAt P w4 n4 p4 ((lrl ++ kr :: lml) ++ km :: (lmr ++ k :: lr))) := ht4
         rcases HNR.out w4 HB4.out with ⟨r0, r1, r2, r3, r4, r5, r6, r7, r8, r9⟩
         rcases HNM.out w4 HB4.out with ⟨s0, s1, s2, s3, s4, s5, s6, s7, s8, s9⟩
         rcases (KeAt.mk y0 y1 y2 y3 y4 y5 y6).block (hb4.block _ (cell_lt y0)) with ⟨t0, t1, t2, t3, t4, t5, t6⟩
         clear ht4 hb4))
    go_wp2
    go_ret
    exact ⟨n4, p4, rfl, by have h := HT4.out; simpa using h, HB4.out⟩

end Go.Proofs.Ythfnbcicpcbgjaa
