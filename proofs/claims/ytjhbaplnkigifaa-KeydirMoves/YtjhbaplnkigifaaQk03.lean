import Derived.Test.YtjhbaplnkigifaaQk02
import Derived.Deep.RegionHeld3
import Derived.Test.YtjhbaplnkigifaaQk01
/-! keydir: nodes are turned, and put into balance. -/
namespace Go.Proofs.Ytjhbaplnkigifaa
open Go.RowKit Plain
set_option linter.unusedVariables false

/-- The cells of a key and its entry, at the beginning of a block. -/
structure KeAt (w : World) (g : Nat) (k : Ke) : Prop where
  c0 : w.cell? ⟨g, 0, none⟩ = some (.string k.key)
  c1 : w.cell? ⟨g, 1, none⟩ = some (.int .i64 k.e.seg)
  c2 : w.cell? ⟨g, 2, none⟩ = some (.int .i64 k.e.pos)
  c3 : w.cell? ⟨g, 3, none⟩ = some (.int .i64 k.e.size)
  c4 : w.cell? ⟨g, 4, none⟩ = some (.int .i64 k.e.off)
  c5 : w.cell? ⟨g, 5, none⟩ = some (.int .i64 k.e.time)
  c6 : w.cell? ⟨g, 6, none⟩ = some (.bool k.e.tomb)
theorem KeAt.lt {w : World} {g : Nat} {k : Ke} (h : KeAt w g k) : g < w.heap.size := cell_lt h.c0
theorem KeAt.block {w w' : World} {g : Nat} {k : Ke} (h : KeAt w g k) (e : w'.heap[g]? = w.heap[g]?) : KeAt w' g k := by
  have hc : ∀ (i : Nat), w'.cell? ⟨g, i, none⟩ = w.cell? ⟨g, i, none⟩ := fun i => World.cell?_of_block (w := w) e
  exact ⟨(hc 0).trans h.c0, (hc 1).trans h.c1, (hc 2).trans h.c2, (hc 3).trans h.c3, (hc 4).trans h.c4, (hc 5).trans h.c5, (hc 6).trans h.c6⟩
theorem KeAt.new (w : World) (k : Ke) : KeAt (w.alloc (.cells #[.string k.key, .int .i64 k.e.seg, .int .i64 k.e.pos, .int .i64 k.e.size, .int .i64 k.e.off, .int .i64 k.e.time, .bool k.e.tomb] 58)) w.heap.size k := by
  constructor <;> exact World.cell?_alloc_at _ _ _ _ rfl

set_option maxHeartbeats 4000000 in
theorem turnLOf {P : Nat → Prop} {n m : Nat} {pl pr : Option Addr} {ll lr : List Ke} (k : Ke) (w : World) (hP : ∀ g, w.heap.size ≤ g → P g) (hk : k.key.size ≤ 64) (h1 : TreeAt P w n pl ll) (h2 : TreeAt P w m pr lr) (hl : ll.length + lr.length ≤ 1125899906842623) (hgt : 2 ≤ lr.length) :
    Calls Try.prog 62 #[k.v, .pointer pl, .pointer pr] w (TreeRet P w (ll ++ k :: lr)) := by
  cases pr with
  | none => have := h2.none_is; subst this; simp at hgt
  | some ar =>
  obtain ⟨m', gr, kr, prl, prr, lrl, lrr, rfl, rfl, hPr, hkr, hnr, rfl, hl2, hr2⟩ := h2.some_is
  have hlen : (lrl ++ kr :: lrr).length = lrl.length + lrr.length + 1 := by simp; omega
  rw [hlen] at hl hgt hnr
  have HNR : Hid (∀ u, Below w.heap.size w u → NodeAt u gr kr (lrl.length + lrr.length + 1) prl prr) := fun u hu => hnr.block (hu.block _ hnr.lt)
  have HWM : Hid (∀ u, Below w.heap.size w u → Calls Try.prog 61 #[.pointer prl] u fun e w' => e = .returned (.int .i64 (lrl.length + 1)) ∧ w' = u) := fun u hu => weightOf u (hl2.later hu) (by omega)
  have HWR : Hid (∀ u, Below w.heap.size w u → Calls Try.prog 61 #[.pointer prr] u fun e w' => e = .returned (.int .i64 (lrr.length + 1)) ∧ w' = u) := fun u hu => weightOf u (hr2.later hu) (by omega)
  obtain ⟨w0, hw0⟩ : ∃ w0, w.alloc (.cells #[.string k.key, .int .i64 k.e.seg, .int .i64 k.e.pos, .int .i64 k.e.size, .int .i64 k.e.off, .int .i64 k.e.time, .bool k.e.tomb] 58) = w0 := ⟨_, rfl⟩
  have hb0 : Below w.heap.size w w0 := by rw [← hw0]; exact (Below.refl _ _).alloc (Nat.le_refl _) _
  have HW0 : Hid (w.alloc (.cells #[.string k.key, .int .i64 k.e.seg, .int .i64 k.e.pos, .int .i64 k.e.size, .int .i64 k.e.off, .int .i64 k.e.time, .bool k.e.tomb] 58) = w0) := hw0
  have hwr : IntKind.i64.wrap (2 * ((lrr.length : Int) + 1)) = 2 * ((lrr.length : Int) + 1) := i64w _ (by omega) (by omega)
  obtain ⟨c0, c1, c2, c3, c4, c5, c6, c7, c8, c9⟩ := HNR.out w0 hb0
  clear h2 hnr
  go_enter Try.func62, Try.ntmps62
  go_wp2
  go_region_held3 (fun w' => w'.cell? ⟨gr, 9, none⟩ = some (.pointer prr)) (go_keep) (first
    | (go_at_call 61
       refine (HWM.out _ (by first | exact hb0 | exact Below.drew hb0)).mono ?_
       rintro e w1 ⟨rfl, rfl⟩)
    | (go_at_call 61
       refine (HWR.out _ (by first | exact hb0 | exact Below.drew hb0)).mono ?_
       rintro e w2 ⟨rfl, rfl⟩))
  obtain ⟨w1, hw1⟩ : ∃ w1, w0.drew = w1 := ⟨_, rfl⟩
  have hb1 : Below w.heap.size w w1 := by rw [← hw1]; exact Below.drew hb0
  have HOW : Hid (∀ u, Below w1.heap.size w1 u → KeAt u w.heap.size k) := fun u hu => by
    have h : KeAt w1 w.heap.size k := by rw [← hw1, ← HW0.out]; exact (KeAt.new w k).block rfl
    exact h.block (hu.block _ h.lt)
  have HPU : Hid (∀ u, Below w.heap.size w u → ∀ g, u.heap.size ≤ g → P g) := fun u hu g hg => hP g (Nat.le_trans hu.size hg)
  rw [hw1]
  clear c0 c1 c2 c3 c4 c5 c6 c7 c8 c9 HWM HWR
  obtain ⟨c0, c1, c2, c3, c4, c5, c6, c7, c8, c9⟩ := HNR.out w1 hb1
  obtain ⟨d0, d1, d2, d3, d4, d5, d6⟩ := HOW.out w1 (Below.refl _ _)
  by_cases hlt : (lrl.length : Int) + 1 < 2 * ((lrr.length : Int) + 1)
  · have HOV1 : Hid (∀ u, Below w.heap.size w u → Calls Try.prog 51 #[k.v, .pointer pl, .pointer prl] u (TreeRet P u (ll ++ k :: lrl))) := fun u hu => overOf k u (HPU.out u hu) hk (h1.later hu) (hl2.later hu) (by omega)
    have HOV2 : Hid (∀ u n p, Below w.heap.size w u → TreeAt P u n p (ll ++ k :: lrl) → Calls Try.prog 51 #[kr.v, .pointer p, .pointer prr] u (TreeRet P u ((ll ++ k :: lrl) ++ kr :: lrr))) := fun u n p hu ht => overOf kr u (HPU.out u hu) hkr ht (hr2.later hu) (by simp; omega)
    go_wp2
    go_region_held3 (fun w' => w'.cell? ⟨gr, 0, none⟩ = some (.string kr.key) ∧ w'.cell? ⟨gr, 1, none⟩ = some (.int .i64 kr.e.seg) ∧ w'.cell? ⟨gr, 2, none⟩ = some (.int .i64 kr.e.pos) ∧ w'.cell? ⟨gr, 3, none⟩ = some (.int .i64 kr.e.size) ∧ w'.cell? ⟨gr, 4, none⟩ = some (.int .i64 kr.e.off) ∧ w'.cell? ⟨gr, 5, none⟩ = some (.int .i64 kr.e.time) ∧ w'.cell? ⟨gr, 6, none⟩ = some (.bool kr.e.tomb) ∧ w'.cell? ⟨gr, 9, none⟩ = some (.pointer prr) ∧ w'.cell? ⟨w.heap.size, 0, none⟩ = some (.string k.key) ∧ w'.cell? ⟨w.heap.size, 1, none⟩ = some (.int .i64 k.e.seg) ∧ w'.cell? ⟨w.heap.size, 2, none⟩ = some (.int .i64 k.e.pos) ∧ w'.cell? ⟨w.heap.size, 3, none⟩ = some (.int .i64 k.e.size) ∧ w'.cell? ⟨w.heap.size, 4, none⟩ = some (.int .i64 k.e.off) ∧ w'.cell? ⟨w.heap.size, 5, none⟩ = some (.int .i64 k.e.time) ∧ w'.cell? ⟨w.heap.size, 6, none⟩ = some (.bool k.e.tomb)) (go_keep) (first
      | (go_at_call 51
         refine (HOV1.out _ (by first | exact hb1 | exact Below.drew hb1)).mono ?_
         rintro e w2 ⟨n2, p2, rfl, ht2, hb2⟩
         have hb12 : Below w1.heap.size w1 w2 := (Below.drew (Below.refl _ w1)).trans hb2
         have HB2 : Hid (Below w.heap.size w w2) := hb1.trans (hb12.mono hb1.size)
         have HT2 : Hid (TreeAt P w2 n2 p2 (ll ++ k :: lrl)) := ht2
         rcases HNR.out w2 HB2.out with ⟨a0, a1, a2, a3, a4, a5, a6, a7, a8, a9⟩
         rcases HOW.out w2 hb12 with ⟨b0, b1, b2, b3, b4, b5, b6⟩
         clear ht2 hb2 HOV1)
      | (go_at_call 51
         refine (HOV2.out _ _ _ HB2.out HT2.out).mono ?_
         rintro e w3 ⟨n3, p3, rfl, ht3, hb3⟩
         have HB3 : Hid (Below w.heap.size w w3) := HB2.out.trans (hb3.mono HB2.out.size)
         have HT3 : Hid (TreeAt P w3 n3 p3 ((ll ++ k :: lrl) ++ kr :: lrr)) := ht3
         rcases HNR.out w3 HB3.out with ⟨x0, x1, x2, x3, x4, x5, x6, x7, x8, x9⟩
         rcases (KeAt.mk b0 b1 b2 b3 b4 b5 b6).block (hb3.block _ (cell_lt b0)) with ⟨y0, y1, y2, y3, y4, y5, y6⟩
         clear ht3 hb3))
    go_wp2
    go_ret
    exact ⟨n3, p3, rfl, by have h := HT3.out; simpa using h, HB3.out⟩
  · cases hmp : prl with
    | none => rw [hmp] at hl2; have := hl2.none_is; subst this; simp at hlt; omega
    | some am =>
    rw [hmp] at hl2
    obtain ⟨mm, gm, km, pml, pmr, lml, lmr, hmm, rfl, hPm, hkm, hnm, hlm, hml, hmr⟩ := hl2.some_is
    subst hmp hlm
    have hlen2 : (lml ++ km :: lmr).length = lml.length + lmr.length + 1 := by simp; omega
    rw [hlen2] at hl hnm
    have HNM : Hid (∀ u, Below w.heap.size w u → NodeAt u gm km (lml.length + lmr.length + 1) pml pmr) := fun u hu => hnm.block (hu.block _ hnm.lt)
    have HOV1 : Hid (∀ u, Below w.heap.size w u → Calls Try.prog 51 #[k.v, .pointer pl, .pointer pml] u (TreeRet P u (ll ++ k :: lml))) := fun u hu => overOf k u (HPU.out u hu) hk (h1.later hu) (hml.later hu) (by omega)
    have HOV2 : Hid (∀ u, Below w.heap.size w u → Calls Try.prog 51 #[kr.v, .pointer pmr, .pointer prr] u (TreeRet P u (lmr ++ kr :: lrr))) := fun u hu => overOf kr u (HPU.out u hu) hkr (hmr.later hu) (hr2.later hu) (by omega)
    have HOV3 : Hid (∀ u n m p q, Below w.heap.size w u → TreeAt P u n p (ll ++ k :: lml) → TreeAt P u m q (lmr ++ kr :: lrr) → Calls Try.prog 51 #[km.v, .pointer p, .pointer q] u (TreeRet P u ((ll ++ k :: lml) ++ km :: (lmr ++ kr :: lrr)))) := fun u n m p q hu ht ht' => overOf km u (HPU.out u hu) hkm ht ht' (by simp; omega)
    obtain ⟨z0, z1, z2, z3, z4, z5, z6, z7, z8, z9⟩ := HNM.out w1 hb1
    clear hnm
    go_wp2
    go_region_held3 (fun w' => w'.cell? ⟨gm, 0, none⟩ = some (.string km.key) ∧ w'.cell? ⟨gm, 1, none⟩ = some (.int .i64 km.e.seg) ∧ w'.cell? ⟨gm, 2, none⟩ = some (.int .i64 km.e.pos) ∧ w'.cell? ⟨gm, 3, none⟩ = some (.int .i64 km.e.size) ∧ w'.cell? ⟨gm, 4, none⟩ = some (.int .i64 km.e.off) ∧ w'.cell? ⟨gm, 5, none⟩ = some (.int .i64 km.e.time) ∧ w'.cell? ⟨gm, 6, none⟩ = some (.bool km.e.tomb) ∧ w'.cell? ⟨gm, 8, none⟩ = some (.pointer pml) ∧ w'.cell? ⟨gm, 9, none⟩ = some (.pointer pmr) ∧ w'.cell? ⟨gr, 0, none⟩ = some (.string kr.key) ∧ w'.cell? ⟨gr, 1, none⟩ = some (.int .i64 kr.e.seg) ∧ w'.cell? ⟨gr, 2, none⟩ = some (.int .i64 kr.e.pos) ∧ w'.cell? ⟨gr, 3, none⟩ = some (.int .i64 kr.e.size) ∧ w'.cell? ⟨gr, 4, none⟩ = some (.int .i64 kr.e.off) ∧ w'.cell? ⟨gr, 5, none⟩ = some (.int .i64 kr.e.time) ∧ w'.cell? ⟨gr, 6, none⟩ = some (.bool kr.e.tomb) ∧ w'.cell? ⟨gr, 9, none⟩ = some (.pointer prr) ∧ w'.cell? ⟨w.heap.size, 0, none⟩ = some (.string k.key) ∧ w'.cell? ⟨w.heap.size, 1, none⟩ = some (.int .i64 k.e.seg) ∧ w'.cell? ⟨w.heap.size, 2, none⟩ = some (.int .i64 k.e.pos) ∧ w'.cell? ⟨w.heap.size, 3, none⟩ = some (.int .i64 k.e.size) ∧ w'.cell? ⟨w.heap.size, 4, none⟩ = some (.int .i64 k.e.off) ∧ w'.cell? ⟨w.heap.size, 5, none⟩ = some (.int .i64 k.e.time) ∧ w'.cell? ⟨w.heap.size, 6, none⟩ = some (.bool k.e.tomb)) (go_keep) (first
      | (go_at_call 51
         refine (HOV1.out _ (by first | exact hb1 | exact Below.drew hb1)).mono ?_
         rintro e w2 ⟨n2, p2, rfl, ht2, hb2⟩
         have hb12 : Below w1.heap.size w1 w2 := (Below.drew (Below.refl _ w1)).trans hb2
         have HB2 : Hid (Below w.heap.size w w2) := hb1.trans (hb12.mono hb1.size)
         have HT2 : Hid (TreeAt P w2 n2 p2 (ll ++ k :: lml)) := ht2
         rcases HNR.out w2 HB2.out with ⟨a0, a1, a2, a3, a4, a5, a6, a7, a8, a9⟩
         rcases HNM.out w2 HB2.out with ⟨e0, e1, e2, e3, e4, e5, e6, e7, e8, e9⟩
         rcases HOW.out w2 hb12 with ⟨b0, b1, b2, b3, b4, b5, b6⟩
         clear ht2 hb2 HOV1)
      | (go_at_call 51
         refine (HOV2.out _ HB2.out).mono ?_
         rintro e w3 ⟨n3, p3, rfl, ht3, hb3⟩
         have HB3 : Hid (Below w.heap.size w w3) := HB2.out.trans (hb3.mono HB2.out.size)
         have HT23 : Hid (TreeAt P w3 n2 p2 (ll ++ k :: lml)) := HT2.out.later hb3
         have HT3 : Hid (TreeAt P w3 n3 p3 (lmr ++ kr :: lrr)) := ht3
         rcases HNR.out w3 HB3.out with ⟨x0, x1, x2, x3, x4, x5, x6, x7, x8, x9⟩
         rcases HNM.out w3 HB3.out with ⟨f0, f1, f2, f3, f4, f5, f6, f7, f8, f9⟩
         rcases (KeAt.mk b0 b1 b2 b3 b4 b5 b6).block (hb3.block _ (cell_lt b0)) with ⟨y0, y1, y2, y3, y4, y5, y6⟩
         clear ht3 hb3 HOV2)
      | (go_at_call 51
         refine (HOV3.out _ _ _ _ _ HB3.out HT23.out HT3.out).mono ?_
         rintro e w4 ⟨n4, p4, rfl, ht4, hb4⟩
         have HB4 : Hid (Below w.heap.size w w4) := HB3.out.trans (hb4.mono HB3.out.size)
         have HT4 : Hid (TreeAt P w4 n4 p4 ((ll ++ k :: lml) ++ km :: (lmr ++ kr :: lrr))) := ht4
         rcases HNR.out w4 HB4.out with ⟨r0, r1, r2, r3, r4, r5, r6, r7, r8, r9⟩
         rcases HNM.out w4 HB4.out with ⟨s0, s1, s2, s3, s4, s5, s6, s7, s8, s9⟩
         rcases (KeAt.mk y0 y1 y2 y3 y4 y5 y6).block (hb4.block _ (cell_lt y0)) with ⟨t0, t1, t2, t3, t4, t5, t6⟩
         clear ht4 hb4))
    go_wp2
    go_ret
    exact ⟨n4, p4, rfl, by have h := HT4.out; simpa using h, HB4.out⟩

set_option maxHeartbeats 4000000 in
theorem turnROf {P : Nat → Prop} {n m : Nat} {pl pr : Option Addr} {ll lr : List Ke} (k : Ke) (w : World) (hP : ∀ g, w.heap.size ≤ g → P g) (hk : k.key.size ≤ 64) (h1 : TreeAt P w n pl ll) (h2 : TreeAt P w m pr lr) (hl : ll.length + lr.length ≤ 1125899906842623) (hgt : 2 ≤ ll.length) :
    Calls Try.prog 63 #[k.v, .pointer pl, .pointer pr] w (TreeRet P w (ll ++ k :: lr)) := by
  cases pl with
  | none => have := h1.none_is; subst this; simp at hgt
  | some ar =>
  obtain ⟨m', gr, kr, prl, prr, lrl, lrr, rfl, rfl, hPr, hkr, hnr, rfl, hl2, hr2⟩ := h1.some_is
  have hlen : (lrl ++ kr :: lrr).length = lrl.length + lrr.length + 1 := by simp; omega
  rw [hlen] at hl hgt hnr
  have HNR : Hid (∀ u, Below w.heap.size w u → NodeAt u gr kr (lrl.length + lrr.length + 1) prl prr) := fun u hu => hnr.block (hu.block _ hnr.lt)
  have HWM : Hid (∀ u, Below w.heap.size w u → Calls Try.prog 61 #[.pointer prr] u fun e w' => e = .returned (.int .i64 (lrr.length + 1)) ∧ w' = u) := fun u hu => weightOf u (hr2.later hu) (by omega)
  have HWR : Hid (∀ u, Below w.heap.size w u → Calls Try.prog 61 #[.pointer prl] u fun e w' => e = .returned (.int .i64 (lrl.length + 1)) ∧ w' = u) := fun u hu => weightOf u (hl2.later hu) (by omega)
  obtain ⟨w0, hw0⟩ : ∃ w0, w.alloc (.cells #[.string k.key, .int .i64 k.e.seg, .int .i64 k.e.pos, .int .i64 k.e.size, .int .i64 k.e.off, .int .i64 k.e.time, .bool k.e.tomb] 58) = w0 := ⟨_, rfl⟩
  have hb0 : Below w.heap.size w w0 := by rw [← hw0]; exact (Below.refl _ _).alloc (Nat.le_refl _) _
  have HW0 : Hid (w.alloc (.cells #[.string k.key, .int .i64 k.e.seg, .int .i64 k.e.pos, .int .i64 k.e.size, .int .i64 k.e.off, .int .i64 k.e.time, .bool k.e.tomb] 58) = w0) := hw0
  have hwr : IntKind.i64.wrap (2 * ((lrl.length : Int) + 1)) = 2 * ((lrl.length : Int) + 1) := i64w _ (by omega) (by omega)
  obtain ⟨c0, c1, c2, c3, c4, c5, c6, c7, c8, c9⟩ := HNR.out w0 hb0
  clear h1 hnr
  go_enter Try.func63, Try.ntmps63
  go_wp2
  go_region_held3 (fun w' => w'.cell? ⟨gr, 8, none⟩ = some (.pointer prl)) (go_keep) (first
    | (go_at_call 61
       refine (HWM.out _ (by first | exact hb0 | exact Below.drew hb0)).mono ?_
       rintro e w1 ⟨rfl, rfl⟩)
    | (go_at_call 61
       refine (HWR.out _ (by first | exact hb0 | exact Below.drew hb0)).mono ?_
       rintro e w2 ⟨rfl, rfl⟩))
  obtain ⟨w1, hw1⟩ : ∃ w1, w0.drew = w1 := ⟨_, rfl⟩
  have hb1 : Below w.heap.size w w1 := by rw [← hw1]; exact Below.drew hb0
  have HOW : Hid (∀ u, Below w1.heap.size w1 u → KeAt u w.heap.size k) := fun u hu => by
    have h : KeAt w1 w.heap.size k := by rw [← hw1, ← HW0.out]; exact (KeAt.new w k).block rfl
    exact h.block (hu.block _ h.lt)
  have HPU : Hid (∀ u, Below w.heap.size w u → ∀ g, u.heap.size ≤ g → P g) := fun u hu g hg => hP g (Nat.le_trans hu.size hg)
  rw [hw1]
  clear c0 c1 c2 c3 c4 c5 c6 c7 c8 c9 HWM HWR
  obtain ⟨c0, c1, c2, c3, c4, c5, c6, c7, c8, c9⟩ := HNR.out w1 hb1
  obtain ⟨d0, d1, d2, d3, d4, d5, d6⟩ := HOW.out w1 (Below.refl _ _)
  by_cases hlt : (lrr.length : Int) + 1 < 2 * ((lrl.length : Int) + 1)
  · have HOV1 : Hid (∀ u, Below w.heap.size w u → Calls Try.prog 51 #[k.v, .pointer prr, .pointer pr] u (TreeRet P u (lrr ++ k :: lr))) := fun u hu => overOf k u (HPU.out u hu) hk (hr2.later hu) (h2.later hu) (by omega)
    have HOV2 : Hid (∀ u n p, Below w.heap.size w u → TreeAt P u n p (lrr ++ k :: lr) → Calls Try.prog 51 #[kr.v, .pointer prl, .pointer p] u (TreeRet P u (lrl ++ kr :: (lrr ++ k :: lr)))) := fun u n p hu ht => overOf kr u (HPU.out u hu) hkr (hl2.later hu) ht (by simp; omega)
    go_wp2
    go_region_held3 (fun w' => w'.cell? ⟨gr, 0, none⟩ = some (.string kr.key) ∧ w'.cell? ⟨gr, 1, none⟩ = some (.int .i64 kr.e.seg) ∧ w'.cell? ⟨gr, 2, none⟩ = some (.int .i64 kr.e.pos) ∧ w'.cell? ⟨gr, 3, none⟩ = some (.int .i64 kr.e.size) ∧ w'.cell? ⟨gr, 4, none⟩ = some (.int .i64 kr.e.off) ∧ w'.cell? ⟨gr, 5, none⟩ = some (.int .i64 kr.e.time) ∧ w'.cell? ⟨gr, 6, none⟩ = some (.bool kr.e.tomb) ∧ w'.cell? ⟨gr, 8, none⟩ = some (.pointer prl) ∧ w'.cell? ⟨w.heap.size, 0, none⟩ = some (.string k.key) ∧ w'.cell? ⟨w.heap.size, 1, none⟩ = some (.int .i64 k.e.seg) ∧ w'.cell? ⟨w.heap.size, 2, none⟩ = some (.int .i64 k.e.pos) ∧ w'.cell? ⟨w.heap.size, 3, none⟩ = some (.int .i64 k.e.size) ∧ w'.cell? ⟨w.heap.size, 4, none⟩ = some (.int .i64 k.e.off) ∧ w'.cell? ⟨w.heap.size, 5, none⟩ = some (.int .i64 k.e.time) ∧ w'.cell? ⟨w.heap.size, 6, none⟩ = some (.bool k.e.tomb)) (go_keep) (first
      | (go_at_call 51
         refine (HOV1.out _ (by first | exact hb1 | exact Below.drew hb1)).mono ?_
         rintro e w2 ⟨n2, p2, rfl, ht2, hb2⟩
         have hb12 : Below w1.heap.size w1 w2 := (Below.drew (Below.refl _ w1)).trans hb2
         have HB2 : Hid (Below w.heap.size w w2) := hb1.trans (hb12.mono hb1.size)
         have HT2 : Hid (TreeAt P w2 n2 p2 (lrr ++ k :: lr)) := ht2
         rcases HNR.out w2 HB2.out with ⟨a0, a1, a2, a3, a4, a5, a6, a7, a8, a9⟩
         rcases HOW.out w2 hb12 with ⟨b0, b1, b2, b3, b4, b5, b6⟩
         clear ht2 hb2 HOV1)
      | (go_at_call 51
         refine (HOV2.out _ _ _ HB2.out HT2.out).mono ?_
         rintro e w3 ⟨n3, p3, rfl, ht3, hb3⟩
         have HB3 : Hid (Below w.heap.size w w3) := HB2.out.trans (hb3.mono HB2.out.size)
         have HT3 : Hid (TreeAt P w3 n3 p3 (lrl ++ kr :: (lrr ++ k :: lr))) := ht3
         rcases HNR.out w3 HB3.out with ⟨x0, x1, x2, x3, x4, x5, x6, x7, x8, x9⟩
         rcases (KeAt.mk b0 b1 b2 b3 b4 b5 b6).block (hb3.block _ (cell_lt b0)) with ⟨y0, y1, y2, y3, y4, y5, y6⟩
         clear ht3 hb3))
    go_wp2
    go_ret
    exact ⟨n3, p3, rfl, by have h := HT3.out; simpa using h, HB3.out⟩
  · cases hmp : prr with
    | none => rw [hmp] at hr2; have := hr2.none_is; subst this; simp at hlt; omega
    | some am =>
    rw [hmp] at hr2
    obtain ⟨mm, gm, km, pml, pmr, lml, lmr, hmm, rfl, hPm, hkm, hnm, hlm, hml, hmr⟩ := hr2.some_is
    subst hmp hlm
    have hlen2 : (lml ++ km :: lmr).length = lml.length + lmr.length + 1 := by simp; omega
    rw [hlen2] at hl hnm
    have HNM : Hid (∀ u, Below w.heap.size w u → NodeAt u gm km (lml.length + lmr.length + 1) pml pmr) := fun u hu => hnm.block (hu.block _ hnm.lt)
    have HOV1 : Hid (∀ u, Below w.heap.size w u → Calls Try.prog 51 #[kr.v, .pointer prl, .pointer pml] u (TreeRet P u (lrl ++ kr :: lml))) := fun u hu => overOf kr u (HPU.out u hu) hkr (hl2.later hu) (hml.later hu) (by omega)
    have HOV2 : Hid (∀ u, Below w.heap.size w u → Calls Try.prog 51 #[k.v, .pointer pmr, .pointer pr] u (TreeRet P u (lmr ++ k :: lr))) := fun u hu => overOf k u (HPU.out u hu) hk (hmr.later hu) (h2.later hu) (by omega)
    have HOV3 : Hid (∀ u n m p q, Below w.heap.size w u → TreeAt P u n p (lrl ++ kr :: lml) → TreeAt P u m q (lmr ++ k :: lr) → Calls Try.prog 51 #[km.v, .pointer p, .pointer q] u (TreeRet P u ((lrl ++ kr :: lml) ++ km :: (lmr ++ k :: lr)))) := fun u n m p q hu ht ht' => overOf km u (HPU.out u hu) hkm ht ht' (by simp; omega)
    obtain ⟨z0, z1, z2, z3, z4, z5, z6, z7, z8, z9⟩ := HNM.out w1 hb1
    clear hnm
    go_wp2
    go_region_held3 (fun w' => w'.cell? ⟨gm, 0, none⟩ = some (.string km.key) ∧ w'.cell? ⟨gm, 1, none⟩ = some (.int .i64 km.e.seg) ∧ w'.cell? ⟨gm, 2, none⟩ = some (.int .i64 km.e.pos) ∧ w'.cell? ⟨gm, 3, none⟩ = some (.int .i64 km.e.size) ∧ w'.cell? ⟨gm, 4, none⟩ = some (.int .i64 km.e.off) ∧ w'.cell? ⟨gm, 5, none⟩ = some (.int .i64 km.e.time) ∧ w'.cell? ⟨gm, 6, none⟩ = some (.bool km.e.tomb) ∧ w'.cell? ⟨gm, 8, none⟩ = some (.pointer pml) ∧ w'.cell? ⟨gm, 9, none⟩ = some (.pointer pmr) ∧ w'.cell? ⟨gr, 0, none⟩ = some (.string kr.key) ∧ w'.cell? ⟨gr, 1, none⟩ = some (.int .i64 kr.e.seg) ∧ w'.cell? ⟨gr, 2, none⟩ = some (.int .i64 kr.e.pos) ∧ w'.cell? ⟨gr, 3, none⟩ = some (.int .i64 kr.e.size) ∧ w'.cell? ⟨gr, 4, none⟩ = some (.int .i64 kr.e.off) ∧ w'.cell? ⟨gr, 5, none⟩ = some (.int .i64 kr.e.time) ∧ w'.cell? ⟨gr, 6, none⟩ = some (.bool kr.e.tomb) ∧ w'.cell? ⟨gr, 8, none⟩ = some (.pointer prl) ∧ w'.cell? ⟨w.heap.size, 0, none⟩ = some (.string k.key) ∧ w'.cell? ⟨w.heap.size, 1, none⟩ = some (.int .i64 k.e.seg) ∧ w'.cell? ⟨w.heap.size, 2, none⟩ = some (.int .i64 k.e.pos) ∧ w'.cell? ⟨w.heap.size, 3, none⟩ = some (.int .i64 k.e.size) ∧ w'.cell? ⟨w.heap.size, 4, none⟩ = some (.int .i64 k.e.off) ∧ w'.cell? ⟨w.heap.size, 5, none⟩ = some (.int .i64 k.e.time) ∧ w'.cell? ⟨w.heap.size, 6, none⟩ = some (.bool k.e.tomb)) (go_keep) (first
      | (go_at_call 51
         refine (HOV1.out _ (by first | exact hb1 | exact Below.drew hb1)).mono ?_
         rintro e w2 ⟨n2, p2, rfl, ht2, hb2⟩
         have hb12 : Below w1.heap.size w1 w2 := (Below.drew (Below.refl _ w1)).trans hb2
         have HB2 : Hid (Below w.heap.size w w2) := hb1.trans (hb12.mono hb1.size)
         have HT2 : Hid (TreeAt P w2 n2 p2 (lrl ++ kr :: lml)) := ht2
         rcases HNR.out w2 HB2.out with ⟨a0, a1, a2, a3, a4, a5, a6, a7, a8, a9⟩
         rcases HNM.out w2 HB2.out with ⟨e0, e1, e2, e3, e4, e5, e6, e7, e8, e9⟩
         rcases HOW.out w2 hb12 with ⟨b0, b1, b2, b3, b4, b5, b6⟩
         clear ht2 hb2 HOV1)
      | (go_at_call 51
         refine (HOV2.out _ HB2.out).mono ?_
         rintro e w3 ⟨n3, p3, rfl, ht3, hb3⟩
         have HB3 : Hid (Below w.heap.size w w3) := HB2.out.trans (hb3.mono HB2.out.size)
         have HT23 : Hid (TreeAt P w3 n2 p2 (lrl ++ kr :: lml)) := HT2.out.later hb3
         have HT3 : Hid (TreeAt P w3 n3 p3 (lmr ++ k :: lr)) := ht3
         rcases HNR.out w3 HB3.out with ⟨x0, x1, x2, x3, x4, x5, x6, x7, x8, x9⟩
         rcases HNM.out w3 HB3.out with ⟨f0, f1, f2, f3, f4, f5, f6, f7, f8, f9⟩
         rcases (KeAt.mk b0 b1 b2 b3 b4 b5 b6).block (hb3.block _ (cell_lt b0)) with ⟨y0, y1, y2, y3, y4, y5, y6⟩
         clear ht3 hb3 HOV2)
      | (go_at_call 51
         refine (HOV3.out _ _ _ _ _ HB3.out HT23.out HT3.out).mono ?_
         rintro e w4 ⟨n4, p4, rfl, ht4, hb4⟩
         have HB4 : Hid (Below w.heap.size w w4) := HB3.out.trans (hb4.mono HB3.out.size)
         have HT4 : Hid (TreeAt P w4 n4 p4 ((lrl ++ kr :: lml) ++ km :: (lmr ++ k :: lr))) := ht4
         rcases HNR.out w4 HB4.out with ⟨r0, r1, r2, r3, r4, r5, r6, r7, r8, r9⟩
         rcases HNM.out w4 HB4.out with ⟨s0, s1, s2, s3, s4, s5, s6, s7, s8, s9⟩
         rcases (KeAt.mk y0 y1 y2 y3 y4 y5 y6).block (hb4.block _ (cell_lt y0)) with ⟨t0, t1, t2, t3, t4, t5, t6⟩
         clear ht4 hb4))
    go_wp2
    go_ret
    exact ⟨n4, p4, rfl, by have h := HT4.out; simpa using h, HB4.out⟩

end Go.Proofs.Ytjhbaplnkigifaa

/-! keydir: a node is put into balance. -/
namespace Go.Proofs.Ytjhbaplnkigifaa
open Go.RowKit Plain
set_option linter.unusedVariables false

set_option maxHeartbeats 4000000 in
theorem balancedOf {P : Nat → Prop} {n m : Nat} {pl pr : Option Addr} {ll lr : List Ke} (k : Ke) (w : World) (hP : ∀ g, w.heap.size ≤ g → P g) (hk : k.key.size ≤ 64) (h1 : TreeAt P w n pl ll) (h2 : TreeAt P w m pr lr) (hl : ll.length + lr.length ≤ 1125899906842623) :
    Calls Try.prog 53 #[k.v, .pointer pl, .pointer pr] w (TreeRet P w (ll ++ k :: lr)) := by
  have HWL : Hid (∀ u, Below w.heap.size w u → Calls Try.prog 61 #[.pointer pl] u fun e w' => e = .returned (.int .i64 (ll.length + 1)) ∧ w' = u) := fun u hu => weightOf u (h1.later hu) (by omega)
  have HWR : Hid (∀ u, Below w.heap.size w u → Calls Try.prog 61 #[.pointer pr] u fun e w' => e = .returned (.int .i64 (lr.length + 1)) ∧ w' = u) := fun u hu => weightOf u (h2.later hu) (by omega)
  have HPU : Hid (∀ u, Below w.heap.size w u → ∀ g, u.heap.size ≤ g → P g) := fun u hu g hg => hP g (Nat.le_trans hu.size hg)
  have HTL : Hid (2 ≤ lr.length → ∀ u, Below w.heap.size w u → Calls Try.prog 62 #[k.v, .pointer pl, .pointer pr] u (TreeRet P u (ll ++ k :: lr))) := fun h u hu => turnLOf k u (HPU.out u hu) hk (h1.later hu) (h2.later hu) hl h
  have HTR : Hid (2 ≤ ll.length → ∀ u, Below w.heap.size w u → Calls Try.prog 63 #[k.v, .pointer pl, .pointer pr] u (TreeRet P u (ll ++ k :: lr))) := fun h u hu => turnROf k u (HPU.out u hu) hk (h1.later hu) (h2.later hu) hl h
  have HOV : Hid (∀ u, Below w.heap.size w u → Calls Try.prog 51 #[k.v, .pointer pl, .pointer pr] u (TreeRet P u (ll ++ k :: lr))) := fun u hu => overOf k u (HPU.out u hu) hk (h1.later hu) (h2.later hu) hl
  obtain ⟨w0, hw0⟩ : ∃ w0, w.alloc (.cells #[.string k.key, .int .i64 k.e.seg, .int .i64 k.e.pos, .int .i64 k.e.size, .int .i64 k.e.off, .int .i64 k.e.time, .bool k.e.tomb] 58) = w0 := ⟨_, rfl⟩
  have hb0 : Below w.heap.size w w0 := by rw [← hw0]; exact (Below.refl _ _).alloc (Nat.le_refl _) _
  have HOW : Hid (∀ u, Below w0.heap.size w0 u → KeAt u w.heap.size k) := fun u hu => by
    have h : KeAt w0 w.heap.size k := by rw [← hw0]; exact KeAt.new w k
    exact h.block (hu.block _ h.lt)
  have hwl : IntKind.i64.wrap (3 * ((ll.length : Int) + 1)) = 3 * ((ll.length : Int) + 1) := i64w _ (by omega) (by omega)
  have hwr : IntKind.i64.wrap (3 * ((lr.length : Int) + 1)) = 3 * ((lr.length : Int) + 1) := i64w _ (by omega) (by omega)
  clear h1 h2
  go_enter Try.func53, Try.ntmps53
  have HB0 : Hid (Below w.heap.size w w0) := hb0
  have hd := HOW.out w0 (Below.refl _ _)
  obtain ⟨d0, d1, d2, d3, d4, d5, d6⟩ := hd
  go_wp2_with fail
  refine (HWR.out _ hb0).mono ?_
  rintro e w1 ⟨rfl, rfl⟩
  go_wp2_with fail
  refine (HWL.out _ hb0).mono ?_
  rintro e w2 ⟨rfl, rfl⟩
  by_cases hA : 3 * ((ll.length : Int) + 1) < (lr.length : Int) + 1
  · go_wp2_with fail
    refine (HTL.out (by omega) _ hb0).mono ?_
    rintro e w3 ⟨n3, p3, rfl, ht3, hb3⟩
    have HT3 : Hid (TreeAt P w3 n3 p3 (ll ++ k :: lr)) := ht3
    have HB3 : Hid (Below w.heap.size w w3) := hb0.trans (hb3.mono hb0.size)
    clear ht3 hb3
    go_wp2
    go_ret
    exact ⟨n3, p3, rfl, HT3.out, HB3.out⟩
  · go_wp2_with fail
    refine (HWL.out _ hb0).mono ?_
    rintro e w3 ⟨rfl, rfl⟩
    go_wp2_with fail
    refine (HWR.out _ hb0).mono ?_
    rintro e w4 ⟨rfl, rfl⟩
    by_cases hB : 3 * ((lr.length : Int) + 1) < (ll.length : Int) + 1
    · go_wp2_with fail
      refine (HTR.out (by omega) _ hb0).mono ?_
      rintro e w3 ⟨n3, p3, rfl, ht3, hb3⟩
      have HT3 : Hid (TreeAt P w3 n3 p3 (ll ++ k :: lr)) := ht3
      have HB3 : Hid (Below w.heap.size w w3) := hb0.trans (hb3.mono hb0.size)
      clear ht3 hb3
      go_wp2
      go_ret
      exact ⟨n3, p3, rfl, HT3.out, HB3.out⟩
    · go_wp2_with fail
      refine (HOV.out _ hb0).mono ?_
      rintro e w3 ⟨n3, p3, rfl, ht3, hb3⟩
      have HT3 : Hid (TreeAt P w3 n3 p3 (ll ++ k :: lr)) := ht3
      have HB3 : Hid (Below w.heap.size w w3) := hb0.trans (hb3.mono hb0.size)
      clear ht3 hb3
      go_wp2
      go_ret
      exact ⟨n3, p3, rfl, HT3.out, HB3.out⟩
end Go.Proofs.Ytjhbaplnkigifaa

/-! keydir: plain facts on lists of keys in order. -/
namespace Go.Proofs.Ytjhbaplnkigifaa
open Plain
set_option linter.unusedVariables false

/-- How two keys stand to one another. -/
def kc (a b : ByteArray) : Int := cmpL a.data.toList b.data.toList
theorem kc_self (a : ByteArray) : kc a a = 0 := cmpL_self _
theorem kc_neg (a b : ByteArray) : kc b a = - kc a b := cmpL_neg _ _
theorem kc_range (a b : ByteArray) : kc a b = -1 ∨ kc a b = 0 ∨ kc a b = 1 := cmpL_range _ _
theorem kc_zero {a b : ByteArray} (h : kc a b = 0) : a = b := by
  have h := cmpL_zero _ _ h
  have h2 : a.data = b.data := Array.ext' h
  cases a; cases b; simp at h2; rw [h2]
theorem kc_eq (a b : ByteArray) : kc a b = 0 ↔ a = b := ⟨kc_zero, fun h => by rw [h]; exact kc_self b⟩
theorem kc_trans {a b c : ByteArray} (h1 : kc a b = -1) (h2 : kc b c = -1) : kc a c = -1 := by
  have h3 : kc a c ≤ 0 := cmpL_trans a.data.toList b.data.toList c.data.toList (by unfold kc at h1; omega) (by unfold kc at h2; omega)
  rcases kc_range a c with h | h | h
  · exact h
  · have := kc_zero h; subst this; have := kc_neg a b; omega
  · omega

/-- Keys that rise. -/
def Srt (l : List Ke) : Prop := l.Pairwise fun a b => kc a.key b.key = -1
theorem Srt.nil : Srt [] := List.Pairwise.nil
theorem Srt.parts {ll lr : List Ke} {x : Ke} (h : Srt (ll ++ x :: lr)) : Srt ll ∧ Srt lr ∧ (∀ y ∈ ll, kc y.key x.key = -1) ∧ (∀ y ∈ lr, kc x.key y.key = -1) ∧ (∀ y ∈ ll, ∀ z ∈ lr, kc y.key z.key = -1) := by
  unfold Srt at *
  rw [List.pairwise_append, List.pairwise_cons] at h
  exact ⟨h.1, h.2.1.2, fun y hy => h.2.2 y hy x (by simp), h.2.1.1, fun y hy z hz => h.2.2 y hy z (by simp [hz])⟩

def insL (k : ByteArray) (e : En) : List Ke → List Ke
  | [] => [⟨k, e⟩]
  | x :: xs => if kc k x.key = -1 then ⟨k, e⟩ :: x :: xs else if kc k x.key = 0 then ⟨x.key, e⟩ :: xs else x :: insL k e xs
def delL (k : ByteArray) (l : List Ke) : List Ke := l.filter fun x => decide (kc k x.key ≠ 0)
def findL (k : ByteArray) (l : List Ke) : Option Ke := l.find? fun x => decide (kc k x.key = 0)

theorem insL_lt (k : ByteArray) (e : En) (x : Ke) (lr : List Ke) (h : kc k x.key = -1) : ∀ ll : List Ke, insL k e (ll ++ x :: lr) = insL k e ll ++ x :: lr
  | [] => by simp [insL, h]
  | y :: ys => by
    have ih := insL_lt k e x lr h ys
    simp only [List.cons_append, insL, ih]
    split
    · rfl
    · split <;> rfl
theorem insL_far (k : ByteArray) (e : En) (l : List Ke) : ∀ ll : List Ke, (∀ y ∈ ll, kc k y.key = 1) → insL k e (ll ++ l) = ll ++ insL k e l
  | [], _ => rfl
  | y :: ys, h => by
    have hy := h y (by simp)
    rw [List.cons_append, insL, hy, if_neg (by omega), if_neg (by omega), insL_far k e l ys (fun z hz => h z (by simp [hz]))]
    rfl
theorem above {k : ByteArray} {x : Ke} {ll lr : List Ke} (hs : Srt (ll ++ x :: lr)) (h : kc k x.key ≠ -1) : ∀ y ∈ ll, kc k y.key = 1 := fun y hy => by
  have h1 := hs.parts.2.2.1 y hy
  have h3 : kc y.key k = -1 := by
    rcases kc_range k x.key with h2 | h2 | h2
    · exact absurd h2 h
    · rw [kc_zero h2]; exact h1
    · exact kc_trans h1 (by have := kc_neg k x.key; omega)
  have := kc_neg y.key k
  omega
theorem under {k : ByteArray} {x : Ke} {ll lr : List Ke} (hs : Srt (ll ++ x :: lr)) (h : kc k x.key ≠ 1) : ∀ y ∈ lr, kc k y.key = -1 := fun y hy => by
  have h1 := hs.parts.2.2.2.1 y hy
  rcases kc_range k x.key with h2 | h2 | h2
  · exact kc_trans h2 h1
  · rw [kc_zero h2]; exact h1
  · exact absurd h2 h
theorem aboveN {k : ByteArray} {x : Ke} {ll lr : List Ke} (hs : Srt (ll ++ x :: lr)) (h : kc k x.key = 0 ∨ kc k x.key = 1) : ∀ y ∈ ll, kc k y.key ≠ 0 := fun y hy => by
  have h5 := above (k := k) hs (by omega) y hy
  omega
theorem underN {k : ByteArray} {x : Ke} {ll lr : List Ke} (hs : Srt (ll ++ x :: lr)) (h : kc k x.key = 0 ∨ kc k x.key = -1) : ∀ y ∈ lr, kc k y.key ≠ 0 := fun y hy => by
  have h5 := under (k := k) hs (by omega) y hy
  omega
theorem insL_eq {k : ByteArray} {e : En} {x : Ke} {ll lr : List Ke} (hs : Srt (ll ++ x :: lr)) (h : kc k x.key = 0) : insL k e (ll ++ x :: lr) = ll ++ ⟨x.key, e⟩ :: lr := by
  rw [insL_far k e _ ll (above hs (by omega)), insL, h]; rfl
theorem insL_gt {k : ByteArray} {e : En} {x : Ke} {ll lr : List Ke} (hs : Srt (ll ++ x :: lr)) (h : kc k x.key = 1) : insL k e (ll ++ x :: lr) = ll ++ x :: insL k e lr := by
  rw [insL_far k e _ ll (above hs (by omega)), insL, h]; rfl

theorem delL_keep {k : ByteArray} {l : List Ke} (h : ∀ y ∈ l, kc k y.key ≠ 0) : delL k l = l := by
  unfold delL
  rw [List.filter_eq_self]
  intro y hy
  simpa using h y hy
theorem delL_app (k : ByteArray) (a b : List Ke) : delL k (a ++ b) = delL k a ++ delL k b := List.filter_append ..
theorem delL_cons (k : ByteArray) (x : Ke) (l : List Ke) : delL k (x :: l) = if kc k x.key = 0 then delL k l else x :: delL k l := by
  unfold delL
  by_cases h : kc k x.key = 0
  · simp [h]
  · simp [h]
theorem delL_lt {k : ByteArray} {x : Ke} {ll lr : List Ke} (hs : Srt (ll ++ x :: lr)) (h : kc k x.key = -1) : delL k (ll ++ x :: lr) = delL k ll ++ x :: lr := by
  rw [delL_app, delL_cons, if_neg (by omega), delL_keep (l := lr) (underN hs (by omega))]
theorem delL_gt {k : ByteArray} {x : Ke} {ll lr : List Ke} (hs : Srt (ll ++ x :: lr)) (h : kc k x.key = 1) : delL k (ll ++ x :: lr) = ll ++ x :: delL k lr := by
  rw [delL_app, delL_cons, if_neg (by omega), delL_keep (l := ll) (aboveN hs (by omega))]
theorem delL_eq {k : ByteArray} {x : Ke} {ll lr : List Ke} (hs : Srt (ll ++ x :: lr)) (h : kc k x.key = 0) : delL k (ll ++ x :: lr) = ll ++ lr := by
  rw [delL_app, delL_cons, if_pos h, delL_keep (l := ll) (aboveN hs (by omega)), delL_keep (underN hs (by omega))]

theorem findL_none {k : ByteArray} {l : List Ke} (h : ∀ y ∈ l, kc k y.key ≠ 0) : findL k l = none := by
  unfold findL
  rw [List.find?_eq_none]
  intro y hy
  simpa using h y hy
theorem findL_app (k : ByteArray) (a b : List Ke) : findL k (a ++ b) = (findL k a).or (findL k b) := List.find?_append
theorem findL_cons (k : ByteArray) (x : Ke) (l : List Ke) : findL k (x :: l) = if kc k x.key = 0 then some x else findL k l := by
  unfold findL
  by_cases h : kc k x.key = 0
  · simp [h]
  · simp [h]
theorem findL_lt {k : ByteArray} {x : Ke} {ll lr : List Ke} (hs : Srt (ll ++ x :: lr)) (h : kc k x.key = -1) : findL k (ll ++ x :: lr) = findL k ll := by
  rw [findL_app, findL_cons, if_neg (by omega), findL_none (l := lr) (underN hs (by omega))]
  simp
theorem findL_gt {k : ByteArray} {x : Ke} {ll lr : List Ke} (hs : Srt (ll ++ x :: lr)) (h : kc k x.key = 1) : findL k (ll ++ x :: lr) = findL k lr := by
  rw [findL_app, findL_cons, if_neg (by omega), findL_none (l := ll) (aboveN hs (by omega))]
  simp
theorem findL_eq {k : ByteArray} {x : Ke} {ll lr : List Ke} (hs : Srt (ll ++ x :: lr)) (h : kc k x.key = 0) : findL k (ll ++ x :: lr) = some x := by
  rw [findL_app, findL_cons, if_pos h, findL_none (l := ll) (aboveN hs (by omega))]
  simp
theorem findL_is {k : ByteArray} {l : List Ke} {x : Ke} (h : findL k l = some x) : x ∈ l ∧ x.key = k := by
  unfold findL at h
  have h1 := List.find?_some h
  simp at h1
  exact ⟨List.mem_of_find?_eq_some h, (kc_zero h1).symm⟩

theorem insL_mem {k : ByteArray} {e : En} {z : Ke} : ∀ {l : List Ke}, z ∈ insL k e l → z.key = k ∨ z ∈ l
  | [], h => by simp [insL] at h; rw [h]; simp
  | x :: xs, h => by
    unfold insL at h
    split at h
    · simp at h
      rcases h with h | h | h
      · rw [h]; simp
      · rw [h]; simp
      · simp [h]
    · split at h
      · rename_i h0
        simp at h
        rcases h with h | h
        · rw [h]; exact .inl (kc_zero h0).symm
        · simp [h]
      · simp at h
        rcases h with h | h
        · rw [h]; simp
        · rcases insL_mem h with h | h
          · exact .inl h
          · simp [h]
theorem Srt.ins (k : ByteArray) (e : En) : ∀ {l : List Ke}, Srt l → Srt (insL k e l)
  | [], _ => by simp [insL, Srt]
  | x :: xs, h => by
    have hp := h.parts (ll := [])
    unfold insL
    split
    · rename_i h0
      unfold Srt
      rw [List.pairwise_cons]
      refine ⟨fun y hy => ?_, h⟩
      simp at hy
      rcases hy with hy | hy
      · rw [hy]; exact h0
      · exact kc_trans h0 (hp.2.2.2.1 y hy)
    · rename_i hn
      split
      · unfold Srt
        rw [List.pairwise_cons]
        exact ⟨hp.2.2.2.1, hp.2.1⟩
      · rename_i h0
        unfold Srt
        rw [List.pairwise_cons]
        refine ⟨fun y hy => ?_, Srt.ins k e hp.2.1⟩
        rcases insL_mem hy with h1 | h1
        · rw [h1]
          have := kc_neg k x.key
          rcases kc_range k x.key with h2 | h2 | h2 <;> omega
        · exact hp.2.2.2.1 y h1
theorem Srt.del (k : ByteArray) {l : List Ke} (h : Srt l) : Srt (delL k l) := List.Pairwise.filter _ h
theorem insL_len (k : ByteArray) (e : En) : ∀ l : List Ke, (insL k e l).length ≤ l.length + 1
  | [] => by simp [insL]
  | x :: xs => by
    have := insL_len k e xs
    unfold insL
    split
    · simp
    · split
      · simp
      · simp; omega
theorem delL_len (k : ByteArray) (l : List Ke) : (delL k l).length ≤ l.length := List.length_filter_le ..
theorem findL_ins (k k' : ByteArray) (e : En) : ∀ {l : List Ke}, findL k' (insL k e l) = if kc k' k = 0 then some ⟨k, e⟩ else findL k' l
  | [] => by rw [insL, findL_cons]
  | x :: xs => by
    have ih := findL_ins k k' e (l := xs)
    unfold insL
    split
    · rw [findL_cons]
    · split
      · rename_i h0
        have := kc_zero h0
        rw [findL_cons, findL_cons, ← this]
        by_cases h : kc k' k = 0
        · simp [h]
        · simp [h]
      · rename_i h1 h0
        rw [findL_cons, findL_cons, ih]
        by_cases h : kc k' x.key = 0
        · rw [if_pos h, if_pos h, if_neg]
          intro h2
          apply h0
          rw [← kc_zero h, kc_zero h2]
          exact kc_self k
        · rw [if_neg h, if_neg h]
theorem findL_del (k k' : ByteArray) : ∀ (l : List Ke), findL k' (delL k l) = if kc k' k = 0 then none else findL k' l
  | [] => by simp [delL, findL]
  | x :: xs => by
    have ih := findL_del k k' xs
    rw [delL_cons]
    split
    · rename_i h0
      rw [ih, findL_cons, ← kc_zero h0]
      split <;> rfl
    · rename_i h0
      rw [findL_cons, findL_cons, ih]
      by_cases h : kc k' x.key = 0
      · rw [if_pos h, if_pos h, if_neg]
        intro h2
        apply h0
        rw [← kc_zero h, kc_zero h2]
        exact kc_self k
      · rw [if_neg h, if_neg h]
end Go.Proofs.Ytjhbaplnkigifaa
