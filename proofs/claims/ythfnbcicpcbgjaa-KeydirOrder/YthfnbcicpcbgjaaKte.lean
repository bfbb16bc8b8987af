import Derived.Test.YthfnbcicpcbgjaaKtd
import Derived.Test.YthfnbcicpcbgjaaKtp
import Derived.Test.YthfnbcicpcbgjaaKla
/-! keydir: a key is laid into a tree. -/
namespace Go.Proofs.Ythfnbcicpcbgjaa
open Go.RowKit Plain
set_option linter.unusedVariables false

/-- The cells of an entry, at the beginning of a block. -/
structure EnAt (w : World) (g : Nat) (e : En) : Prop where
  c0 : w.cell? ⟨g, 0, none⟩ = some (.int .i64 e.seg)
  c1 : w.cell? ⟨g, 1, none⟩ = some (.int .i64 e.pos)
  c2 : w.cell? ⟨g, 2, none⟩ = some (.int .i64 e.size)
  c3 : w.cell? ⟨g, 3, none⟩ = some (.int .i64 e.off)
  c4 : w.cell? ⟨g, 4, none⟩ = some (.int .i64 e.time)
  c5 : w.cell? ⟨g, 5, none⟩ = some (.bool e.tomb)
theorem EnAt.lt {w : World} {g : Nat} {e : En} (h : EnAt w g e) : g < w.heap.size := cell_lt h.c0
theorem EnAt.block {w w' : World} {g : Nat} {e : En} (h : EnAt w g e) (hh : w'.heap[g]? = w.heap[g]?) : EnAt w' g e := by
  have hc : ∀ (i : Nat), w'.cell? ⟨g, i, none⟩ = w.cell? ⟨g, i, none⟩ := fun i => World.cell?_of_block (w := w) hh
  exact ⟨(hc 0).trans h.c0, (hc 1).trans h.c1, (hc 2).trans h.c2, (hc 3).trans h.c3, (hc 4).trans h.c4, (hc 5).trans h.c5⟩
theorem EnAt.new (w : World) (e : En) : EnAt (w.alloc (.cells #[.int .i64 e.seg, .int .i64 e.pos, .int .i64 e.size, .int .i64 e.off, .int .i64 e.time, .bool e.tomb] 26)) w.heap.size e := by
  constructor <;> exact World.cell?_alloc_at _ _ _ _ rfl

set_option maxHeartbeats 4000000 in
theorem withNil (P : Nat → Prop) (key : ByteArray) (en : En) (w : World) (hP : ∀ g, w.heap.size ≤ g → P g) (hk : key.size ≤ 64) : Calls Try.prog 45 #[.pointer none, .string key, en.v] w (TreeRet P w [⟨key, en⟩]) := by
  obtain ⟨w0, hw0⟩ : ∃ w0, w.alloc (.cells #[.int .i64 en.seg, .int .i64 en.pos, .int .i64 en.size, .int .i64 en.off, .int .i64 en.time, .bool en.tomb] 26) = w0 := ⟨_, rfl⟩
  have hb0 : Below w.heap.size w w0 := by rw [← hw0]; exact (Below.refl _ _).alloc (Nat.le_refl _) _
  have HEN : Hid (∀ u, Below w0.heap.size w0 u → EnAt u w.heap.size en) := fun u hu => by
    have h : EnAt w0 w.heap.size en := by rw [← hw0]; exact EnAt.new w en
    exact h.block (hu.block _ h.lt)
  have HPU : Hid (∀ u, Below w.heap.size w u → ∀ g, u.heap.size ≤ g → P g) := fun u hu g hg => hP g (Nat.le_trans hu.size hg)
  have HOV : Hid (∀ u, Below w.heap.size w u → Calls Try.prog 67 #[Ke.v ⟨key, en⟩, .pointer none, .pointer none] u (TreeRet P u [⟨key, en⟩])) := fun u hu => overOf (n := 0) (m := 0) (ll := []) (lr := []) ⟨key, en⟩ u (HPU.out u hu) hk (TreeAt.nil _ _ _) (TreeAt.nil _ _ _) (by simp)
  obtain ⟨d0, d1, d2, d3, d4, d5⟩ := HEN.out w0 (Below.refl _ _)
  go_enter Try.func45, Try.ntmps45
  go_wp2
  go_region_held3 (fun w' => w'.cell? ⟨w.heap.size, 0, none⟩ = some (.int .i64 en.seg) ∧ w'.cell? ⟨w.heap.size, 1, none⟩ = some (.int .i64 en.pos) ∧ w'.cell? ⟨w.heap.size, 2, none⟩ = some (.int .i64 en.size) ∧ w'.cell? ⟨w.heap.size, 3, none⟩ = some (.int .i64 en.off) ∧ w'.cell? ⟨w.heap.size, 4, none⟩ = some (.int .i64 en.time) ∧ w'.cell? ⟨w.heap.size, 5, none⟩ = some (.bool en.tomb)) (go_keep) (first
    | (go_at_call 68
       refine (cloneOf key _ (by omega)).mono ?_
       rintro e w1 ⟨rfl, hb1⟩
       have hb01 : Below w0.heap.size w0 w1 := (Below.drew (Below.refl _ w0)).trans hb1
       have HB1 : Hid (Below w.heap.size w w1) := hb0.trans (hb01.mono hb0.size)
       rcases HEN.out w1 hb01 with ⟨a0, a1, a2, a3, a4, a5⟩
       clear hb1 hb01)
    | (go_at_call 67
       refine (HOV.out _ HB1.out).mono ?_
       rintro e w2 ⟨n2, p2, rfl, ht2, hb2⟩
       have HB2 : Hid (Below w.heap.size w w2) := HB1.out.trans (hb2.mono HB1.out.size)
       have HT2 : Hid (TreeAt P w2 n2 p2 [⟨key, en⟩]) := ht2
       rcases (EnAt.mk a0 a1 a2 a3 a4 a5).block (hb2.block _ (cell_lt a0)) with ⟨b0, b1, b2, b3, b4, b5⟩
       clear ht2 hb2))
  go_wp2
  go_ret
  exact ⟨n2, p2, rfl, HT2.out, HB2.out⟩

set_option maxHeartbeats 8000000 in
theorem withOf (P : Nat → Prop) (key : ByteArray) (en : En) (hk : key.size ≤ 64) : ∀ (n : Nat) (w : World) (p : Option Addr) (l : List Ke), (∀ g, w.heap.size ≤ g → P g) → TreeAt P w n p l → Srt l → l.length ≤ 1125899906842620 → Calls Try.prog 45 #[.pointer p, .string key, en.v] w (TreeRet P w (insL key en l)) := by
  intro n
  induction n with
  | zero =>
    intro w p l hP ht hs hl
    obtain ⟨rfl, rfl⟩ := ht
    exact withNil P key en w hP hk
  | succ n ih0 =>
  intro w p l hP ht hs hl
  cases p with
  | none =>
    obtain rfl := ht.none_is
    exact withNil P key en w hP hk
  | some ar =>
  obtain ⟨m', g, k, pl, pr, ll, lr, hm, rfl, hPg, hkk, hng, rfl, hl1, hr1⟩ := ht.some_is
  have hm' : m' = n := by omega
  subst hm'
  have ih : ∀ (w : World) (p : Option Addr) (l : List Ke), (∀ g, w.heap.size ≤ g → P g) → TreeAt P w m' p l → Srt l → l.length ≤ 1125899906842620 → Calls Try.prog 45 #[.pointer p, .string key, en.v] w (TreeRet P w (insL key en l)) := ih0
  have hlen : (ll ++ k :: lr).length = ll.length + lr.length + 1 := by simp; omega
  rw [hlen] at hl hng
  have hsp := hs.parts
  obtain ⟨w0, hw0⟩ : ∃ w0, w.alloc (.cells #[.int .i64 en.seg, .int .i64 en.pos, .int .i64 en.size, .int .i64 en.off, .int .i64 en.time, .bool en.tomb] 26) = w0 := ⟨_, rfl⟩
  have hb0 : Below w.heap.size w w0 := by rw [← hw0]; exact (Below.refl _ _).alloc (Nat.le_refl _) _
  have HEN : Hid (∀ u, Below w0.heap.size w0 u → EnAt u w.heap.size en) := fun u hu => by
    have h : EnAt w0 w.heap.size en := by rw [← hw0]; exact EnAt.new w en
    exact h.block (hu.block _ h.lt)
  have HPU : Hid (∀ u, Below w.heap.size w u → ∀ g, u.heap.size ≤ g → P g) := fun u hu g hg => hP g (Nat.le_trans hu.size hg)
  have HNR : Hid (∀ u, Below w.heap.size w u → NodeAt u g k (ll.length + lr.length + 1) pl pr) := fun u hu => hng.block (hu.block _ hng.lt)
  have HCM : Hid (∀ u, Calls Try.prog 39 #[.string key, .string k.key] u fun e w' => e = .returned (.int .i64 (kc key k.key)) ∧ Below u.heap.size u w') := fun u => compare key k.key u (by unfold maxLen; omega) (by unfold maxLen; omega)
  have HOV : Hid (∀ u, Below w.heap.size w u → Calls Try.prog 67 #[Ke.v ⟨k.key, en⟩, .pointer pl, .pointer pr] u (TreeRet P u (ll ++ ⟨k.key, en⟩ :: lr))) := fun u hu => overOf ⟨k.key, en⟩ u (HPU.out u hu) hkk (hl1.later hu) (hr1.later hu) (by omega)
  obtain ⟨c0, c1, c2, c3, c4, c5, c6, c7, c8, c9⟩ := HNR.out w0 hb0
  obtain ⟨d0, d1, d2, d3, d4, d5⟩ := HEN.out w0 (Below.refl _ _)
  clear ht hng ih0
  go_enter Try.func45, Try.ntmps45
  go_wp2_with fail
  refine (HCM.out _).mono ?_
  rintro e w1 ⟨rfl, hb1⟩
  have HB1 : Hid (Below w.heap.size w w1) := hb0.trans (hb1.mono hb0.size)
  have HEN1 : Hid (∀ u, Below w1.heap.size w1 u → EnAt u w.heap.size en) := fun u hu => HEN.out u (hb1.trans (hu.mono hb1.size))
  clear c0 c1 c2 c3 c4 c5 c6 c7 c8 c9 d0 d1 d2 d3 d4 d5 hb1
  obtain ⟨c0, c1, c2, c3, c4, c5, c6, c7, c8, c9⟩ := HNR.out w1 HB1.out
  obtain ⟨d0, d1, d2, d3, d4, d5⟩ := HEN1.out w1 (Below.refl _ _)
  rcases kc_range key k.key with hc | hc | hc
  · rw [hc]
    have HW : Hid (∀ u, Below w.heap.size w u → Calls Try.prog 45 #[.pointer pl, .string key, en.v] u (TreeRet P u (insL key en ll))) := fun u hu => ih u pl ll (HPU.out u hu) (hl1.later hu) hsp.1 (by omega)
    have HBA : Hid (∀ u n p, Below w.heap.size w u → TreeAt P u n p (insL key en ll) → Calls Try.prog 64 #[k.v, .pointer p, .pointer pr] u (TreeRet P u (insL key en ll ++ k :: lr))) := fun u n p hu ht => balancedOf k u (HPU.out u hu) hkk ht (hr1.later hu) (by have := insL_len key en ll; omega)
    go_wp2
    go_region_held3 (fun w' => w'.cell? ⟨g, 0, none⟩ = some (.string k.key) ∧ w'.cell? ⟨g, 1, none⟩ = some (.int .i64 k.e.seg) ∧ w'.cell? ⟨g, 2, none⟩ = some (.int .i64 k.e.pos) ∧ w'.cell? ⟨g, 3, none⟩ = some (.int .i64 k.e.size) ∧ w'.cell? ⟨g, 4, none⟩ = some (.int .i64 k.e.off) ∧ w'.cell? ⟨g, 5, none⟩ = some (.int .i64 k.e.time) ∧ w'.cell? ⟨g, 6, none⟩ = some (.bool k.e.tomb) ∧ w'.cell? ⟨g, 8, none⟩ = some (.pointer pl) ∧ w'.cell? ⟨g, 9, none⟩ = some (.pointer pr) ∧ w'.cell? ⟨w.heap.size, 0, none⟩ = some (.int .i64 en.seg) ∧ w'.cell? ⟨w.heap.size, 1, none⟩ = some (.int .i64 en.pos) ∧ w'.cell? ⟨w.heap.size, 2, none⟩ = some (.int .i64 en.size) ∧ w'.cell? ⟨w.heap.size, 3, none⟩ = some (.int .i64 en.off) ∧ w'.cell? ⟨w.heap.size, 4, none⟩ = some (.int .i64 en.time) ∧ w'.cell? ⟨w.heap.size, 5, none⟩ = some (.bool en.tomb)) (go_keep) (first
      | (go_at_call 45
         refine (HW.out _ (by first | exact HB1.out | exact Below.drew HB1.out)).mono ?_
         rintro e w2 ⟨n2, p2, rfl, ht2, hb2⟩
         have hb12 : Below w1.heap.size w1 w2 := (Below.drew (Below.refl _ w1)).trans hb2
         have HB2 : Hid (Below w.heap.size w w2) := HB1.out.trans (hb12.mono HB1.out.size)
         have HT2 : Hid (TreeAt P w2 n2 p2 (insL key en ll)) := ht2
         rcases HNR.out w2 HB2.out with ⟨x0, x1, x2, x3, x4, x5, x6, x7, x8, x9⟩
         rcases HEN1.out w2 hb12 with ⟨y0, y1, y2, y3, y4, y5⟩
         clear ht2 hb2 HW)
      | (go_at_call 64
         refine (HBA.out _ _ _ HB2.out HT2.out).mono ?_
         rintro e w3 ⟨n3, p3, rfl, ht3, hb3⟩
         have HB3 : Hid (Below w.heap.size w w3) := HB2.out.trans (hb3.mono HB2.out.size)
         have HT3 : Hid (TreeAt P w3 n3 p3 (insL key en ll ++ k :: lr)) := ht3
         rcases HNR.out w3 HB3.out with ⟨z0, z1, z2, z3, z4, z5, z6, z7, z8, z9⟩
         rcases (EnAt.mk y0 y1 y2 y3 y4 y5).block (hb3.block _ (cell_lt y0)) with ⟨v0, v1, v2, v3, v4, v5⟩
         clear ht3 hb3))
    go_wp2
    go_ret
    exact ⟨n3, p3, rfl, by rw [insL_lt key en k lr hc ll]; exact HT3.out, HB3.out⟩
  · rw [hc]
    go_wp2
    go_region_held3 (fun w' => w'.cell? ⟨g, 0, none⟩ = some (.string k.key) ∧ w'.cell? ⟨g, 1, none⟩ = some (.int .i64 k.e.seg) ∧ w'.cell? ⟨g, 2, none⟩ = some (.int .i64 k.e.pos) ∧ w'.cell? ⟨g, 3, none⟩ = some (.int .i64 k.e.size) ∧ w'.cell? ⟨g, 4, none⟩ = some (.int .i64 k.e.off) ∧ w'.cell? ⟨g, 5, none⟩ = some (.int .i64 k.e.time) ∧ w'.cell? ⟨g, 6, none⟩ = some (.bool k.e.tomb) ∧ w'.cell? ⟨g, 8, none⟩ = some (.pointer pl) ∧ w'.cell? ⟨g, 9, none⟩ = some (.pointer pr) ∧ w'.cell? ⟨w.heap.size, 0, none⟩ = some (.int .i64 en.seg) ∧ w'.cell? ⟨w.heap.size, 1, none⟩ = some (.int .i64 en.pos) ∧ w'.cell? ⟨w.heap.size, 2, none⟩ = some (.int .i64 en.size) ∧ w'.cell? ⟨w.heap.size, 3, none⟩ = some (.int .i64 en.off) ∧ w'.cell? ⟨w.heap.size, 4, none⟩ = some (.int .i64 en.time) ∧ w'.cell? ⟨w.heap.size, 5, none⟩ = some (.bool en.tomb)) (go_keep) (first
      | (go_at_call 67
         refine (HOV.out _ (by first | exact HB1.out | exact Below.drew HB1.out)).mono ?_
         rintro e w2 ⟨n2, p2, rfl, ht2, hb2⟩
         have hb12 : Below w1.heap.size w1 w2 := (Below.drew (Below.refl _ w1)).trans hb2
         have HB2 : Hid (Below w.heap.size w w2) := HB1.out.trans (hb12.mono HB1.out.size)
         have HT2 : Hid (TreeAt P w2 n2 p2 (ll ++ ⟨k.key, en⟩ :: lr)) := ht2
         rcases HNR.out w2 HB2.out with ⟨x0, x1, x2, x3, x4, x5, x6, x7, x8, x9⟩
         rcases HEN1.out w2 hb12 with ⟨y0, y1, y2, y3, y4, y5⟩
         clear ht2 hb2))
    go_wp2
    go_ret
    exact ⟨n2, p2, rfl, by rw [insL_eq hs hc]; exact HT2.out, HB2.out⟩
  · rw [hc]
    have HW : Hid (∀ u, Below w.heap.size w u → Calls Try.prog 45 #[.pointer pr, .string key, en.v] u (TreeRet P u (insL key en lr))) := fun u hu => ih u pr lr (HPU.out u hu) (hr1.later hu) hsp.2.1 (by omega)
    have HBA : Hid (∀ u n p, Below w.heap.size w u → TreeAt P u n p (insL key en lr) → Calls Try.prog 64 #[k.v, .pointer pl, .pointer p] u (TreeRet P u (ll ++ k :: insL key en lr))) := fun u n p hu ht => balancedOf k u (HPU.out u hu) hkk (hl1.later hu) ht (by have := insL_len key en lr; omega)
    go_wp2
    go_region_held3 (fun w' => w'.cell? ⟨g, 0, none⟩ = some (.string k.key) ∧ w'.cell? ⟨g, 1, none⟩ = some (.int .i64 k.e.seg) ∧ w'.cell? ⟨g, 2, none⟩ = some (.int .i64 k.e.pos) ∧ w'.cell? ⟨g, 3, none⟩ = some (.int .i64 k.e.size) ∧ w'.cell? ⟨g, 4, none⟩ = some (.int .i64 k.e.off) ∧ w'.cell? ⟨g, 5, none⟩ = some (.int .i64 k.e.time) ∧ w'.cell? ⟨g, 6, none⟩ = some (.bool k.e.tomb) ∧ w'.cell? ⟨g, 8, none⟩ = some (.pointer pl) ∧ w'.cell? ⟨g, 9, none⟩ = some (.pointer pr) ∧ w'.cell? ⟨w.heap.size, 0, none⟩ = some (.int .i64 en.seg) ∧ w'.cell? ⟨w.heap.size, 1, none⟩ = some (.int .i64 en.pos) ∧ w'.cell? ⟨w.heap.size, 2, none⟩ = some (.int .i64 en.size) ∧ w'.cell? ⟨w.heap.size, 3, none⟩ = some (.int .i64 en.off) ∧ w'.cell? ⟨w.heap.size, 4, none⟩ = some (.int .i64 en.time) ∧ w'.cell? ⟨w.heap.size, 5, none⟩ = some (.bool en.tomb)) (go_keep) (first
      | (go_at_call 45
         refine (HW.out _ (by first | exact HB1.out | exact Below.drew HB1.out)).mono ?_
         rintro e w2 ⟨n2, p2, rfl, ht2, hb2⟩
         have hb12 : Below w1.heap.size w1 w2 := (Below.drew (Below.refl _ w1)).trans hb2
         have HB2 : Hid (Below w.heap.size w w2) := HB1.out.trans (hb12.mono HB1.out.size)
         have HT2 : Hid (TreeAt P w2 n2 p2 (insL key en lr)) := ht2
         rcases HNR.out w2 HB2.out with ⟨x0, x1, x2, x3, x4, x5, x6, x7, x8, x9⟩
         rcases HEN1.out w2 hb12 with ⟨y0, y1, y2, y3, y4, y5⟩
         clear ht2 hb2 HW)
      | (go_at_call 64
         refine (HBA.out _ _ _ HB2.out HT2.out).mono ?_
         rintro e w3 ⟨n3, p3, rfl, ht3, hb3⟩
         have HB3 : Hid (Below w.heap.size w w3) := HB2.out.trans (hb3.mono HB2.out.size)
         have HT3 : Hid (TreeAt P w3 n3 p3 (ll ++ k :: insL key en lr)) := ht3
         rcases HNR.out w3 HB3.out with ⟨z0, z1, z2, z3, z4, z5, z6, z7, z8, z9⟩
         rcases (EnAt.mk y0 y1 y2 y3 y4 y5).block (hb3.block _ (cell_lt y0)) with ⟨v0, v1, v2, v3, v4, v5⟩
         clear ht3 hb3))
    go_wp2
    go_ret
    exact ⟨n3, p3, rfl, by rw [insL_gt hs hc]; exact HT3.out, HB3.out⟩
end Go.Proofs.Ythfnbcicpcbgjaa
