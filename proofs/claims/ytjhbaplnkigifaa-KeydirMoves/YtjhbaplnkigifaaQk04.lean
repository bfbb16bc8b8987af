import Derived.Shelf.Pu.Clone
import Derived.Test.YtjhbaplnkigifaaProg
import Derived.Test.YtjhbaplnkigifaaQk03
import Derived.Deep.LoopGhost
import Derived.Test.YtjhbaplnkigifaaQk00
import Derived.Deep.AppendSrc
import Derived.Deep.Upon
import Derived.Laws.IdiomCopy
import Derived.Laws.IdiomStrings
/-! keydir: strings.Clone. -/
namespace Go.Proofs
open Go.Shelf Go.RowKit
def Try.laysClone_ren : Go.Shelf.Ren := ⟨fun | 25 => 60 | n => n, fun | 0 => 0 | 3 => 3 | 4 => 4 | 5 => 5 | 9 => 9 | 37 => 93 | 47 => 94 | n => n, fun n => n⟩
theorem Try.laysClone : Go.Proofs.LaysPu.n25 Try.prog Try.laysClone_ren := {
  mixed := by kernel_rfl
  f25 := Try.func60.trans (congrArg some (by kernel_rfl))
  t0 := Try.underlying0
  a0 := Try.isAgg0
  z0 := Try.sizeOf0
  v0 := Try.zeroValue0
  i0 := by kernel_rfl
  t3 := Try.underlying3
  a3 := Try.isAgg3
  z3 := Try.sizeOf3
  v3 := Try.zeroValue3
  i3 := by kernel_rfl
  t4 := Try.underlying4
  a4 := Try.isAgg4
  z4 := Try.sizeOf4
  v4 := Try.zeroValue4
  i4 := by kernel_rfl
  t5 := Try.underlying5
  a5 := Try.isAgg5
  z5 := Try.sizeOf5
  v5 := Try.zeroValue5
  i5 := by kernel_rfl
  t9 := Try.underlying9
  a9 := Try.isAgg9
  z9 := Try.sizeOf9
  v9 := Try.zeroValue9
  i9 := by kernel_rfl
  t37 := Try.underlying93
  a37 := Try.isAgg93
  z37 := Try.sizeOf93
  v37 := Try.zeroValue93
  i37 := by kernel_rfl
  t47 := Try.underlying94
  a47 := Try.isAgg94
  z47 := Try.sizeOf94
  v47 := Try.zeroValue94
  i47 := by kernel_rfl
}
namespace Ytjhbaplnkigifaa
theorem lcloneOf (s : ByteArray) (w : World) (h : s.size ≤ 281474976710656) : Calls Try.prog 60 #[.string s] w fun e w' => e = .returned (.string s) ∧ Below w.heap.size w w' := AnyPu.stringslite_Clone Try.laysClone s w h
theorem cloneOf (s : ByteArray) (w : World) (h : s.size ≤ 281474976710656) : Calls Try.prog 52 #[.string s] w fun e w' => e = .returned (.string s) ∧ Below w.heap.size w w' := by
  go_enter Try.func52, Try.ntmps52
  go_wp2_with (go_at_call 60; refine (lcloneOf s _ h).mono ?_; rintro e w' ⟨rfl, hb⟩)
  go_ret
  exact ⟨rfl, hb⟩
end Ytjhbaplnkigifaa
end Go.Proofs

/-! keydir: a key is laid into a tree. -/
namespace Go.Proofs.Ytjhbaplnkigifaa
open Go.RowKit Plain
set_option linter.unusedVariables false

/-- The cells of an entry, at the beginning of a block. -/
structure EnAt (w : World) (g : Nat) (e : En) : Prop where
  c0 : w.cell? ⟨g, 0, none⟩ = some (.int .i64 e.seg)
  c1 : w.cell? ⟨g, 1, none⟩ = some (.int .i64 e.pos)
  c2 : w.cell? ⟨g, 2, none⟩ = some (.int .i64 e.size)
  c3 : w.cell? ⟨g, 3, none⟩ = some (.int .i64 e.off)
  c4 : w.cell? ⟨g, 4, none⟩ = some (.int .i64 e.time)
  c5 : w.cell? ⟨g, 5, none⟩ = some (.bool e.tomb)
theorem EnAt.lt {w : World} {g : Nat} {e : En} (h : EnAt w g e) : g < w.heap.size := cell_lt h.c0
theorem EnAt.block {w w' : World} {g : Nat} {e : En} (h : EnAt w g e) (hh : w'.heap[g]? = w.heap[g]?) : EnAt w' g e := by
  have hc : ∀ (i : Nat), w'.cell? ⟨g, i, none⟩ = w.cell? ⟨g, i, none⟩ := fun i => World.cell?_of_block (w := w) hh
  exact ⟨(hc 0).trans h.c0, (hc 1).trans h.c1, (hc 2).trans h.c2, (hc 3).trans h.c3, (hc 4).trans h.c4, (hc 5).trans h.c5⟩
theorem EnAt.new (w : World) (e : En) : EnAt (w.alloc (.cells #[.int .i64 e.seg, .int .i64 e.pos, .int .i64 e.size, .int .i64 e.off, .int .i64 e.time, .bool e.tomb] 38)) w.heap.size e := by
  constructor <;> exact World.cell?_alloc_at _ _ _ _ rfl

set_option maxHeartbeats 4000000 in
theorem withNil (P : Nat → Prop) (key : ByteArray) (en : En) (w : World) (hP : ∀ g, w.heap.size ≤ g → P g) (hk : key.size ≤ 64) : Calls Try.prog 41 #[.pointer none, .string key, en.v] w (TreeRet P w [⟨key, en⟩]) := by
  obtain ⟨w0, hw0⟩ : ∃ w0, w.alloc (.cells #[.int .i64 en.seg, .int .i64 en.pos, .int .i64 en.size, .int .i64 en.off, .int .i64 en.time, .bool en.tomb] 38) = w0 := ⟨_, rfl⟩
  have hb0 : Below w.heap.size w w0 := by rw [← hw0]; exact (Below.refl _ _).alloc (Nat.le_refl _) _
  have HEN : Hid (∀ u, Below w0.heap.size w0 u → EnAt u w.heap.size en) := fun u hu => by
    have h : EnAt w0 w.heap.size en := by rw [← hw0]; exact EnAt.new w en
    exact h.block (hu.block _ h.lt)
  have HPU : Hid (∀ u, Below w.heap.size w u → ∀ g, u.heap.size ≤ g → P g) := fun u hu g hg => hP g (Nat.le_trans hu.size hg)
  have HOV : Hid (∀ u, Below w.heap.size w u → Calls Try.prog 51 #[Ke.v ⟨key, en⟩, .pointer none, .pointer none] u (TreeRet P u [⟨key, en⟩])) := fun u hu => overOf (n := 0) (m := 0) (ll := []) (lr := []) ⟨key, en⟩ u (HPU.out u hu) hk (TreeAt.nil _ _ _) (TreeAt.nil _ _ _) (by simp)
  obtain ⟨d0, d1, d2, d3, d4, d5⟩ := HEN.out w0 (Below.refl _ _)
  go_enter Try.func41, Try.ntmps41
  go_wp2
  go_region_held3 (fun w' => w'.cell? ⟨w.heap.size, 0, none⟩ = some (.int .i64 en.seg) ∧ w'.cell? ⟨w.heap.size, 1, none⟩ = some (.int .i64 en.pos) ∧ w'.cell? ⟨w.heap.size, 2, none⟩ = some (.int .i64 en.size) ∧ w'.cell? ⟨w.heap.size, 3, none⟩ = some (.int .i64 en.off) ∧ w'.cell? ⟨w.heap.size, 4, none⟩ = some (.int .i64 en.time) ∧ w'.cell? ⟨w.heap.size, 5, none⟩ = some (.bool en.tomb)) (go_keep) (first
    | (go_at_call 52
       refine (cloneOf key _ (by omega)).mono ?_
       rintro e w1 ⟨rfl, hb1⟩
       have hb01 : Below w0.heap.size w0 w1 := (Below.drew (Below.refl _ w0)).trans hb1
       have HB1 : Hid (Below w.heap.size w w1) := hb0.trans (hb01.mono hb0.size)
       rcases HEN.out w1 hb01 with ⟨a0, a1, a2, a3, a4, a5⟩
       clear hb1 hb01)
    | (go_at_call 51
       refine (HOV.out _ HB1.out).mono ?_
       rintro e w2 ⟨n2, p2, rfl, ht2, hb2⟩
       have HB2 : Hid (Below w.heap.size w w2) := HB1.out.trans (hb2.mono HB1.out.size)
       have HT2 : Hid (TreeAt P w2 n2 p2 [⟨key, en⟩]) := ht2
       rcases (EnAt.mk a0 a1 a2 a3 a4 a5).block (hb2.block _ (cell_lt a0)) with ⟨b0, b1, b2, b3, b4, b5⟩
       clear ht2 hb2))
  go_wp2
  go_ret
  exact ⟨n2, p2, rfl, HT2.out, HB2.out⟩

set_option maxHeartbeats 8000000 in
theorem withOf (P : Nat → Prop) (key : ByteArray) (en : En) (hk : key.size ≤ 64) : ∀ (n : Nat) (w : World) (p : Option Addr) (l : List Ke), (∀ g, w.heap.size ≤ g → P g) → TreeAt P w n p l → Srt l → l.length ≤ 1125899906842620 → Calls Try.prog 41 #[.pointer p, .string key, en.v] w (TreeRet P w (insL key en l)) := by
  intro n
  induction n with
  | zero =>
    intro w p l hP ht hs hl
    obtain ⟨rfl, rfl⟩ := ht
    exact withNil P key en w hP hk
  | succ n ih0 =>
  intro w p l hP ht hs hl
  cases p with
  | none =>
    obtain rfl := ht.none_is
    exact withNil P key en w hP hk
  | some ar =>
  obtain ⟨m', g, k, pl, pr, ll, lr, hm, rfl, hPg, hkk, hng, rfl, hl1, hr1⟩ := ht.some_is
  have hm' : m' = n := by omega
  subst hm'
  have ih : ∀ (w : World) (p : Option Addr) (l : List Ke), (∀ g, w.heap.size ≤ g → P g) → TreeAt P w m' p l → Srt l → l.length ≤ 1125899906842620 → Calls Try.prog 41 #[.pointer p, .string key, en.v] w (TreeRet P w (insL key en l)) := ih0
  have hlen : (ll ++ k :: lr).length = ll.length + lr.length + 1 := by simp; omega
  rw [hlen] at hl hng
  have hsp := hs.parts
  obtain ⟨w0, hw0⟩ : ∃ w0, w.alloc (.cells #[.int .i64 en.seg, .int .i64 en.pos, .int .i64 en.size, .int .i64 en.off, .int .i64 en.time, .bool en.tomb] 38) = w0 := ⟨_, rfl⟩
  have hb0 : Below w.heap.size w w0 := by rw [← hw0]; exact (Below.refl _ _).alloc (Nat.le_refl _) _
  have HEN : Hid (∀ u, Below w0.heap.size w0 u → EnAt u w.heap.size en) := fun u hu => by
    have h : EnAt w0 w.heap.size en := by rw [← hw0]; exact EnAt.new w en
    exact h.block (hu.block _ h.lt)
  have HPU : Hid (∀ u, Below w.heap.size w u → ∀ g, u.heap.size ≤ g → P g) := fun u hu g hg => hP g (Nat.le_trans hu.size hg)
  have HNR : Hid (∀ u, Below w.heap.size w u → NodeAt u g k (ll.length + lr.length + 1) pl pr) := fun u hu => hng.block (hu.block _ hng.lt)
  have HCM : Hid (∀ u, Calls Try.prog 46 #[.string key, .string k.key] u fun e w' => e = .returned (.int .i64 (kc key k.key)) ∧ Below u.heap.size u w') := fun u => compare key k.key u (by unfold maxLen; omega) (by unfold maxLen; omega)
  have HOV : Hid (∀ u, Below w.heap.size w u → Calls Try.prog 51 #[Ke.v ⟨k.key, en⟩, .pointer pl, .pointer pr] u (TreeRet P u (ll ++ ⟨k.key, en⟩ :: lr))) := fun u hu => overOf ⟨k.key, en⟩ u (HPU.out u hu) hkk (hl1.later hu) (hr1.later hu) (by omega)
  obtain ⟨c0, c1, c2, c3, c4, c5, c6, c7, c8, c9⟩ := HNR.out w0 hb0
  obtain ⟨d0, d1, d2, d3, d4, d5⟩ := HEN.out w0 (Below.refl _ _)
  clear ht hng ih0
  go_enter Try.func41, Try.ntmps41
  go_wp2_with fail
  refine (HCM.out _).mono ?_
  rintro e w1 ⟨rfl, hb1⟩
  have HB1 : Hid (Below w.heap.size w w1) := hb0.trans (hb1.mono hb0.size)
  have HEN1 : Hid (∀ u, Below w1.heap.size w1 u → EnAt u w.heap.size en) := fun u hu => HEN.out u (hb1.trans (hu.mono hb1.size))
  clear c0 c1 c2 c3 c4 c5 c6 c7 c8 c9 d0 d1 d2 d3 d4 d5 hb1
  obtain ⟨c0, c1, c2, c3, c4, c5, c6, c7, c8, c9⟩ := HNR.out w1 HB1.out
  obtain ⟨d0, d1, d2, d3, d4, d5⟩ := HEN1.out w1 (Below.refl _ _)
  rcases kc_range key k.key with hc | hc | hc
  · rw [hc]
    have HW : Hid (∀ u, Below w.heap.size w u → Calls Try.prog 41 #[.pointer pl, .string key, en.v] u (TreeRet P u (insL key en ll))) := fun u hu => ih u pl ll (HPU.out u hu) (hl1.later hu) hsp.1 (by omega)
    have HBA : Hid (∀ u n p, Below w.heap.size w u → TreeAt P u n p (insL key en ll) → Calls Try.prog 53 #[k.v, .pointer p, .pointer pr] u (TreeRet P u (insL key en ll ++ k :: lr))) := fun u n p hu ht => balancedOf k u (HPU.out u hu) hkk ht (hr1.later hu) (by have := insL_len key en ll; omega)
    go_wp2
    go_region_held3 (fun w' => w'.cell? ⟨g, 0, none⟩ = some (.string k.key) ∧ w'.cell? ⟨g, 1, none⟩ = some (.int .i64 k.e.seg) ∧ w'.cell? ⟨g, 2, none⟩ = some (.int .i64 k.e.pos) ∧ w'.cell? ⟨g, 3, none⟩ = some (.int .i64 k.e.size) ∧ w'.cell? ⟨g, 4, none⟩ = some (.int .i64 k.e.off) ∧ w'.cell? ⟨g, 5, none⟩ = some (.int .i64 k.e.time) ∧ w'.cell? ⟨g, 6, none⟩ = some (.bool k.e.tomb) ∧ w'.cell? ⟨g, 8, none⟩ = some (.pointer pl) ∧ w'.cell? ⟨g, 9, none⟩ = some (.pointer pr) ∧ w'.cell? ⟨w.heap.size, 0, none⟩ = some (.int .i64 en.seg) ∧ w'.cell? ⟨w.heap.size, 1, none⟩ = some (.int .i64 en.pos) ∧ w'.cell? ⟨w.heap.size, 2, none⟩ = some (.int .i64 en.size) ∧ w'.cell? ⟨w.heap.size, 3, none⟩ = some (.int .i64 en.off) ∧ w'.cell? ⟨w.heap.size, 4, none⟩ = some (.int .i64 en.time) ∧ w'.cell? ⟨w.heap.size, 5, none⟩ = some (.bool en.tomb)) (go_keep) (first
      | (go_at_call 41
         refine (HW.out _ (by first | exact HB1.out | exact Below.drew HB1.out)).mono ?_
         rintro e w2 ⟨n2, p2, rfl, ht2, hb2⟩
         have hb12 : Below w1.heap.size w1 w2 := (Below.drew (Below.refl _ w1)).trans hb2
         have HB2 : Hid (Below w.heap.size w w2) := HB1.out.trans (hb12.mono HB1.out.size)
         have HT2 : Hid (TreeAt P w2 n2 p2 (insL key en ll)) := ht2
         rcases HNR.out w2 HB2.out with ⟨x0, x1, x2, x3, x4, x5, x6, x7, x8, x9⟩
         rcases HEN1.out w2 hb12 with ⟨y0, y1, y2, y3, y4, y5⟩
         clear ht2 hb2 HW)
      | (go_at_call 53
         refine (HBA.out _ _ _ HB2.out HT2.out).mono ?_
         rintro e w3 ⟨n3, p3, rfl, ht3, hb3⟩
         have HB3 : Hid (Below w.heap.size w w3) := HB2.out.trans (hb3.mono HB2.out.size)
         have HT3 : Hid (TreeAt P w3 n3 p3 (insL key en ll ++ k :: lr)) := ht3
         rcases HNR.out w3 HB3.out with ⟨z0, z1, z2, z3, z4, z5, z6, z7, z8, z9⟩
         rcases (EnAt.mk y0 y1 y2 y3 y4 y5).block (hb3.block _ (cell_lt y0)) with ⟨v0, v1, v2, v3, v4, v5⟩
         clear ht3 hb3))
    go_wp2
    go_ret
    exact ⟨n3, p3, rfl, by rw [insL_lt key en k lr hc ll]; exact HT3.out, HB3.out⟩
  · rw [hc]
    go_wp2
    go_region_held3 (fun w' => w'.cell? ⟨g, 0, none⟩ = some (.string k.key) ∧ w'.cell? ⟨g, 1, none⟩ = some (.int .i64 k.e.seg) ∧ w'.cell? ⟨g, 2, none⟩ = some (.int .i64 k.e.pos) ∧ w'.cell? ⟨g, 3, none⟩ = some (.int .i64 k.e.size) ∧ w'.cell? ⟨g, 4, none⟩ = some (.int .i64 k.e.off) ∧ w'.cell? ⟨g, 5, none⟩ = some (.int .i64 k.e.time) ∧ w'.cell? ⟨g, 6, none⟩ = some (.bool k.e.tomb) ∧ w'.cell? ⟨g, 8, none⟩ = some (.pointer pl) ∧ w'.cell? ⟨g, 9, none⟩ = some (.pointer pr) ∧ w'.cell? ⟨w.heap.size, 0, none⟩ = some (.int .i64 en.seg) ∧ w'.cell? ⟨w.heap.size, 1, none⟩ = some (.int .i64 en.pos) ∧ w'.cell? ⟨w.heap.size, 2, none⟩ = some (.int .i64 en.size) ∧ w'.cell? ⟨w.heap.size, 3, none⟩ = some (.int .i64 en.off) ∧ w'.cell? ⟨w.heap.size, 4, none⟩ = some (.int .i64 en.time) ∧ w'.cell? ⟨w.heap.size, 5, none⟩ = some (.bool en.tomb)) (go_keep) (first
      | (go_at_call 51
         refine (HOV.out _ (by first | exact HB1.out | exact Below.drew HB1.out)).mono ?_
         rintro e w2 ⟨n2, p2, rfl, ht2, hb2⟩
         have hb12 : Below w1.heap.size w1 w2 := (Below.drew (Below.refl _ w1)).trans hb2
         have HB2 : Hid (Below w.heap.size w w2) := HB1.out.trans (hb12.mono HB1.out.size)
         have HT2 : Hid (TreeAt P w2 n2 p2 (ll ++ ⟨k.key, en⟩ :: lr)) := ht2
         rcases HNR.out w2 HB2.out with ⟨x0, x1, x2, x3, x4, x5, x6, x7, x8, x9⟩
         rcases HEN1.out w2 hb12 with ⟨y0, y1, y2, y3, y4, y5⟩
         clear ht2 hb2))
    go_wp2
    go_ret
    exact ⟨n2, p2, rfl, by rw [insL_eq hs hc]; exact HT2.out, HB2.out⟩
  · rw [hc]
    have HW : Hid (∀ u, Below w.heap.size w u → Calls Try.prog 41 #[.pointer pr, .string key, en.v] u (TreeRet P u (insL key en lr))) := fun u hu => ih u pr lr (HPU.out u hu) (hr1.later hu) hsp.2.1 (by omega)
    have HBA : Hid (∀ u n p, Below w.heap.size w u → TreeAt P u n p (insL key en lr) → Calls Try.prog 53 #[k.v, .pointer pl, .pointer p] u (TreeRet P u (ll ++ k :: insL key en lr))) := fun u n p hu ht => balancedOf k u (HPU.out u hu) hkk (hl1.later hu) ht (by have := insL_len key en lr; omega)
    go_wp2
    go_region_held3 (fun w' => w'.cell? ⟨g, 0, none⟩ = some (.string k.key) ∧ w'.cell? ⟨g, 1, none⟩ = some (.int .i64 k.e.seg) ∧ w'.cell? ⟨g, 2, none⟩ = some (.int .i64 k.e.pos) ∧ w'.cell? ⟨g, 3, none⟩ = some (.int .i64 k.e.size) ∧ w'.cell? ⟨g, 4, none⟩ = some (.int .i64 k.e.off) ∧ w'.cell? ⟨g, 5, none⟩ = some (.int .i64 k.e.time) ∧ w'.cell? ⟨g, 6, none⟩ = some (.bool k.e.tomb) ∧ w'.cell? ⟨g, 8, none⟩ = some (.pointer pl) ∧ w'.cell? ⟨g, 9, none⟩ = some (.pointer pr) ∧ w'.cell? ⟨w.heap.size, 0, none⟩ = some (.int .i64 en.seg) ∧ w'.cell? ⟨w.heap.size, 1, none⟩ = some (.int .i64 en.pos) ∧ w'.cell? ⟨w.heap.size, 2, none⟩ = some (.int .i64 en.size) ∧ w'.cell? ⟨w.heap.size, 3, none⟩ = some (.int .i64 en.off) ∧ w'.cell? ⟨w.heap.size, 4, none⟩ = some (.int .i64 en.time) ∧ w'.cell? ⟨w.heap.size, 5, none⟩ = some (.bool en.tomb)) (go_keep) (first
      | (go_at_call 41
         refine (HW.out _ (by first | exact HB1.out | exact Below.drew HB1.out)).mono ?_
         rintro e w2 ⟨n2, p2, rfl, ht2, hb2⟩
         have hb12 : Below w1.heap.size w1 w2 := (Below.drew (Below.refl _ w1)).trans hb2
         have HB2 : Hid (Below w.heap.size w w2) := HB1.out.trans (hb12.mono HB1.out.size)
         have HT2 : Hid (TreeAt P w2 n2 p2 (insL key en lr)) := ht2
         rcases HNR.out w2 HB2.out with ⟨x0, x1, x2, x3, x4, x5, x6, x7, x8, x9⟩
         rcases HEN1.out w2 hb12 with ⟨y0, y1, y2, y3, y4, y5⟩
         clear ht2 hb2 HW)
      | (go_at_call 53
         refine (HBA.out _ _ _ HB2.out HT2.out).mono ?_
         rintro e w3 ⟨n3, p3, rfl, ht3, hb3⟩
         have HB3 : Hid (Below w.heap.size w w3) := HB2.out.trans (hb3.mono HB2.out.size)
         have HT3 : Hid (TreeAt P w3 n3 p3 (ll ++ k :: insL key en lr)) := ht3
         rcases HNR.out w3 HB3.out with ⟨z0, z1, z2, z3, z4, z5, z6, z7, z8, z9⟩
         rcases (EnAt.mk y0 y1 y2 y3 y4 y5).block (hb3.block _ (cell_lt y0)) with ⟨v0, v1, v2, v3, v4, v5⟩
         clear ht3 hb3))
    go_wp2
    go_ret
    exact ⟨n3, p3, rfl, by rw [insL_gt hs hc]; exact HT3.out, HB3.out⟩
end Go.Proofs.Ytjhbaplnkigifaa

/-! keydir: a key is looked for. -/
namespace Go.Proofs.Ytjhbaplnkigifaa
open Go.RowKit Plain
set_option linter.unusedVariables false

def FindPost (w : World) (key : ByteArray) (l : List Ke) (e : Ending) (w' : World) : Prop :=
  Below w.heap.size w w' ∧ ((findL key l = none ∧ e = .returned (.pointer none)) ∨ ∃ (g : Nat) (k : Ke) (c : Nat) (pl pr : Option Addr), findL key l = some k ∧ e = .returned (.pointer (some ⟨g, 0, none⟩)) ∧ NodeAt w' g k c pl pr)

set_option maxHeartbeats 2000000 in
theorem findOf {P : Nat → Prop} {n : Nat} {p : Option Addr} {l : List Ke} (key : ByteArray) (w : World) (ht : TreeAt P w n p l) (hs : Srt l) (hk : key.size ≤ maxLen) : Calls Try.prog 44 #[.pointer p, .string key] w (FindPost w key l) := by
  have HT : Hid (TreeAt P w n p l) := ht
  have HS : Hid (Srt l) := hs
  clear ht hs
  go_enter Try.func44, Try.ntmps44
  go_wp2
  go_loopg [0] n (fun gk s0 wx => ∃ (q : Option Addr) (l' : List Ke), s0 = .pointer q ∧ Hid (TreeAt P wx gk q l') ∧ Hid (Srt l') ∧ Hid (findL key l = findL key l') ∧ Hid (Below w.heap.size w wx))
  case atStart => exact ⟨p, l, rfl, HT.out, HS.out, rfl, Below.refl _ _⟩
  case round =>
    obtain ⟨q, l', rfl, HTQ, HSQ, HFQ, HBQ⟩ := hrel
    clear HT HS
    cases q with
    | none =>
      have hn := HTQ.out.none_is
      have HF : Hid (FindPost w key l (.returned (.pointer none)) wr) := ⟨HBQ.out, .inl ⟨by rw [HFQ.out, hn]; rfl, rfl⟩⟩
      go_wp2
      go_ret
      exact HF.out
    | some ar =>
      obtain ⟨m', g, k, pl, pr, ll, lr, hm, rfl, hPg, hkk, hng, hll, hl1, hr1⟩ := HTQ.out.some_is
      subst hm hll
      have HCM : Hid (∀ u, Calls Try.prog 46 #[.string key, .string k.key] u fun e w' => e = .returned (.int .i64 (kc key k.key)) ∧ Below u.heap.size u w') := fun u => compare key k.key u hk (by unfold maxLen; omega)
      have HN : Hid (NodeAt wr g k (ll ++ k :: lr).length pl pr) := hng
      have HL1 : Hid (TreeAt P wr m' pl ll) := hl1
      have HR1 : Hid (TreeAt P wr m' pr lr) := hr1
      obtain ⟨c0, -, -, -, -, -, -, -, -, -⟩ := HN.out
      clear hng hl1 hr1
      go_wp2_with fail
      refine (HCM.out _).mono ?_
      rintro e w1 ⟨rfl, hb1⟩
      have HB1 : Hid (Below w.heap.size w w1) := HBQ.out.trans (hb1.mono HBQ.out.size)
      have HN1 : Hid (NodeAt w1 g k (ll ++ k :: lr).length pl pr) := HN.out.block (hb1.block _ HN.out.lt)
      have HL2 : Hid (TreeAt P w1 m' pl ll) := HL1.out.later hb1
      have HR2 : Hid (TreeAt P w1 m' pr lr) := HR1.out.later hb1
      clear hb1 c0
      obtain ⟨-, -, -, -, -, -, -, -, c8, c9⟩ := HN1.out
      rcases kc_range key k.key with hc | hc | hc
      · have HC : Hid (kc key k.key = -1) := hc
        rw [hc]
        clear hc
        go_wp2
        go_roundg m'
        case rel => exact ⟨pl, ll, rfl, HL2.out, HSQ.out.parts.1, HFQ.out.trans (findL_lt HSQ.out HC.out), HB1.out⟩
        case measure => exact Nat.lt_succ_self _
      · have HF : Hid (FindPost w key l (.returned (.pointer (some ⟨g, 0, none⟩))) w1) := ⟨HB1.out, .inr ⟨g, k, _, pl, pr, HFQ.out.trans (findL_eq HSQ.out hc), rfl, HN1.out⟩⟩
        rw [hc]
        clear hc
        go_wp2
        go_ret
        exact HF.out
      · have HC : Hid (kc key k.key = 1) := hc
        rw [hc]
        clear hc
        go_wp2
        go_roundg m'
        case rel => exact ⟨pr, lr, rfl, HR2.out, HSQ.out.parts.2.1, HFQ.out.trans (findL_gt HSQ.out HC.out), HB1.out⟩
        case measure => exact Nat.lt_succ_self _
end Go.Proofs.Ytjhbaplnkigifaa

/-! Rows of bytes that the call itself has made, and what append does to them. -/
namespace Go.Proofs.Ytjhbaplnkigifaa
open Go.RowKit Plain
set_option linter.unusedVariables false

/-- v reads as l, and lies at the head of a row of bytes, in block r, that may be written. -/
def Own (w : World) (v : Value) (l : List Nat) (r : Option Nat) : Prop :=
  (∀ c ∈ l, c < 256) ∧ ((v = .slice none 0 0 ∧ l = [] ∧ r = none) ∨
    ∃ g cap, r = some g ∧ v = .slice (some ⟨g, 0, none⟩) l.length cap ∧ g < w.heap.size ∧ l.length ≤ cap ∧ cap ≤ maxLen ∧
      (∀ j, j < cap → w.frozen? ⟨g, j, none⟩ = false) ∧ (∀ j, j < cap → (w.cell? ⟨g, j, none⟩).isSome = true) ∧
      ∀ j, j < l.length → w.cell? ⟨g, j, none⟩ = some (.int .u8 ((l.getD j 0 : Nat) : Int)))

theorem grow_trans {a b c : World} {r r' : Option Nat} (h : a.grownBy b r) (k : b.grownBy c r') (hr : r' = r ∨ r' = none ∨ ∃ g, r' = some g ∧ a.heap.size ≤ g) : a.grownBy c r :=
  ⟨k.os.trans h.os, k.tape.trans h.tape, k.output.trans h.output, Nat.le_trans h.size k.size, fun i hi hne => by
    rw [k.block i (Nat.lt_of_lt_of_le hi h.size) ?_]
    · exact h.block i hi hne
    · rcases hr with rfl | rfl | ⟨g, rfl, hg⟩
      · exact hne
      · simp
      · simp only [ne_eq, Option.some.injEq]; omega⟩

theorem below_grow {w w' : World} (h : Below w.heap.size w w') (r : Option Nat) : w.grownBy w' r := ⟨h.os, h.tape, h.output, h.size, fun k hk _ => h.block k hk⟩

theorem grow_below {w w' : World} {r : Option Nat} {B : Nat} (h : w.grownBy w' r) (hB : B ≤ w.heap.size) (hr : ∀ g, r = some g → B ≤ g) : Below B w w' :=
  ⟨h.os, h.tape, h.output, h.size, fun k hk => h.block k (Nat.lt_of_lt_of_le hk hB) (fun e => by have := hr k e.symm; omega)⟩

theorem grow_drewN {w w' : World} {r : Option Nat} (h : w.grownBy w' r) (n : Nat) : w.grownBy (w'.drewN n) r := ⟨h.os, h.tape, h.output, h.size, h.block⟩

theorem Own.byte {w : World} {v : Value} {l : List Nat} {r : Option Nat} (h : Own w v l r) : ∀ c ∈ l, c < 256 := h.1

theorem Own.nil (w : World) : Own w (.slice none 0 0) [] none := ⟨by simp, .inl ⟨rfl, rfl, rfl⟩⟩

theorem Own.kept {w w' : World} {v : Value} {l : List Nat} {r r' : Option Nat} (h : Own w v l r) (k : w.grownBy w' r') (hne : r = none ∨ r ≠ r') : Own w' v l r := by
  refine ⟨h.1, ?_⟩
  rcases h.2 with h0 | ⟨g, cap, rfl, rfl, hg, h1, h2, h3, h4, h5⟩
  · exact .inl h0
  · have hb : w'.heap[g]? = w.heap[g]? := k.block g hg (by rcases hne with h | h <;> simp_all)
    refine .inr ⟨g, cap, rfl, rfl, Nat.lt_of_lt_of_le hg k.size, h1, h2, fun j hj => ?_, fun j hj => ?_, fun j hj => ?_⟩
    · rw [World.frozen?_of_block (w := w) (a := ⟨g, j, none⟩) hb]; exact h3 j hj
    · rw [World.cell?_of_block (w := w) (a := ⟨g, j, none⟩) hb]; exact h4 j hj
    · rw [World.cell?_of_block (w := w) (a := ⟨g, j, none⟩) hb]; exact h5 j hj

theorem Own.later {w w' : World} {v : Value} {l : List Nat} {r : Option Nat} (h : Own w v l r) (k : Below w.heap.size w w') : Own w' v l r := by
  cases r with
  | none => exact h.kept (below_grow k none) (.inl rfl)
  | some g => exact h.kept (below_grow k none) (.inr (by simp))

theorem Own.lt {w : World} {v : Value} {l : List Nat} {g : Nat} (h : Own w v l (some g)) : g < w.heap.size := by
  rcases h.2 with ⟨_, _, h⟩ | ⟨g', cap, e, _, hg, _⟩
  · simp at h
  · simp at e; omega

theorem Own.bytes {w : World} {v : Value} {l : List Nat} {r : Option Nat} (h : Own w v l r) : BytesAt w v l := by
  rcases h.2 with ⟨rfl, rfl, rfl⟩ | ⟨g, cap, rfl, rfl, hg, h1, h2, h3, h4, h5⟩
  · exact BytesAt.nil w
  · exact ⟨_, cap, rfl, h1, h2, h.1, fun _ => ⟨g, 0, rfl, fun j hj => by rw [Nat.zero_add]; exact h5 j hj⟩⟩

theorem Own.len {w : World} {v : Value} {l : List Nat} {r : Option Nat} (h : Own w v l r) : l.length ≤ maxLen := h.bytes.len

theorem Own.take {w : World} {a : Option Addr} {len cap : Nat} {l : List Nat} {r : Option Nat} (h : Own w (.slice a len cap) l r) (n : Nat) (hn : n ≤ l.length) : Own w (.slice a n cap) (l.take n) r := by
  refine ⟨fun c hc => h.1 c (List.mem_of_mem_take hc), ?_⟩
  have hl : (l.take n).length = n := by simp; omega
  rcases h.2 with ⟨e, rfl, rfl⟩ | ⟨g, cap', rfl, e, hg, h1, h2, h3, h4, h5⟩
  · simp only [Value.slice.injEq] at e
    obtain ⟨rfl, rfl, rfl⟩ := e
    have : n = 0 := by simpa using hn
    subst this
    exact .inl ⟨rfl, rfl, rfl⟩
  · simp only [Value.slice.injEq] at e
    obtain ⟨rfl, rfl, rfl⟩ := e
    refine .inr ⟨g, cap, rfl, by rw [hl], hg, by omega, h2, h3, h4, fun j hj => ?_⟩
    rw [getD_take l n j (by omega)]
    exact h5 j (by omega)

theorem Own.shape {w : World} {v : Value} {l : List Nat} {g : Nat} (h : Own w v l (some g)) : ∃ cap, v = .slice (some ⟨g, 0, none⟩) l.length cap ∧ l.length ≤ cap ∧ cap ≤ maxLen := by
  rcases h.2 with ⟨_, _, h⟩ | ⟨g', cap, e, rfl, hg, h1, h2, _⟩
  · simp at h
  · simp at e; subst e; exact ⟨cap, rfl, h1, h2⟩

/-- A row of no bytes. -/
theorem Own.empty (w : World) (t : TypeId) : Own (w.alloc (.cells #[] t)) (.slice (some ⟨w.heap.size, 0, none⟩) 0 0) [] (some w.heap.size) :=
  ⟨by simp, .inr ⟨w.heap.size, 0, rfl, rfl, by simp, by simp, by simp, by simp, by simp, by simp⟩⟩

theorem cellsOf_get (l : List Nat) (j : Nat) (h : j < l.length) : (cellsOf l)[j]? = some (.int .u8 ((l.getD j 0 : Nat) : Int)) := by
  simp [cellsOf, List.getD_eq_getElem?_getD, List.getElem?_eq_getElem h]

theorem cellsOf_len (l : List Nat) : (cellsOf l).length = l.length := by simp [cellsOf]
theorem cellsOf_append (l k : List Nat) : cellsOf l ++ cellsOf k = cellsOf (l ++ k) := by simp [cellsOf]
theorem cellsOf_one (l : List Nat) : ∀ u ∈ cellsOf l, u.oneCell' = true := by
  intro u hu
  obtain ⟨_, _, rfl⟩ := List.mem_map.mp hu
  rfl

theorem getD_left (l k : List Nat) {j : Nat} (h : j < l.length) : (l ++ k).getD j 0 = l.getD j 0 := by
  simp [List.getD_eq_getElem?_getD, List.getElem?_append_left h]
theorem getD_right (l k : List Nat) {j : Nat} (h : l.length ≤ j) : (l ++ k).getD j 0 = k.getD (j - l.length) 0 := by
  simp [List.getD_eq_getElem?_getD, List.getElem?_append_right h]

/-- A new row. -/
theorem Own.new (w : World) (C : Array Value) (l : List Nat) (cap : Nat) (t : TypeId) (hb : ∀ c ∈ l, c < 256) (hcap : C.size = cap) (hle : l.length ≤ cap) (hm : cap ≤ maxLen) (hC : ∀ j, j < l.length → C[j]? = some (.int .u8 ((l.getD j 0 : Nat) : Int))) :
    Own (w.alloc (.cells C t)) (.slice (some ⟨w.heap.size, 0, none⟩) l.length cap) l (some w.heap.size) := by
  refine ⟨hb, .inr ⟨w.heap.size, cap, rfl, rfl, by simp, hle, hm, fun j hj => ?_, fun j hj => ?_, fun j hj => ?_⟩⟩
  · exact World.frozen?_alloc_at _ _ _ _ rfl
  · rw [World.cell?_alloc_at _ _ _ _ rfl, Array.getElem?_eq_getElem (by omega)]; rfl
  · rw [World.cell?_alloc_at _ _ _ _ rfl]; exact hC j hj

/-- A slice of bytes that is appended. -/
theorem src_of {w : World} {v : Value} {l : List Nat} {t : TypeId} (ht : Try.prog.underlying t = some (.slice 5)) (h : BytesAt w v l) : Src Try.prog 1 t v l.length (cellsOf l) w := by
  obtain ⟨a, cap, rfl, h1, h2, h3, h4⟩ := h
  by_cases hnil : l = []
  · subst hnil
    cases a with
    | none => exact Src.ofNil w ht cap
    | some a => exact Src.ofSlice w ht a 0 cap [] (by simp) (by simp) (by simp)
  · obtain ⟨b, off, rfl, h5⟩ := h4 hnil
    refine Src.ofSlice w ht _ _ cap _ (by rw [cellsOf_len]; simp) (fun j u hj => ?_) (cellsOf_one l)
    have hjl : j < l.length := by
      have := (List.getElem?_eq_some_iff.mp hj).1
      rwa [cellsOf_len] at this
    rw [WideShapes.add_plain, h5 j hjl, ← cellsOf_get l j hjl, hj]

theorem src_str {w : World} {s : ByteArray} {t : TypeId} (ht : Try.prog.underlying t = some .string) : Src Try.prog 1 t (.string s) (s.data.toList.map (·.toNat)).length (cellsOf (s.data.toList.map (·.toNat))) w := by
  have e : cellsOf (s.data.toList.map (·.toNat)) = byteCells s := by simp [cellsOf, byteCells]
  have e2 : (s.data.toList.map (·.toNat)).length = s.size := by simp
  rw [e, e2]
  exact Src.ofString w ht s

theorem setCells_size (b : Nat) : ∀ (vs : List Value) (o : Nat) (w : World), (w.setCells b o vs).heap.size = w.heap.size
  | [], _, _ => rfl
  | v :: vs, o, w => by rw [World.setCells, setCells_size b vs]; simp
theorem setCells_tape (b : Nat) : ∀ (vs : List Value) (o : Nat) (w : World), (w.setCells b o vs).tape = w.tape
  | [], _, _ => rfl
  | v :: vs, o, w => by rw [World.setCells, setCells_tape b vs]; rfl
theorem grow_setCells (w : World) (g o : Nat) (vs : List Value) : w.grownBy (w.setCells g o vs) (some g) :=
  ⟨World.os_setCells w g o vs, setCells_tape g vs o w, World.output_setCells w g o vs, by rw [setCells_size]; exact Nat.le_refl _, fun k hk hne => World.heap_setCells_other w g o vs hk (fun e => hne (by rw [e]))⟩
theorem isSome_setCells (b : Nat) : ∀ (vs : List Value) (o : Nat) (w : World) (x : Addr), (w.cell? x).isSome = true → ((w.setCells b o vs).cell? x).isSome = true
  | [], _, _, _, h => h
  | v :: vs, o, w, x, h => by
    rw [World.setCells]
    apply isSome_setCells b vs
    by_cases hx : x = ⟨b, o, none⟩
    · subst hx
      obtain ⟨u, hu⟩ := Option.isSome_iff_exists.mp h
      rw [World.cell?_setCell_same _ _ _ hu]; rfl
    · rw [World.cell?_setCell_other _ _ _ _ (Ne.symm hx)]; exact h

/-- WHAT append DOES to a row of the call's own. -/
theorem run_append_row (w : World) (t tx ty : TypeId) (ht : Try.prog.underlying t = some (.slice 5)) (v x : Value) (l k : List Nat) (r : Option Nat) (hown : Own w v l r)
    (hk : ∀ c ∈ k, c < 256) (hs : Src Try.prog 1 tx x k.length (cellsOf k) w) (hlen : l.length + k.length ≤ 140737488355328) :
    ∃ v' w' r', (Builtin.append_ #[t, tx] ty #[v, x]).run Try.prog w = .ok v' w' ∧ Own w' v' (l ++ k) r' ∧ w.grownBy w' r ∧ (r' = r ∨ r' = some w.heap.size) ∧ (k ≠ [] → r' ≠ none) := by
  obtain ⟨i, hi, hz0, hz1, hz2⟩ := info_parts Try.info5
  have hby : ∀ c ∈ l ++ k, c < 256 := fun c hc => by
    rcases List.mem_append.mp hc with h | h
    · exact hown.1 c h
    · exact hk c h
  have hs' : Src Try.prog i.size tx x k.length (cellsOf k) w := by rw [hz1]; exact hs
  have hmax : l.length + k.length ≤ maxLen := by unfold maxLen; omega
  have grow : ∀ (base : Option Addr) (sCap : Nat), (Builtin.firstCells i.size l.length (.slice base l.length sCap)).run Try.prog w.drew = .ok (cellsOf l).toArray w.drew → sCap < l.length + k.length →
      ∃ v' w' r', (Builtin.append_ #[t, tx] ty #[.slice base l.length sCap, x]).run Try.prog w = .ok v' w' ∧ Own w' v' (l ++ k) r' ∧ w.grownBy w' r ∧ (r' = r ∨ r' = some w.heap.size) ∧ (k ≠ [] → r' ≠ none) := by
    intro base sCap hold hg
    have hr := run_append_grow_src (P := Try.prog) w t tx ty 5 i (.int .u8 0) ht hi hz0 base l.length sCap (cellsOf l) hold x k.length (cellsOf k) hs' hg (by omega) (by rw [hz2]; exact growslice_fits hg (by omega))
    have hge := grownCap_ge w (l.length + k.length) sCap 5
    have hcm := grownCap_le_maxLen w (l.length + k.length) sCap 5 hmax
    refine ⟨_, _, some w.heap.size, hr, ?_, ⟨rfl, rfl, rfl, by simp, fun k hk _ => heap_alloc_old w.drew _ hk⟩, .inr rfl, by simp⟩
    have hl2 : (l ++ k).length = l.length + k.length := by simp
    have := Own.new w.drew ((cellsOf l ++ cellsOf k).toArray ++ Builtin.zeroCells (Value.int .u8 0).cells (grownCap w (l.length + k.length) sCap 5 - (l.length + k.length))) (l ++ k) (grownCap w (l.length + k.length) sCap 5) 5 hby
      (by rw [cellsOf_append, Array.size_append, List.size_toArray, cellsOf_len, size_zeroCells, hl2]; show _ + _ * 1 = _; omega) (by omega) hcm
      (fun j hj => by rw [cellsOf_append, Array.getElem?_append_left (by rw [List.size_toArray, cellsOf_len]; exact hj), List.getElem?_toArray]; exact cellsOf_get _ j hj)
    rw [hl2] at this
    exact this
  rcases hown.2 with ⟨rfl, rfl, rfl⟩ | ⟨g, cap, rfl, rfl, hg, h1, h2, h3, h4, h5⟩
  · by_cases hk0 : k = []
    · subst hk0
      refine ⟨.slice none 0 0, w, none, ?_, Own.nil w, ⟨rfl, rfl, rfl, Nat.le_refl _, fun _ _ _ => rfl⟩, .inl rfl, by simp⟩
      exact run_append_nothing w t tx ty 5 i ht hi none 0 0 (Nat.le_refl _) x hs'
    · have hkl : 0 < k.length := List.length_pos_iff.mpr hk0
      exact grow none 0 (by rw [List.length_nil]; exact run_firstCells_none w.drew _ _ _ _) (by simpa using hkl)
  · by_cases hroom : l.length + k.length ≤ cap
    · have hr := run_append_room_src (P := Try.prog) w t tx ty 5 i ht hi g 0 l.length cap x k.length (cellsOf k) hs' hroom
        (fun j hj => by rw [hz1]; rw [cellsOf_len] at hj; simpa using h4 (l.length + j) (by omega))
        (fun j hj => by rw [hz1]; rw [cellsOf_len] at hj; simpa using h3 (l.length + j) (by omega))
      rw [hz1, Nat.zero_add, Nat.mul_one] at hr
      have hl2 : (l ++ k).length = l.length + k.length := by simp
      refine ⟨_, _, some g, hr, ⟨hby, .inr ⟨g, cap, rfl, by rw [hl2], ?_, by omega, h2, fun j hj => ?_, fun j hj => ?_, fun j hj => ?_⟩⟩, ?_, .inl rfl, by simp⟩
      · rw [setCells_size]; exact hg
      · rw [World.frozen?_setCells]; exact h3 j hj
      · exact isSome_setCells g _ _ w _ (h4 j hj)
      · by_cases hj' : j < l.length
        · rw [World.cell?_setCells_out g _ _ w _ (fun _ _ => .inl hj'), h5 j hj', getD_left l k hj']
        · have hj2 : j - l.length < k.length := by omega
          have := World.cell?_setCells_in g (cellsOf k) l.length w (fun m hm => h4 _ (by rw [cellsOf_len] at hm; omega)) (j - l.length) (by rw [cellsOf_len]; exact hj2)
          rw [show l.length + (j - l.length) = j by omega] at this
          rw [this, getD_right l k (by omega), ← cellsOf_get k _ hj2]
          rw [List.getElem?_eq_getElem (by rw [cellsOf_len]; exact hj2)]
      · exact grow_setCells w g _ _
    · refine grow _ cap ?_ (by omega)
      rw [hz1]
      refine run_firstCells_some w.drew 1 l.length ⟨g, 0, none⟩ _ _ (cellsOf l) (by rw [cellsOf_len, Nat.mul_one]) (fun j u hj => ?_)
      have hjl : j < l.length := by
        have := (List.getElem?_eq_some_iff.mp hj).1
        rwa [cellsOf_len] at this
      rw [WideShapes.add_plain, Nat.zero_add]
      show w.cell? ⟨g, j, none⟩ = some u
      rw [h5 j hjl, ← cellsOf_get l j hjl, hj]

theorem wpList_append_row {ops : Array Oper} {rest : List Oper} {o : Oper} {a : Act} {Q : Exit → Act → World → Prop} (w : World) (hgd : o.guard = none) (s x : Operand) (t tx : TypeId)
    (ho : o.op = .call { callee := .builtin .append, args := #[s, x], argTypes := #[t, tx] }) (ht : Try.prog.underlying t = some (.slice 5)) (v xv : Value) (l k : List Nat) (r : Option Nat)
    (hs : a.eval s = v) (hx : a.eval x = xv) (hown : Own w v l r) (hk : ∀ c ∈ k, c < 256) (hsrc : Src Try.prog 1 tx xv k.length (cellsOf k) w) (hlen : l.length + k.length ≤ 140737488355328)
    (h : ∀ v' w' r', Own w' v' (l ++ k) r' → w.grownBy w' r → (r' = r ∨ r' = some w.heap.size) → (k ≠ [] → r' ≠ none) → wpList Try.prog ops Q rest (a.put o.dst v') w') : wpList Try.prog ops Q (o :: rest) a w :=
  wpList_plain hgd fun _ hK => by
    obtain ⟨v', w', r', hr, h1, h2, h3, h4⟩ := run_append_row w t tx o.type ht v xv l k r hown hk hsrc hlen
    unfold Oper.wp execOp
    simp only [ho, resolve, invoke, builtin, Sem.run_bind, Sem.run_pure, Result.andThen_ok, List.map_toArray, List.map_cons, List.map_nil, hs, hx, hr]
    exact hK _ _ (h v' w' r' h1 h2 h3 h4)

/-- One byte in a new block of its own. -/
theorem src_one (w : World) (c : Nat) (tx t : TypeId) (ht : Try.prog.underlying tx = some (.slice 5)) : Src Try.prog 1 tx (.slice (some ⟨w.heap.size, 0, none⟩) 1 1) [c].length (cellsOf [c]) (w.alloc (.cells #[.int .u8 (c : Int)] t)) :=
  Src.ofSlice _ ht _ 1 1 _ (by simp [cellsOf]) (fun j u hj => by
    match j, hj with
    | 0, hj =>
      simp [cellsOf] at hj
      subst hj
      rw [WideShapes.add_plain, World.cell?_alloc_at _ _ _ _ rfl]; rfl) (cellsOf_one _)
end Go.Proofs.Ytjhbaplnkigifaa
