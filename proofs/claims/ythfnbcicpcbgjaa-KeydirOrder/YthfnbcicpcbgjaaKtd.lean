import Derived.Test.YthfnbcicpcbgjaaKtc
/-! keydir: a node is put into balance. -/
namespace Go.Proofs.Ythfnbcicpcbgjaa
open Go.RowKit Plain
set_option linter.unusedVariables false

set_option maxHeartbeats 4000000 in
theorem balancedOf {P : Nat → Prop} {n m : Nat} {pl pr : Option Addr} {ll lr : List Ke} (k : Ke) (w : World) (hP : ∀ g, w.heap.size ≤ g → P g) (hk : k.key.size ≤ 64) (h1 : TreeAt P w n pl ll) (h2 : TreeAt P w m pr lr) (hl : ll.length + lr.length ≤ 1125899906842623) :
    Calls Try.prog 64 #[k.v, .pointer pl, .pointer pr] w (TreeRet P w (ll ++ k :: lr)) := by
  have HWL : Hid (∀ u, Below w.heap.size w u → Calls Try.prog 71 #[.pointer pl] u fun e w' => e = .returned (.int .i64 (ll.length + 1)) ∧ w' = u) := fun u hu => weightOf u (h1.later hu) (by omega)
  have HWR : Hid (∀ u, Below w.heap.size w u → Calls Try.prog 71 #[.pointer pr] u fun e w' => e = .returned (.int .i64 (lr.length + 1)) ∧ w' = u) := fun u hu => weightOf u (h2.later hu) (by omega)
  have HPU : Hid (∀ u, Below w.heap.size w u → ∀ g, u.heap.size ≤ g → P g) := fun u hu g hg => hP g (Nat.le_trans hu.size hg)
  have HTL : Hid (2 ≤ lr.length → ∀ u, Below w.heap.size w u → Calls Try.prog 72 #[k.v, .pointer pl, .pointer pr] u (TreeRet P u (ll ++ k :: lr))) := fun h u hu => turnLOf k u (HPU.out u hu) hk (h1.later hu) (h2.later hu) hl h
  have HTR : Hid (2 ≤ ll.length → ∀ u, Below w.heap.size w u → Calls Try.prog 73 #[k.v, .pointer pl, .pointer pr] u (TreeRet P u (ll ++ k :: lr))) := fun h u hu => turnROf k u (HPU.out u hu) hk (h1.later hu) (h2.later hu) hl h
  have HOV : Hid (∀ u, Below w.heap.size w u → Calls Try.prog 67 #[k.v, .pointer pl, .pointer pr] u (TreeRet P u (ll ++ k :: lr))) := fun u hu => overOf k u (HPU.out u hu) hk (h1.later hu) (h2.later hu) hl
  obtain ⟨w0, hw0⟩ : ∃ w0, w.alloc (.cells #[.string k.key, .int .i64 k.e.seg, .int .i64 k.e.pos, .int .i64 k.e.size, .int .i64 k.e.off, .int .i64 k.e.time, .bool k.e.tomb] 28) = w0 := ⟨_, rfl⟩
  have hb0 : Below w.heap.size w w0 := by rw [← hw0]; exact (Below.refl _ _).alloc (Nat.le_refl _) _
  have HOW : Hid (∀ u, Below w0.heap.size w0 u → KeAt u w.heap.size k) := fun u hu => by
    have h : KeAt w0 w.heap.size k := by rw [← hw0]; exact KeAt.new w k
    exact h.block (hu.block _ h.lt)
  have hwl : IntKind.i64.wrap (3 * ((ll.length : Int) + 1)) = 3 * ((ll.length : Int) + 1) := i64w _ (by omega) (by omega)
  have hwr : IntKind.i64.wrap (3 * ((lr.length : Int) + 1)) = 3 * ((lr.length : Int) + 1) := i64w _ (by omega) (by omega)
  clear h1 h2
  go_enter Try.func64, Try.ntmps64
  have HB0 : Hid (Below w.heap.size w w0) := hb0
  have hd := HOW.out w0 (Below.refl _ _)
  obtain ⟨d0, d1, d2, d3, d4, d5, d6⟩ := hd
  go_wp2_with fail
  refine (HWR.out _ hb0).mono ?_
  rintro e w1 ⟨rfl, rfl⟩
  go_wp2_with fail
  refine (HWL.out _ hb0).mono ?_
  rintro e w2 ⟨rfl, rfl⟩
  by_cases hA : 3 * ((ll.length : Int) + 1) < (lr.length : Int) + 1
  · go_wp2_with fail
    refine (HTL.out (by omega) _ hb0).mono ?_
    rintro e w3 ⟨n3, p3, rfl, ht3, hb3⟩
    have HT3 : Hid (TreeAt P w3 n3 p3 (ll ++ k :: lr)) := ht3
    have HB3 : Hid (Below w.heap.size w w3) := hb0.trans (hb3.mono hb0.size)
    clear ht3 hb3
    go_wp2
    go_ret
    exact ⟨n3, p3, rfl, HT3.out, HB3.out⟩
  · go_wp2_with fail
    refine (HWL.out _ hb0).mono ?_
    rintro e w3 ⟨rfl, rfl⟩
    go_wp2_with fail
    refine (HWR.out _ hb0).mono ?_
    rintro e w4 ⟨rfl, rfl⟩
    by_cases hB : 3 * ((lr.length : Int) + 1) < (ll.length : Int) + 1
    · go_wp2_with fail
      refine (HTR.out (by omega) _ hb0).mono ?_
      rintro e w3 ⟨n3, p3, rfl, ht3, hb3⟩
      have HT3 : Hid (TreeAt P w3 n3 p3 (ll ++ k :: lr)) := ht3
      have HB3 : Hid (Below w.heap.size w w3) := hb0.trans (hb3.mono hb0.size)
      clear ht3 hb3
      go_wp2
      go_ret
      exact ⟨n3, p3, rfl, HT3.out, HB3.out⟩
    · go_wp2_with fail
      refine (HOV.out _ hb0).mono ?_
      rintro e w3 ⟨n3, p3, rfl, ht3, hb3⟩
      have HT3 : Hid (TreeAt P w3 n3 p3 (ll ++ k :: lr)) := ht3
      have HB3 : Hid (Below w.heap.size w w3) := hb0.trans (hb3.mono hb0.size)
      clear ht3 hb3
      go_wp2
      go_ret
      exact ⟨n3, p3, rfl, HT3.out, HB3.out⟩
end Go.Proofs.Ythfnbcicpcbgjaa
