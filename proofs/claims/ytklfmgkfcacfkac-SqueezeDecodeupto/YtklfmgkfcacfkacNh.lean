import Derived.Test.YtklfmgkfcacfkacNg
/-! The law of Decode. -/
namespace Go.Proofs.Ytklfmgkfcacfkac
open Go.RowKit Plain
set_option linter.unusedVariables false
set_option linter.unusedSimpArgs false

set_option maxHeartbeats 1000000 in
theorem decodesWalk (v : Value) (l : List Nat) (w : World) (h : BytesAt w v l) (hs : l.length ≤ 1048576) : Calls Try.prog 3 #[v] w fun e w' => e = .returned (.bool true) ∧ Below w.heap.size w w' := by
  have HV : Hid (BytesAt w v l) := h
  have hl : l.length ≤ 140737488351232 := by omega
  obtain ⟨a, cap, rfl, -⟩ := h
  go_enter Try.func3, Try.ntmps3
  go_wp2_with fail
  refine (refDecodeAny _ l w HV.out hs).mono ?_
  rintro e w1 ⟨v1, r1, B, z, rfl, he1, ho1, hr1, hb1⟩
  have HE : Hid (Dcd l B z) := he1
  have HBL : Hid (B.length ≤ 30000) := he1.len
  have HO1 : Hid (Own w1 v1 B r1) := ho1
  have HB1 : Hid (Below w.heap.size w w1) := hb1
  clear he1 ho1 hr1 hb1
  go_wp2_with fail
  refine (spareAny _ l w1 (HV.out.later HB1.out) hl).mono ?_
  rintro e w2 ⟨g, rfl, ho2, hg2, hb2⟩
  have HK2 : Hid (Own w2 (.slice (some ⟨g, 0, none⟩) (l.length + 64) (l.length + 64)) (l ++ tailM l.length) (some g)) := ho2
  have HA2 : Hid (Own w2 v1 B r1) := HO1.out.later hb2
  have HB2 : Hid (Below w.heap.size w w2) := below_on HB1.out hb2
  have HP2 : Hid (BytesAt w2 (.slice (some ⟨g, 0, none⟩) l.length (l.length + 64)) l) := by
    have h1 := (ho2.bytes).take l.length (by simp)
    rw [List.take_append_of_le_length (Nat.le_refl _), List.take_length] at h1
    exact h1
  clear ho2 hg2 hb2 HO1 HB1
  go_wp2_with fail
  refine (decodeAny _ l w2 HP2.out).mono ?_
  rintro e w3 ⟨v3, r3, B3, z3, rfl, he3, ho3, hr3, hb3⟩
  obtain ⟨rfl, rfl⟩ := HE.out.one he3
  have HO3 : Hid (Own w3 v3 B r3) := ho3
  have HK3 : Hid (Own w3 (.slice (some ⟨g, 0, none⟩) (l.length + 64) (l.length + 64)) (l ++ tailM l.length) (some g)) := HK2.out.later hb3
  have HA3 : Hid (Own w3 v1 B r1) := HA2.out.later hb3
  have HP3 : Hid (BytesAt w3 (.slice (some ⟨g, 0, none⟩) l.length (l.length + 64)) l) := HP2.out.later hb3
  have HB3 : Hid (Below w.heap.size w w3) := below_on HB2.out hb3
  have HR3 : Hid (∀ q, r3 = some q → w2.heap.size ≤ q) := hr3
  have HGl : Hid (g < w2.heap.size) := HK2.out.lt
  have HRA : Hid (∀ q, r1 = some q → q < w2.heap.size) := fun q hq => by subst hq; exact HA2.out.lt
  clear he3 ho3 hr3 hb3 HK2 HA2 HP2
  go_wp2_with fail
  refine (decodeAny _ l w3 HP3.out).mono ?_
  rintro e w4 ⟨v4, r4, B4, z4, rfl, he4, ho4, hr4, hb4⟩
  obtain ⟨rfl, rfl⟩ := HE.out.one he4
  have HO4 : Hid (Own w4 v4 B r4) := ho4
  have HK4 : Hid (Own w4 (.slice (some ⟨g, 0, none⟩) (l.length + 64) (l.length + 64)) (l ++ tailM l.length) (some g)) := HK3.out.later hb4
  have HA4 : Hid (Own w4 v1 B r1) := HA3.out.later hb4
  have HC4 : Hid (Own w4 v3 B r3) := HO3.out.later hb4
  have HB4 : Hid (Below w.heap.size w w4) := below_on HB3.out hb4
  have HR4 : Hid (∀ q, r4 = some q → w3.heap.size ≤ q) := hr4
  have HR3l : Hid (∀ q, r3 = some q → q < w3.heap.size) := fun q hq => by subst hq; exact HO3.out.lt
  clear he4 ho4 hr4 hb4 HK3 HA3 HO3 HP3
  go_wp2_with fail
  refine (sameYes _ _ B w4 HC4.out.bytes HA4.out.bytes).mono ?_
  rintro e w5 ⟨rfl, n5, rfl⟩
  go_wp2_with fail
  refine (fillAny _ B r3 17 (by omega) (w4.drewN n5) (HC4.out.later (below_drewN (Below.refl _ _) _)) (by have := HBL.out; omega)).mono ?_
  rintro e w6 ⟨rfl, hg6⟩
  have hsz : w4.heap.size = (w4.drewN n5).heap.size := rfl
  have HO6 : Hid (Own w6 v4 B r4) := (HO4.out.later (below_drewN (Below.refl _ _) n5)).kept hg6 (by
    cases r4 with
    | none => exact .inl rfl
    | some q => exact .inr (fun e => by have h1 := HR4.out q rfl; have h2 := HR3l.out q e.symm; omega))
  have HA6 : Hid (Own w6 v1 B r1) := (HA4.out.later (below_drewN (Below.refl _ _) n5)).kept hg6 (by
    cases r1 with
    | none => exact .inl rfl
    | some q => exact .inr (fun e => by have h1 := HRA.out q rfl; have h2 := HR3.out q e.symm; omega))
  have HK6 : Hid (Own w6 (.slice (some ⟨g, 0, none⟩) (l.length + 64) (l.length + 64)) (l ++ tailM l.length) (some g)) := (HK4.out.later (below_drewN (Below.refl _ _) n5)).kept hg6 (.inr (fun e => by have h1 := HGl.out; have h2 := HR3.out g e.symm; omega))
  have HB6 : Hid (Below w.heap.size w w6) := (below_drewN HB4.out n5).trans (grow_below hg6 HB4.out.size (fun q hq => by have h1 := HR3.out q hq; have h2 := HB2.out.size; omega))
  clear hg6 hsz HO4 HA4 HK4 HC4 HB4 HB3 HR4 HR3 HR3l HRA HGl
  go_wp2_with fail
  refine (sameYes _ _ B w6 HO6.out.bytes HA6.out.bytes).mono ?_
  rintro e w7 ⟨rfl, n7, rfl⟩
  go_wp2_with fail
  refine (keptAny g (l.length + 64) (l.length + 64) _ l (w6.drewN n7) (HK6.out.later (below_drewN (Below.refl _ _) n7)) rfl (HV.out.later (below_drewN HB6.out n7)) hl).mono ?_
  rintro e w8 ⟨rfl, n8, rfl⟩
  go_wp2_with fail
  refine (decodePlacedAny _ l (w6.drewN (n7 + n8)) (HV.out.later (below_drewN HB6.out (n7 + n8))) hs).mono ?_
  rintro e w9 ⟨rfl, hb9⟩
  have HB9 : Hid (Below w.heap.size w w9) := below_on (below_drewN HB6.out (n7 + n8)) hb9
  clear hb9
  go_wp2
  go_ret
  exact ⟨rfl, HB9.out⟩
end Go.Proofs.Ytklfmgkfcacfkac
