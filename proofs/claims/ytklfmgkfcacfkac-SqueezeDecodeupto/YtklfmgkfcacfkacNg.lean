import Derived.Test.YtklfmgkfcacfkacNf
/-! The law of Decode. -/
namespace Go.Proofs.Ytklfmgkfcacfkac
open Go.RowKit Plain
set_option linter.unusedVariables false
set_option linter.unusedSimpArgs false

set_option maxHeartbeats 1000000 in
theorem decodePlacedAny (v : Value) (l : List Nat) (w : World) (h : BytesAt w v l) (hs : l.length ≤ 1048576) : Calls Try.prog 10 #[v] w fun e w' => e = .returned (.bool true) ∧ Below w.heap.size w w' := by
  have HV : Hid (BytesAt w v l) := h
  have hl : l.length ≤ 140737488351232 := by omega
  obtain ⟨a, cap, rfl, -⟩ := h
  have HTL : Hid ((turn l).length = l.length) := turn_len l
  go_enter Try.func10, Try.ntmps10
  go_wp2_with fail
  refine (turnedAny _ l w HV.out hl).mono ?_
  rintro e w1 ⟨v1, r1, rfl, ho1, hr1, hb1⟩
  obtain ⟨a1, c1, rfl⟩ := ho1.isSlice
  rw [HTL.out] at ho1 ⊢
  have HO1 : Hid (Own w1 (.slice a1 l.length c1) (turn l) r1) := ho1
  have HB1 : Hid (Below w.heap.size w w1) := hb1
  clear ho1 hr1 hb1
  go_wp2_with fail
  refine (spareAny _ (turn l) w1 HO1.out.bytes (by rw [HTL.out]; exact hl)).mono ?_
  rintro e w2 ⟨g, rfl, ho2, hg2, hb2⟩
  rw [HTL.out] at ho2 ⊢
  have HO2 : Hid (Own w2 (.slice (some ⟨g, 0, none⟩) (l.length + 64) (l.length + 64)) (turn l ++ tailM l.length) (some g)) := ho2
  have HT2 : Hid (Own w2 (.slice a1 l.length c1) (turn l) r1) := HO1.out.later hb2
  have HB2 : Hid (Below w.heap.size w w2) := below_on HB1.out hb2
  have HG2 : Hid (w1.heap.size ≤ g) := hg2
  have HR1 : Hid (∀ q, r1 = some q → q < w1.heap.size) := fun q hq => by subst hq; exact HO1.out.lt
  have HPT : Hid (BytesAt w2 (.slice (some ⟨g, 0, none⟩) l.length (l.length + 64)) (turn l)) := by
    have h1 := (ho2.bytes).take l.length (by simp [tailM_len, HTL.out])
    rw [List.take_append_of_le_length (by rw [HTL.out]; omega), List.take_of_length_le (by rw [HTL.out]; omega)] at h1
    exact h1
  clear ho2 hg2 hb2 HO1
  go_wp2_with fail
  refine (decodeAny _ (turn l) w2 HPT.out).mono ?_
  rintro e w3 ⟨v3, r3, B3, z3, rfl, he3, ho3, hr3, hb3⟩
  have HE3 : Hid (Dcd (turn l) B3 z3) := he3
  have HO3 : Hid (Own w3 v3 B3 r3) := ho3
  have HR3 : Hid (∀ q, r3 = some q → w2.heap.size ≤ q) := hr3
  have HK3 : Hid (Own w3 (.slice (some ⟨g, 0, none⟩) (l.length + 64) (l.length + 64)) (turn l ++ tailM l.length) (some g)) := HO2.out.later hb3
  have HT3 : Hid (Own w3 (.slice a1 l.length c1) (turn l) r1) := HT2.out.later hb3
  have HB3 : Hid (Below w.heap.size w w3) := below_on HB2.out hb3
  have HGl : Hid (g < w2.heap.size) := HO2.out.lt
  clear he3 ho3 hr3 hb3 HO2 HT2 HPT
  go_wp2_with fail
  have hml : (turn l ++ tailM l.length).length = l.length + 64 := by rw [List.length_append, HTL.out, tailM_len]
  refine (layAny g l.length (l.length + 64) _ l (turn l ++ tailM l.length) w w3 (by omega) (by rw [hml]; exact HK3.out) HV.out HB3.out (by have := HG2.out; have := HB1.out.size; omega) (Nat.le_refl _) (by omega)).mono ?_
  rintro e w4 ⟨rfl, ho4, hg4⟩
  have HP4 : Hid (BytesAt w4 (.slice (some ⟨g, 0, none⟩) l.length (l.length + 64)) l) := by
    have h1 := (ho4.bytes).take l.length (by simp)
    rw [List.take_append_of_le_length (Nat.le_refl _), List.take_length] at h1
    exact h1
  have HO4 : Hid (Own w4 v3 B3 r3) := HO3.out.kept hg4 (by
    cases r3 with
    | none => exact .inl rfl
    | some q => exact .inr (fun e => by have h1 := HR3.out q rfl; simp at e; have h2 := HGl.out; omega))
  have HT4 : Hid (Own w4 (.slice a1 l.length c1) (turn l) r1) := HT3.out.kept hg4 (by
    cases r1 with
    | none => exact .inl rfl
    | some q => exact .inr (fun e => by have h1 := HR1.out q rfl; simp at e; have h2 := HG2.out; omega))
  have HB4 : Hid (Below w.heap.size w w4) := HB3.out.trans (grow_below hg4 HB3.out.size (fun q hq => by simp at hq; have := HG2.out; have := HB1.out.size; omega))
  clear ho4 hg4 hml HO3 HT3 HB3 HK3 HR3
  go_wp2_with fail
  refine (decodeAny _ l w4 HP4.out).mono ?_
  rintro e w5 ⟨v5, r5, B5, z5, rfl, he5, ho5, -, hb5⟩
  have HE5 : Hid (Dcd l B5 z5) := he5
  have HO5 : Hid (Own w5 v5 B5 r5) := ho5
  have HA5 : Hid (Own w5 v3 B3 r3) := HO4.out.later hb5
  have HT5 : Hid (Own w5 (.slice a1 l.length c1) (turn l) r1) := HT4.out.later hb5
  have HB5 : Hid (Below w.heap.size w w5) := below_on HB4.out hb5
  clear he5 ho5 hb5 HO4 HT4 HP4 HB4
  go_wp2_with fail
  refine (refDecodeAny _ (turn l) w5 HT5.out.bytes (by rw [HTL.out]; exact hs)).mono ?_
  rintro e w6 ⟨v6, r6, B6, z6, rfl, he6, ho6, -, hb6⟩
  obtain ⟨rfl, rfl⟩ := HE3.out.one he6
  have HO6 : Hid (Own w6 v6 B3 r6) := ho6
  have HA6 : Hid (Own w6 v3 B3 r3) := HA5.out.later hb6
  have HC6 : Hid (Own w6 v5 B5 r5) := HO5.out.later hb6
  have HB6 : Hid (Below w.heap.size w w6) := below_on HB5.out hb6
  clear he6 ho6 hb6 HA5 HO5 HT5 HB5
  go_wp2_with fail
  refine (refDecodeAny _ l w6 (HV.out.later HB6.out) hs).mono ?_
  rintro e w7 ⟨v7, r7, B7, z7, rfl, he7, ho7, -, hb7⟩
  obtain ⟨rfl, rfl⟩ := HE5.out.one he7
  have HO7 : Hid (Own w7 v7 B5 r7) := ho7
  have HA7 : Hid (Own w7 v3 B3 r3) := HA6.out.later hb7
  have HC7 : Hid (Own w7 v5 B5 r5) := HC6.out.later hb7
  have HD7 : Hid (Own w7 v6 B3 r6) := HO6.out.later hb7
  have HB7 : Hid (Below w.heap.size w w7) := below_on HB6.out hb7
  clear he7 ho7 hb7 HA6 HC6 HO6 HB6
  go_wp2_with fail
  refine (sameYes _ _ B3 w7 HA7.out.bytes HD7.out.bytes).mono ?_
  rintro e w8 ⟨rfl, n8, rfl⟩
  go_wp2_with fail
  refine (sameYes _ _ B5 (w7.drewN n8) (HC7.out.bytes.drewN n8) (HO7.out.bytes.drewN n8)).mono ?_
  rintro e w9 ⟨rfl, n9, rfl⟩
  go_wp2
  go_ret
  exact ⟨rfl, below_drewN HB7.out _⟩
end Go.Proofs.Ytklfmgkfcacfkac
