import Derived.Test.YtklfmgkfcacfkaaVc
/-! Tokens of bytes that are laid over: the law's own helper, and the law. -/
namespace Go.Proofs.Ytklfmgkfcacfkaa
open Go.RowKit Plain
set_option linter.unusedVariables false
set_option linter.unusedSimpArgs false

set_option maxHeartbeats 2000000 in
theorem tokensPlacedAny (v : Value) (l : List Nat) (w : World) (h : BytesAt w v l) (hl : l.length ≤ 140737488351232) : Calls Try.prog 26 #[v] w fun e w' => e = .returned (.bool true) ∧ Below w.heap.size w w' := by
  have HV : Hid (BytesAt w v l) := h
  obtain ⟨a, cap, rfl, -⟩ := h
  have HTL : Hid ((turn l).length = l.length) := turn_len l
  go_enter Try.func26, Try.ntmps26
  go_wp2_with fail
  refine (turnedAny _ l w HV.out hl).mono ?_
  rintro e w1 ⟨v1, r1, rfl, ho1, hr1, hb1⟩
  obtain ⟨a1, c1, rfl⟩ := ho1.isSlice
  rw [HTL.out] at ho1 ⊢
  have HO1 : Hid (Own w1 (.slice a1 l.length c1) (turn l) r1) := ho1
  have HB1 : Hid (Below w.heap.size w w1) := hb1
  clear ho1 hr1 hb1
  go_wp2_with fail
  refine (spareAny _ (turn l) w1 HO1.out.bytes (by rw [HTL.out]; exact hl)).mono ?_
  rintro e w2 ⟨g, rfl, ho2, hg2, hb2⟩
  rw [HTL.out] at ho2 ⊢
  have HO2 : Hid (Own w2 (.slice (some ⟨g, 0, none⟩) (l.length + 64) (l.length + 64)) (turn l ++ tailM l.length) (some g)) := ho2
  have HT2 : Hid (Own w2 (.slice a1 l.length c1) (turn l) r1) := HO1.out.later hb2
  have HB2 : Hid (Below w.heap.size w w2) := below_on HB1.out hb2
  have HG2 : Hid (w1.heap.size ≤ g) := hg2
  have HR1 : Hid (∀ q, r1 = some q → q < w1.heap.size) := fun q hq => by subst hq; exact HO1.out.lt
  have HPT : Hid (BytesAt w2 (.slice (some ⟨g, 0, none⟩) l.length (l.length + 64)) (turn l)) := by
    have h1 := (ho2.bytes).take l.length (by simp [tailM_len, HTL.out])
    rw [List.take_append_of_le_length (by rw [HTL.out]; omega), List.take_of_length_le (by rw [HTL.out]; omega)] at h1
    exact h1
  clear ho2 hg2 hb2 HO1
  go_wp2_with fail
  refine (tokensAll _ (turn l) w2 HPT.out).mono ?_
  rintro e w3 ⟨v3, ts3, r3, z3, rfl, he3, ht3, hb3⟩
  have HE3 : Hid (TokIs (turn l) ts3 z3) := he3
  have HR3 : Hid (TRow w2.heap.size w3 v3 ts3 r3) := ht3
  have HK3 : Hid (Own w3 (.slice (some ⟨g, 0, none⟩) (l.length + 64) (l.length + 64)) (turn l ++ tailM l.length) (some g)) := HO2.out.later hb3
  have HT3 : Hid (Own w3 (.slice a1 l.length c1) (turn l) r1) := HT2.out.later hb3
  have HB3 : Hid (Below w.heap.size w w3) := below_on HB2.out hb3
  have HGl : Hid (g < w2.heap.size) := HO2.out.lt
  clear he3 ht3 hb3 HO2 HT2 HPT
  go_wp2_with fail
  have hml : (turn l ++ tailM l.length).length = l.length + 64 := by rw [List.length_append, HTL.out, tailM_len]
  refine (layAny g l.length (l.length + 64) _ l (turn l ++ tailM l.length) w w3 (by omega) (by rw [hml]; exact HK3.out) HV.out HB3.out (by have := HG2.out; have := HB1.out.size; omega) (Nat.le_refl _) (by omega)).mono ?_
  rintro e w4 ⟨rfl, ho4, hg4⟩
  have HP4 : Hid (BytesAt w4 (.slice (some ⟨g, 0, none⟩) l.length (l.length + 64)) l) := by
    have h1 := (ho4.bytes).take l.length (by simp)
    rw [List.take_append_of_le_length (Nat.le_refl _), List.take_length] at h1
    exact h1
  have HR4 : Hid (TRow w2.heap.size w4 v3 ts3 r3) := HR3.out.kept hg4 (fun q e => by simp at e; have := HGl.out; omega)
  have HT4 : Hid (Own w4 (.slice a1 l.length c1) (turn l) r1) := HT3.out.kept hg4 (by
    cases r1 with
    | none => exact .inl rfl
    | some q => exact .inr (fun e => by have h1 := HR1.out q rfl; simp at e; have h2 := HG2.out; omega))
  have HB4 : Hid (Below w.heap.size w w4) := HB3.out.trans (grow_below hg4 HB3.out.size (fun q hq => by simp at hq; have := HG2.out; have := HB1.out.size; omega))
  clear ho4 hg4 hml HR3 HT3 HB3 HK3
  go_wp2_with fail
  refine (tokensAll _ l w4 HP4.out).mono ?_
  rintro e w5 ⟨v5, ts5, r5, z5, rfl, he5, ht5, hb5⟩
  have HE5 : Hid (TokIs l ts5 z5) := he5
  have HR5 : Hid (TRd w5 v5 (ts5.map Tk.g)) := ht5.rd he5.fits.1
  have HA5 : Hid (TRd w5 v3 (ts3.map Tk.g)) := (HR4.out.rd HE3.out.fits.1).later hb5
  have HT5 : Hid (Own w5 (.slice a1 l.length c1) (turn l) r1) := HT4.out.later hb5
  have HB5 : Hid (Below w.heap.size w w5) := below_on HB4.out hb5
  clear he5 ht5 hb5 HR4 HT4 HP4 HB4
  go_wp2_with fail
  refine (refTokensAll _ (turn l) w5 HT5.out.bytes).mono ?_
  rintro e w6 ⟨v6, tg6, ts6, z6, rfl, he6, hs6, ht6, hb6⟩
  obtain ⟨rfl, hc6⟩ := HE3.out.one he6
  have HC6 : Hid ((ts3.map Tk.g).map Tg.c3 = tg6.map Tg.c3) := by unfold Hid; rw [hs6]; exact c3_of hc6
  have HR6 : Hid (TRd w6 v6 tg6) := ht6
  have HA6 : Hid (TRd w6 v3 (ts3.map Tk.g)) := HA5.out.later hb6
  have HD6 : Hid (TRd w6 v5 (ts5.map Tk.g)) := HR5.out.later hb6
  have HB6 : Hid (Below w.heap.size w w6) := below_on HB5.out hb6
  clear he6 hs6 hc6 ht6 hb6 HA5 HR5 HT5 HB5
  go_wp2_with fail
  refine (refTokensAll _ l w6 (HV.out.later HB6.out)).mono ?_
  rintro e w7 ⟨v7, tg7, ts7, z7, rfl, he7, hs7, ht7, hb7⟩
  obtain ⟨rfl, hc7⟩ := HE5.out.one he7
  have HC7 : Hid ((ts5.map Tk.g).map Tg.c3 = tg7.map Tg.c3) := by unfold Hid; rw [hs7]; exact c3_of hc7
  have HR7 : Hid (TRd w7 v7 tg7) := ht7
  have HA7 : Hid (TRd w7 v3 (ts3.map Tk.g)) := HA6.out.later hb7
  have HD7 : Hid (TRd w7 v5 (ts5.map Tk.g)) := HD6.out.later hb7
  have HF7 : Hid (TRd w7 v6 tg6) := HR6.out.later hb7
  have HB7 : Hid (Below w.heap.size w w7) := below_on HB6.out hb7
  clear he7 hs7 hc7 ht7 hb7 HA6 HD6 HR6 HB6
  go_wp2_with fail
  refine (sameC _ _ _ _ w7 HA7.out HF7.out HC6.out).mono ?_
  rintro e w8 ⟨rfl, n8, rfl⟩
  go_wp2_with fail
  refine (sameC _ _ _ _ (w7.drewN n8) (HD7.out.later (below_drewN (Below.refl _ _) _)) (HR7.out.later (below_drewN (Below.refl _ _) _)) HC7.out).mono ?_
  rintro e w9 ⟨rfl, n9, rfl⟩
  go_wp2
  go_ret
  exact ⟨rfl, below_drewN HB7.out _⟩

set_option maxHeartbeats 2000000 in
theorem tokensWalk (v : Value) (l : List Nat) (w : World) (h : BytesAt w v l) (hl : l.length ≤ 140737488351232) : Calls Try.prog 6 #[v] w fun e w' => e = .returned (.bool true) ∧ Below w.heap.size w w' := by
  have HV : Hid (BytesAt w v l) := h
  obtain ⟨a, cap, rfl, -⟩ := h
  go_enter Try.func6, Try.ntmps6
  go_wp2_with fail
  refine (refTokensAll _ l w HV.out).mono ?_
  rintro e w1 ⟨v1, tg1, ts1, z1, rfl, he1, hs1, ht1, hb1⟩
  have HE : Hid (TokIs l ts1 z1) := he1
  have HSI : Hid (Sims tg1 ts1) := hs1
  have HD1 : Hid (TRd w1 v1 tg1) := ht1
  have HB1 : Hid (Below w.heap.size w w1) := hb1
  clear he1 hs1 ht1 hb1
  go_wp2_with fail
  refine (spareAny _ l w1 (HV.out.later HB1.out) hl).mono ?_
  rintro e w2 ⟨g, rfl, ho2, hg2, hb2⟩
  have HK2 : Hid (Own w2 (.slice (some ⟨g, 0, none⟩) (l.length + 64) (l.length + 64)) (l ++ tailM l.length) (some g)) := ho2
  have HB2 : Hid (Below w.heap.size w w2) := below_on HB1.out hb2
  have HB12 : Hid (Below w1.heap.size w1 w2) := hb2
  have HP2 : Hid (BytesAt w2 (.slice (some ⟨g, 0, none⟩) l.length (l.length + 64)) l) := by
    have h1 := (ho2.bytes).take l.length (by simp)
    rw [List.take_append_of_le_length (Nat.le_refl _), List.take_length] at h1
    exact h1
  clear ho2 hg2 hb2
  go_wp2_with fail
  refine (tokensAll _ l w2 HP2.out).mono ?_
  rintro e w3 ⟨v3, ts3, r3, z3, rfl, he3, ht3, hb3⟩
  obtain ⟨rfl, hc3⟩ := HE.out.one he3
  have HE3 : Hid (TokIs l ts3 z1) := he3
  have HC3 : Hid ((ts3.map Tk.g).map Tg.c3 = tg1.map Tg.c3) := by unfold Hid; rw [HSI.out]; exact c3_of hc3.symm
  have HR3 : Hid (TRow w2.heap.size w3 v3 ts3 r3) := ht3
  have HK3 : Hid (Own w3 (.slice (some ⟨g, 0, none⟩) (l.length + 64) (l.length + 64)) (l ++ tailM l.length) (some g)) := HK2.out.later hb3
  have HP3 : Hid (BytesAt w3 (.slice (some ⟨g, 0, none⟩) l.length (l.length + 64)) l) := HP2.out.later hb3
  have HB13 : Hid (Below w1.heap.size w1 w3) := below_on HB12.out hb3
  have HS23 : Hid (w2.heap.size ≤ w3.heap.size) := hb3.size
  have HGl : Hid (g < w2.heap.size) := HK2.out.lt
  have HS : Hid (∀ x, (∃ l, Tk.lit x l ∈ ts3) → w2.heap.size ≤ x ∧ x < w3.heap.size) := fun x ⟨y, hy⟩ => by
    obtain ⟨_, h2, _, h4⟩ := ht3.lits x y hy
    exact ⟨h2, h4.lt⟩
  clear he3 hc3 ht3 hb3 HK2 HP2
  go_wp2_with fail
  refine (tokensAll _ l w3 HP3.out).mono ?_
  rintro e w4 ⟨v4, ts4, r4, z4, rfl, he4, ht4, hb4⟩
  obtain ⟨rfl, hc4⟩ := HE.out.one he4
  have HF4 : Hid (∀ t ∈ ts4, t.fits) := he4.fits.1
  have HC4 : Hid ((ts4.map Tk.g).map Tg.c3 = tg1.map Tg.c3) := by unfold Hid; rw [HSI.out]; exact c3_of hc4.symm
  have HR4 : Hid (TRow w3.heap.size w4 v4 ts4 r4) := ht4
  have HA4 : Hid (TRow w2.heap.size w4 v3 ts3 r3) := HR3.out.kept (below_grow hb4 none) (by simp)
  have HK4 : Hid (Own w4 (.slice (some ⟨g, 0, none⟩) (l.length + 64) (l.length + 64)) (l ++ tailM l.length) (some g)) := HK3.out.later hb4
  have HB14 : Hid (Below w1.heap.size w1 w4) := below_on HB13.out hb4
  have HD4 : Hid (TRd w4 v1 tg1) := HD1.out.later HB14.out
  clear he4 hc4 ht4 hb4 HR3 HK3 HP3
  go_wp2_with fail
  refine (sameC _ _ _ _ w4 (HA4.out.rd HE3.out.fits.1) HD4.out HC3.out).mono ?_
  rintro e w5 ⟨rfl, n5, rfl⟩
  have HA5 : Hid (TRow w2.heap.size (w4.drewN n5) v3 ts3 r3) := HA4.out.kept (grow_drewN (below_grow (Below.refl _ _) none) _) (by simp)
  have HR5 : Hid (TRow w3.heap.size (w4.drewN n5) v4 ts4 r4) := HR4.out.kept (grow_drewN (below_grow (Below.refl _ _) none) _) (by simp)
  have HK5 : Hid (Own (w4.drewN n5) (.slice (some ⟨g, 0, none⟩) (l.length + 64) (l.length + 64)) (l ++ tailM l.length) (some g)) := HK4.out.later (below_drewN (Below.refl _ _) _)
  have HB15 : Hid (Below w1.heap.size w1 (w4.drewN n5)) := below_drewN HB14.out _
  clear HA4 HR4 HK4 HD4
  go_wp2_with fail
  refine (apartAny w2.heap.size v3 ts3 r3 (w4.drewN n5) HA5.out (fun t ht => fits_len (HE3.out.fits.1 t ht)) HE3.out.fits.2).mono ?_
  rintro e w6 ⟨rfl, hch⟩
  have HR6 : Hid (TRow w3.heap.size w6 v4 ts4 r4) := HR5.out.chg hch (fun x hx hs => by have := HS.out x hs; omega)
  have HK6 : Hid (Own w6 (.slice (some ⟨g, 0, none⟩) (l.length + 64) (l.length + 64)) (l ++ tailM l.length) (some g)) := HK5.out.chg hch (fun x hx hs => by simp at hx; have := HS.out x hs; have := HGl.out; omega)
  have HB16 : Hid (Below w1.heap.size w1 w6) := HB15.out.trans (hch.below HB15.out.size (fun x hs => by have := HS.out x hs; have := HB12.out.size; omega))
  have HD6 : Hid (TRd w6 v1 tg1) := HD1.out.later HB16.out
  have HB6 : Hid (Below w.heap.size w w6) := below_on HB1.out HB16.out
  clear hch HR5 HK5 HB15 HA5
  go_wp2_with fail
  refine (sameC _ _ _ _ w6 (HR6.out.rd HF4.out) HD6.out HC4.out).mono ?_
  rintro e w7 ⟨rfl, n7, rfl⟩
  go_wp2_with fail
  refine (keptAny g (l.length + 64) (l.length + 64) _ l (w6.drewN n7) (HK6.out.later (below_drewN (Below.refl _ _) n7)) rfl (HV.out.later (below_drewN HB6.out n7)) hl).mono ?_
  rintro e w8 ⟨rfl, n8, rfl⟩
  go_wp2_with fail
  refine (tokensPlacedAny _ l (w6.drewN (n7 + n8)) (HV.out.later (below_drewN HB6.out (n7 + n8))) hl).mono ?_
  rintro e w9 ⟨rfl, hb9⟩
  have HB9 : Hid (Below w.heap.size w w9) := below_on (below_drewN HB6.out (n7 + n8)) hb9
  clear hb9
  go_wp2
  go_ret
  exact ⟨rfl, HB9.out⟩
end Go.Proofs.Ytklfmgkfcacfkaa
