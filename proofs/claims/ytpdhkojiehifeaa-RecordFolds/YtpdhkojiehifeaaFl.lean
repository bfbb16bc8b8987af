import Derived.Test.YtpdhkojiehifeaaFg
import Derived.Test.YtpdhkojiehifeaaCl4
/-! The law of Fold. -/
namespace Go.Proofs.Ytpdhkojiehifeaa
open Go.RowKit Plain Go.WideMaps Go.Maps
set_option linter.unusedVariables false

set_option maxHeartbeats 2000000 in
theorem foldsWalk (hso : SortOk) (v : Value) (st : List Rc) (w : World) (h : RecsAt w v st) :
    Calls Try.prog 4 #[v] w fun e w' => e = .returned (.bool true) ∧ Below w.heap.size w w' := by
  have HS : Hid SortOk := hso
  have HR : Hid (RecsAt w v st) := h
  obtain ⟨a, cap, rfl, hcl, hok, -⟩ := h
  have HOK : Hid (∀ x ∈ st, x.Ok) := hok
  have HOM : Hid (∀ x ∈ st.map mv, x.Ok) := fun x hx => by obtain ⟨y, hy, rfl⟩ := List.mem_map.mp hx; exact mv_ok (hok y hy)
  clear hok hso
  go_enter Try.func4, Try.ntmps4
  go_wp2_with fail
  refine (movedAny _ st w HR.out).mono ?_
  rintro e w1 ⟨g, c1, rfl, ho1, hg1, hb1⟩
  have HO1 : Hid (OwnR w1 (.slice (some ⟨g, 0, none⟩) (st.length + 1) c1) (st.map mv ++ [mkR (-77) 0]) (some g)) := ho1
  have HG1 : Hid (w.heap.size ≤ g) := hg1
  have HB1 : Hid (Below w.heap.size w w1) := hb1
  have HM1 : Hid (RecsAt w1 (.slice (some ⟨g, 0, none⟩) st.length c1) (st.map mv)) := by
    have := ho1.part (by simpa using hcl) HOM.out
    rwa [List.length_map] at this
  clear ho1 hg1 hb1
  go_wp2_with fail
  refine (foldAny HS.out _ (st.map mv) w1 HM1.out).mono ?_
  rintro e w2 ⟨v2, r2, L2, rfl, -, -, -, hb2⟩
  have HO2 : Hid (OwnR w2 (.slice (some ⟨g, 0, none⟩) (st.length + 1) c1) (st.map mv ++ [mkR (-77) 0]) (some g)) := HO1.out.later hb2
  have HB2 : Hid (Below w.heap.size w w2) := below_on HB1.out hb2
  clear hb2 HO1 HM1 HB1
  go_wp2_with fail
  have hl2 : (st.map mv ++ [mkR (-77) 0]).length = st.length + 1 := by simp
  refine (backAny g c1 _ st (st.map mv ++ [mkR (-77) 0]) w w2 (by omega) (by rw [hl2]; exact HO2.out) HR.out HB2.out HG1.out).mono ?_
  rintro e w3 ⟨rfl, ho3, hg3⟩
  rw [hl2, show (st.map mv ++ [mkR (-77) 0]).drop st.length = [mkR (-77) 0] by rw [List.drop_append_of_le_length (by simp), List.drop_of_length_le (by simp)]; rfl] at ho3
  have HO3 : Hid (OwnR w3 (.slice (some ⟨g, 0, none⟩) (st.length + 1) c1) (st ++ [mkR (-77) 0]) (some g)) := ho3
  have HB3 : Hid (Below w.heap.size w w3) := HB2.out.trans (grow_below hg3 HB2.out.size (fun q hq => by simp at hq; have := HG1.out; omega))
  have HM3 : Hid (RecsAt w3 (.slice (some ⟨g, 0, none⟩) st.length c1) st) := ho3.part hcl HOK.out
  clear ho3 hg3 HO2 HB2 hl2
  go_wp2_with fail
  refine (foldAny HS.out _ st w3 HM3.out).mono ?_
  rintro e w4 ⟨v4, r4, L, rfl, hf4, ho4, hr4, hb4⟩
  have HF : Hid (Folded st L) := hf4
  have HLO : Hid (∀ x ∈ L, x.Ok) := fun x hx => HOK.out x (hf4.mem x hx)
  have hcmp : L.length ≤ st.length := hf4.len
  have HO4 : Hid (OwnR w4 v4 L r4) := ho4
  have HK4 : Hid (OwnR w4 (.slice (some ⟨g, 0, none⟩) (st.length + 1) c1) (st ++ [mkR (-77) 0]) (some g)) := HO3.out.later hb4
  have HM4 : Hid (RecsAt w4 (.slice (some ⟨g, 0, none⟩) st.length c1) st) := HM3.out.later hb4
  have HB4 : Hid (Below w.heap.size w w4) := below_on HB3.out hb4
  clear ho4 hb4 HO3 HM3 HB3 hr4 hf4
  go_wp2_with fail
  refine (foldAny HS.out _ st w4 HM4.out).mono ?_
  rintro e w5 ⟨v5, r5, L5, rfl, hf5, ho5, hr5, hb5⟩
  obtain rfl : L = L5 := HF.out.one hf5
  have HO5 : Hid (OwnR w5 v5 L r5) := ho5
  have HR5 : Hid (∀ q, r5 = some q → w4.heap.size ≤ q) := hr5
  have HA5 : Hid (OwnR w5 v4 L r4) := HO4.out.later hb5
  have HK5 : Hid (OwnR w5 (.slice (some ⟨g, 0, none⟩) (st.length + 1) c1) (st ++ [mkR (-77) 0]) (some g)) := HK4.out.later hb5
  have HB5 : Hid (Below w.heap.size w w5) := below_on HB4.out hb5
  have HRR : Hid (∀ q, r4 = some q → q < w4.heap.size) := fun q hq => by subst hq; exact HO4.out.lt
  have HGG : Hid (g < w4.heap.size) := HK4.out.lt
  clear ho5 hb5 hr5 HM4 HO4 HK4 hf5
  go_wp2_with fail
  refine (spoiltAny _ L r5 w5 HO5.out (by omega)).mono ?_
  rintro e w6 ⟨rfl, hg6⟩
  have HA6 : Hid (OwnR w6 v4 L r4) := HA5.out.kept hg6 (by
    rcases r4 with _ | q
    · exact .inl rfl
    · exact .inr (fun e => by have h1 := HR5.out q e.symm; have h2 := HRR.out q rfl; omega))
  have HK6 : Hid (OwnR w6 (.slice (some ⟨g, 0, none⟩) (st.length + 1) c1) (st ++ [mkR (-77) 0]) (some g)) := HK5.out.kept hg6 (.inr (fun e => by have h1 := HR5.out g e.symm; have h2 := HGG.out; omega))
  have HB6 : Hid (Below w.heap.size w w6) := HB5.out.trans (grow_below hg6 HB5.out.size (fun q hq => by have h1 := HR5.out q hq; have h2 := HB4.out.size; omega))
  clear hg6 HA5 HK5 HB5 HO5 HR5 HRR HGG HB4
  go_wp2_with fail
  refine (refFold _ st w6 (HR.out.later HB6.out)).mono ?_
  rintro e w7 ⟨v7, r7, L7, rfl, hf7, ho7, -, hb7⟩
  obtain rfl : L = L7 := HF.out.one hf7
  obtain ⟨a7, c7, rfl, -, -⟩ := ho7.shape
  have HA7 : Hid (RecsAt w7 v4 L) := ((HA6.out.later hb7).recs (by omega) HLO.out)
  have HC7 : Hid (RecsAt w7 (.slice a7 L.length c7) L) := ho7.recs (by omega) HLO.out
  have HK7 : Hid (OwnR w7 (.slice (some ⟨g, 0, none⟩) (st.length + 1) c1) (st ++ [mkR (-77) 0]) (some g)) := HK6.out.later hb7
  have HB7 : Hid (Below w.heap.size w w7) := below_on HB6.out hb7
  clear hb7 ho7 HA6 HK6 HB6 hf7
  go_wp2_with fail
  refine (alikeYes _ _ L w7 HA7.out HC7.out).mono ?_
  rintro e w8 ⟨rfl, n8, rfl⟩
  go_wp2_with fail
  refine (keptAny g c1 _ st _ hcl HOK.out (HK7.out.later (below_drewN (Below.refl _ _) _)) (HR.out.later (below_drewN HB7.out _))).mono ?_
  rintro e w9 ⟨rfl, n9, rfl⟩
  go_wp2
  go_ret
  exact ⟨rfl, below_drewN HB7.out _⟩
end Go.Proofs.Ytpdhkojiehifeaa
