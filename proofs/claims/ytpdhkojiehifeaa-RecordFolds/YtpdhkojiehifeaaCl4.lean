import Derived.Test.YtpdhkojiehifeaaHo
import Derived.Test.YtpdhkojiehifeaaCs
/-! The law of Compact. -/
namespace Go.Proofs.Ytpdhkojiehifeaa
open Go.RowKit Plain Go.WideMaps Go.Maps
set_option linter.unusedVariables false

theorem compactAny (v : Value) (st : List Rc) (now hz : Int) (w : World) (h : RecsAt w v st) (hn : now ≤ 9223372036854775807) (hz2 : hz ≤ 9223372036854775807) : Calls Try.prog 6 #[v, .int .i64 now, .int .i64 hz] w (CompPost w st now hz) := by
  by_cases h1 : now < 0 ∨ hz < 0
  · exact compactBad0 v st now hz w h h1
  · cases hb : st.all okB with
    | true => exact compactGood v st now hz w h (fun e => h1 (.inl e)) (fun e => h1 (.inr e)) hn hz2 hb
    | false => exact compactBad1 v st now hz w h (fun e => h1 (.inl e)) (fun e => h1 (.inr e)) hb
theorem refCompactAny (v : Value) (st : List Rc) (now hz : Int) (w : World) (h : RecsAt w v st) (hn : now ≤ 9223372036854775807) (hz2 : hz ≤ 9223372036854775807) : Calls Try.prog 9 #[v, .int .i64 now, .int .i64 hz] w (CompPost w st now hz) := by
  by_cases h1 : now < 0 ∨ hz < 0
  · exact refBad0 v st now hz w h h1
  · exact refGood v st now hz w h (fun e => h1 (.inl e)) (fun e => h1 (.inr e)) hn hz2

theorem comp_mem (st : List Rc) (now hz : Int) : ∀ x ∈ (comp st now hz).1, x ∈ st := by
  unfold comp
  split
  · simp
  · exact cmp_mem st now hz st.length (Nat.le_refl _)
theorem comp_len (st : List Rc) (now hz : Int) : (comp st now hz).1.length ≤ st.length := by
  unfold comp
  split
  · simp
  · exact cmp_len st now hz st.length

theorem wrap64_range (z : Int) : -9223372036854775808 ≤ wrap64 z ∧ wrap64 z ≤ 9223372036854775807 := by unfold wrap64; omega
theorem mv_ok {x : Rc} (h : x.Ok) : (mv x).Ok := by
  have h1 := wrap64_range (x.o + 1)
  have h2 := wrap64_range (x.t - 1)
  exact ⟨h.k, h1, h2, h.p, h.q, h.key, h.val⟩

/-- The first part of a row of the call's own. -/
theorem OwnR.part {w : World} {g cap n : Nat} {ts us : List Rc} (h : OwnR w (.slice (some ⟨g, 0, none⟩) n cap) (ts ++ us) (some g)) (hl : ts.length ≤ 2199023255000) (hok : ∀ x ∈ ts, x.Ok) : RecsAt w (.slice (some ⟨g, 0, none⟩) ts.length cap) ts := by
  refine ⟨_, cap, rfl, hl, hok, fun _ => ⟨g, 0, rfl, fun j hj => ?_⟩⟩
  have := h.at (j := j) (by simp; omega)
  rw [show (ts ++ us).getD j Rc.none = ts.getD j Rc.none by simp [List.getElem?_append_left hj]] at this
  rw [Nat.zero_add]
  exact this

set_option maxHeartbeats 2000000 in
theorem compactsWalk (v : Value) (st : List Rc) (now hz : Int) (w : World) (h : RecsAt w v st) (hn : now ≤ 9223372036854775807) (hz2 : hz ≤ 9223372036854775807) :
    Calls Try.prog 3 #[v, .int .i64 now, .int .i64 hz] w fun e w' => e = .returned (.bool true) ∧ Below w.heap.size w w' := by
  have HR : Hid (RecsAt w v st) := h
  obtain ⟨a, cap, rfl, hcl, hok, -⟩ := h
  have HOK : Hid (∀ x ∈ st, x.Ok) := hok
  have HOM : Hid (∀ x ∈ st.map mv, x.Ok) := fun x hx => by obtain ⟨y, hy, rfl⟩ := List.mem_map.mp hx; exact mv_ok (hok y hy)
  have HCM : Hid (∀ x ∈ (comp st now hz).1, x.Ok) := fun x hx => hok x (comp_mem st now hz x hx)
  have hcmp := comp_len st now hz
  clear hok
  go_enter Try.func3, Try.ntmps3
  go_wp2_with fail
  refine (movedAny _ st w HR.out).mono ?_
  rintro e w1 ⟨g, c1, rfl, ho1, hg1, hb1⟩
  have HO1 : Hid (OwnR w1 (.slice (some ⟨g, 0, none⟩) (st.length + 1) c1) (st.map mv ++ [mkR (-77) 0]) (some g)) := ho1
  have HG1 : Hid (w.heap.size ≤ g) := hg1
  have HB1 : Hid (Below w.heap.size w w1) := hb1
  have HM1 : Hid (RecsAt w1 (.slice (some ⟨g, 0, none⟩) st.length c1) (st.map mv)) := by
    have := ho1.part (by simpa using hcl) HOM.out
    rwa [List.length_map] at this
  clear ho1 hg1 hb1
  go_wp2_with fail
  refine (compactAny _ (st.map mv) now hz w1 HM1.out hn hz2).mono ?_
  rintro e w2 ⟨v2, r2, rfl, -, -, hb2⟩
  have HO2 : Hid (OwnR w2 (.slice (some ⟨g, 0, none⟩) (st.length + 1) c1) (st.map mv ++ [mkR (-77) 0]) (some g)) := HO1.out.later hb2
  have HB2 : Hid (Below w.heap.size w w2) := below_on HB1.out hb2
  generalize (comp (st.map mv) now hz).2 = z2
  clear hb2 HO1 HM1 HB1
  go_wp2_with fail
  have hl2 : (st.map mv ++ [mkR (-77) 0]).length = st.length + 1 := by simp
  refine (backAny g c1 _ st (st.map mv ++ [mkR (-77) 0]) w w2 (by omega) (by rw [hl2]; exact HO2.out) HR.out HB2.out HG1.out).mono ?_
  rintro e w3 ⟨rfl, ho3, hg3⟩
  rw [hl2, show (st.map mv ++ [mkR (-77) 0]).drop st.length = [mkR (-77) 0] by rw [List.drop_append_of_le_length (by simp), List.drop_of_length_le (by simp)]; rfl] at ho3
  have HO3 : Hid (OwnR w3 (.slice (some ⟨g, 0, none⟩) (st.length + 1) c1) (st ++ [mkR (-77) 0]) (some g)) := ho3
  have HB3 : Hid (Below w.heap.size w w3) := HB2.out.trans (grow_below hg3 HB2.out.size (fun q hq => by simp at hq; have := HG1.out; omega))
  have HM3 : Hid (RecsAt w3 (.slice (some ⟨g, 0, none⟩) st.length c1) st) := ho3.part hcl HOK.out
  clear ho3 hg3 HO2 HB2 hl2
  go_wp2_with fail
  refine (compactAny _ st now hz w3 HM3.out hn hz2).mono ?_
  rintro e w4 ⟨v4, r4, rfl, ho4, hr4, hb4⟩
  obtain ⟨Z, hZ⟩ : ∃ Z, comp st now hz = Z := ⟨_, rfl⟩
  have HZ : Hid (comp st now hz = Z) := hZ
  rw [hZ] at ho4 HCM hcmp ⊢
  obtain ⟨L, M⟩ := Z
  simp only at ho4 HCM hcmp
  have HO4 : Hid (OwnR w4 v4 L r4) := ho4
  have HK4 : Hid (OwnR w4 (.slice (some ⟨g, 0, none⟩) (st.length + 1) c1) (st ++ [mkR (-77) 0]) (some g)) := HO3.out.later hb4
  have HM4 : Hid (RecsAt w4 (.slice (some ⟨g, 0, none⟩) st.length c1) st) := HM3.out.later hb4
  have HB4 : Hid (Below w.heap.size w w4) := below_on HB3.out hb4
  clear ho4 hb4 HO3 HM3 HB3 hr4 hZ
  go_wp2_with fail
  refine (compactAny _ st now hz w4 HM4.out hn hz2).mono ?_
  rintro e w5 ⟨v5, r5, rfl, ho5, hr5, hb5⟩
  rw [HZ.out] at ho5 ⊢
  have HO5 : Hid (OwnR w5 v5 L r5) := ho5
  have HR5 : Hid (∀ q, r5 = some q → w4.heap.size ≤ q) := hr5
  have HA5 : Hid (OwnR w5 v4 L r4) := HO4.out.later hb5
  have HK5 : Hid (OwnR w5 (.slice (some ⟨g, 0, none⟩) (st.length + 1) c1) (st ++ [mkR (-77) 0]) (some g)) := HK4.out.later hb5
  have HB5 : Hid (Below w.heap.size w w5) := below_on HB4.out hb5
  have HRR : Hid (∀ q, r4 = some q → q < w4.heap.size) := fun q hq => by subst hq; exact HO4.out.lt
  have HGG : Hid (g < w4.heap.size) := HK4.out.lt
  clear ho5 hb5 hr5 HM4 HO4 HK4
  go_wp2_with fail
  refine (spoiltAny _ L r5 w5 HO5.out (by omega)).mono ?_
  rintro e w6 ⟨rfl, hg6⟩
  have HA6 : Hid (OwnR w6 v4 L r4) := HA5.out.kept hg6 (by
    rcases r4 with _ | q
    · exact .inl rfl
    · exact .inr (fun e => by have h1 := HR5.out q e.symm; have h2 := HRR.out q rfl; omega))
  have HK6 : Hid (OwnR w6 (.slice (some ⟨g, 0, none⟩) (st.length + 1) c1) (st ++ [mkR (-77) 0]) (some g)) := HK5.out.kept hg6 (.inr (fun e => by have h1 := HR5.out g e.symm; have h2 := HGG.out; omega))
  have HB6 : Hid (Below w.heap.size w w6) := HB5.out.trans (grow_below hg6 HB5.out.size (fun q hq => by have h1 := HR5.out q hq; have h2 := HB4.out.size; omega))
  clear hg6 HA5 HK5 HB5 HO5 HR5 HRR HGG HB4
  go_wp2_with fail
  refine (refCompactAny _ st now hz w6 (HR.out.later HB6.out) hn hz2).mono ?_
  rintro e w7 ⟨v7, r7, rfl, ho7, -, hb7⟩
  rw [HZ.out] at ho7 ⊢
  obtain ⟨a7, c7, rfl, -, -⟩ := ho7.shape
  simp only at ho7
  have HA7 : Hid (RecsAt w7 v4 L) := ((HA6.out.later hb7).recs (by omega) HCM.out)
  have HC7 : Hid (RecsAt w7 (.slice a7 L.length c7) L) := ho7.recs (by omega) HCM.out
  have HK7 : Hid (OwnR w7 (.slice (some ⟨g, 0, none⟩) (st.length + 1) c1) (st ++ [mkR (-77) 0]) (some g)) := HK6.out.later hb7
  have HB7 : Hid (Below w.heap.size w w7) := below_on HB6.out hb7
  clear hb7 ho7 HA6 HK6 HB6
  go_wp2_with fail
  refine (alikeYes _ _ L w7 HA7.out HC7.out).mono ?_
  rintro e w8 ⟨rfl, n8, rfl⟩
  go_wp2_with fail
  refine (keptAny g c1 _ st _ hcl HOK.out (HK7.out.later (below_drewN (Below.refl _ _) _)) (HR.out.later (below_drewN HB7.out _))).mono ?_
  rintro e w9 ⟨rfl, n9, rfl⟩
  go_wp2
  go_ret
  exact ⟨rfl, below_drewN HB7.out _⟩
end Go.Proofs.Ytpdhkojiehifeaa
