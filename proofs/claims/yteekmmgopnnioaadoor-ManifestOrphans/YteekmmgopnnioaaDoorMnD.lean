import Derived.Test.YteekmmgopnnioaaDoorMnC
/-! Names of files: the program's stem. -/
namespace Go.Proofs.YteekmmgopnnioaaDoor.Mn
open Go.RowKit
set_option linter.unusedVariables false
set_option linter.unusedSimpArgs false

set_option maxHeartbeats 4000000 in
set_option maxRecDepth 100000 in
theorem stemOf (k i s : Int) (t : Bool) (hok : FN.Ok ⟨k, i, s, t⟩) (w : World) (h : Tab w) :
    Calls Tryd.prog 23 #[.agg #[.int .i64 k, .int .i64 i, .int .i64 s, .bool t]] w (StemP k i s w) := by
  obtain ⟨hk0, hk1, hi0, hi1, hs0, hs1⟩ := hok
  simp only at hk0 hk1 hi0 hi1 hs0 hs1
  obtain ⟨W1, hW1⟩ : ∃ W1, w.alloc (.cells #[.int .i64 k, .int .i64 i, .int .i64 s, .bool t] 23) = W1 := ⟨_, rfl⟩
  have HB1 : Hid (Below w.heap.size w W1) := by
    unfold Hid
    rw [← hW1]
    exact (Below.refl _ _).alloc (Nat.le_refl _) _
  have hWs : W1.heap.size = w.heap.size + 1 := by rw [← hW1]; simp
  have z0 : W1.cell? ⟨w.heap.size, 0, none⟩ = some (.int .i64 k) := by rw [← hW1, World.cell?_alloc_at _ _ _ _ rfl]; rfl
  have z1 : W1.cell? ⟨w.heap.size, 1, none⟩ = some (.int .i64 i) := by rw [← hW1, World.cell?_alloc_at _ _ _ _ rfl]; rfl
  have z2 : W1.cell? ⟨w.heap.size, 2, none⟩ = some (.int .i64 s) := by rw [← hW1, World.cell?_alloc_at _ _ _ _ rfl]; rfl
  have z3 : W1.cell? ⟨w.heap.size, 3, none⟩ = some (.bool t) := by rw [← hW1, World.cell?_alloc_at _ _ _ _ rfl]; rfl
  have HIT : Hid (∀ (m : Int) (u : World), -9223372036854775808 ≤ m → m ≤ 9223372036854775807 → Below w.heap.size w u → Calls Tryd.prog 34 #[.int .i64 m] u fun e w' => e = .returned (.string ⟨(Lib.itoa m).toArray⟩) ∧ Below u.heap.size u w') := fun m u a b hu => itoaOf m a b u (h.later hu)
  clear h
  unfold StemP
  go_enter Tryd.func23, Tryd.ntmps23
  go_wp2_with fail
  refine (HIT.out i _ hi0 hi1 HB1.out).mono ?_
  rintro e w2 ⟨rfl, hb2⟩
  have HB2 : Hid (Below w.heap.size w w2) := below_on HB1.out hb2
  have y0 : w2.cell? ⟨w.heap.size, 0, none⟩ = some (.int .i64 k) := (hb2.cell (by show w.heap.size < _; omega)).trans z0
  have y1 : w2.cell? ⟨w.heap.size, 1, none⟩ = some (.int .i64 i) := (hb2.cell (by show w.heap.size < _; omega)).trans z1
  have y2 : w2.cell? ⟨w.heap.size, 2, none⟩ = some (.int .i64 s) := (hb2.cell (by show w.heap.size < _; omega)).trans z2
  have y3 : w2.cell? ⟨w.heap.size, 3, none⟩ = some (.bool t) := (hb2.cell (by show w.heap.size < _; omega)).trans z3
  have h1 := itoa_len hi0 hi1
  obtain ⟨di, hdi⟩ : ∃ di, Lib.itoa i = di := ⟨_, rfl⟩
  rw [hdi] at h1 ⊢
  have hsd1 : (⟨di.toArray⟩ : ByteArray).size = di.length := rfl
  obtain ⟨S, hS⟩ : ∃ S, (⟨#[116]⟩ : ByteArray) ++ ⟨di.toArray⟩ ++ ⟨#[46]⟩ = S := ⟨_, rfl⟩
  have hS1 : S.size = di.length + 2 := by rw [← hS, ByteArray.size_append, ByteArray.size_append]; show 1 + di.length + 1 = di.length + 2; omega
  have HS : Hid (S.data.toList = 116 :: (di ++ [46])) := by unfold Hid; rw [← hS]; simp
  clear hb2 z0 z1 z2 z3 hW1
  by_cases hk : k = 1
  · subst hk
    clear hk0 hk1
    go_wp2_with fail
    refine (isTopicOf i _).mono ?_
    rintro e w3 ⟨rfl, rfl⟩
    try rw [hS]
    clear hS
    cases hN : isN i with
    | false =>
      go_wp2
      go_ret
      exact ⟨by rw [show stemL ⟨1, i, s, false⟩ = [] by unfold stemL; simp [hN]]; rfl, HB2.out⟩
    | true =>
      have hi : 0 ≤ i := by unfold isN at hN; simp at hN; omega
      go_wp2_with fail
      refine (isSegOf s _).mono ?_
      rintro e w4 ⟨rfl, rfl⟩
      cases hG : isS s with
      | false =>
        go_wp2
        go_ret
        exact ⟨by rw [show stemL ⟨1, i, s, false⟩ = [] by unfold stemL; simp [hN, hG]]; rfl, HB2.out⟩
      | true =>
        have hs : 0 ≤ s := by unfold isS at hG; simp at hG; omega
        go_wp2_with fail
        refine (HIT.out s _ hs0 hs1 HB2.out).mono ?_
        rintro e w5 ⟨rfl, hb5⟩
        have HB5 : Hid (Below w.heap.size w w5) := below_on HB2.out hb5
        have h2 := itoa_len hs0 hs1
        have HD : Hid (stemL ⟨1, i, s, false⟩ = 116 :: (di ++ 46 :: (Lib.itoa s ++ tS))) := by
          unfold Hid stemL
          rw [← hdi, itoa_dc hi, itoa_dc hs]
          simp [hN, hG]
        generalize Lib.itoa s = ds at h2 HD ⊢
        have hs2 : (⟨ds.toArray⟩ : ByteArray).size = ds.length := rfl
        clear hb5
        go_wp2
        go_ret
        refine ⟨congrArg Ending.returned (str_eq ?_), HB5.out⟩
        rw [HD.out]
        simp [HS.out, tS]
  by_cases hk' : k = 2
  · subst hk'
    clear hk0 hk1
    go_wp2_with fail
    refine (isTopicOf i _).mono ?_
    rintro e w3 ⟨rfl, rfl⟩
    try rw [hS]
    clear hS
    cases hN : isN i with
    | false =>
      go_wp2
      go_ret
      exact ⟨by rw [show stemL ⟨2, i, s, false⟩ = [] by unfold stemL; simp [hN]]; rfl, HB2.out⟩
    | true =>
      have hi : 0 ≤ i := by unfold isN at hN; simp at hN; omega
      go_wp2_with fail
      refine (isSegOf s _).mono ?_
      rintro e w4 ⟨rfl, rfl⟩
      cases hG : isS s with
      | false =>
        go_wp2
        go_ret
        exact ⟨by rw [show stemL ⟨2, i, s, false⟩ = [] by unfold stemL; simp [hN, hG]]; rfl, HB2.out⟩
      | true =>
        have hs : 0 ≤ s := by unfold isS at hG; simp at hG; omega
        go_wp2_with fail
        refine (HIT.out s _ hs0 hs1 HB2.out).mono ?_
        rintro e w5 ⟨rfl, hb5⟩
        have HB5 : Hid (Below w.heap.size w w5) := below_on HB2.out hb5
        have h2 := itoa_len hs0 hs1
        have HD : Hid (stemL ⟨2, i, s, false⟩ = 116 :: (di ++ 46 :: (Lib.itoa s ++ tH))) := by
          unfold Hid stemL
          rw [← hdi, itoa_dc hi, itoa_dc hs]
          simp [hN, hG]
        generalize Lib.itoa s = ds at h2 HD ⊢
        have hs2 : (⟨ds.toArray⟩ : ByteArray).size = ds.length := rfl
        clear hb5
        go_wp2
        go_ret
        refine ⟨congrArg Ending.returned (str_eq ?_), HB5.out⟩
        rw [HD.out]
        simp [HS.out, tH]
  by_cases hk3 : k = 3
  · subst hk3
    clear hk0 hk1
    go_wp2_with fail
    refine (isTopicOf i _).mono ?_
    rintro e w3 ⟨rfl, rfl⟩
    try rw [hS]
    clear hS
    cases hN : isN i with
    | false =>
      go_wp2
      go_ret
      exact ⟨by rw [show stemL ⟨3, i, s, false⟩ = [] by unfold stemL; simp [hN]]; rfl, HB2.out⟩
    | true =>
      have hi : 0 ≤ i := by unfold isN at hN; simp at hN; omega
      by_cases hs : s = 0
      · subst hs
        have HD : Hid (stemL ⟨3, i, 0, false⟩ = 116 :: (di ++ tM)) := by
          unfold Hid stemL
          rw [← hdi, itoa_dc hi]
          simp [hN]
        go_wp2
        go_ret
        refine ⟨congrArg Ending.returned (str_eq ?_), HB2.out⟩
        rw [HD.out]
        simp [HS.out, tM]
      · have hsd : decide (s = 0) = false := decide_eq_false hs
        go_wp2
        go_ret
        exact ⟨by rw [show stemL ⟨3, i, s, false⟩ = [] by unfold stemL; simp [hN, hs]]; rfl, HB2.out⟩
  by_cases hk4 : k = 4
  · subst hk4
    clear hk0 hk1
    by_cases hi : i = 0
    · by_cases hs : s = 0
      · subst hi hs
        go_wp2
        go_ret
        exact ⟨rfl, HB2.out⟩
      · subst hi
        have hsd : decide (s = 0) = false := decide_eq_false hs
        go_wp2
        go_ret
        exact ⟨by rw [show stemL ⟨4, 0, s, false⟩ = [] by unfold stemL; simp [hs]]; rfl, HB2.out⟩
    · have hid : decide (i = 0) = false := decide_eq_false hi
      go_wp2
      go_ret
      exact ⟨by rw [show stemL ⟨4, i, s, false⟩ = [] by unfold stemL; simp [hi]]; rfl, HB2.out⟩
  have hn1 := hk
  have hn2 := hk'
  have hn3 := hk3
  have hn4 := hk4
  have d1 : decide (k = 1) = false := decide_eq_false hn1
  have d2 : decide (k = 2) = false := decide_eq_false hn2
  have d3 : decide (k = 3) = false := decide_eq_false hn3
  have d4 : decide (k = 4) = false := decide_eq_false hn4
  go_wp2
  go_ret
  exact ⟨by rw [show stemL ⟨k, i, s, false⟩ = [] by unfold stemL; simp [hn1, hn2, hn3, hn4]]; rfl, HB2.out⟩
end Go.Proofs.YteekmmgopnnioaaDoor.Mn
