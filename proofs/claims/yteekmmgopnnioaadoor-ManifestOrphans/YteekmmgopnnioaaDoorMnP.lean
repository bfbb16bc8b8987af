import Derived.Test.YteekmmgopnnioaaDoorMnN1
import Derived.Test.YteekmmgopnnioaaDoorMnN2
import Derived.Test.YteekmmgopnnioaaDoorMnN3
/-! Names of files: the program's Parse. -/
namespace Go.Proofs.YteekmmgopnnioaaDoor.Mn
open Go.RowKit
set_option linter.unusedVariables false
set_option linter.unusedSimpArgs false

theorem readNameCat (s : ByteArray) (hs : s.size ≤ 281474976710656) (hcat : Lib.trimSuffix s.data.toList tmpB = catB) (w : World) :
    Calls Tryd.prog 25 #[.string s] w fun e w' => e = .returned (rd s.data.toList).val ∧ Below w.heap.size w w' := by
  have HC : Hid (∀ v, Calls Tryd.prog 37 #[.string s, .string ⟨#[46, 116, 109, 112]⟩] v fun e w' => e = .returned (.tuple #[.string ⟨#[99, 97, 116, 97, 108, 111, 103]⟩, .bool (Lib.hasSuffix s.data.toList tmpB)]) ∧ w' = v) := fun v => by
    have := cutOf s hs v
    rw [hcat] at this
    exact this
  have HR : Hid (rd s.data.toList = ⟨4, 0, 0, Lib.hasSuffix s.data.toList tmpB⟩) := by
    unfold Hid rd
    rw [if_pos hcat]
  generalize rd s.data.toList = n at HR ⊢
  generalize Lib.hasSuffix s.data.toList tmpB = t at HC HR
  clear hcat hs
  go_enter Tryd.func25, Tryd.ntmps25
  go_wp2_with fail
  refine (HC.out _).mono ?_
  rintro e w1 ⟨rfl, rfl⟩
  go_wp2
  refine bodyPost_ret (v := .agg #[.int .i64 4, .int .i64 0, .int .i64 0, .bool t]) ?_ rfl ⟨?_, (Below.refl _ _).alloc (Nat.le_refl _) _⟩
  · simp only [results, hres25]
    go_simp
  · rw [HR.out]
theorem readNameOf (s : ByteArray) (hs : s.size ≤ 281474976710656) (w : World) (h : Errs w) :
    Calls Tryd.prog 25 #[.string s] w fun e w' => e = .returned (rd s.data.toList).val ∧ Below w.heap.size w w' := by
  by_cases hcat : Lib.trimSuffix s.data.toList tmpB = catB
  · exact readNameCat s hs hcat w
  · rcases parts_cases (Lib.trimPrefix (Lib.trimSuffix s.data.toList tmpB) [116]) with ⟨a, e⟩ | ⟨a, b, e⟩ | ⟨a, b, c, e⟩
    · exact readName1 s a e hcat hs w h
    · exact readName2 s a b e hcat hs w h
    · exact readName3 s a b c e hcat hs w h
theorem rd_ok (l : By) : (rd l).Ok := by
  have hk : ∀ p : By, 0 ≤ kindL p ∧ kindL p ≤ 3 := fun p => by
    unfold kindL
    split
    · omega
    split
    · omega
    split <;> omega
  unfold rd
  split
  · constructor <;> (simp only; omega)
  · unfold rdP
    have h1 := num_bounds ((parts (Lib.trimPrefix (Lib.trimSuffix l tmpB) [116])).getD 0 [])
    have h2 := num_bounds ((parts (Lib.trimPrefix (Lib.trimSuffix l tmpB) [116])).getD 1 [])
    have h3 := hk ((parts (Lib.trimPrefix (Lib.trimSuffix l tmpB) [116])).getD ((parts (Lib.trimPrefix (Lib.trimSuffix l tmpB) [116])).length - 1) [])
    constructor <;> simp only
    · omega
    · omega
    · exact h1.1
    · exact h1.2
    · split
      · exact h2.1
      · omega
    · split
      · exact h2.2
      · omega
theorem hres7 : Tryd.f7.results = #[.cell 2 23] := by kernel_rfl

set_option maxHeartbeats 4000000 in
set_option maxRecDepth 100000 in
theorem parseOf (s : ByteArray) (hs : s.size ≤ 281474976710656) (w : World) (h : Errs w) (ht : Tab w) :
    Calls Tryd.prog 7 #[.string s] w fun e w' => e = .returned (parseL s.data.toList).val ∧ Below w.heap.size w w' := by
  have HRD : Hid (∀ v, Below w.heap.size w v → Calls Tryd.prog 25 #[.string s] v fun e w' => e = .returned (rd s.data.toList).val ∧ Below v.heap.size v w') := fun v hv => readNameOf s hs v (h.later hv)
  have HNM : Hid (∀ v, Below w.heap.size w v → Calls Tryd.prog 5 #[(rd s.data.toList).val] v fun e w' => e = .returned (.string ⟨(nameL (rd s.data.toList)).toArray⟩) ∧ Below v.heap.size v w') := fun v hv => nameOf _ (rd_ok _) v (ht.later hv)
  have HPR : Hid (parseL s.data.toList = if nameL (rd s.data.toList) = s.data.toList then rd s.data.toList else FN.zero) := rfl
  have hnl := name_len (rd s.data.toList)
  generalize parseL s.data.toList = m at HPR ⊢
  generalize rd s.data.toList = n at *
  generalize nameL n = L at *
  obtain ⟨k, i, g, t⟩ := n
  obtain ⟨W0, hW0⟩ : ∃ W0, w.alloc (.cells #[.int .i64 0, .int .i64 0, .int .i64 0, .bool false] 23) = W0 := ⟨_, rfl⟩
  have HR0 : Hid (Own4 W0 w.heap.size (.int .i64 0) (.int .i64 0) (.int .i64 0) (.bool false)) := by
    unfold Hid
    rw [← hW0]; exact Own4.new _ _ _ _ _
  have HB0 : Hid (Below w.heap.size w W0) := by
    unfold Hid
    rw [← hW0]; exact (Below.refl _ _).alloc (Nat.le_refl _) _
  clear h ht hs
  go_enter Tryd.func7, Tryd.ntmps7
  go_wp2_with fail
  refine (HRD.out _ HB0.out).mono ?_
  rintro e w1 ⟨rfl, hb1⟩
  have HB1 : Hid (Below w.heap.size w w1) := below_on HB0.out hb1
  have HR1 : Hid (Own4 w1 w.heap.size (.int .i64 0) (.int .i64 0) (.int .i64 0) (.bool false)) := HR0.out.later hb1
  obtain ⟨W2, hW2⟩ : ∃ W2, w1.alloc (.cells #[.int .i64 k, .int .i64 i, .int .i64 g, .bool t] 23) = W2 := ⟨_, rfl⟩
  have HZ2 : Hid (Own4 W2 w1.heap.size (.int .i64 k) (.int .i64 i) (.int .i64 g) (.bool t)) := by
    unfold Hid
    rw [← hW2]; exact Own4.new _ _ _ _ _
  have hb2 : Below w1.heap.size w1 W2 := by
    rw [← hW2]; exact (Below.refl _ _).alloc (Nat.le_refl _) _
  have HB2 : Hid (Below w.heap.size w W2) := below_on HB1.out hb2
  have HR2 : Hid (Own4 W2 w.heap.size (.int .i64 0) (.int .i64 0) (.int .i64 0) (.bool false)) := HR1.out.later hb2
  obtain ⟨z0, z1, z2, z3, _⟩ := HZ2.out
  clear hb1 hb2 hW0 HRD
  go_wp2_with fail
  refine (HNM.out _ HB2.out).mono ?_
  rintro e w3 ⟨rfl, hb3⟩
  have HB3 : Hid (Below w.heap.size w w3) := below_on HB2.out hb3
  have HR3 : Hid (Own4 w3 w.heap.size (.int .i64 0) (.int .i64 0) (.int .i64 0) (.bool false)) := HR2.out.later hb3
  obtain ⟨y0, y1, y2, y3, _⟩ := HZ2.out.later hb3
  obtain ⟨r0, r1, r2, r3, rf⟩ := HR3.out
  have rf0 := rf 0
  have rf1 := rf 1
  have rf2 := rf 2
  have rf3 := rf 3
  clear hb3 hW2 HNM z0 z1 z2 z3 rf
  by_cases hL : L = s.data.toList
  · have HM : Hid (m = ⟨k, i, g, t⟩) := by unfold Hid; rw [HPR.out, if_pos hL]
    obtain rfl : s = ⟨L.toArray⟩ := by
      apply ByteArray.ext
      rw [hL]
    clear hL HPR
    go_wp2
    refine bodyPost_ret (v := .agg #[.int .i64 k, .int .i64 i, .int .i64 g, .bool t]) ?_ rfl ⟨?_, below4 HB3.out (Nat.le_refl _) _ _ _ _⟩
    · obtain ⟨p0, p1, p2, p3, _⟩ := HR3.out.put (.int .i64 k) (.int .i64 i) (.int .i64 g) (.bool t)
      simp only [results, hres7]
      go_simp
    · rw [HM.out]
  · have HM : Hid (m = FN.zero) := by unfold Hid; rw [HPR.out, if_neg hL]
    have hne : ((⟨L.toArray⟩ : ByteArray).toList == s.toList) = false := by
      rw [ByteArray.toList_eq, ByteArray.toList_eq, beq_eq_false_iff_ne]
      exact hL
    have hne2 : (L == s.toList) = false := by
      rw [ByteArray.toList_eq, beq_eq_false_iff_ne]
      exact hL
    have hne3 : (⟨L.toArray⟩ : ByteArray) ≠ s := fun e => hL (by rw [← e])
    clear hL HPR
    go_wp2
    refine bodyPost_ret (v := .agg #[.int .i64 0, .int .i64 0, .int .i64 0, .bool false]) ?_ rfl ⟨?_, below4 HB3.out (Nat.le_refl _) _ _ _ _⟩
    · obtain ⟨p0, p1, p2, p3, _⟩ := HR3.out.put (.int .i64 0) (.int .i64 0) (.int .i64 0) (.bool false)
      simp only [results, hres7]
      go_simp
    · rw [HM.out]; rfl
end Go.Proofs.YteekmmgopnnioaaDoor.Mn
