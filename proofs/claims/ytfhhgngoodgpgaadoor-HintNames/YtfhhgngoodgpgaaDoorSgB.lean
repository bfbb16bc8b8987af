import Derived.Test.YtfhhgngoodgpgaaDoorSgA
import Derived.Test.YtfhhgngoodgpgaaDoorLay
import Derived.Lib.AppendIntMem
import Derived.Lib.ItoaLen
/-! Names of hints: the two Names. -/
namespace Go.Proofs.YtfhhgngoodgpgaaDoor
open Go.RowKit
set_option linter.unusedVariables false
set_option linter.unusedSimpArgs false

/-- The table that strconv reads, by the name that the row gives it. -/
def tabN : String := ((Rows.hintNamesRow.laid.map Prod.fst).getD 2 "")
def Tab (w : World) : Prop := Lib.TabIs Tryd.prog w tabN .u64 Lib.pow10Tab
theorem Tab.later {w w' : World} (h : Tab w) (hb : Below w.heap.size w w') : Tab w' := Lib.tabBelow_of_tabIs h w' hb

theorem itoaOf (n : Nat) (hn : n < 1073741824) (w : World) (h : Tab w) :
    Calls Tryd.prog 7 #[.int .i64 n] w fun e w' => e = .returned (.string ⟨(Lib.decDigits n).toArray⟩) ∧ Below w.heap.size w w' := by
  refine (Any.strconv_Itoa Tryd.laysItoa (n : Int) (by omega) (by omega) w h).mono ?_
  rintro e w' ⟨rfl, k, os, rfl⟩
  exact ⟨by rw [Lib.itoa_nonneg], Lib.below_grow _ _ (Nat.le_refl _) _ _⟩

/-- The name, as its bytes. -/
def nameL (t n : Nat) : List UInt8 := 116 :: (Lib.decDigits t ++ (46 :: (Lib.decDigits n ++ [46, 104, 105, 110, 116])))

theorem dec_len {n : Nat} (hn : n < 1073741824) : (Lib.decDigits n).length ≤ 21 := by
  have := Lib.itoa_length_le (n : Int) (by omega) (by omega)
  rwa [Lib.itoa_nonneg] at this

def isN (n : Int) : Bool := decide (0 ≤ n) && decide (n < 1073741824)
theorem retB {a b : Bool} (h : a = b) : Ending.returned (.bool a) = .returned (.bool b) := by rw [h]
theorem isIdOf (n : Int) (w : World) : Calls Tryd.prog 6 #[.int .i64 n] w fun e w' => e = .returned (.bool (isN n)) ∧ w' = w := by
  unfold isN
  by_cases h0 : 0 ≤ n
  · go_enter Tryd.func6, Tryd.ntmps6
    go_wp2
    go_ret
    exact ⟨retB (by simp [h0]), rfl⟩
  · go_enter Tryd.func6, Tryd.ntmps6
    go_wp2
    go_ret
    exact ⟨retB (by simp; omega), rfl⟩
theorem numberOf (n : Int) (w : World) : Calls Tryd.prog 8 #[.int .i64 n] w fun e w' => e = .returned (.bool (isN n)) ∧ w' = w := by
  unfold isN
  by_cases h0 : 0 ≤ n
  · go_enter Tryd.func8, Tryd.ntmps8
    go_wp2
    go_ret
    exact ⟨retB (by simp [h0]), rfl⟩
  · go_enter Tryd.func8, Tryd.ntmps8
    go_wp2
    go_ret
    exact ⟨retB (by simp; omega), rfl⟩
theorem isN_yes {n : Nat} (h : n < 1073741824) : isN (n : Int) = true := by unfold isN; simp; omega

theorem below_on {w w1 w2 : World} (h : Below w.heap.size w w1) (k : Below w1.heap.size w1 w2) : Below w.heap.size w w2 := h.trans (k.mono h.size)
/-- Strings put together. -/
theorem cat_t (d : List UInt8) : (⟨#[116]⟩ : ByteArray) ++ ⟨d.toArray⟩ = ⟨(116 :: d).toArray⟩ := by
  apply ByteArray.ext
  simp
theorem cat_l (a b : List UInt8) : (⟨a.toArray⟩ : ByteArray) ++ ⟨b.toArray⟩ = ⟨(a ++ b).toArray⟩ := by
  apply ByteArray.ext
  simp

set_option maxHeartbeats 400000 in
set_option maxRecDepth 100000 in
theorem nameOf (t n : Nat) (ht : t < 1073741824) (hn : n < 1073741824) (w : World) (h : Tab w) :
    Calls Tryd.prog 4 #[.int .i64 t, .int .i64 n] w fun e w' => e = .returned (.string ⟨(nameL t n).toArray⟩) ∧ Below w.heap.size w w' := by
  have HT : Hid (Tab w) := h
  clear h
  have h1 := dec_len ht
  have h2 := dec_len hn
  have HN : Hid (nameL t n = 116 :: (Lib.decDigits t ++ (46 :: (Lib.decDigits n ++ [46, 104, 105, 110, 116])))) := rfl
  go_enter Tryd.func4, Tryd.ntmps4
  go_wp2_with fail
  refine (isIdOf _ w).mono ?_
  rintro e w1 ⟨rfl, rfl⟩
  rw [isN_yes ht]
  go_wp2_with fail
  refine (isIdOf _ _).mono ?_
  rintro e w2 ⟨rfl, rfl⟩
  rw [isN_yes hn]
  go_wp2_with fail
  refine (itoaOf t ht _ HT.out).mono ?_
  rintro e w3 ⟨rfl, hb3⟩
  have HB3 : Hid (Below w2.heap.size w2 w3) := hb3
  clear hb3
  generalize Lib.decDigits t = dt at h1 HN ⊢
  have hs1 : (⟨dt.toArray⟩ : ByteArray).size = dt.length := rfl
  go_wp2_with fail
  refine (itoaOf n hn _ (HT.out.later HB3.out)).mono ?_
  rintro e w4 ⟨rfl, hb4⟩
  have HB4 : Hid (Below w2.heap.size w2 w4) := below_on HB3.out hb4
  clear hb4
  generalize Lib.decDigits n = dn at h2 HN ⊢
  obtain ⟨S, hS⟩ : ∃ S, (⟨#[116]⟩ : ByteArray) ++ ⟨dt.toArray⟩ ++ ⟨#[46]⟩ = S := ⟨_, rfl⟩
  have hS1 : S.size = dt.length + 2 := by rw [← hS, ByteArray.size_append, ByteArray.size_append]; show 1 + dt.length + 1 = dt.length + 2; omega
  have HS : Hid (S.data.toList = 116 :: (dt ++ [46])) := by unfold Hid; rw [← hS]; simp
  rw [hS]
  have hs2 : (⟨dn.toArray⟩ : ByteArray).size = dn.length := rfl
  clear hS hs1
  go_wp2
  go_ret
  refine ⟨congrArg Ending.returned (str_eq ?_), HB4.out⟩
  rw [HN.out]
  simp [HS.out]

theorem nameNot (a b : Int) (h : ¬ (isN a = true ∧ isN b = true)) (w : World) :
    Calls Tryd.prog 4 #[.int .i64 a, .int .i64 b] w fun e w' => e = .returned (.string ⟨#[]⟩) ∧ w' = w := by
  by_cases h1 : isN a = true
  · have h2 : isN b = false := by
      cases hb : isN b
      · rfl
      · exact absurd ⟨h1, hb⟩ h
    clear h
    go_enter Tryd.func4, Tryd.ntmps4
    go_wp2_with fail
    refine (isIdOf _ w).mono ?_
    rintro e w1 ⟨rfl, rfl⟩
    rw [h1]
    clear h1
    go_wp2_with fail
    refine (isIdOf _ _).mono ?_
    rintro e w2 ⟨rfl, rfl⟩
    rw [h2]
    clear h2
    go_wp2
    go_ret
    exact ⟨rfl, rfl⟩
  · have h2 : isN a = false := by simpa using h1
    clear h h1
    go_enter Tryd.func4, Tryd.ntmps4
    go_wp2_with fail
    refine (isIdOf _ w).mono ?_
    rintro e w1 ⟨rfl, rfl⟩
    rw [h2]
    clear h2
    go_wp2
    go_ret
    exact ⟨rfl, rfl⟩

set_option maxHeartbeats 400000 in
set_option maxRecDepth 100000 in
theorem rnameOf (t n : Nat) (ht : t < 1073741824) (hn : n < 1073741824) (w : World) :
    Calls Tryd.prog 5 #[.int .i64 t, .int .i64 n] w fun e w' => e = .returned (.string ⟨(nameL t n).toArray⟩) ∧ Below w.heap.size w w' := by
  have h1 := dec_len ht
  have h2 := dec_len hn
  have HN : Hid (nameL t n = 116 :: (Lib.decDigits t ++ (46 :: (Lib.decDigits n ++ [46, 104, 105, 110, 116])))) := rfl
  go_enter Tryd.func5, Tryd.ntmps5
  go_wp2_with fail
  refine (numberOf _ w).mono ?_
  rintro e w1 ⟨rfl, rfl⟩
  rw [isN_yes ht]
  go_wp2_with fail
  refine (numberOf _ _).mono ?_
  rintro e w2 ⟨rfl, rfl⟩
  rw [isN_yes hn]
  go_wp2_with fail
  refine (decimalOf (t + 1) t (by omega) ht _).mono ?_
  rintro e w3 ⟨rfl, hb3⟩
  have HB3 : Hid (Below w2.heap.size w2 w3) := hb3
  clear hb3
  generalize Lib.decDigits t = dt at h1 HN ⊢
  have hs1 : (⟨dt.toArray⟩ : ByteArray).size = dt.length := rfl
  go_wp2_with fail
  refine (decimalOf (n + 1) n (by omega) hn _).mono ?_
  rintro e w4 ⟨rfl, hb4⟩
  have HB4 : Hid (Below w2.heap.size w2 w4) := below_on HB3.out hb4
  clear hb4
  generalize Lib.decDigits n = dn at h2 HN ⊢
  have hs2 : (⟨dn.toArray⟩ : ByteArray).size = dn.length := rfl
  go_wp2
  go_ret
  refine ⟨congrArg Ending.returned (str_eq ?_), HB4.out⟩
  rw [HN.out]
  simp

theorem rnameNot (a b : Int) (h : ¬ (isN a = true ∧ isN b = true)) (w : World) :
    Calls Tryd.prog 5 #[.int .i64 a, .int .i64 b] w fun e w' => e = .returned (.string ⟨#[]⟩) ∧ w' = w := by
  by_cases h1 : isN a = true
  · have h2 : isN b = false := by
      cases hb : isN b
      · rfl
      · exact absurd ⟨h1, hb⟩ h
    clear h
    go_enter Tryd.func5, Tryd.ntmps5
    go_wp2_with fail
    refine (numberOf _ w).mono ?_
    rintro e w1 ⟨rfl, rfl⟩
    rw [h1]
    clear h1
    go_wp2_with fail
    refine (numberOf _ _).mono ?_
    rintro e w2 ⟨rfl, rfl⟩
    rw [h2]
    clear h2
    go_wp2
    go_ret
    exact ⟨rfl, rfl⟩
  · have h2 : isN a = false := by simpa using h1
    clear h h1
    go_enter Tryd.func5, Tryd.ntmps5
    go_wp2_with fail
    refine (numberOf _ w).mono ?_
    rintro e w1 ⟨rfl, rfl⟩
    rw [h2]
    clear h2
    go_wp2_with fail
    refine (numberOf _ _).mono ?_
    rintro e w2 ⟨rfl, rfl⟩
    generalize isN b = bb
    go_wp2
    go_ret
    exact ⟨rfl, rfl⟩

set_option maxHeartbeats 400000 in
set_option maxRecDepth 100000 in
theorem namesWalk (a b : Int) (h0 : -9223372036854775808 ≤ a) (h1 : a ≤ 9223372036854775807) (h2 : -9223372036854775808 ≤ b) (h3 : b ≤ 9223372036854775807) (w : World) (h : Tab w) :
    Calls Tryd.prog 3 #[.int .i64 a, .int .i64 b] w fun e w' => e = .returned (.bool true) ∧ Below w.heap.size w w' := by
  by_cases hy : isN a = true ∧ isN b = true
  · obtain ⟨t, rfl, ht⟩ : ∃ t : Nat, a = (t : Int) ∧ t < 1073741824 := ⟨a.toNat, by have := hy.1; unfold isN at this; simp at this; omega, by have := hy.1; unfold isN at this; simp at this; omega⟩
    obtain ⟨n, rfl, hn⟩ : ∃ n : Nat, b = (n : Int) ∧ n < 1073741824 := ⟨b.toNat, by have := hy.2; unfold isN at this; simp at this; omega, by have := hy.2; unfold isN at this; simp at this; omega⟩
    have HT : Hid (Tab w) := h
    clear hy h
    go_enter Tryd.func3, Tryd.ntmps3
    go_wp2_with fail
    refine (nameOf t n ht hn w HT.out).mono ?_
    rintro e w1 ⟨rfl, hb1⟩
    have HB1 : Hid (Below w.heap.size w w1) := hb1
    clear hb1
    go_wp2_with fail
    refine (rnameOf t n ht hn w1).mono ?_
    rintro e w2 ⟨rfl, hb2⟩
    have HB2 : Hid (Below w.heap.size w w2) := below_on HB1.out hb2
    clear hb2
    generalize nameL t n = L
    go_wp2
    go_ret
    exact ⟨rfl, HB2.out⟩
  · have HY : Hid (¬ (isN a = true ∧ isN b = true)) := hy
    clear hy h
    go_enter Tryd.func3, Tryd.ntmps3
    go_wp2_with fail
    refine (nameNot a b HY.out w).mono ?_
    rintro e w1 ⟨rfl, rfl⟩
    go_wp2_with fail
    refine (rnameNot a b HY.out _).mono ?_
    rintro e w2 ⟨rfl, rfl⟩
    go_wp2
    go_ret
    exact ⟨rfl, Below.refl _ _⟩
end Go.Proofs.YtfhhgngoodgpgaaDoor
