import Derived.Test.YtelhjdplghpnbaaSdE
/-! The program's overdue and picked. -/
namespace Go.Proofs.Ytelhjdplghpnbaa
open Go.RowKit Plain
set_option linter.unusedVariables false
set_option linter.unusedSimpArgs false

theorem ixA0 (a b c d : Int) (w : World) : (Instr.index 24 (.agg #[.int .i64 a, .int .i64 b, .int .i64 c, .int .i64 d]) (.int .i64 0)).run Try.prog w = .ok (.int .i64 a) w := rfl
theorem ixA1 (a b c d : Int) (w : World) : (Instr.index 24 (.agg #[.int .i64 a, .int .i64 b, .int .i64 c, .int .i64 d]) (.int .i64 1)).run Try.prog w = .ok (.int .i64 b) w := rfl
theorem ixA2 (a b c d : Int) (w : World) : (Instr.index 24 (.agg #[.int .i64 a, .int .i64 b, .int .i64 c, .int .i64 d]) (.int .i64 2)).run Try.prog w = .ok (.int .i64 c) w := rfl
theorem ixA3 (a b c d : Int) (w : World) : (Instr.index 24 (.agg #[.int .i64 a, .int .i64 b, .int .i64 c, .int .i64 d]) (.int .i64 3)).run Try.prog w = .ok (.int .i64 d) w := rfl
theorem ixB0 (a b c d : Bool) (w : World) : (Instr.index 27 (.agg #[.bool a, .bool b, .bool c, .bool d]) (.int .i64 0)).run Try.prog w = .ok (.bool a) w := rfl
theorem ixB1 (a b c d : Bool) (w : World) : (Instr.index 27 (.agg #[.bool a, .bool b, .bool c, .bool d]) (.int .i64 1)).run Try.prog w = .ok (.bool b) w := rfl
theorem ixB2 (a b c d : Bool) (w : World) : (Instr.index 27 (.agg #[.bool a, .bool b, .bool c, .bool d]) (.int .i64 2)).run Try.prog w = .ok (.bool c) w := rfl
theorem ixB3 (a b c d : Bool) (w : World) : (Instr.index 27 (.agg #[.bool a, .bool b, .bool c, .bool d]) (.int .i64 3)).run Try.prog w = .ok (.bool d) w := rfl
/-- The first of the greatest of the first n. -/
def lonL (f : Nat → Int) : Nat → Nat
  | 0 => 0
  | n + 1 => if f (lonL f n) < f n then n else lonL f n
def overL (f : Nat → Int) : Int := if f (lonL f 4) < 13 then -1 else lonL f 4
def maskL (b : Nat → Bool) (F : Nat → Int) (i : Nat) : Int := if b i = true then F i else 0
theorem lonL_lt (f : Nat → Int) : ∀ n, lonL f n < n + 1 ∧ lonL f n ≤ n - 1
  | 0 => ⟨by simp [lonL], by simp [lonL]⟩
  | n + 1 => by
    have := lonL_lt f n
    unfold lonL
    split <;> omega
theorem best_lon (b : Nat → Bool) (F : Nat → Int) : ∀ n, bestL F b (n + 1) = if maskL b F (lonL (maskL b F) (n + 1)) < 13 then (-1 : Int) else (lonL (maskL b F) (n + 1) : Int)
  | 0 => by
    have e : lonL (maskL b F) 1 = 0 := by unfold lonL; split <;> rfl
    rw [e]
    unfold bestL maskL
    by_cases h : b 0 = true
    · rw [if_pos h]
      by_cases h2 : F 0 < 13
      · rw [if_pos h2, if_neg (fun x => absurd (show 13 ≤ F 0 from x.2.1) (by omega))]; rfl
      · rw [if_neg h2, if_pos (show b 0 = true ∧ 13 ≤ F 0 ∧ (bestL F b 0 < 0 ∨ F (bestL F b 0).toNat < F 0) from ⟨h, by omega, .inl (by show (-1 : Int) < 0; omega)⟩)]
    · rw [if_neg h, if_neg (fun x => h x.1), if_pos (by omega)]; rfl
  | n + 1 => by
    have ih := best_lon b F n
    obtain ⟨K, hK⟩ : ∃ K, lonL (maskL b F) (n + 1) = K := ⟨_, rfl⟩
    have e : lonL (maskL b F) (n + 1 + 1) = if maskL b F K < maskL b F (n + 1) then n + 1 else K := by
      conv => lhs; unfold lonL
      rw [hK]
    have e2 : bestL F b (n + 1 + 1) = if b (n + 1) = true ∧ 13 ≤ F (n + 1) ∧ (bestL F b (n + 1) < 0 ∨ F (bestL F b (n + 1)).toNat < F (n + 1)) then ((n + 1 : Nat) : Int) else bestL F b (n + 1) := rfl
    rw [hK] at ih
    rw [e, e2, ih]
    by_cases hb : b (n + 1) = true
    · have hm : maskL b F (n + 1) = F (n + 1) := by unfold maskL; rw [if_pos hb]
      rw [hm]
      by_cases h13 : maskL b F K < 13
      · rw [if_pos h13]
        by_cases hF : 13 ≤ F (n + 1)
        · rw [if_pos ⟨hb, hF, .inl (by omega)⟩, if_pos (show maskL b F K < F (n + 1) by omega), hm, if_neg (show ¬ F (n + 1) < 13 by omega)]
        · rw [if_neg (fun x => hF x.2.1)]
          by_cases hl : maskL b F K < F (n + 1)
          · rw [if_pos hl, hm, if_pos (show F (n + 1) < 13 by omega)]
          · rw [if_neg hl, if_pos h13]
      · rw [if_neg h13]
        have hbK : maskL b F K = F K := by
          unfold maskL at h13 ⊢
          split
          · rfl
          · rename_i hn; rw [if_neg hn] at h13; omega
        by_cases hl : maskL b F K < F (n + 1)
        · rw [if_pos hl, if_pos ⟨hb, by omega, .inr (by simp; omega)⟩, hm, if_neg (show ¬ F (n + 1) < 13 by omega)]
        · rw [if_neg hl, if_neg h13, if_neg (fun x => by rcases x.2.2 with h | h; (omega); (simp at h; omega))]
    · have hm : maskL b F (n + 1) = 0 := by unfold maskL; rw [if_neg hb]
      rw [hm, if_neg (fun x => hb x.1)]
      by_cases h13 : maskL b F K < 13
      · rw [if_pos h13]
        by_cases hl : maskL b F K < 0
        · rw [if_pos hl, hm, if_pos (by omega)]
        · rw [if_neg hl, if_pos h13]
      · rw [if_neg h13, if_neg (show ¬ maskL b F K < 0 by omega), if_neg h13]
theorem over_best (b : Nat → Bool) (F : Nat → Int) : overL (maskL b F) = bestL F b 4 := (best_lon b F 3).symm

set_option maxHeartbeats 4000000 in
set_option maxRecDepth 1000000 in
theorem qoverdueOf (f : Nat → Int) (w : World) : Calls Try.prog 26 #[.agg #[.int .i64 (f 0), .int .i64 (f 1), .int .i64 (f 2), .int .i64 (f 3)]] w fun e w' => e = .returned (.int .i64 (overL f)) ∧ Below w.heap.size w w' := by
  obtain ⟨w1, hw1⟩ : ∃ w1, w.alloc (.cells #[.int .i64 (f 0), .int .i64 (f 1), .int .i64 (f 2), .int .i64 (f 3)] 24) = w1 := ⟨_, rfl⟩
  have b1 : Hid (Below w.heap.size w w1) := by rw [← hw1]; exact (Below.refl _ _).alloc (Nat.le_refl _) _
  have x1 : w1.heap[w.heap.size]? = some (.cells #[.int .i64 (f 0), .int .i64 (f 1), .int .i64 (f 2), .int .i64 (f 3)] 24) := by rw [← hw1]; show (w.heap.push _)[w.heap.size]? = _; simp
  have HC : Hid (∀ i, i < 4 → w1.cell? ⟨w.heap.size, i, none⟩ = some (.int .i64 (f i))) := by
    refine four _ ?_ ?_ ?_ ?_
    all_goals simp [World.cell?, x1]
  have HB0 : Hid (w.heap.size = w.heap.size) := rfl
  clear x1
  obtain ⟨B, hB⟩ : ∃ B, w.heap.size = B := ⟨_, rfl⟩
  rw [hB] at HC
  have c0 := HC.out 0 (by omega)
  have c1 := HC.out 1 (by omega)
  have c2 := HC.out 2 (by omega)
  have c3 := HC.out 3 (by omega)
  have y0 := ixA0 (f 0) (f 1) (f 2) (f 3)
  have y1 := ixA1 (f 0) (f 1) (f 2) (f 3)
  have y2 := ixA2 (f 0) (f 1) (f 2) (f 3)
  have y3 := ixA3 (f 0) (f 1) (f 2) (f 3)
  go_enter Try.func26, Try.ntmps26
  go_wp2
  go_loopg [3, 7] 4 (fun gk s3 s7 wx => ∃ (i : Nat), i + gk = 4 ∧ s7 = .int .i64 i ∧ s3 = .int .i64 (lonL f i) ∧ wx = w1)
  case atStart => exact ⟨0, by omega, rfl, rfl, rfl⟩
  case round =>
    obtain ⟨i, hi, rfl, rfl, rfl⟩ := hrel
    have HL := Hid.mkS (lonL_lt f i)
    have HE : Hid (lonL f (i + 1) = if f (lonL f i) < f i then i else lonL f i) := rfl
    obtain ⟨K, hK⟩ : ∃ K, lonL f i = K := ⟨_, rfl⟩
    rw [hK] at HL HE ⊢
    have hk4 : K < 4 := by have := HL.out; omega
    have ck := HC.out K hk4
    have hk4z : (K : Int) < 4 := by omega
    cases gk with
    | succ gk1 =>
      have hi4 : i = 0 ∨ i = 1 ∨ i = 2 ∨ i = 3 := by omega
      rcases hi4 with rfl | rfl | rfl | rfl
      · by_cases hlt : f K < f 0
        · have HN : Hid (lonL f (0 + 1) = 0) := by unfold Hid; rw [HE.out, if_pos hlt]
          clear HE HL
          generalize f K = z at *
          go_wp2
          go_roundg gk1
          case measure => omega
          case rel => exact ⟨0 + 1, by omega, rfl, by rw [HN.out], rfl⟩
        · have HN : Hid (lonL f (0 + 1) = K) := by unfold Hid; rw [HE.out, if_neg hlt]
          clear HE HL
          generalize f K = z at *
          go_wp2
          go_roundg gk1
          case measure => omega
          case rel => exact ⟨0 + 1, by omega, rfl, by rw [HN.out], rfl⟩
      · by_cases hlt : f K < f 1
        · have HN : Hid (lonL f (1 + 1) = 1) := by unfold Hid; rw [HE.out, if_pos hlt]
          clear HE HL
          generalize f K = z at *
          go_wp2
          go_roundg gk1
          case measure => omega
          case rel => exact ⟨1 + 1, by omega, rfl, by rw [HN.out], rfl⟩
        · have HN : Hid (lonL f (1 + 1) = K) := by unfold Hid; rw [HE.out, if_neg hlt]
          clear HE HL
          generalize f K = z at *
          go_wp2
          go_roundg gk1
          case measure => omega
          case rel => exact ⟨1 + 1, by omega, rfl, by rw [HN.out], rfl⟩
      · by_cases hlt : f K < f 2
        · have HN : Hid (lonL f (2 + 1) = 2) := by unfold Hid; rw [HE.out, if_pos hlt]
          clear HE HL
          generalize f K = z at *
          go_wp2
          go_roundg gk1
          case measure => omega
          case rel => exact ⟨2 + 1, by omega, rfl, by rw [HN.out], rfl⟩
        · have HN : Hid (lonL f (2 + 1) = K) := by unfold Hid; rw [HE.out, if_neg hlt]
          clear HE HL
          generalize f K = z at *
          go_wp2
          go_roundg gk1
          case measure => omega
          case rel => exact ⟨2 + 1, by omega, rfl, by rw [HN.out], rfl⟩
      · by_cases hlt : f K < f 3
        · have HN : Hid (lonL f (3 + 1) = 3) := by unfold Hid; rw [HE.out, if_pos hlt]
          clear HE HL
          generalize f K = z at *
          go_wp2
          go_roundg gk1
          case measure => omega
          case rel => exact ⟨3 + 1, by omega, rfl, by rw [HN.out], rfl⟩
        · have HN : Hid (lonL f (3 + 1) = K) := by unfold Hid; rw [HE.out, if_neg hlt]
          clear HE HL
          generalize f K = z at *
          go_wp2
          go_roundg gk1
          case measure => omega
          case rel => exact ⟨3 + 1, by omega, rfl, by rw [HN.out], rfl⟩
    | zero =>
      have hii : i = 4 := by omega
      subst hii
      have HO : Hid (overL f = if f K < 13 then -1 else (K : Int)) := by unfold Hid overL; rw [hK]
      clear HE HL
      by_cases h13 : f K < 13
      · rw [if_pos h13] at HO
        generalize f K = z at *
        go_wp2
        go_ret
        exact ⟨by rw [HO.out]; rfl, by first | exact b1.out | (rw [← hB]; exact b1.out)⟩
      · rw [if_neg h13] at HO
        generalize f K = z at *
        go_wp2
        go_ret
        exact ⟨by rw [HO.out]; rfl, by first | exact b1.out | (rw [← hB]; exact b1.out)⟩
/-- The first class with work from s on, or -1. -/
def fromZ (b : Nat → Bool) (s : Nat) : Int := if anyL b 4 = true then fromL b 4 s else -1
theorem anyL_four (b : Nat → Bool) (s : Nat) (h : ∀ j, j < 4 → b ((s + j) % 4) = false) : anyL b 4 = false := by
  have h0 := h 0 (by omega)
  have h1 := h 1 (by omega)
  have h2 := h 2 (by omega)
  have h3 := h 3 (by omega)
  have hs : s % 4 = 0 ∨ s % 4 = 1 ∨ s % 4 = 2 ∨ s % 4 = 3 := by omega
  have e : ∀ j, (s + j) % 4 = (s % 4 + j) % 4 := fun j => by omega
  rw [e] at h0 h1 h2 h3
  unfold anyL anyL anyL anyL anyL
  rcases hs with q | q | q | q <;> rw [q] at h0 h1 h2 h3 <;> simp at h0 h1 h2 h3 <;> simp [h0, h1, h2, h3]
theorem anyL_has (b : Nat → Bool) (i : Nat) (hi : i < 4) (h : b i = true) : anyL b 4 = true := by
  have hc : i = 0 ∨ i = 1 ∨ i = 2 ∨ i = 3 := by omega
  unfold anyL anyL anyL anyL anyL
  rcases hc with rfl | rfl | rfl | rfl <;> simp [h]

set_option maxHeartbeats 4000000 in
set_option maxRecDepth 1000000 in
theorem qpickedOf (b : Nat → Bool) (pick : Int) (w : World) : Calls Try.prog 27 #[.agg #[.bool (b 0), .bool (b 1), .bool (b 2), .bool (b 3)], .int .i64 pick] w fun e w' => e = .returned (.int .i64 (fromZ b (pick % 4).toNat)) ∧ Below w.heap.size w w' := by
  obtain ⟨w1, hw1⟩ : ∃ w1, w.alloc (.cells #[.bool (b 0), .bool (b 1), .bool (b 2), .bool (b 3)] 27) = w1 := ⟨_, rfl⟩
  have b1 : Hid (Below w.heap.size w w1) := by rw [← hw1]; exact (Below.refl _ _).alloc (Nat.le_refl _) _
  have x1 : w1.heap[w.heap.size]? = some (.cells #[.bool (b 0), .bool (b 1), .bool (b 2), .bool (b 3)] 27) := by rw [← hw1]; show (w.heap.push _)[w.heap.size]? = _; simp
  have HC : Hid (∀ i, i < 4 → w1.cell? ⟨w.heap.size, i, none⟩ = some (.bool (b i))) := by
    refine four _ ?_ ?_ ?_ ?_
    all_goals simp [World.cell?, x1]
  clear x1
  obtain ⟨B, hB⟩ : ∃ B, w.heap.size = B := ⟨_, rfl⟩
  rw [hB] at HC
  have g1 := Int.tmod_lt_of_pos pick (show (0 : Int) < 4 by omega)
  have g2 : -4 < pick.tmod 4 := Int.lt_tmod_of_pos pick (show (0 : Int) < 4 by omega)
  have g3 := emod4 pick
  obtain ⟨s0, hs0⟩ : ∃ s0 : Nat, (pick % 4).toNat = s0 := ⟨_, rfl⟩
  have hs4 : s0 < 4 := by have := Int.emod_lt_of_pos pick (show (0 : Int) < 4 by omega); have := Int.emod_nonneg pick (show (4 : Int) ≠ 0 by omega); omega
  have hsz : (pick.tmod 4 + 4).tmod 4 = (s0 : Int) := by rw [g3]; have := Int.emod_nonneg pick (show (4 : Int) ≠ 0 by omega); omega
  rw [hs0]
  clear g3 hs0
  go_enter Try.func27, Try.ntmps27
  go_wp2
  go_loopg [12] 4 (fun gk s12 wx => ∃ (i : Nat), i + gk = 4 ∧ s12 = .int .i64 i ∧ (∀ j, j < i → b ((s0 + j) % 4) = false) ∧ fromL b gk ((s0 + i) % 4) = fromL b 4 s0 ∧ wx = w1)
  case atStart => exact ⟨0, by omega, rfl, by simp, by rw [Nat.add_zero, Nat.mod_eq_of_lt hs4], rfl⟩
  case round =>
    obtain ⟨i, hi, rfl, hno, hfl, rfl⟩ := hrel
    have HNO := Hid.mkS hno
    have HFL := Hid.mkS hfl
    clear hno hfl
    cases gk with
    | succ gk1 =>
      obtain ⟨s, hs⟩ : ∃ s, (s0 + i) % 4 = s := ⟨_, rfl⟩
      have hss : s < 4 := by omega
      have hn : ((s0 : Int) + (i : Int)).tmod 4 = (s : Int) := by rw [Int.tmod_eq_emod_of_nonneg (by omega)]; omega
      have hi4 : i < 4 := by omega
      have hsz4 : (s : Int) < 4 := by omega
      have hcs := HC.out s hss
      rw [hs] at HFL
      have HSS := Hid.mkS hs
      clear hs
      cases hbs : b s with
      | true =>
        have HR : Hid (fromZ b s0 = s) := by
          unfold Hid fromZ
          rw [if_pos (anyL_has b s hss hbs), ← HFL.out]
          unfold fromL
          rw [if_pos hbs]
        rw [hbs] at hcs
        go_wp2
        go_ret
        exact ⟨by rw [HR.out]; rfl, by first | exact b1.out | (rw [← hB]; exact b1.out)⟩
      | false =>
        rw [hbs] at hcs
        go_wp2
        go_roundg gk1
        case measure => omega
        case rel =>
          refine ⟨i + 1, by omega, by go_num, fun j hj => ?_, ?_, rfl⟩
          · by_cases e : j = i
            · rw [e, HSS.out]; exact hbs
            · exact HNO.out j (by omega)
          · rw [← HFL.out]
            have := HSS.out
            conv => rhs; unfold fromL
            rw [if_neg (by simp [hbs])]
            congr 1
            omega
    | zero =>
      have hii : i = 4 := by omega
      subst hii
      have HR : Hid (fromZ b s0 = -1) := by
        unfold Hid fromZ
        rw [if_neg (by rw [anyL_four b s0 HNO.out]; simp)]
      go_wp2
      go_ret
      exact ⟨by rw [HR.out]; rfl, by first | exact b1.out | (rw [← hB]; exact b1.out)⟩
end Go.Proofs.Ytelhjdplghpnbaa
