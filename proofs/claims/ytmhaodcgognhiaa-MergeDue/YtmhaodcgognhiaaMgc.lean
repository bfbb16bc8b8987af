import Derived.Test.YtmhaodcgognhiaaMgb
import Derived.Deep.Quiet
/-! merge: is one due? -/
namespace Go.Proofs.Ytmhaodcgognhiaa
open Go.RowKit Plain
set_option linter.unusedVariables false

def sumB (st : List Ss) : Nat → Int
  | 0 => 0
  | k + 1 => plusN (sumB st k) (st.getD k Ss.zero).byt
def sumV (st : List Ss) : Nat → Int
  | 0 => 0
  | k + 1 => plusN (sumV st k) (st.getD k Ss.zero).lby
def share100 (s : Int) : Int := if s < 0 then 0 else if s > 100 then 100 else s
def dueB (st : List Ss) (s : Int) : Bool :=
  decide (sumB st st.length > 0) && (decide (sumV st st.length ≤ sumB st st.length) && decide (timesN (sumB st st.length - sumV st st.length) 100 ≥ timesN (sumB st st.length) (share100 s)))

theorem ssOk {st : List Ss} (h : ∀ x ∈ st, x.Ok) {k : Nat} (hk : k < st.length) : (st.getD k Ss.zero).Ok := h _ (by simp [hk])
theorem sumB_b {st : List Ss} (h : ∀ x ∈ st, x.Ok) : ∀ k, k ≤ st.length → 0 ≤ sumB st k ∧ sumB st k ≤ 9223372036854775807
  | 0, _ => by simp [sumB]
  | k + 1, hk => plusN_b (sumB_b h k (by omega)) (ssOk h (by omega)).byt
theorem sumV_b {st : List Ss} (h : ∀ x ∈ st, x.Ok) : ∀ k, k ≤ st.length → 0 ≤ sumV st k ∧ sumV st k ≤ 9223372036854775807
  | 0, _ => by simp [sumV]
  | k + 1, hk => plusN_b (sumV_b h k (by omega)) (ssOk h (by omega)).lby

set_option maxHeartbeats 1000000 in
theorem dueOf (v : Value) (st : List Ss) (s : Int) (hs : I64 s) (w : World) (h : SssAt w v st) :
    Calls Try.prog 8 #[v, .int .i64 s] w fun e w' => e = .returned (.bool (dueB st s)) ∧ Below w.heap.size w w' := by
  obtain ⟨a, cap, rfl, hcl, hok, hcells⟩ := h
  have HC : Hid (st ≠ [] → ∃ b off, a = some ⟨b, off, none⟩ ∧ ∀ j, j < st.length → Ss.CellsAt w b (off + j * 5) (st.getD j Ss.zero)) := hcells
  have HOK : Hid (∀ x ∈ st, x.Ok) := hok
  unfold I64 at hs
  obtain ⟨m, hm⟩ : ∃ m : Int, (if (0 : Int) > s then 0 else s) = m := ⟨_, rfl⟩
  obtain ⟨q, hq⟩ : ∃ q : Int, (if (100 : Int) < m then 100 else m) = q := ⟨_, rfl⟩
  have hq2 : 0 ≤ q ∧ q ≤ 100 := by rw [← hq, ← hm]; repeat' split <;> omega
  have HSH : Hid (share100 s = q) := by unfold Hid share100; rw [← hq, ← hm]; repeat' split <;> omega
  have HM : Hid ((if (0 : Int) > s then 0 else s) = m) := hm
  have HQ : Hid ((if (100 : Int) < m then 100 else m) = q) := hq
  clear hcells hok hm hq
  go_enter Try.func8, Try.ntmps8
  go_wp2
  go_loopw [5, 6, 11] (fun s1 s2 s3 wr => ∃ k : Nat, k ≤ st.length ∧ s3 = .int .i64 k ∧ s1 = .int .i64 (sumB st k) ∧ s2 = .int .i64 (sumV st k) ∧ Below w.heap.size w wr) (fun _ _ i _ => st.length - (intOf i).toNat)
  case atStart => exact ⟨0, by omega, rfl, rfl, rfl, Below.refl _ _⟩
  case round =>
    obtain ⟨k, hk, rfl, rfl, rfl, hbl⟩ := hrel
    have HB : Hid (Below w.heap.size w wr) := hbl
    have hb1 := sumB_b HOK.out k hk
    have hb2 := sumV_b HOK.out k hk
    clear hbl
    by_cases hlt : k < st.length
    · have hne : st ≠ [] := by rintro rfl; simp at hlt
      obtain ⟨b, off, rfl, hc⟩ := HC.out hne
      have hck := hc k hlt
      have hck' := hck.block (HB.out.block b hck.lt)
      have HX : Hid (st.getD k Ss.zero).Ok := ssOk HOK.out hlt
      have HS1 : Hid (sumB st (k + 1) = plusN (sumB st k) (st.getD k Ss.zero).byt) := rfl
      have HS2 : Hid (sumV st (k + 1) = plusN (sumV st k) (st.getD k Ss.zero).lby) := rfl
      generalize st.getD k Ss.zero = x at hck' HX HS1 HS2
      generalize sumB st k = A at hb1 HS1
      generalize sumV st k = B at hb2 HS2
      obtain ⟨x0, x1, x2, x3, x4⟩ := x
      obtain ⟨c0, c1, c2, c3, c4⟩ := hck'
      simp only at c0 c1 c2 c3 c4 HS1 HS2
      clear hck hc hne
      go_wp2_with fail
      refine (msumOf A x3 hb1 HX.out.byt _).mono ?_
      rintro e w1 ⟨rfl, rfl⟩
      go_wp2_with fail
      refine (msumOf B x4 hb2 HX.out.lby _).mono ?_
      rintro e w1 ⟨rfl, rfl⟩
      have HB1 : Hid (Below w.heap.size w (wr.alloc (.cells #[.int .i64 x0, .int .i64 x1, .int .i64 x2, .int .i64 x3, .int .i64 x4] 36))) := HB.out.alloc HB.out.size _
      clear c0 c1 c2 c3 c4
      go_wp2
      go_roundw
      case rel => exact ⟨k + 1, by omega, by go_num, by rw [HS1.out], by rw [HS2.out], HB1.out⟩
      case measure => simp [intOf]; omega
    · obtain rfl : k = st.length := by omega
      have HE : Hid (dueB st s = (decide (sumB st st.length > 0) && (decide (sumV st st.length ≤ sumB st st.length) && decide (timesN (sumB st st.length - sumV st st.length) 100 ≥ timesN (sumB st st.length) q)))) := by unfold Hid dueB; rw [HSH.out]
      generalize sumB st st.length = A at hb1 HE
      generalize sumV st st.length = B at hb2 HE
      clear HC
      by_cases h1 : A > 0
      · by_cases h2 : B ≤ A
        · have hw : wrap64 (A - B) = A - B := by unfold wrap64; omega
          go_wp2_with (first | refine wpList_mxN (by with_reducible rfl) _ _ 3 3 _ _ _ (by with_reducible rfl) (by rfl) (by rfl) HM.out ?_ | refine wpList_mnN (by with_reducible rfl) _ _ 3 3 _ _ _ (by with_reducible rfl) (by rfl) (by rfl) HQ.out ?_ | fail)
          refine (timesOf (A - B) 100 (by omega) (by omega) _).mono ?_
          rintro e w1 ⟨rfl, rfl⟩
          go_wp2_with fail
          refine (timesOf A q (by omega) (by omega) _).mono ?_
          rintro e w1 ⟨rfl, rfl⟩
          generalize timesN (A - B) 100 = X at HE
          generalize timesN A q = Y at HE
          go_wp2
          go_ret
          exact ⟨by rw [HE.out]; simp [h1, h2], HB.out⟩
        · go_wp2_with (first | refine wpList_mxN (by with_reducible rfl) _ _ 3 3 _ _ _ (by with_reducible rfl) (by rfl) (by rfl) HM.out ?_ | refine wpList_mnN (by with_reducible rfl) _ _ 3 3 _ _ _ (by with_reducible rfl) (by rfl) (by rfl) HQ.out ?_ | fail)
          go_ret
          exact ⟨by rw [HE.out]; simp [h1]; intro h; omega, HB.out⟩
      · go_wp2_with (first | refine wpList_mxN (by with_reducible rfl) _ _ 3 3 _ _ _ (by with_reducible rfl) (by rfl) (by rfl) HM.out ?_ | refine wpList_mnN (by with_reducible rfl) _ _ 3 3 _ _ _ (by with_reducible rfl) (by rfl) (by rfl) HQ.out ?_ | fail)
        go_ret
        exact ⟨by rw [HE.out]; simp; intro h; omega, HB.out⟩

set_option maxHeartbeats 1000000 in
theorem rdueOf (v : Value) (st : List Ss) (s : Int) (hs : I64 s) (w : World) (h : SssAt w v st) :
    Calls Try.prog 9 #[v, .int .i64 s] w fun e w' => e = .returned (.bool (dueB st s)) ∧ Below w.heap.size w w' := by
  obtain ⟨a, cap, rfl, hcl, hok, hcells⟩ := h
  have HC : Hid (st ≠ [] → ∃ b off, a = some ⟨b, off, none⟩ ∧ ∀ j, j < st.length → Ss.CellsAt w b (off + j * 5) (st.getD j Ss.zero)) := hcells
  have HOK : Hid (∀ x ∈ st, x.Ok) := hok
  unfold I64 at hs
  clear hcells hok
  go_enter Try.func9, Try.ntmps9
  go_wp2
  go_loopw [5, 6, 7] (fun s1 s2 s3 wr => ∃ k : Nat, k ≤ st.length ∧ s3 = .int .i64 k ∧ s1 = .int .i64 (sumB st k) ∧ s2 = .int .i64 (sumV st k) ∧ Below w.heap.size w wr) (fun _ _ i _ => st.length - (intOf i).toNat)
  case atStart => exact ⟨0, by omega, rfl, rfl, rfl, Below.refl _ _⟩
  case round =>
    obtain ⟨k, hk, rfl, rfl, rfl, hbl⟩ := hrel
    have HB : Hid (Below w.heap.size w wr) := hbl
    have hb1 := sumB_b HOK.out k hk
    have hb2 := sumV_b HOK.out k hk
    clear hbl
    by_cases hlt : k < st.length
    · have hne : st ≠ [] := by rintro rfl; simp at hlt
      obtain ⟨b, off, rfl, hc⟩ := HC.out hne
      have hck := hc k hlt
      have hck' := hck.block (HB.out.block b hck.lt)
      have HX : Hid (st.getD k Ss.zero).Ok := ssOk HOK.out hlt
      have HS1 : Hid (sumB st (k + 1) = plusN (sumB st k) (st.getD k Ss.zero).byt) := rfl
      have HS2 : Hid (sumV st (k + 1) = plusN (sumV st k) (st.getD k Ss.zero).lby) := rfl
      generalize st.getD k Ss.zero = x at hck' HX HS1 HS2
      generalize sumB st k = A at hb1 HS1
      generalize sumV st k = B at hb2 HS2
      obtain ⟨x0, x1, x2, x3, x4⟩ := x
      obtain ⟨c0, c1, c2, c3, c4⟩ := hck'
      simp only at c0 c1 c2 c3 c4 HS1 HS2
      clear hck hc hne
      go_wp2_with fail
      refine (plusOf A x3 hb1 HX.out.byt _).mono ?_
      rintro e w1 ⟨rfl, rfl⟩
      go_wp2_with fail
      refine (plusOf B x4 hb2 HX.out.lby _).mono ?_
      rintro e w1 ⟨rfl, rfl⟩
      clear c0 c1 c2 c3 c4
      go_wp2
      go_roundw
      case rel => exact ⟨k + 1, by omega, by go_num, by rw [HS1.out], by rw [HS2.out], HB.out⟩
      case measure => simp [intOf]; omega
    · obtain rfl : k = st.length := by omega
      have HE : Hid (∀ q, share100 s = q → dueB st s = (decide (sumB st st.length > 0) && (decide (sumV st st.length ≤ sumB st st.length) && decide (timesN (sumB st st.length - sumV st st.length) 100 ≥ timesN (sumB st st.length) q)))) := by intro q h; unfold dueB; rw [h]
      generalize sumB st st.length = A at hb1 HE
      generalize sumV st st.length = B at hb2 HE
      clear HC
      by_cases h1 : A = 0
      · subst h1
        have HD : Hid (dueB st s = false) := by unfold Hid; rw [HE.out _ rfl]; simp
        by_cases hs1 : s < 0
        · go_wp2
          go_ret
          exact ⟨by rw [HD.out]; rfl, HB.out⟩
        · by_cases hs2 : s > 100
          · go_wp2
            go_ret
            exact ⟨by rw [HD.out]; rfl, HB.out⟩
          · go_wp2
            go_ret
            exact ⟨by rw [HD.out]; rfl, HB.out⟩
      · have h1' : (A == 0) = false := by simp [h1]
        by_cases h2 : B ≤ A
        · have hw : wrap64 (A - B) = A - B := by unfold wrap64; omega
          by_cases hs1 : s < 0
          · have HD : Hid (dueB st s = decide (timesN (A - B) 100 ≥ timesN 0 A)) := by unfold Hid; rw [HE.out 0 (by unfold share100; rw [if_pos hs1]), timesN_comm 0 A]; simp [h2]; intro _; omega
            go_wp2_with fail
            refine (rtimesOf (A - B) 100 (by omega) (by omega) _).mono ?_
            rintro e w1 ⟨rfl, rfl⟩
            go_wp2_with fail
            refine (rtimesOf 0 A (by omega) (by omega) _).mono ?_
            rintro e w1 ⟨rfl, rfl⟩
            generalize timesN (A - B) 100 = X at HD
            generalize timesN 0 A = Y at HD
            go_wp2
            go_ret
            exact ⟨by rw [HD.out]; first | rfl | simp, HB.out⟩
          · by_cases hs2 : s > 100
            · have HD : Hid (dueB st s = decide (timesN (A - B) 100 ≥ timesN 100 A)) := by unfold Hid; rw [HE.out 100 (by unfold share100; rw [if_neg hs1, if_pos hs2]), timesN_comm 100 A]; simp [h2]; intro _; omega
              go_wp2_with fail
              refine (rtimesOf (A - B) 100 (by omega) (by omega) _).mono ?_
              rintro e w1 ⟨rfl, rfl⟩
              go_wp2_with fail
              refine (rtimesOf 100 A (by omega) (by omega) _).mono ?_
              rintro e w1 ⟨rfl, rfl⟩
              generalize timesN (A - B) 100 = X at HD
              generalize timesN 100 A = Y at HD
              go_wp2
              go_ret
              exact ⟨by rw [HD.out]; first | rfl | simp, HB.out⟩
            · have HD : Hid (dueB st s = decide (timesN (A - B) 100 ≥ timesN s A)) := by unfold Hid; rw [HE.out s (by unfold share100; rw [if_neg hs1, if_neg hs2]), timesN_comm s A]; simp [h2]; intro _; omega
              go_wp2_with fail
              refine (rtimesOf (A - B) 100 (by omega) (by omega) _).mono ?_
              rintro e w1 ⟨rfl, rfl⟩
              go_wp2_with fail
              refine (rtimesOf s A (by omega) (by omega) _).mono ?_
              rintro e w1 ⟨rfl, rfl⟩
              generalize timesN (A - B) 100 = X at HD
              generalize timesN s A = Y at HD
              go_wp2
              go_ret
              exact ⟨by rw [HD.out]; first | rfl | simp, HB.out⟩
        · have HD : Hid (dueB st s = false) := by unfold Hid; rw [HE.out _ rfl]; simp; intro _ h; omega
          by_cases hs1 : s < 0
          · go_wp2
            go_ret
            exact ⟨by rw [HD.out]; simp, HB.out⟩
          · by_cases hs2 : s > 100
            · go_wp2
              go_ret
              exact ⟨by rw [HD.out]; simp, HB.out⟩
            · go_wp2
              go_ret
              exact ⟨by rw [HD.out]; simp, HB.out⟩
end Go.Proofs.Ytmhaodcgognhiaa
