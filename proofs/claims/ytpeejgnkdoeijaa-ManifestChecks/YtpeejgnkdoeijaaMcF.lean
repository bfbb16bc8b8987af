import Derived.Test.YtpeejgnkdoeijaaMcB
import Derived.Laws.RangeString
import Derived.Laws.RangeAny
import Derived.Laws.Strings
/-! manifest: which names topics may have. -/
namespace Go.Proofs.Ytpeejgnkdoeijaa
open Go.RowKit Plain
set_option linter.unusedVariables false
set_option linter.unusedSimpArgs false

def sgB (r : Int) : Bool := inW r 97 122 || inW r 48 57 || r == 45
theorem isSignOf (r : Int) (w : World) : Calls Try.prog 35 #[.int .i32 r] w fun x w' => x = .returned (.bool (sgB r)) ∧ w' = w := by
  have HS : Hid (sgB r = (inW r 97 122 || inW r 48 57 || r == 45)) := rfl
  generalize sgB r = S at HS ⊢
  cases h1 : inW r 97 122 with
  | true =>
    have HS1 : Hid (S = true) := by rw [Hid, HS.out, h1]; rfl
    go_enter Try.func35, Try.ntmps35
    go_wp2_with fail
    refine (wruneOf r 97 122 _).mono ?_
    rintro x w1 ⟨rfl, rfl⟩
    rw [h1]
    go_wp2
    go_ret
    exact ⟨by rw [HS1.out]; rfl, rfl⟩
  | false =>
    cases h2 : inW r 48 57 with
    | true =>
      have HS1 : Hid (S = true) := by rw [Hid, HS.out, h1, h2]; rfl
      go_enter Try.func35, Try.ntmps35
      go_wp2_with fail
      refine (wruneOf r 97 122 _).mono ?_
      rintro x w1 ⟨rfl, rfl⟩
      rw [h1]
      go_wp2_with fail
      refine (wruneOf r 48 57 _).mono ?_
      rintro x w1 ⟨rfl, rfl⟩
      rw [h2]
      go_wp2
      go_ret
      exact ⟨by rw [HS1.out]; rfl, rfl⟩
    | false =>
      have HS1 : Hid (S = (r == 45)) := by rw [Hid, HS.out, h1, h2]; rfl
      go_enter Try.func35, Try.ntmps35
      go_wp2_with fail
      refine (wruneOf r 97 122 _).mono ?_
      rintro x w1 ⟨rfl, rfl⟩
      rw [h1]
      go_wp2_with fail
      refine (wruneOf r 48 57 _).mono ?_
      rintro x w1 ⟨rfl, rfl⟩
      rw [h2]
      go_wp2
      go_ret
      exact ⟨by rw [HS1.out]; rfl, rfl⟩
/-- The byte at a place. -/
def byteN (s : ByteArray) (i : Nat) : Int := ((s.data.toList.getD i 0).toNat : Int)
theorem byteN_at {s : ByteArray} {i : Nat} (h : i < s.size) : ((s[i]'h).toNat : Int) = byteN s i := by
  unfold byteN
  have : i < s.data.toList.length := by simpa using h
  rw [List.getD_eq_getElem?_getD, List.getElem?_eq_getElem this]
  rfl
def nameB (s : ByteArray) : Bool := inW s.size 1 24 && allB s.size (fun i => sgB (byteN s i))
def nameA (s : ByteArray) : Int := if nameB s = true then 0 else 74
theorem sgB_high {r : Int} (h : 128 ≤ r) : sgB r = false := by
  unfold sgB inW
  have h1 : ¬ r ≤ 122 := by omega
  have h2 : ¬ r ≤ 57 := by omega
  have h3 : ¬ r = 45 := by omega
  simp [h1, h2, h3]
set_option maxHeartbeats 4000000 in
theorem nameOkOf (s : ByteArray) (w : World) (hs : s.size ≤ maxLen) : Calls Try.prog 15 #[.string s] w fun e w' => e = .returned (.int .i64 (nameA s)) ∧ Below w.heap.size w w' := by
  have HA0 : Hid (nameA s = if nameB s = true then 0 else 74) := rfl
  have HN : Hid (nameB s = (inW s.size 1 24 && allB s.size (fun i => sgB (byteN s i)))) := rfl
  generalize nameA s = A at HA0 ⊢
  generalize nameB s = N at HA0 HN
  have HBAD : Hid (N = false → A = 74) := fun e => by rw [HA0.out, e]; rfl
  have HGOOD : Hid (N = true → A = 0) := fun e => by rw [HA0.out, e]; rfl
  clear HA0
  cases hlen : inW (s.size : Int) 1 24 with
  | false =>
    have HA : Hid (A = 74) := HBAD.out (by rw [HN.out, hlen]; rfl)
    go_enter Try.func15, Try.ntmps15
    go_wp2_with fail
    refine (wintOf (s.size : Int) 1 24 _).mono ?_
    rintro x w1 ⟨rfl, rfl⟩
    rw [hlen]
    go_wp2
    go_ret
    exact ⟨by rw [HA.out]; rfl, Below.refl _ _⟩
  | true =>
    go_enter Try.func15, Try.ntmps15
    go_wp2_with fail
    refine (wintOf (s.size : Int) 1 24 _).mono ?_
    rintro x w1 ⟨rfl, rfl⟩
    rw [hlen]
    go_wp2
    have HBI : Hid (∀ p, Below w1.heap.size w1 (w1.iter s p)) := fun p => (Below.refl _ _).alloc (Nat.le_refl _) _
    go_loopw [] (fun wr => ∃ pos : Nat, pos ≤ s.size ∧ wr = w1.iter s pos ∧ Hid (allB pos (fun i => sgB (byteN s i)) = true)) (fun wr => s.size - wr.iterPos w1.heap.size)
    case atStart => exact ⟨0, Nat.zero_le _, rfl, allB_zero _⟩
    case round =>
      obtain ⟨pos, hpos, rfl, HP⟩ := hrel
      by_cases hp : pos < s.size
      · have HB : Hid (sgB (byteN s pos) = false → A = 74) := fun e => HBAD.out (by rw [HN.out, hlen, allB_bad hp e]; rfl)
        have HS : Hid (sgB (byteN s pos) = true → allB (pos + 1) (fun i => sgB (byteN s i)) = true) := fun e => allB_step HP.out e
        have hby := byteN_at hp
        by_cases ha : (s[pos]'hp).toNat < 128
        · have hnx : ∀ ty, (Instr.next (.pointer (some ⟨w1.heap.size, 0, none⟩)) true ty).run Try.prog (w1.iter s pos) = _ := fun ty => run_next_ascii w1 s pos ty hp ha
          rw [hby] at hnx
          generalize byteN s pos = c at hnx HB HS
          clear hby ha
          cases hc : sgB c with
          | false =>
            have HA : Hid (A = 74) := HB.out hc
            clear HB HS
            go_wp2_with fail
            refine (isSignOf c _).mono ?_
            rintro e w2 ⟨rfl, rfl⟩
            rw [hc]
            go_wp2
            go_ret
            exact ⟨by rw [HA.out]; rfl, HBI.out _⟩
          | true =>
            have HS1 : Hid (allB (pos + 1) (fun i => sgB (byteN s i)) = true) := HS.out hc
            clear HB HS
            go_wp2_with fail
            refine (isSignOf c _).mono ?_
            rintro e w2 ⟨rfl, rfl⟩
            rw [hc]
            go_wp2
            go_roundw
            case rel => exact ⟨pos + 1, by omega, rfl, HS1.out⟩
            case measure => simp; omega
        · have hh := decode_high s pos hp (by omega)
          have hnx : ∀ ty, (Instr.next (.pointer (some ⟨w1.heap.size, 0, none⟩)) true ty).run Try.prog (w1.iter s pos) = _ := fun ty => run_next_any w1 s pos ty hp
          have HA : Hid (A = 74) := HB.out (by rw [← hby]; exact sgB_high (by omega))
          have hsg : sgB ((Utf8.decode s pos).1 : Int) = false := sgB_high (by have := hh.1; omega)
          generalize ((Utf8.decode s pos).1 : Int) = r at hnx hsg
          generalize (Utf8.decode s pos).2 = dd at hnx
          clear HB HS hh hby
          go_wp2_with fail
          refine (isSignOf r _).mono ?_
          rintro e w2 ⟨rfl, rfl⟩
          rw [hsg]
          go_wp2
          go_ret
          exact ⟨by rw [HA.out]; rfl, HBI.out _⟩
      · obtain rfl : pos = s.size := by omega
        have HA : Hid (A = 0) := HGOOD.out (by rw [HN.out, hlen, HP.out]; rfl)
        have hnx : ∀ ty, (Instr.next (.pointer (some ⟨w1.heap.size, 0, none⟩)) true ty).run Try.prog (w1.iter s s.size) = _ := fun ty => run_next_end w1 s s.size ty hp
        go_wp2
        go_ret
        exact ⟨by rw [HA.out]; rfl, HBI.out _⟩
set_option maxHeartbeats 4000000 in
theorem rnameOkOf (s : ByteArray) (w : World) (hs : s.size ≤ maxLen) : Calls Try.prog 16 #[.string s] w fun e w' => e = .returned (.int .i64 (nameA s)) ∧ w' = w := by
  have HA0 : Hid (nameA s = if nameB s = true then 0 else 74) := rfl
  have HN : Hid (nameB s = (inW s.size 1 24 && allB s.size (fun i => sgB (byteN s i)))) := rfl
  generalize nameA s = A at HA0 ⊢
  generalize nameB s = N at HA0 HN
  have HBAD : Hid (N = false → A = 74) := fun e => by rw [HA0.out, e]; rfl
  have HGOOD : Hid (N = true → A = 0) := fun e => by rw [HA0.out, e]; rfl
  clear HA0
  by_cases g1 : s.size < 1
  · have HA : Hid (A = 74) := HBAD.out (by
      have : inW (s.size : Int) 1 24 = false := by unfold inW; simp; omega
      rw [HN.out, this]; rfl)
    have g1' : (s.size : Int) < 1 := by omega
    go_enter Try.func16, Try.ntmps16
    go_wp2
    go_ret
    exact ⟨by rw [HA.out]; rfl, rfl⟩
  · by_cases g2 : 24 < s.size
    · have HA : Hid (A = 74) := HBAD.out (by
        have : inW (s.size : Int) 1 24 = false := by unfold inW; simp; omega
        rw [HN.out, this]; rfl)
      have g1' : ¬ (s.size : Int) < 1 := by omega
      have g2' : (24 : Int) < (s.size : Int) := by omega
      go_enter Try.func16, Try.ntmps16
      go_wp2
      go_ret
      exact ⟨by rw [HA.out]; rfl, rfl⟩
    · have hlen : inW (s.size : Int) 1 24 = true := by unfold inW; simp; omega
      have g1' : ¬ (s.size : Int) < 1 := by omega
      have g2' : ¬ (24 : Int) < (s.size : Int) := by omega
      go_enter Try.func16, Try.ntmps16
      go_wp2
      go_loopw [3] (fun i wr => ∃ k : Nat, k ≤ s.size ∧ i = .int .i64 k ∧ Hid (allB k (fun i => sgB (byteN s i)) = true) ∧ wr = w) (fun i _ => s.size - (intOf i).toNat)
      case atStart => exact ⟨0, Nat.zero_le _, rfl, allB_zero _, by first | rfl | trivial⟩
      case round =>
        obtain ⟨k, hk, rfl, HP, rfl⟩ := hrel
        by_cases hp : k < s.size
        · have HB : Hid (sgB (byteN s k) = false → A = 74) := fun e => HBAD.out (by rw [HN.out, hlen, allB_bad hp e]; rfl)
          have HS : Hid (sgB (byteN s k) = true → allB (k + 1) (fun i => sgB (byteN s i)) = true) := fun e => allB_step HP.out e
          have hki : (k : Int) < (s.size : Int) := by omega
          have hby := byteN_at hp
          obtain ⟨c, hcd⟩ : ∃ c : Int, ((s[k]'hp).toNat : Int) = c := ⟨_, rfl⟩
          rw [hcd] at hby
          by_cases k1 : 97 ≤ c ∧ c ≤ 122
          · obtain ⟨k1, k2⟩ := k1
            have HS1 : Hid (allB (k + 1) (fun i => sgB (byteN s i)) = true) := HS.out (by rw [← hby]; unfold sgB inW; simp; omega)
            clear HB HS hby
            go_wp2
            go_roundw
            case rel => exact ⟨k + 1, by omega, by go_num, HS1.out, by first | rfl | trivial⟩
            case measure => simp [intOf]; omega
          by_cases k3 : 48 ≤ c ∧ c ≤ 57
          · obtain ⟨k3, k4⟩ := k3
            have k5 : c < 97 := by omega
            have HS1 : Hid (allB (k + 1) (fun i => sgB (byteN s i)) = true) := HS.out (by rw [← hby]; unfold sgB inW; simp; omega)
            clear HB HS hby
            go_wp2
            go_roundw
            case rel => exact ⟨k + 1, by omega, by go_num, HS1.out, by first | rfl | trivial⟩
            case measure => simp [intOf]; omega
          by_cases k6 : c = 45
          · subst k6
            have HS1 : Hid (allB (k + 1) (fun i => sgB (byteN s i)) = true) := HS.out (by rw [← hby]; rfl)
            clear HB HS hby
            go_wp2
            go_roundw
            case rel => exact ⟨k + 1, by omega, by go_num, HS1.out, by first | rfl | trivial⟩
            case measure => simp [intOf]; omega
          have k7 : (c != 45) = true := by simpa using k6
          by_cases q1 : c < 48
          · have q2 : c < 97 := by omega
            have HA : Hid (A = 74) := HB.out (by rw [← hby]; unfold sgB inW; simp; omega)
            clear HB HS hby
            go_wp2
            go_ret
            exact ⟨by rw [HA.out]; rfl, rfl⟩
          by_cases q3 : c < 97
          · have q4 : 57 < c := by omega
            have HA : Hid (A = 74) := HB.out (by rw [← hby]; unfold sgB inW; simp; omega)
            clear HB HS hby
            go_wp2
            go_ret
            exact ⟨by rw [HA.out]; rfl, rfl⟩
          · have q5 : 122 < c := by omega
            have q4 : 57 < c := by omega
            have HA : Hid (A = 74) := HB.out (by rw [← hby]; unfold sgB inW; simp; omega)
            clear HB HS hby
            go_wp2
            go_ret
            exact ⟨by rw [HA.out]; rfl, rfl⟩
        · obtain rfl : k = s.size := by omega
          have HA : Hid (A = 0) := HGOOD.out (by rw [HN.out, hlen, HP.out]; rfl)
          go_wp2
          go_ret
          exact ⟨by rw [HA.out]; rfl, rfl⟩
end Go.Proofs.Ytpeejgnkdoeijaa
