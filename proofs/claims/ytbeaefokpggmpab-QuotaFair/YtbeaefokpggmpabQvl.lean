import Derived.Test.YtbeaefokpggmpabQux
import Derived.Test.YtbeaefokpggmpabQvk
/-! quota: the program's mayShare, sum. -/
namespace Go.Proofs.Ytbeaefokpggmpab
open Go.RowKit Plain
set_option linter.unusedVariables false

/-- All of them from 0 to a greatest. -/
def allIn (l : List Int) (m : Int) : Bool := l.all fun a => inR a 0 m
theorem allIn_take {l : List Int} {m : Int} {k : Nat} (hk : k < l.length) : allIn (l.take (k + 1)) m = (allIn (l.take k) m && inR (l.getD k 0) 0 m) := by
  unfold allIn
  rw [take_snocI l k hk, List.all_append]
  simp
theorem allIn_bad {l : List Int} {m : Int} {k : Nat} (hk : k < l.length) (h : inR (l.getD k 0) 0 m = false) : allIn l m = false := by
  unfold allIn
  rw [List.all_eq_false]
  exact ⟨_, getD_mem hk, by rw [h]; simp⟩
theorem allIn_iff {l : List Int} {m : Int} : allIn l m = true ↔ ∀ a ∈ l, 0 ≤ a ∧ a ≤ m := by
  unfold allIn
  rw [List.all_eq_true]
  exact ⟨fun h a ha => inR_is (h a ha), fun h a ha => inR_true (h a ha)⟩
set_option maxHeartbeats 2000000 in
theorem mayShare1Of (x : Int) (gb : Nat) (m : Int) (w : World) (hc : w.cell? ⟨gb, 0, none⟩ = some (.int .i64 m)) : Calls Try.prog 26 #[.int .i64 x, .pointer (some ⟨gb, 0, none⟩)] w fun e w' => e = .returned (.bool (!inR x 0 m)) ∧ w' = w := by
  go_enter Try.func26, Try.ntmps26
  go_wp2_with fail
  refine (isWithinOf x 0 m _).mono ?_
  rintro e w1 ⟨rfl, rfl⟩
  go_wp2
  go_ret
  exact ⟨rfl, rfl⟩
theorem enter_may : ∀ (args : Array Value) (w : World), (callFunc 26 args).run Try.prog w = .ok (.enter 26 args) w := enters_of Try.func26 (by kernel_rfl) rfl
set_option maxHeartbeats 4000000 in
theorem sIndexFOf (v : Value) (l : List Int) (gb : Nat) (m : Int) (w : World) (h : NumsAt w v l) (hz : w.cell? ⟨gb, 0, none⟩ = some (.int .i64 m)) :
    Calls Try.prog 35 #[v, .func (.func 26) #[] #[.pointer (some ⟨gb, 0, none⟩)]] w fun e w' => ∃ q : Int, e = .returned (.int .i64 q) ∧ decide (0 ≤ q) = (!allIn l m) ∧ Below w.heap.size w w' := by
  obtain ⟨a, cap, rfl, hm⟩ := h.shp
  have HN : Hid (NumsAt w (.slice a l.length cap) l) := h
  have HZ : Hid (∀ u, Below w.heap.size w u → u.cell? ⟨gb, 0, none⟩ = some (.int .i64 m)) := fun u hu => (hu.cell (p := ⟨gb, 0, none⟩) (cell_lt hz)).trans hz
  unfold maxLen at hm
  clear h hz
  have eg := enter_may
  go_enter Try.func35, Try.ntmps35
  go_wp2
  go_loopw [8] (fun s wr => ∃ k : Nat, k ≤ l.length ∧ s = .int .i64 k ∧ Hid (allIn (l.take k) m = true) ∧ Hid (Below w.heap.size w wr)) (fun i _ => l.length - (intOf i).toNat)
  case atStart => exact ⟨0, by omega, rfl, by simp [Hid, allIn], Below.refl _ _⟩
  case round =>
    obtain ⟨k, hk, rfl, HA, HB⟩ := hrel
    by_cases hA : k < l.length
    · obtain ⟨b, off, cap', e, hc⟩ := HN.out.get hA
      simp only [Value.slice.injEq] at e
      obtain ⟨rfl, -, rfl⟩ := e
      have c0 := hc wr HB.out
      have hki : (k : Int) < (l.length : Int) := by omega
      have HC : Hid (Calls Try.prog 26 #[.int .i64 (l.getD k 0), .pointer (some ⟨gb, 0, none⟩)] wr fun e w' => e = .returned (.bool (!inR (l.getD k 0) 0 m)) ∧ w' = wr) := mayShare1Of _ gb m wr (HZ.out wr HB.out)
      cases hx : inR (l.getD k 0) 0 m with
      | false =>
        have HBAD : Hid (allIn l m = false) := allIn_bad hA hx
        rw [hx] at HC
        clear hx
        generalize l.getD k 0 = x at *
        go_wp2_with fail
        refine HC.out.mono ?_
        rintro e w1 ⟨rfl, rfl⟩
        go_wp2
        go_ret
        exact ⟨k, rfl, by rw [HBAD.out]; simp, HB.out⟩
      | true =>
        have HOK : Hid (allIn (l.take (k + 1)) m = true) := by unfold Hid; rw [allIn_take hA, HA.out, hx]; rfl
        rw [hx] at HC
        clear hx
        generalize l.getD k 0 = x at *
        go_wp2_with fail
        refine HC.out.mono ?_
        rintro e w1 ⟨rfl, rfl⟩
        go_wp2
        go_roundw
        case rel => exact ⟨k + 1, by omega, by go_num, HOK, HB⟩
        case measure => simp [intOf]; omega
    · have hki : ¬ (k : Int) < (l.length : Int) := by omega
      have hke : k = l.length := by omega
      subst hke
      rw [List.take_length] at HA
      go_wp2
      go_ret
      exact ⟨-1, rfl, by rw [HA.out]; rfl, HB.out⟩
theorem sContainsOf (v : Value) (l : List Int) (gb : Nat) (m : Int) (w : World) (h : NumsAt w v l) (hz : w.cell? ⟨gb, 0, none⟩ = some (.int .i64 m)) :
    Calls Try.prog 25 #[v, .func (.func 26) #[] #[.pointer (some ⟨gb, 0, none⟩)]] w fun e w' => e = .returned (.bool (!allIn l m)) ∧ Below w.heap.size w w' := by
  have HI : Hid (Calls Try.prog 35 #[v, .func (.func 26) #[] #[.pointer (some ⟨gb, 0, none⟩)]] w fun e w' => ∃ q : Int, e = .returned (.int .i64 q) ∧ decide (0 ≤ q) = (!allIn l m) ∧ Below w.heap.size w w') := sIndexFOf v l gb m w h hz
  obtain ⟨a, cap, rfl, hm⟩ := h.shp
  clear h hz
  go_enter Try.func25, Try.ntmps25
  go_wp2_with fail
  refine HI.out.mono ?_
  rintro e w1 ⟨q, rfl, hq, hb⟩
  have HQ : Hid (decide (0 ≤ q) = (!allIn l m)) := hq
  have HB : Hid (Below w.heap.size w w1) := hb
  clear hq hb
  go_wp2
  go_ret
  exact ⟨by rw [← HQ.out]; rfl, HB.out⟩
def mayB (total : Int) (l : List Int) (m : Int) : Bool := decide (l.length ≤ 64) && (inR total 0 1099511627776 && allIn l m)
set_option maxHeartbeats 4000000 in
theorem mayShareOf (total : Int) (v : Value) (l : List Int) (m : Int) (w : World) (h : NumsAt w v l) : Calls Try.prog 16 #[.int .i64 total, v, .int .i64 m] w fun e w' => e = .returned (.bool (mayB total l m)) ∧ Below w.heap.size w w' := by
  obtain ⟨w0, hw0⟩ : ∃ w0, w.alloc (.cells #[.int .i64 m] 2) = w0 := ⟨_, rfl⟩
  have HB0 : Hid (Below w.heap.size w w0) := by rw [← hw0]; exact (Below.refl _ _).alloc (Nat.le_refl _) _
  have cb : w0.cell? ⟨w.heap.size, 0, none⟩ = some (.int .i64 m) := by rw [← hw0]; exact World.cell?_alloc_at _ _ _ _ rfl
  have HN : Hid (NumsAt w0 v l) := h.later HB0.out
  have HC : Hid (Calls Try.prog 25 #[v, .func (.func 26) #[] #[.pointer (some ⟨w.heap.size, 0, none⟩)]] w0 fun e w' => e = .returned (.bool (!allIn l m)) ∧ Below w0.heap.size w0 w') := sContainsOf v l _ m w0 HN.out cb
  obtain ⟨a, cap, rfl, hm⟩ := h.shp
  unfold maxLen at hm
  clear h
  by_cases hl : l.length ≤ 64
  · have hli : ¬ (64 : Int) < (l.length : Int) := by omega
    cases ht : inR total 0 1099511627776 with
    | false =>
      have HE : Hid (mayB total l m = false) := by unfold Hid mayB; rw [ht]; simp
      go_enter Try.func16, Try.ntmps16
      go_wp2_with fail
      refine (isWithinOf total 0 1099511627776 _).mono ?_
      rintro e w1 ⟨rfl, rfl⟩
      rw [ht]
      go_wp2
      go_ret
      exact ⟨by rw [HE.out]; rfl, HB0.out⟩
    | true =>
      have HE : Hid (mayB total l m = allIn l m) := by unfold Hid mayB; rw [ht]; simp [hl]
      go_enter Try.func16, Try.ntmps16
      go_wp2_with fail
      refine (isWithinOf total 0 1099511627776 _).mono ?_
      rintro e w1 ⟨rfl, rfl⟩
      rw [ht]
      go_wp2_with fail
      refine HC.out.mono ?_
      rintro e w2 ⟨rfl, hb2⟩
      have HB2 : Hid (Below w.heap.size w w2) := HB0.out.trans (hb2.mono HB0.out.size)
      clear hb2
      generalize allIn l m = A at *
      go_wp2
      go_ret
      exact ⟨by rw [HE.out]; simp, HB2.out⟩
  · have hli : (64 : Int) < (l.length : Int) := by omega
    have HE : Hid (mayB total l m = false) := by unfold Hid mayB; simp [hl]
    go_enter Try.func16, Try.ntmps16
    go_wp2
    go_ret
    exact ⟨by rw [HE.out]; rfl, HB0.out⟩
set_option maxHeartbeats 4000000 in
theorem qsumOf (v : Value) (l : List Int) (w : World) (h : NumsAt w v l) (hl : l.length ≤ 64) (hb : ∀ a ∈ l, 0 ≤ a ∧ a ≤ 1152921504606846) : Calls Try.prog 22 #[v] w fun e w' => e = .returned (.int .i64 l.sum) ∧ Below w.heap.size w w' := by
  obtain ⟨a, cap, rfl, hm⟩ := h.shp
  have HN : Hid (NumsAt w (.slice a l.length cap) l) := h
  have HS : Hid (∀ k, k ≤ l.length → 0 ≤ (l.take k).sum ∧ (l.take k).sum ≤ 1152921504606846 * (k : Int)) := by
    intro k
    induction k with
    | zero => intro _; simp
    | succ k ih =>
      intro hk
      have h1 := ih (by omega)
      have h2 := hb _ (getD_mem (show k < l.length by omega))
      rw [sum_snoc l k (by omega)]
      omega
  clear h hb
  go_enter Try.func22, Try.ntmps22
  go_wp2
  go_loopw [3, 8] (fun s t wr => ∃ k : Nat, k ≤ l.length ∧ t = .int .i64 k ∧ s = .int .i64 (l.take k).sum ∧ Hid (Below w.heap.size w wr)) (fun _ i _ => l.length - (intOf i).toNat)
  case atStart => exact ⟨0, by omega, rfl, rfl, Below.refl _ _⟩
  case round =>
    obtain ⟨k, hk, rfl, rfl, HB⟩ := hrel
    by_cases hA : k < l.length
    · obtain ⟨b, off, cap', e, hc⟩ := HN.out.get hA
      simp only [Value.slice.injEq] at e
      obtain ⟨rfl, -, rfl⟩ := e
      have c0 := hc wr HB.out
      have hki : (k : Int) < (l.length : Int) := by omega
      have h1 := HS.out k hk
      have h2 := HS.out (k + 1) hA
      have HE : Hid ((l.take (k + 1)).sum = (l.take k).sum + l.getD k 0) := sum_snoc l k hA
      rw [HE.out] at h2
      generalize (l.take k).sum = s at *
      generalize l.getD k 0 = x at *
      clear hc
      have hb : -9223372036854775808 ≤ s + x ∧ s + x ≤ 9223372036854775807 := by omega
      clear h1 h2
      go_wp2
      go_roundw
      case rel => exact ⟨k + 1, by omega, by go_num, by rw [HE.out], HB⟩
      case measure => simp [intOf]; omega
    · have hki : ¬ (k : Int) < (l.length : Int) := by omega
      have hke : k = l.length := by omega
      subst hke
      rw [List.take_length]
      go_wp2
      go_ret
      exact ⟨rfl, HB.out⟩
end Go.Proofs.Ytbeaefokpggmpab
