import Derived.Test.YtjefbcphefckiacUd
import Derived.OwnWalk
/-! Items are unpacked. -/
namespace Go.Proofs.Ytjefbcphefckiac
open Go.RowKit Plain
set_option linter.unusedVariables false

/-- v is a slice of numbers that reads as ks. -/
def IntsAt (w : World) (v : Value) (ks : List Int) : Prop :=
  ∃ a cap, v = .slice a ks.length cap ∧ ks.length ≤ maxLen ∧ (∀ x ∈ ks, -9223372036854775808 ≤ x ∧ x ≤ 9223372036854775807) ∧
    (ks ≠ [] → ∃ b off, a = some ⟨b, off, none⟩ ∧ ∀ j, j < ks.length → w.cell? ⟨b, off + j, none⟩ = some (.int .i64 (ks.getD j 0)))
theorem IntsAt.later {w w' : World} {v : Value} {ks : List Int} (h : IntsAt w v ks) (hb : Below w.heap.size w w') : IntsAt w' v ks := by
  obtain ⟨a, cap, e, h1, h2, h3⟩ := h
  refine ⟨a, cap, e, h1, h2, fun hne => ?_⟩
  obtain ⟨b, off, e2, hc⟩ := h3 hne
  exact ⟨b, off, e2, fun j hj => by rw [hb.cell (p := ⟨b, _, none⟩) (cell_lt (hc j hj))]; exact hc j hj⟩

def readAll (most : Int) : Rs → List Int → List It × Rs
  | s, [] => ([], s)
  | s, k :: ks => ((readIt s k most).1 :: (readAll most (readIt s k most).2 ks).1, (readAll most (readIt s k most).2 ks).2)
theorem readAll_snoc (most : Int) : ∀ (s : Rs) (ks : List Int) (k : Int), readAll most s (ks ++ [k]) = ((readAll most s ks).1 ++ [(readIt (readAll most s ks).2 k most).1], (readIt (readAll most s ks).2 k most).2)
  | s, [], k => rfl
  | s, j :: ks, k => by
    have := readAll_snoc most (readIt s j most).2 ks k
    simp only [List.cons_append, readAll, this]
theorem readAll_len (most : Int) : ∀ (s : Rs) (ks : List Int), (readAll most s ks).1.length = ks.length
  | s, [] => rfl
  | s, j :: ks => by simp [readAll, readAll_len most _ ks]
theorem take_snoc_int (ks : List Int) (j : Nat) (h : j < ks.length) : ks.take (j + 1) = ks.take j ++ [ks.getD j 0] := by
  rw [List.take_succ_eq_append_getElem h]
  simp [h]

def kindOk (k : Int) : Bool := decide (0 ≤ k) && decide (k ≤ 5)
theorem kind_fits (k : Int) : (It.fits ⟨k, 0, ⟨#[]⟩⟩) = kindOk k := by
  have he : emp ⟨#[]⟩ = true := by simp [emp]
  unfold It.fits kindOk
  simp only [he]
  by_cases h0 : k = 0
  · subst h0; rfl
  by_cases h1 : k = 1
  · subst h1; rfl
  by_cases h2 : k = 2
  · subst h2; rfl
  by_cases h3 : k = 3
  · subst h3; rfl
  by_cases h4 : k = 4
  · subst h4; rfl
  by_cases h5 : k = 5
  · subst h5; rfl
  rw [if_neg h0, if_neg h3, if_neg (by omega), if_neg h5]
  by_cases hk : 0 ≤ k
  · have : ¬ k ≤ 5 := by omega
    simp [this]
  · simp [hk]

/-- What is answered. -/
def upS (ks : List Int) (most : Int) (l : List Nat) : List It × Rs := readAll most ⟨l, 0, 0⟩ ks
def upItems (ks : List Int) (most : Int) (l : List Nat) : List It := if ks.all kindOk then (if (upS ks most l).2.endE = 0 then (upS ks most l).1 else []) else []
def upE (ks : List Int) (most : Int) (l : List Nat) : Int := if ks.all kindOk then (upS ks most l).2.endE else 12
def upP (ks : List Int) (most : Int) (l : List Nat) : Nat := if ks.all kindOk then (upS ks most l).2.endP else 0
theorem endP_zero (s : Rs) (h : s.endE = 0) : s.endP = 0 := by
  unfold Rs.endE at h
  unfold Rs.endP
  by_cases h0 : s.e = 0
  · rw [if_pos h0] at h ⊢
    by_cases hz : s.l.length - s.p = 0
    · rw [if_pos hz]
    · rw [if_neg hz] at h; simp at h
  · rw [if_neg h0] at h; exact absurd h h0

theorem up_bad (ks : List Int) (most : Int) (l : List Nat) (k : Nat) (h : k < ks.length) (hx : kindOk (ks.getD k 0) = false) : upItems ks most l = [] ∧ upE ks most l = 12 ∧ upP ks most l = 0 := by
  have : ks.all kindOk = false := by
    rw [List.all_eq_false]
    exact ⟨ks.getD k 0, by simp [h], by rw [hx]; simp⟩
  simp [upItems, upE, upP, this]

theorem OwnI.of_made {w : World} {base g cap : Nat} (h : w.ownsRow base 32 3 (.slice (some ⟨g, 0, none⟩) 0 cap) 0 []) : OwnI w (.slice (some ⟨g, 0, none⟩) 0 cap) [] (some g) := by
  obtain ⟨_, h | ⟨g', cap', cur, e, hb, hh, h1, h2, h3, h4⟩⟩ := h
  · simp at h
  · simp only [Value.slice.injEq, Option.some.injEq, Addr.mk.injEq, and_true, true_and] at e
    obtain ⟨rfl, rfl⟩ := e
    refine .inr ⟨g, cap, rfl, rfl, (Array.getElem?_eq_some_iff.1 hh).1, by simp, h2, fun j hj => ?_, fun j hj => ?_, fun j hj => by simp at hj⟩
    · simp [World.frozen?, hh]
    · simp [World.cell?, hh]; omega

set_option maxHeartbeats 1000000 in
theorem unpackBad (vk vb : Value) (ks : List Int) (most : Int) (l : List Nat) (w : World) (hk : IntsAt w vk ks) (hbad : ks.all kindOk = false) :
    Calls Try.prog 6 #[vk, .int .i64 most, vb] w fun e w' => e = .returned (.tuple #[.slice none 0 0, .agg #[.int .i64 12, .int .i64 0]]) ∧ Below w.heap.size w w' := by
  obtain ⟨a, cap, rfl, hcl, hsn, hcells⟩ := hk
  unfold maxLen at hcl
  have hne : ks ≠ [] := by rintro rfl; simp at hbad
  obtain ⟨b, off, rfl, hc⟩ := hcells hne
  have HC : Hid (∀ j, j < ks.length → w.cell? ⟨b, off + j, none⟩ = some (.int .i64 (ks.getD j 0))) := hc
  have HBAD : Hid (ks.all kindOk = false) := hbad
  clear hcells hsn hc hbad hne
  go_enter Try.func6, Try.ntmps6
  go_wp2
  go_loopw [17] (fun i wr => ∃ (k : Nat), k ≤ ks.length ∧ i = .int .i64 k ∧ (ks.take k).all kindOk = true ∧ Below (w.heap.size + 1) (w.alloc (.cells #[.int .i64 0, .int .i64 0] 27)) wr) (fun i _ => ks.length - (intOf i).toNat)
  case atStart => exact ⟨0, by omega, rfl, by simp, Below.refl _ _⟩
  case round =>
    obtain ⟨k, hk, rfl, hall, hbl⟩ := hrel
    have HA : Hid ((ks.take k).all kindOk = true) := hall
    have HBL : Hid (Below (w.heap.size + 1) (w.alloc (.cells #[.int .i64 0, .int .i64 0] 27)) wr) := hbl
    have HW : Hid (Below w.heap.size w wr) := ((Below.refl _ _).alloc (Nat.le_refl _) _).trans (hbl.mono (by omega))
    clear hall hbl
    by_cases hlt : k < ks.length
    · have c0 : wr.cell? ⟨b, off + k, none⟩ = some (.int .i64 (ks.getD k 0)) := by rw [HW.out.cell (p := ⟨b, _, none⟩) (cell_lt (HC.out k hlt))]; exact HC.out k hlt
      have HT : Hid (kindOk (ks.getD k 0) = true → (ks.take (k + 1)).all kindOk = true) := fun hx => by rw [take_snoc_int ks k hlt, List.all_append, HA.out]; simpa using hx
      generalize ks.getD k 0 = x at c0 HT
      go_wp2_with fail
      refine (fitsAny ⟨x, 0, ⟨#[]⟩⟩ wr).mono ?_
      rintro e w1 ⟨rfl, hb1⟩
      have HBL1 : Hid (Below (w.heap.size + 1) (w.alloc (.cells #[.int .i64 0, .int .i64 0] 27)) w1) := HBL.out.trans (hb1.mono (by have := HBL.out.size; simpa using this))
      clear hb1
      rw [kind_fits]
      cases hfit : kindOk x with
      | true =>
        have HA2 : Hid ((ks.take (k + 1)).all kindOk = true) := HT.out hfit
        clear hfit c0
        go_wp2
        go_roundw
        case rel => exact ⟨k + 1, by omega, by go_num, HA2.out, HBL1.out⟩
        case measure => simp [intOf]; omega
      | false =>
        have y0 : w1.cell? ⟨w.heap.size, 0, none⟩ = some (.int .i64 0) := by rw [HBL1.out.cell (p := ⟨_, _, none⟩) (by simp)]; simp
        have y1 : w1.cell? ⟨w.heap.size, 1, none⟩ = some (.int .i64 0) := by rw [HBL1.out.cell (p := ⟨_, _, none⟩) (by simp)]; simp
        have f0 : w1.frozen? ⟨w.heap.size, 0, none⟩ = false := by rw [HBL1.out.frozen (p := ⟨_, _, none⟩) (by simp)]; simp
        have f1 : w1.frozen? ⟨w.heap.size, 1, none⟩ = false := by rw [HBL1.out.frozen (p := ⟨_, _, none⟩) (by simp)]; simp
        have HW1 : Hid (Below w.heap.size w w1) := ((Below.refl _ _).alloc (Nat.le_refl _) _).trans (HBL1.out.mono (by omega))
        clear hfit c0
        go_wp2
        refine bodyPost_ret (v := .tuple #[.slice none 0 0, .agg #[.int .i64 12, .int .i64 0]]) (by simp [results, Try.results6, go_sem, y0, y1]) rfl ⟨rfl, ?_⟩
        exact ((HW1.out.setCell (Nat.le_refl _) _).setCell (Nat.le_refl _) _)
    · exfalso
      obtain rfl : k = ks.length := by omega
      have := HA.out
      rw [List.take_length, HBAD.out] at this
      simp at this
end Go.Proofs.Ytjefbcphefckiac
