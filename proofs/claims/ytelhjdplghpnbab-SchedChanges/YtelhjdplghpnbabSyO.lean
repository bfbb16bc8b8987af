import Derived.Test.YtelhjdplghpnbabSyG
/-! The program's find. -/
namespace Go.Proofs.Ytelhjdplghpnbab
open Go.RowKit Plain
set_option linter.unusedVariables false
set_option linter.unusedSimpArgs false

set_option maxHeartbeats 1000000 in
theorem sisNaNOf (z : Int) (w : World) : Calls Try.prog 38 #[.int .i64 z] w fun e w' => e = .returned (.bool false) ∧ w' = w := by
  have hd : decide (z ≠ z) = false := by simp
  go_enter Try.func38, Try.ntmps38
  go_wp2
  go_ret
  exact ⟨by simp, rfl⟩
/-- What cmp.Compare answers. -/
def cmpI (a b : Int) : Int := if a < b then -1 else if b < a then 1 else 0
set_option maxHeartbeats 2000000 in
theorem sCompareOf (a b : Int) (w : World) : Calls Try.prog 34 #[.int .i64 a, .int .i64 b] w fun e w' => e = .returned (.int .i64 (cmpI a b)) ∧ w' = w := by
  have H1 := Hid.mkT (sisNaNOf a)
  have H2 := Hid.mkT (sisNaNOf b)
  by_cases h1 : a < b
  · have HA : Hid (cmpI a b = -1) := by unfold Hid cmpI; rw [if_pos h1]
    go_enter Try.func34, Try.ntmps34
    go_wp2_with fail
    refine (H1.out _).mono ?_
    rintro e w1 ⟨rfl, rfl⟩
    go_wp2_with fail
    refine (H2.out _).mono ?_
    rintro e w1 ⟨rfl, rfl⟩
    go_wp2
    go_ret
    exact ⟨by rw [HA.out]; rfl, rfl⟩
  · by_cases h2 : b < a
    · have HA : Hid (cmpI a b = 1) := by unfold Hid cmpI; rw [if_neg h1, if_pos h2]
      go_enter Try.func34, Try.ntmps34
      go_wp2_with fail
      refine (H1.out _).mono ?_
      rintro e w1 ⟨rfl, rfl⟩
      go_wp2_with fail
      refine (H2.out _).mono ?_
      rintro e w1 ⟨rfl, rfl⟩
      go_wp2
      go_ret
      exact ⟨by rw [HA.out]; rfl, rfl⟩
    · have HA : Hid (cmpI a b = 0) := by unfold Hid cmpI; rw [if_neg h1, if_neg h2]
      go_enter Try.func34, Try.ntmps34
      go_wp2_with fail
      refine (H1.out _).mono ?_
      rintro e w1 ⟨rfl, rfl⟩
      go_wp2_with fail
      refine (H2.out _).mono ?_
      rintro e w1 ⟨rfl, rfl⟩
      go_wp2
      go_ret
      exact ⟨by rw [HA.out]; rfl, rfl⟩
set_option maxHeartbeats 1000000 in
theorem qfind1Of (i q d : Int) (a : Option Addr) (n c : Nat) (id : Int) (w : World) : Calls Try.prog 33 #[.agg #[.int .i64 i, .int .i64 q, .int .i64 d, .slice a n c], .int .i64 id] w fun e w' => e = .returned (.int .i64 (cmpI i id)) ∧ Below w.heap.size w w' := by
  have HB : Hid (Below w.heap.size w (w.alloc (.cells #[.int .i64 i, .int .i64 q, .int .i64 d, .slice a n c] 37))) := (Below.refl _ _).alloc (Nat.le_refl _) _
  have HC := Hid.mkT (sCompareOf i id)
  go_enter Try.func33, Try.ntmps33
  go_wp2_with fail
  refine (HC.out _).mono ?_
  rintro e w1 ⟨rfl, rfl⟩
  go_wp2
  go_ret
  exact ⟨rfl, HB.out⟩
theorem enter_find1 : ∀ (args : Array Value) (w : World), (callFunc 33 args).run Try.prog w = .ok (.enter 33 args) w := enters_of Try.func33 (by kernel_rfl) rfl
/-- How many ids are below id, where they rise. -/
def belowL (l : List Qu) (id : Int) : Nat := (l.takeWhile (fun q => decide (q.id < id))).length
/-- The place that a search finds: all ahead of it are below id, all from it on are not. -/
structure Fnd (l : List Qu) (id : Int) (k : Nat) : Prop where
  le : k ≤ l.length
  lo : ∀ j, j < k → (l.getD j Qu.zero).id < id
  hi : ∀ j, k ≤ j → j < l.length → id ≤ (l.getD j Qu.zero).id
theorem rise_mono {l : List Qu} (h : riseTo l l.length) : ∀ (j i : Nat), i < j → j < l.length → (l.getD i Qu.zero).id < (l.getD j Qu.zero).id
  | 0, i, h1, _ => by omega
  | j + 1, i, h1, h2 => by
    have := (h (j + 1) h2).2 (by omega)
    rw [show j + 1 - 1 = j by omega] at this
    by_cases e : i = j
    · rw [e]; exact this
    · have := rise_mono h j i (by omega) (by omega)
      omega
theorem Fnd.take {l : List Qu} {id : Int} {k : Nat} (h : Fnd l id k) : l.takeWhile (fun q => decide (q.id < id)) = l.take k ∧ l.dropWhile (fun q => decide (q.id < id)) = l.drop k := by
  induction l generalizing k with
  | nil => simp
  | cons q l ih =>
    cases k with
    | zero =>
      have := h.hi 0 (Nat.le_refl _) (by simp)
      simp at this
      simp [List.takeWhile_cons, List.dropWhile_cons, show ¬ q.id < id by omega]
    | succ k =>
      have h0 := h.lo 0 (by omega)
      simp at h0
      have h' : Fnd l id k := ⟨by have := h.le; simp at this; exact this, fun j hj => by have := h.lo (j + 1) (by omega); simpa using this, fun j h1 h2 => by have := h.hi (j + 1) (by omega) (by simp; omega); simpa using this⟩
      obtain ⟨e1, e2⟩ := ih h'
      simp [List.takeWhile_cons, List.dropWhile_cons, h0, e1, e2]
theorem Fnd.place {l : List Qu} {id : Int} {k : Nat} (h : Fnd l id k) (hr : riseTo l l.length) : (k < l.length ∧ (l.getD k Qu.zero).id = id → placeL l id = k) ∧ (¬ (k < l.length ∧ (l.getD k Qu.zero).id = id) → placeL l id = -1) := by
  constructor
  · rintro ⟨h1, h2⟩
    exact place_hit h1 h2 (fun j hj => by have := h.lo j hj; omega)
  · intro hn
    refine place_no (fun j hj e => ?_)
    by_cases hjk : j < k
    · have := h.lo j hjk; omega
    · by_cases e2 : j = k
      · exact hn ⟨by omega, by rw [← e2]; exact e⟩
      · have h1 := rise_mono hr j k (by omega) hj
        have h2 := h.hi k (Nat.le_refl _) (by omega)
        omega
end Go.Proofs.Ytelhjdplghpnbab
