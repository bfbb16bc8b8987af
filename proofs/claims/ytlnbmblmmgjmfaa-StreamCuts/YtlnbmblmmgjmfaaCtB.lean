import Derived.Test.YtlnbmblmmgjmfaaCtA
/-! Places at which a text is cut, plainly. -/
namespace Go.Proofs.Ytlnbmblmmgjmfaa
open Go.RowKit Plain
set_option linter.unusedVariables false
set_option linter.unusedSimpArgs false

theorem emod_tmod (x m : Int) (hm : 0 < m) : x % m = if x.tmod m < 0 then x.tmod m + m else x.tmod m := by
  have h1 : m * x.tdiv m + x.tmod m = x := Int.mul_tdiv_add_tmod x m
  have h2 := Int.tmod_lt_of_pos x hm
  have h3 : -m < x.tmod m := Int.lt_tmod_of_pos x hm
  have h4 : x % m = x.tmod m % m := by
    conv => lhs; rw [← h1]
    rw [Int.mul_add_emod_self_left]
  rw [h4]
  split
  · rename_i h
    have h5 : x.tmod m % m = (x.tmod m + m) % m := by rw [Int.add_emod_right]
    rw [h5]
    exact Int.emod_eq_of_lt (by omega) (by omega)
  · exact Int.emod_eq_of_lt (by omega) h2
def stepC (x : Int) (s : List Int × Bool) (y : Int) : List Int × Bool := if x ≤ y ∧ s.2 = false then ((if x < y then s.1 ++ [x] else s.1) ++ [y], true) else (s.1 ++ [y], s.2)
/-- What stands behind some of the places have been gone through, and whether x was met. -/
def runC (x : Int) (L : List Int) : List Int × Bool := L.foldl (stepC x) ([], false)
def insC (L : List Int) (x : Int) : List Int := if (runC x L).2 = true then (runC x L).1 else (runC x L).1 ++ [x]
/-- The places. -/
def cutsL (n : Int) (at' : List Int) : List Int := if n < 0 then [] else at'.foldl (fun L a => insC L (a % (n + 1))) []
theorem runC_snoc (x : Int) (L : List Int) (y : Int) : runC x (L ++ [y]) = stepC x (runC x L) y := by unfold runC; rw [List.foldl_append]; rfl
theorem runC_take (x : Int) (L : List Int) {k : Nat} (h : k < L.length) : runC x (L.take (k + 1)) = stepC x (runC x (L.take k)) (L.getD k 0) := by
  rw [List.take_succ_eq_append_getElem h, runC_snoc]
  simp [List.getD_eq_getElem?_getD, h]
theorem stepC_len (x : Int) (s : List Int × Bool) (y : Int) : (stepC x s y).1.length ≤ s.1.length + 1 + (if (stepC x s y).2 = true ∧ s.2 = false then 1 else 0) ∧ (s.2 = true → (stepC x s y).2 = true) := by
  unfold stepC
  split
  · rename_i h
    split
    · simp [h.2]
    · simp [h.2]
  · simp
theorem runC_len (x : Int) (L : List Int) : (runC x L).1.length ≤ L.length + (if (runC x L).2 = true then 1 else 0) := by
  have : ∀ (r : List Int), (runC x r.reverse).1.length ≤ r.length + (if (runC x r.reverse).2 = true then 1 else 0) := by
    intro r
    induction r with
    | nil => simp [runC]
    | cons y t ih =>
      rw [List.reverse_cons, runC_snoc]
      obtain ⟨h1, h2⟩ := stepC_len x (runC x t.reverse) y
      cases ha : (runC x t.reverse).2 with
      | true =>
        rw [ha] at ih h1 h2
        rw [h2 rfl] at h1 ⊢
        simp at ih h1 ⊢
        omega
      | false =>
        rw [ha] at ih h1
        cases hb : (stepC x (runC x t.reverse) y).2 with
        | true => rw [hb] at h1; simp at ih h1 ⊢; omega
        | false => rw [hb] at h1; simp at ih h1 ⊢; omega
  have h := this L.reverse
  rw [List.reverse_reverse, List.length_reverse] at h
  exact h
theorem insC_len (L : List Int) (x : Int) : (insC L x).length ≤ L.length + 1 := by
  have h := runC_len x L
  unfold insC
  split
  · rename_i e; rw [e] at h; simpa using h
  · rename_i e
    have e2 : (runC x L).2 = false := by simpa using e
    rw [e2] at h
    simp at h ⊢
    exact h
theorem cutsL_take (n : Int) (hn : 0 ≤ n) (l : List Int) {i : Nat} (h : i < l.length) : cutsL n (l.take (i + 1)) = insC (cutsL n (l.take i)) (l.getD i 0 % (n + 1)) := by
  unfold cutsL
  rw [if_neg (by omega), if_neg (by omega), List.take_succ_eq_append_getElem h, List.foldl_append]
  simp [List.getD_eq_getElem?_getD, h]
theorem cutsL_len (n : Int) (l : List Int) : (cutsL n l).length ≤ l.length := by
  unfold cutsL
  split
  · simp
  have : ∀ (r : List Int), (r.reverse.foldl (fun L a => insC L (a % (n + 1))) []).length ≤ r.length := by
    intro r
    induction r with
    | nil => simp
    | cons y t ih =>
      rw [List.reverse_cons, List.foldl_append]
      simp only [List.foldl_cons, List.foldl_nil, List.length_cons]
      have := insC_len (t.reverse.foldl (fun L a => insC L (a % (n + 1))) []) (y % (n + 1))
      omega
  have h := this l.reverse
  rw [List.reverse_reverse, List.length_reverse] at h
  exact h
/-- x put into its place of a rising list, once. -/
def putC : List Int → Int → List Int
  | [], x => [x]
  | y :: t, x => if x < y then x :: y :: t else if x = y then y :: t else y :: putC t x
theorem runC_done (x : Int) (L M : List Int) (h : (runC x L).2 = true) : runC x (L ++ M) = ((runC x L).1 ++ M, true) := by
  have : ∀ (M : List Int) (s : List Int × Bool), s.2 = true → M.foldl (stepC x) s = (s.1 ++ M, true) := by
    intro M
    induction M with
    | nil => intro s hs; simp; exact Prod.ext rfl hs
    | cons y t ih =>
      intro s hs
      rw [List.foldl_cons, ih _ (by unfold stepC; rw [if_neg (by simp [hs])]; exact hs)]
      unfold stepC
      rw [if_neg (by simp [hs])]
      simp
  unfold runC at h ⊢
  rw [List.foldl_append]
  exact this M _ h
theorem insC_put (L : List Int) (x : Int) : insC L x = putC L x := by
  have : ∀ (M P : List Int), (∀ y ∈ P, y < x) → (if (M.foldl (stepC x) (P, false)).2 = true then (M.foldl (stepC x) (P, false)).1 else (M.foldl (stepC x) (P, false)).1 ++ [x]) = P ++ putC M x := by
    intro M
    induction M with
    | nil => intro P hP; simp [putC]
    | cons y t ih =>
      intro P hP
      rw [List.foldl_cons]
      by_cases h1 : x ≤ y
      · have hs : stepC x (P, false) y = ((if x < y then P ++ [x] else P) ++ [y], true) := by unfold stepC; rw [if_pos ⟨h1, rfl⟩]
        have hd : ∀ (M : List Int) (s : List Int × Bool), s.2 = true → M.foldl (stepC x) s = (s.1 ++ M, true) := by
          intro M
          induction M with
          | nil => intro s hs; simp; exact Prod.ext rfl hs
          | cons y t ih =>
            intro s hs
            rw [List.foldl_cons, ih _ (by unfold stepC; rw [if_neg (by simp [hs])]; exact hs)]
            unfold stepC
            rw [if_neg (by simp [hs])]
            simp
        rw [hs, hd t _ rfl]
        simp only [if_true]
        unfold putC
        by_cases h2 : x < y
        · rw [if_pos h2, if_pos h2]; simp
        · rw [if_neg h2, if_neg h2, if_pos (by omega)]; simp
      · have hs : stepC x (P, false) y = (P ++ [y], false) := by unfold stepC; rw [if_neg (by simp; omega)]
        rw [hs, ih (P ++ [y]) (fun z hz => by
          rcases List.mem_append.mp hz with h | h
          · exact hP z h
          · simp at h; omega)]
        conv => rhs; unfold putC
        rw [if_neg (by omega), if_neg (by omega)]
        simp
  have h := this L [] (by simp)
  unfold insC runC
  rw [h]
  simp
theorem putC_mem (L : List Int) (x z : Int) : z ∈ putC L x ↔ z = x ∨ z ∈ L := by
  induction L with
  | nil => simp [putC]
  | cons y t ih =>
    unfold putC
    split
    · simp
    · split
      · rename_i h1 h2
        subst h2
        simp
      · rw [List.mem_cons, ih, List.mem_cons]
        exact ⟨fun h => by rcases h with h | h | h <;> simp [h], fun h => by rcases h with h | h | h <;> simp [h]⟩
theorem putC_up (L : List Int) (x : Int) (h : L.Pairwise (· < ·)) : (putC L x).Pairwise (· < ·) := by
  induction L with
  | nil => simp [putC]
  | cons y t ih =>
    rw [List.pairwise_cons] at h
    unfold putC
    split
    · rename_i h1
      refine List.pairwise_cons.mpr ⟨fun z hz => ?_, List.pairwise_cons.mpr h⟩
      rcases List.mem_cons.mp hz with rfl | hz
      · exact h1
      · have := h.1 z hz; omega
    · split
      · exact List.pairwise_cons.mpr h
      · refine List.pairwise_cons.mpr ⟨fun z hz => ?_, ih h.2⟩
        rcases (putC_mem t x z).mp hz with rfl | hz
        · omega
        · exact h.1 z hz
theorem cutsL_is (n : Int) (hn : 0 ≤ n) (l : List Int) : (cutsL n l).Pairwise (· < ·) ∧ ∀ z, z ∈ cutsL n l ↔ ∃ a ∈ l, z = a % (n + 1) := by
  unfold cutsL
  rw [if_neg (by omega)]
  have : ∀ (r : List Int), (r.reverse.foldl (fun L a => insC L (a % (n + 1))) []).Pairwise (· < ·) ∧ ∀ z, z ∈ r.reverse.foldl (fun L a => insC L (a % (n + 1))) [] ↔ ∃ a ∈ r, z = a % (n + 1) := by
    intro r
    induction r with
    | nil => simp
    | cons y t ih =>
      rw [List.reverse_cons, List.foldl_append]
      simp only [List.foldl_cons, List.foldl_nil]
      rw [insC_put]
      refine ⟨putC_up _ _ ih.1, fun z => ?_⟩
      rw [putC_mem, ih.2]
      simp
  have h := this l.reverse
  rw [List.reverse_reverse] at h
  refine ⟨h.1, fun z => ?_⟩
  rw [h.2]
  simp
/-- There is one rising list of given numbers. -/
theorem rise_one : ∀ {a b : List Int}, a.Pairwise (· < ·) → b.Pairwise (· < ·) → (∀ z, z ∈ a ↔ z ∈ b) → a = b
  | [], [], _, _, _ => rfl
  | [], y :: t, _, _, h => by have := (h y).mpr (by simp); simp at this
  | x :: s, [], _, _, h => by have := (h x).mp (by simp); simp at this
  | x :: s, y :: t, ha, hb, h => by
    rw [List.pairwise_cons] at ha hb
    have hxy : x = y := by
      have h1 := (h x).mp (by simp)
      have h2 := (h y).mpr (by simp)
      rcases List.mem_cons.mp h1 with e | h1
      · exact e
      · rcases List.mem_cons.mp h2 with e | h2
        · exact e.symm
        · have := hb.1 x h1; have := ha.1 y h2; omega
    subst hxy
    rw [rise_one ha.2 hb.2 (fun z => ?_)]
    refine ⟨fun hz => ?_, fun hz => ?_⟩
    · have := (h z).mp (List.mem_cons_of_mem _ hz)
      rcases List.mem_cons.mp this with e | h1
      · have := ha.1 z hz; omega
      · exact h1
    · have := (h z).mpr (List.mem_cons_of_mem _ hz)
      rcases List.mem_cons.mp this with e | h1
      · have := hb.1 z hz; omega
      · exact h1
end Go.Proofs.Ytlnbmblmmgjmfaa
