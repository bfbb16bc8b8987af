import Derived.Test.YtpdhkojiehifeaaLk
import Derived.Test.YtpdhkojiehifeaaCWalkB
import Derived.Test.YtpdhkojiehifeaaCOrd
/-! What records come to: the live ones, sorted by their keys; there is one such list. -/
namespace Go.Proofs.Ytpdhkojiehifeaa
open Go.RowKit Plain
set_option linter.unusedVariables false

def kcmp (x y : Rc) : Int := cmpL x.key.data.toList y.key.data.toList
def ltK (x y : Rc) : Bool := decide (kcmp x y < 0)
def leK (x y : Rc) : Prop := ltK y x = false

theorem ltK_t {x y : Rc} : ltK x y = true ↔ cmpL x.key.data.toList y.key.data.toList < 0 := by unfold ltK; rw [decide_eq_true_iff]; exact Iff.rfl
theorem ltK_f {x y : Rc} : ltK x y = false ↔ ¬ cmpL x.key.data.toList y.key.data.toList < 0 := by unfold ltK; rw [decide_eq_false_iff_not]; exact Iff.rfl
theorem ltK_irrefl (x : Rc) : ltK x x = false := by rw [ltK_f, cmpL_self]; omega
theorem ltK_asymm {x y : Rc} (h : ltK x y = true) : ltK y x = false := by
  rw [ltK_t] at h
  rw [ltK_f]
  have := cmpL_neg x.key.data.toList y.key.data.toList
  omega
theorem ltK_ntrans {x y z : Rc} (h1 : ltK x y = false) (h2 : ltK y z = false) : ltK x z = false := by
  rw [ltK_f] at *
  have e1 := cmpL_neg x.key.data.toList y.key.data.toList
  have e2 := cmpL_neg y.key.data.toList z.key.data.toList
  have e3 := cmpL_neg x.key.data.toList z.key.data.toList
  have := cmpL_trans z.key.data.toList y.key.data.toList x.key.data.toList (by omega) (by omega)
  omega
theorem ltK_trans {x y z : Rc} (h1 : ltK x y = true) (h2 : ltK y z = true) : ltK x z = true := by
  rw [ltK_t] at *
  have e1 := cmpL_neg x.key.data.toList y.key.data.toList
  have := cmpL_trans x.key.data.toList y.key.data.toList z.key.data.toList (by omega) (by omega)
  rcases Int.lt_or_eq_of_le this with h | h
  · exact h
  · exfalso
    have e := cmpL_zero _ _ h
    rw [← e] at h2
    omega
theorem key_of {x y : Rc} (h1 : leK x y) (h2 : leK y x) : x.key = y.key := by
  unfold leK at *
  rw [ltK_f] at *
  have e1 := cmpL_neg x.key.data.toList y.key.data.toList
  exact WideShapes.bytes_inj (cmpL_zero _ _ (by omega))

def liveB (st : List Rc) (i : Nat) : Bool := lastB st i && ((st.getD i Rc.none).k == 1)
/-- The live records of the first i, in their order. -/
def lv (st : List Rc) : Nat → List Rc
  | 0 => []
  | i + 1 => if liveB st i = true then lv st i ++ [st.getD i Rc.none] else lv st i
theorem lv_yes {st : List Rc} {i : Nat} (h : liveB st i = true) : lv st (i + 1) = lv st i ++ [st.getD i Rc.none] := by simp only [lv]; rw [if_pos h]
theorem lv_no {st : List Rc} {i : Nat} (h : liveB st i = false) : lv st (i + 1) = lv st i := by simp only [lv]; rw [if_neg (by simp [h])]
theorem lv_len (st : List Rc) : ∀ i, (lv st i).length ≤ i
  | 0 => by simp [lv]
  | i + 1 => by
    have := lv_len st i
    cases h : liveB st i with
    | true => rw [lv_yes h]; simp; omega
    | false => rw [lv_no h]; omega
theorem lv_mem (st : List Rc) : ∀ n, ∀ x ∈ lv st n, ∃ i, i < n ∧ x = st.getD i Rc.none ∧ lastB st i = true
  | 0, x, h => by simp [lv] at h
  | n + 1, x, h => by
    have ih := lv_mem st n
    cases hb : liveB st n with
    | true =>
      rw [lv_yes hb, List.mem_append, List.mem_singleton] at h
      rcases h with h | rfl
      · obtain ⟨i, h1, h2⟩ := ih x h
        exact ⟨i, by omega, h2⟩
      · simp only [liveB, Bool.and_eq_true] at hb
        exact ⟨n, by omega, rfl, hb.1⟩
    | false =>
      rw [lv_no hb] at h
      obtain ⟨i, h1, h2⟩ := ih x h
      exact ⟨i, by omega, h2⟩
theorem lv_in (st : List Rc) (n : Nat) (hn : n ≤ st.length) : ∀ x ∈ lv st n, x ∈ st := fun x hx => by
  obtain ⟨i, h1, rfl, _⟩ := lv_mem st n x hx
  rw [List.getD_eq_getElem?_getD, List.getElem?_eq_getElem (by omega)]
  exact List.getElem_mem _
theorem lv_one (st : List Rc) : ∀ x ∈ lv st st.length, ∀ y ∈ lv st st.length, x.key = y.key → x = y := by
  intro x hx y hy e
  obtain ⟨i, h1, rfl, h2⟩ := lv_mem st _ x hx
  obtain ⟨j, h3, rfl, h4⟩ := lv_mem st _ y hy
  have hi := (lastB_iff st i).mp h2
  have hj := (lastB_iff st j).mp h4
  rcases Nat.lt_trichotomy i j with h | h | h
  · exact absurd e.symm (hi j h h3)
  · rw [h]
  · exact absurd e (hj i h h1)

/-- A list of the live records by rising keys. -/
structure Folded (st : List Rc) (L : List Rc) : Prop where
  p : L.Perm (lv st st.length)
  s : L.Pairwise leK
theorem Folded.one {st L M : List Rc} (h : Folded st L) (k : Folded st M) : L = M := by
  refine List.Perm.eq_of_pairwise (le := leK) (fun a b ha hb h1 h2 => ?_) h.s k.s (h.p.trans k.p.symm)
  exact lv_one st a (h.p.subset ha) b (k.p.subset hb) (key_of h1 h2)
theorem Folded.len {st L : List Rc} (h : Folded st L) : L.length ≤ st.length := by rw [h.p.length_eq]; exact lv_len st _
theorem Folded.mem {st L : List Rc} (h : Folded st L) : ∀ x ∈ L, x ∈ st := fun x hx => lv_in st _ (Nat.le_refl _) x (h.p.subset hx)

/-- The place of a record among others. -/
def pl (x : Rc) : List Rc → Nat
  | [] => 0
  | y :: r => if ltK y x = true then pl x r + 1 else 0
theorem pl_le (x : Rc) : ∀ l, pl x l ≤ l.length
  | [] => by simp [pl]
  | y :: r => by
    have := pl_le x r
    simp only [pl]
    split <;> simp <;> omega
def ins (x : Rc) (l : List Rc) : List Rc := l.take (pl x l) ++ [x] ++ l.drop (pl x l)
theorem ins_perm (x : Rc) (l : List Rc) : (ins x l).Perm (l ++ [x]) := by
  unfold ins
  have h : (l ++ [x]).Perm (l.take (pl x l) ++ l.drop (pl x l) ++ [x]) := by rw [List.take_append_drop]
  refine List.Perm.trans ?_ h.symm
  rw [List.append_assoc, List.append_assoc]
  exact List.Perm.append_left _ List.perm_append_comm
theorem ins_cons_lt {x y : Rc} {r : List Rc} (h : ltK y x = true) : ins x (y :: r) = y :: ins x r := by
  simp [ins, pl, h]
theorem ins_cons_ge {x y : Rc} {r : List Rc} (h : ltK y x = false) : ins x (y :: r) = x :: y :: r := by
  simp [ins, pl, h]
theorem ins_mem {x : Rc} {l : List Rc} {z : Rc} (h : z ∈ ins x l) : z = x ∨ z ∈ l := by
  have := (ins_perm x l).subset h
  simp at this
  rcases this with h | h
  · exact .inr h
  · exact .inl h
theorem ins_sorted (x : Rc) : ∀ l : List Rc, l.Pairwise leK → (ins x l).Pairwise leK
  | [], _ => by simp [ins, pl]
  | y :: r, h => by
    rw [List.pairwise_cons] at h
    cases hb : ltK y x with
    | true =>
      rw [ins_cons_lt hb, List.pairwise_cons]
      refine ⟨fun z hz => ?_, ins_sorted x r h.2⟩
      rcases ins_mem hz with rfl | hz
      · exact ltK_asymm hb
      · exact h.1 z hz
    | false =>
      rw [ins_cons_ge hb, List.pairwise_cons, List.pairwise_cons]
      refine ⟨fun z hz => ?_, h⟩
      simp only [List.mem_cons] at hz
      rcases hz with rfl | hz
      · exact hb
      · exact ltK_ntrans (h.1 z hz) hb
/-- What is less stands ahead of the place; what stands there is not less. -/
theorem pl_before (x : Rc) : ∀ (l : List Rc) (j : Nat), j < pl x l → ltK (l.getD j Rc.none) x = true
  | [], j, h => by simp [pl] at h
  | y :: r, j, h => by
    simp only [pl] at h
    cases hb : ltK y x with
    | true =>
      rw [if_pos hb] at h
      cases j with
      | zero => exact hb
      | succ j => exact pl_before x r j (by omega)
    | false => rw [if_neg (by simp [hb])] at h; omega
theorem pl_lt {x y : Rc} {r : List Rc} (h : ltK y x = true) : pl x (y :: r) = pl x r + 1 := by simp [pl, h]
theorem pl_ge {x y : Rc} {r : List Rc} (h : ltK y x = false) : pl x (y :: r) = 0 := by simp [pl, h]
theorem pl_at (x : Rc) : ∀ (l : List Rc), pl x l < l.length → ltK (l.getD (pl x l) Rc.none) x = false
  | [], h => by simp at h
  | y :: r, h => by
    by_cases hb : ltK y x = true
    · rw [pl_lt hb] at h ⊢
      exact pl_at x r (by simpa using h)
    · have hb : ltK y x = false := by simpa using hb
      rw [pl_ge hb]; exact hb
theorem pl_is (x : Rc) (l : List Rc) (j : Nat) (hj : j ≤ l.length) (h1 : ∀ i, i < j → ltK (l.getD i Rc.none) x = true) (h2 : j < l.length → ltK (l.getD j Rc.none) x = false) : j = pl x l := by
  have hp := pl_le x l
  rcases Nat.lt_trichotomy j (pl x l) with h | h | h
  · have e1 := pl_before x l j h
    have e2 := h2 (by omega)
    rw [e1] at e2; cases e2
  · exact h
  · have e1 := h1 _ h
    have e2 := pl_at x l (by omega)
    rw [e1] at e2; cases e2

/-- The document's lists. -/
def rf (st : List Rc) : Nat → List Rc
  | 0 => []
  | i + 1 => if liveB st i = true then ins (st.getD i Rc.none) (rf st i) else rf st i
theorem rf_yes {st : List Rc} {i : Nat} (h : liveB st i = true) : rf st (i + 1) = ins (st.getD i Rc.none) (rf st i) := by simp only [rf]; rw [if_pos h]
theorem rf_no {st : List Rc} {i : Nat} (h : liveB st i = false) : rf st (i + 1) = rf st i := by simp only [rf]; rw [if_neg (by simp [h])]
theorem rf_perm (st : List Rc) : ∀ i, (rf st i).Perm (lv st i)
  | 0 => List.Perm.refl _
  | i + 1 => by
    have ih := rf_perm st i
    cases h : liveB st i with
    | true => rw [rf_yes h, lv_yes h]; exact (ins_perm _ _).trans (List.Perm.append_right _ ih)
    | false => rw [rf_no h, lv_no h]; exact ih
theorem rf_sorted (st : List Rc) : ∀ i, (rf st i).Pairwise leK
  | 0 => List.Pairwise.nil
  | i + 1 => by
    have ih := rf_sorted st i
    cases h : liveB st i with
    | true => rw [rf_yes h]; exact ins_sorted _ _ ih
    | false => rw [rf_no h]; exact ih
theorem rf_folded (st : List Rc) : Folded st (rf st st.length) := ⟨rf_perm st _, rf_sorted st _⟩
theorem rf_len (st : List Rc) (i : Nat) : (rf st i).length ≤ i := by rw [(rf_perm st i).length_eq]; exact lv_len st i
theorem rf_mem (st : List Rc) (i : Nat) (hi : i ≤ st.length) : ∀ x ∈ rf st i, x ∈ st := fun x hx => lv_in st i hi x ((rf_perm st i).subset hx)
end Go.Proofs.Ytpdhkojiehifeaa
