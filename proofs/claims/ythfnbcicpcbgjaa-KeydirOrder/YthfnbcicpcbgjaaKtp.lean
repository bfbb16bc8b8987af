import Derived.Test.YthfnbcicpcbgjaaKta
/-! keydir: plain facts on lists of keys in order. -/
namespace Go.Proofs.Ythfnbcicpcbgjaa
open Plain
set_option linter.unusedVariables false

/-- How two keys stand to one another. -/
def kc (a b : ByteArray) : Int := cmpL a.data.toList b.data.toList
theorem kc_self (a : ByteArray) : kc a a = 0 := cmpL_self _
theorem kc_neg (a b : ByteArray) : kc b a = - kc a b := cmpL_neg _ _
theorem kc_range (a b : ByteArray) : kc a b = -1 ∨ kc a b = 0 ∨ kc a b = 1 := cmpL_range _ _
theorem kc_zero {a b : ByteArray} (h : kc a b = 0) : a = b := by
  have h := cmpL_zero _ _ h
  have h2 : a.data = b.data := Array.ext' h
  cases a; cases b; simp at h2; rw [h2]
theorem kc_eq (a b : ByteArray) : kc a b = 0 ↔ a = b := ⟨kc_zero, fun h => by rw [h]; exact kc_self b⟩
theorem kc_trans {a b c : ByteArray} (h1 : kc a b = -1) (h2 : kc b c = -1) : kc a c = -1 := by
  have h3 : kc a c ≤ 0 := cmpL_trans a.data.toList b.data.toList c.data.toList (by unfold kc at h1; omega) (by unfold kc at h2; omega)
  rcases kc_range a c with h | h | h
  · exact h
  · have := kc_zero h; subst this; have := kc_neg a b; omega
  · omega

/-- Keys that rise. -/
def Srt (l : List Ke) : Prop := l.Pairwise fun a b => kc a.key b.key = -1
theorem Srt.nil : Srt [] := List.Pairwise.nil
theorem Srt.parts {ll lr : List Ke} {x : Ke} (h : Srt (ll ++ x :: lr)) : Srt ll ∧ Srt lr ∧ (∀ y ∈ ll, kc y.key x.key = -1) ∧ (∀ y ∈ lr, kc x.key y.key = -1) ∧ (∀ y ∈ ll, ∀ z ∈ lr, kc y.key z.key = -1) := by
  unfold Srt at *
  rw [List.pairwise_append, List.pairwise_cons] at h
  exact ⟨h.1, h.2.1.2, fun y hy => h.2.2 y hy x (by simp), h.2.1.1, fun y hy z hz => h.2.2 y hy z (by simp [hz])⟩

def insL (k : ByteArray) (e : En) : List Ke → List Ke
  | [] => [⟨k, e⟩]
  | x :: xs => if kc k x.key = -1 then ⟨k, e⟩ :: x :: xs else if kc k x.key = 0 then ⟨x.key, e⟩ :: xs else x :: insL k e xs
def delL (k : ByteArray) (l : List Ke) : List Ke := l.filter fun x => decide (kc k x.key ≠ 0)
def findL (k : ByteArray) (l : List Ke) : Option Ke := l.find? fun x => decide (kc k x.key = 0)

theorem insL_lt (k : ByteArray) (e : En) (x : Ke) (lr : List Ke) (h : kc k x.key = -1) : ∀ ll : List Ke, insL k e (ll ++ x :: lr) = insL k e ll ++ x :: lr
  | [] => by simp [insL, h]
  | y :: ys => by
    have ih := insL_lt k e x lr h ys
    simp only [List.cons_append, insL, ih]
    split
    · rfl
    · split <;> rfl
theorem insL_far (k : ByteArray) (e : En) (l : List Ke) : ∀ ll : List Ke, (∀ y ∈ ll, kc k y.key = 1) → insL k e (ll ++ l) = ll ++ insL k e l
  | [], _ => rfl
  | y :: ys, h => by
    have hy := h y (by simp)
    rw [List.cons_append, insL, hy, if_neg (by omega), if_neg (by omega), insL_far k e l ys (fun z hz => h z (by simp [hz]))]
    rfl
theorem above {k : ByteArray} {x : Ke} {ll lr : List Ke} (hs : Srt (ll ++ x :: lr)) (h : kc k x.key ≠ -1) : ∀ y ∈ ll, kc k y.key = 1 := fun y hy => by
  have h1 := hs.parts.2.2.1 y hy
  have h3 : kc y.key k = -1 := by
    rcases kc_range k x.key with h2 | h2 | h2
    · exact absurd h2 h
    · rw [kc_zero h2]; exact h1
    · exact kc_trans h1 (by have := kc_neg k x.key; omega)
  have := kc_neg y.key k
  omega
theorem under {k : ByteArray} {x : Ke} {ll lr : List Ke} (hs : Srt (ll ++ x :: lr)) (h : kc k x.key ≠ 1) : ∀ y ∈ lr, kc k y.key = -1 := fun y hy => by
  have h1 := hs.parts.2.2.2.1 y hy
  rcases kc_range k x.key with h2 | h2 | h2
  · exact kc_trans h2 h1
  · rw [kc_zero h2]; exact h1
  · exact absurd h2 h
theorem aboveN {k : ByteArray} {x : Ke} {ll lr : List Ke} (hs : Srt (ll ++ x :: lr)) (h : kc k x.key = 0 ∨ kc k x.key = 1) : ∀ y ∈ ll, kc k y.key ≠ 0 := fun y hy => by
  have h5 := above (k := k) hs (by omega) y hy
  omega
theorem underN {k : ByteArray} {x : Ke} {ll lr : List Ke} (hs : Srt (ll ++ x :: lr)) (h : kc k x.key = 0 ∨ kc k x.key = -1) : ∀ y ∈ lr, kc k y.key ≠ 0 := fun y hy => by
  have h5 := under (k := k) hs (by omega) y hy
  omega
theorem insL_eq {k : ByteArray} {e : En} {x : Ke} {ll lr : List Ke} (hs : Srt (ll ++ x :: lr)) (h : kc k x.key = 0) : insL k e (ll ++ x :: lr) = ll ++ ⟨x.key, e⟩ :: lr := by
  rw [insL_far k e _ ll (above hs (by omega)), insL, h]; rfl
theorem insL_gt {k : ByteArray} {e : En} {x : Ke} {ll lr : List Ke} (hs : Srt (ll ++ x :: lr)) (h : kc k x.key = 1) : insL k e (ll ++ x :: lr) = ll ++ x :: insL k e lr := by
  rw [insL_far k e _ ll (above hs (by omega)), insL, h]; rfl

theorem delL_keep {k : ByteArray} {l : List Ke} (h : ∀ y ∈ l, kc k y.key ≠ 0) : delL k l = l := by
  unfold delL
  rw [List.filter_eq_self]
  intro y hy
  simpa using h y hy
theorem delL_app (k : ByteArray) (a b : List Ke) : delL k (a ++ b) = delL k a ++ delL k b := List.filter_append ..
theorem delL_cons (k : ByteArray) (x : Ke) (l : List Ke) : delL k (x :: l) = if kc k x.key = 0 then delL k l else x :: delL k l := by
  unfold delL
  by_cases h : kc k x.key = 0
  · simp [h]
  · simp [h]
theorem delL_lt {k : ByteArray} {x : Ke} {ll lr : List Ke} (hs : Srt (ll ++ x :: lr)) (h : kc k x.key = -1) : delL k (ll ++ x :: lr) = delL k ll ++ x :: lr := by
  rw [delL_app, delL_cons, if_neg (by omega), delL_keep (l := lr) (underN hs (by omega))]
theorem delL_gt {k : ByteArray} {x : Ke} {ll lr : List Ke} (hs : Srt (ll ++ x :: lr)) (h : kc k x.key = 1) : delL k (ll ++ x :: lr) = ll ++ x :: delL k lr := by
  rw [delL_app, delL_cons, if_neg (by omega), delL_keep (l := ll) (aboveN hs (by omega))]
theorem delL_eq {k : ByteArray} {x : Ke} {ll lr : List Ke} (hs : Srt (ll ++ x :: lr)) (h : kc k x.key = 0) : delL k (ll ++ x :: lr) = ll ++ lr := by
  rw [delL_app, delL_cons, if_pos h, delL_keep (l := ll) (aboveN hs (by omega)), delL_keep (underN hs (by omega))]

theorem findL_none {k : ByteArray} {l : List Ke} (h : ∀ y ∈ l, kc k y.key ≠ 0) : findL k l = none := by
  unfold findL
  rw [List.find?_eq_none]
  intro y hy
  simpa using h y hy
theorem findL_app (k : ByteArray) (a b : List Ke) : findL k (a ++ b) = (findL k a).or (findL k b) := List.find?_append
theorem findL_cons (k : ByteArray) (x : Ke) (l : List Ke) : findL k (x :: l) = if kc k x.key = 0 then some x else findL k l := by
  unfold findL
  by_cases h : kc k x.key = 0
  · simp [h]
  · simp [h]
theorem findL_lt {k : ByteArray} {x : Ke} {ll lr : List Ke} (hs : Srt (ll ++ x :: lr)) (h : kc k x.key = -1) : findL k (ll ++ x :: lr) = findL k ll := by
  rw [findL_app, findL_cons, if_neg (by omega), findL_none (l := lr) (underN hs (by omega))]
  simp
theorem findL_gt {k : ByteArray} {x : Ke} {ll lr : List Ke} (hs : Srt (ll ++ x :: lr)) (h : kc k x.key = 1) : findL k (ll ++ x :: lr) = findL k lr := by
  rw [findL_app, findL_cons, if_neg (by omega), findL_none (l := ll) (aboveN hs (by omega))]
  simp
theorem findL_eq {k : ByteArray} {x : Ke} {ll lr : List Ke} (hs : Srt (ll ++ x :: lr)) (h : kc k x.key = 0) : findL k (ll ++ x :: lr) = some x := by
  rw [findL_app, findL_cons, if_pos h, findL_none (l := ll) (aboveN hs (by omega))]
  simp
theorem findL_is {k : ByteArray} {l : List Ke} {x : Ke} (h : findL k l = some x) : x ∈ l ∧ x.key = k := by
  unfold findL at h
  have h1 := List.find?_some h
  simp at h1
  exact ⟨List.mem_of_find?_eq_some h, (kc_zero h1).symm⟩

theorem insL_mem {k : ByteArray} {e : En} {z : Ke} : ∀ {l : List Ke}, z ∈ insL k e l → z.key = k ∨ z ∈ l
  | [], h => by simp [insL] at h; rw [h]; simp
  | x :: xs, h => by
    unfold insL at h
    split at h
    · simp at h
      rcases h with h | h | h
      · rw [h]; simp
      · rw [h]; simp
      · simp [h]
    · split at h
      · rename_i h0
        simp at h
        rcases h with h | h
        · rw [h]; exact .inl (kc_zero h0).symm
        · simp [h]
      · simp at h
        rcases h with h | h
        · rw [h]; simp
        · rcases insL_mem h with h | h
          · exact .inl h
          · simp [h]
theorem Srt.ins (k : ByteArray) (e : En) : ∀ {l : List Ke}, Srt l → Srt (insL k e l)
  | [], _ => by simp [insL, Srt]
  | x :: xs, h => by
    have hp := h.parts (ll := [])
    unfold insL
    split
    · rename_i h0
      unfold Srt
      rw [List.pairwise_cons]
      refine ⟨fun y hy => ?_, h⟩
      simp at hy
      rcases hy with hy | hy
      · rw [hy]; exact h0
      · exact kc_trans h0 (hp.2.2.2.1 y hy)
    · rename_i hn
      split
      · unfold Srt
        rw [List.pairwise_cons]
        exact ⟨hp.2.2.2.1, hp.2.1⟩
      · rename_i h0
        unfold Srt
        rw [List.pairwise_cons]
        refine ⟨fun y hy => ?_, Srt.ins k e hp.2.1⟩
        rcases insL_mem hy with h1 | h1
        · rw [h1]
          have := kc_neg k x.key
          rcases kc_range k x.key with h2 | h2 | h2 <;> omega
        · exact hp.2.2.2.1 y h1
theorem Srt.del (k : ByteArray) {l : List Ke} (h : Srt l) : Srt (delL k l) := List.Pairwise.filter _ h
theorem insL_len (k : ByteArray) (e : En) : ∀ l : List Ke, (insL k e l).length ≤ l.length + 1
  | [] => by simp [insL]
  | x :: xs => by
    have := insL_len k e xs
    unfold insL
    split
    · simp
    · split
      · simp
      · simp; omega
theorem delL_len (k : ByteArray) (l : List Ke) : (delL k l).length ≤ l.length := List.length_filter_le ..
theorem findL_ins (k k' : ByteArray) (e : En) : ∀ {l : List Ke}, findL k' (insL k e l) = if kc k' k = 0 then some ⟨k, e⟩ else findL k' l
  | [] => by rw [insL, findL_cons]
  | x :: xs => by
    have ih := findL_ins k k' e (l := xs)
    unfold insL
    split
    · rw [findL_cons]
    · split
      · rename_i h0
        have := kc_zero h0
        rw [findL_cons, findL_cons, ← this]
        by_cases h : kc k' k = 0
        · simp [h]
        · simp [h]
      · rename_i h1 h0
        rw [findL_cons, findL_cons, ih]
        by_cases h : kc k' x.key = 0
        · rw [if_pos h, if_pos h, if_neg]
          intro h2
          apply h0
          rw [← kc_zero h, kc_zero h2]
          exact kc_self k
        · rw [if_neg h, if_neg h]
theorem findL_del (k k' : ByteArray) : ∀ (l : List Ke), findL k' (delL k l) = if kc k' k = 0 then none else findL k' l
  | [] => by simp [delL, findL]
  | x :: xs => by
    have ih := findL_del k k' xs
    rw [delL_cons]
    split
    · rename_i h0
      rw [ih, findL_cons, ← kc_zero h0]
      split <;> rfl
    · rename_i h0
      rw [findL_cons, findL_cons, ih]
      by_cases h : kc k' x.key = 0
      · rw [if_pos h, if_pos h, if_neg]
        intro h2
        apply h0
        rw [← kc_zero h, kc_zero h2]
        exact kc_self k
      · rw [if_neg h, if_neg h]
end Go.Proofs.Ythfnbcicpcbgjaa
