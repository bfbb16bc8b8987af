import Derived.Test.YtelhjdplghpnbabSdC
/-! Turns as they come in: what Check, Enter, Leave, Ask and Next answer, plainly. -/
namespace Go.Proofs.Ytelhjdplghpnbab

set_option linter.unusedVariables false

structure Tr where
  qs : List Qu
  at' : Int
  fresh : Bool
def Tr.zero : Tr := ⟨[], 0, false⟩
def Tr.q (t : Tr) (k : Nat) : Qu := t.qs.getD k Qu.zero
def Tr.u (t : Tr) : Tu := ⟨t.qs, t.at'.toNat, t.fresh⟩
def Tu.r (t : Tu) : Tr := ⟨t.qs, t.at', t.fresh⟩
def Tr.most (t : Tr) (i : Nat) : Int := if t.fresh = true ∧ (i : Int) = t.at' then 1114111 else 1048575
/-- Is the queue at i refused, the ones ahead of it not looked at but for the last? -/
def badQ (t : Tr) (i : Nat) : Bool := decide ((t.q i).id < 0) || (decide (0 < i) && decide ((t.q i).id ≤ (t.q (i - 1)).id)) || decide ((t.q i).quantum < 1) || decide (65536 < (t.q i).quantum) || decide ((t.q i).deficit < 0) || decide (t.most i < (t.q i).deficit) || ((t.q i).costs.isEmpty && decide (0 < (t.q i).deficit))
def badL (l : List Int) : Bool := l.any fun c => decide (c < 1) || decide (1048576 < c)
def headB (t : Tr) : Bool := decide (32 < t.qs.length) || decide (t.at' < 0) || decide (max ((t.qs.length : Int) - 1) 0 < t.at') || (t.fresh && decide (t.qs.length = 0))
def anyTo (f : Nat → Bool) (n : Nat) : Bool := (List.range n).any f
/-- What Check answers. -/
def chkT (t : Tr) : Int := if headB t = true then 190 else if anyTo (badQ t) t.qs.length = true then 190 else if anyTo (fun i => badL (t.q i).costs) t.qs.length = true then 191 else 0
theorem anyTo_false {f : Nat → Bool} {n : Nat} : anyTo f n = false ↔ ∀ i, i < n → f i = false := by
  unfold anyTo
  rw [List.any_eq_false]
  constructor
  · intro h i hi
    have := h i (List.mem_range.mpr hi)
    simpa using this
  · intro h i hi
    have := h i (List.mem_range.mp hi)
    simp [this]
theorem anyTo_true {f : Nat → Bool} {n i : Nat} (hi : i < n) (h : f i = true) : anyTo f n = true := by
  unfold anyTo
  rw [List.any_eq_true]
  exact ⟨i, List.mem_range.mpr hi, h⟩
theorem badL_false {l : List Int} : badL l = false ↔ ∀ c ∈ l, 1 ≤ c ∧ c ≤ 1048576 := by
  unfold badL
  rw [List.any_eq_false]
  constructor
  · intro h c hc
    have := h c hc
    simp at this
    omega
  · intro h c hc
    have := h c hc
    simp
    omega
theorem badL_take {l : List Int} {k : Nat} (hk : k < l.length) (h : l.getD k 0 < 1 ∨ 1048576 < l.getD k 0) : badL l = true := by
  unfold badL
  rw [List.any_eq_true]
  refine ⟨l.getD k 0, by simp [List.getD_eq_getElem?_getD, hk], ?_⟩
  simp only [Bool.or_eq_true, decide_eq_true_eq]
  exact h
/-- What OK means. -/
structure OkR (t : Tr) : Prop where
  few : t.qs.length ≤ 32
  lo : 0 ≤ t.at'
  hi : t.at' ≤ max ((t.qs.length : Int) - 1) 0
  fr : t.fresh = true → t.qs.length ≠ 0
  q : ∀ i, i < t.qs.length → badQ t i = false
  c : ∀ i, i < t.qs.length → ∀ c ∈ (t.q i).costs, 1 ≤ c ∧ c ≤ 1048576
theorem chk_ok {t : Tr} : chkT t = 0 ↔ OkR t := by
  unfold chkT
  constructor
  · intro h
    by_cases h1 : headB t = true
    · rw [if_pos h1] at h; omega
    · rw [if_neg h1] at h
      by_cases h2 : anyTo (badQ t) t.qs.length = true
      · rw [if_pos h2] at h; omega
      · rw [if_neg h2] at h
        by_cases h3 : anyTo (fun i => badL (t.q i).costs) t.qs.length = true
        · rw [if_pos h3] at h; omega
        · simp only [Bool.not_eq_true] at h1 h2 h3
          unfold headB at h1
          simp only [Bool.or_eq_false_iff, decide_eq_false_iff_not, Bool.and_eq_false_iff] at h1
          obtain ⟨⟨⟨a1, a2⟩, a3⟩, a4⟩ := h1
          exact ⟨by omega, by omega, by omega, fun hf => by rcases a4 with h | h; · rw [hf] at h; cases h
                                                            · exact h, anyTo_false.mp h2, fun i hi => badL_false.mp (anyTo_false.mp h3 i hi)⟩
  · intro h
    have h1 : headB t = false := by
      have a1 := h.few
      have a2 := h.lo
      have a3 := h.hi
      unfold headB
      simp only [Bool.or_eq_false_iff, decide_eq_false_iff_not, Bool.and_eq_false_iff]
      refine ⟨⟨⟨by omega, by omega⟩, by omega⟩, ?_⟩
      cases hf : t.fresh with
      | false => exact .inl rfl
      | true => exact .inr (h.fr hf)
    rw [if_neg (by simp [h1]), if_neg (by rw [anyTo_false.mpr h.q]; simp), if_neg (by rw [anyTo_false.mpr (fun i hi => badL_false.mpr (h.c i hi))]; simp)]
theorem chk_three (t : Tr) : chkT t = 0 ∨ chkT t = 190 ∨ chkT t = 191 := by
  unfold chkT
  split
  · simp
  · split
    · simp
    · split <;> simp
theorem badQ_is {t : Tr} {i : Nat} (h : badQ t i = false) : 0 ≤ (t.q i).id ∧ (0 < i → (t.q (i - 1)).id < (t.q i).id) ∧ 1 ≤ (t.q i).quantum ∧ (t.q i).quantum ≤ 65536 ∧ 0 ≤ (t.q i).deficit ∧ (t.q i).deficit ≤ t.most i ∧ ((t.q i).costs = [] → (t.q i).deficit = 0) := by
  unfold badQ at h
  simp only [Bool.or_eq_false_iff, decide_eq_false_iff_not, Bool.and_eq_false_iff] at h
  obtain ⟨⟨⟨⟨⟨⟨h1, h2⟩, h3⟩, h4⟩, h5⟩, h6⟩, h7⟩ := h
  refine ⟨by omega, fun hi => ?_, by omega, by omega, by omega, by omega, fun hc => ?_⟩
  · rcases h2 with h | h <;> omega
  · rcases h7 with h | h
    · rw [hc] at h; simp at h
    · omega
theorem Tr.u_q (t : Tr) (k : Nat) : t.u.q k = t.q k := rfl
/-- Right turns with queues are what the looks are about. -/
theorem OkR.u {t : Tr} (h : OkR t) (hn : t.qs ≠ []) : OkT t.u := by
  have hl : 0 < t.qs.length := List.length_pos_iff.mpr hn
  have a1 := h.lo
  have a2 := h.hi
  refine ⟨h.few, ?_, ?_, ?_, ?_, ?_, ?_⟩
  · show t.at'.toNat < t.qs.length
    omega
  · exact fun k hk => ⟨(badQ_is (h.q k hk)).1, (badQ_is (h.q k hk)).2.1⟩
  · exact fun k hk => ⟨(badQ_is (h.q k hk)).2.2.1, (badQ_is (h.q k hk)).2.2.2.1⟩
  · intro k hk
    have h1 := badQ_is (h.q k hk)
    refine ⟨h1.2.2.2.2.1, ?_⟩
    have h2 := h1.2.2.2.2.2.1
    unfold Tr.most at h2
    show (t.q k).deficit ≤ _
    by_cases e : t.fresh = true ∧ (k : Int) = t.at'
    · rw [if_pos e] at h2
      rw [if_pos ⟨e.1, by show k = t.at'.toNat; omega⟩]
      omega
    · rw [if_neg e] at h2
      rw [if_neg (fun e2 => e ⟨e2.1, by have : k = t.at'.toNat := e2.2; omega⟩)]
      omega
  · exact fun k hk => (badQ_is (h.q k hk)).2.2.2.2.2.2
  · exact fun k hk => h.c k hk
/-- And back. -/
theorem OkT.r {t : Tu} (h : OkT t) : OkR t.r := by
  have hl := h.lt
  refine ⟨h.few, ?_, ?_, fun _ => ?_, fun i hi => ?_, fun i hi => h.cost i hi⟩
  · show (0 : Int) ≤ (t.at' : Int); omega
  · show (t.at' : Int) ≤ max ((t.qs.length : Int) - 1) 0; omega
  · show t.qs.length ≠ 0; omega
  · have h1 := h.ids i hi
    have h2 := h.quantum i hi
    have h3 := h.def_ i hi
    have h4 := h.idle i hi
    have e : ∀ k, t.r.q k = t.q k := fun k => rfl
    unfold badQ
    rw [e, e]
    have hm : (t.q i).deficit ≤ t.r.most i := by
      refine Int.le_trans h3.2 ?_
      unfold Tr.most
      by_cases e : t.fresh = true ∧ i = t.at'
      · rw [if_pos e, if_pos ⟨e.1, by show (i : Int) = (t.at' : Int); omega⟩]; omega
      · rw [if_neg e, if_neg (fun e2 => e ⟨e2.1, by have : (i : Int) = (t.at' : Int) := e2.2; omega⟩)]; omega
    simp only [Bool.or_eq_false_iff, decide_eq_false_iff_not, Bool.and_eq_false_iff]
    refine ⟨⟨⟨⟨⟨⟨by omega, ?_⟩, by omega⟩, by omega⟩, by omega⟩, by omega⟩, ?_⟩
    · by_cases hi0 : 0 < i
      · right; have := h1.2 hi0; omega
      · left; exact hi0
    · cases hc : (t.q i).costs with
      | nil => right; have := h4 hc; omega
      | cons c cs => left; simp
/-- Which queue has that id. -/
def placeL (l : List Qu) (id : Int) : Int := match l.findIdx? (fun q => q.id == id) with
  | some i => i
  | none => -1
def entL (l : List Qu) (id quantum : Int) : List Qu := l.takeWhile (fun q => decide (q.id < id)) ++ ⟨id, quantum, 0, []⟩ :: l.dropWhile (fun q => decide (q.id < id))
def entAt (t : Tr) (id : Int) : Int := if t.qs ≠ [] ∧ ((t.qs.takeWhile (fun q => decide (q.id < id))).length : Int) ≤ t.at' then t.at' + 1 else t.at'
/-- What Enter answers. -/
def entT (t : Tr) (id quantum : Int) : Tr × Int :=
  if chkT t ≠ 0 then (Tr.zero, chkT t)
  else if 0 ≤ placeL t.qs id ∨ 32 ≤ t.qs.length ∨ id < 0 ∨ quantum < 1 ∨ 65536 < quantum then (Tr.zero, 190)
  else (⟨entL t.qs id quantum, entAt t id, t.fresh⟩, 0)
def levAt (t : Tr) (g : Int) : Int := if g < t.at' then t.at' - 1 else if g = t.at' ∧ t.at' = (t.qs.length : Int) - 1 then 0 else t.at'
/-- What Leave answers. -/
def levT (t : Tr) (id : Int) : Tr × Int :=
  if chkT t ≠ 0 then (Tr.zero, chkT t)
  else if placeL t.qs id < 0 then (Tr.zero, 190)
  else (⟨t.qs.eraseIdx (placeL t.qs id).toNat, levAt t (placeL t.qs id), if placeL t.qs id = t.at' then false else t.fresh⟩, 0)
def Qu.more (q : Qu) (c : Int) : Qu := ⟨q.id, q.quantum, q.deficit, q.costs ++ [c]⟩
/-- What Ask answers. -/
def askT (t : Tr) (id cost : Int) : Tr × Int :=
  if chkT t ≠ 0 then (Tr.zero, chkT t)
  else if placeL t.qs id < 0 then (Tr.zero, 190)
  else if cost < 1 ∨ 1048576 < cost then (Tr.zero, 191)
  else (⟨t.qs.set (placeL t.qs id).toNat ((t.q (placeL t.qs id).toNat).more cost), t.at', t.fresh⟩, 0)
/-- Does some queue wait? -/
def waitsT (t : Tr) : Bool := t.qs.any fun q => !q.costs.isEmpty
/-- What Next answers. -/
structure Nxt (t t' : Tr) (id c : Int) (ok : Bool) : Prop where
  bad : chkT t ≠ 0 → t' = Tr.zero ∧ id = 0 ∧ c = 0 ∧ ok = false
  idle : chkT t = 0 → waitsT t = false → t' = t ∧ id = 0 ∧ c = 0 ∧ ok = false
  runs : chkT t = 0 → waitsT t = true → ok = true ∧ ∃ n u, run n t.u = some (u, id, c) ∧ t' = u.r
theorem Nxt.one {t t1 t2 : Tr} {i1 i2 c1 c2 : Int} {o1 o2 : Bool} (h : Nxt t t1 i1 c1 o1) (k : Nxt t t2 i2 c2 o2) : t1 = t2 ∧ i1 = i2 ∧ c1 = c2 ∧ o1 = o2 := by
  by_cases h0 : chkT t = 0
  · cases hw : waitsT t with
    | false =>
      obtain ⟨rfl, rfl, rfl, rfl⟩ := h.idle h0 hw
      obtain ⟨rfl, rfl, rfl, rfl⟩ := k.idle h0 hw
      exact ⟨rfl, rfl, rfl, rfl⟩
    | true =>
      obtain ⟨rfl, n, u, r1, rfl⟩ := h.runs h0 hw
      obtain ⟨rfl, m, v, r2, rfl⟩ := k.runs h0 hw
      have e1 := run_more n m t.u _ r1
      have e2 := run_more m n t.u _ r2
      rw [Nat.add_comm m n, e1] at e2
      simp only [Option.some.injEq, Prod.mk.injEq] at e2
      obtain ⟨rfl, rfl, rfl⟩ := e2
      exact ⟨rfl, rfl, rfl, rfl⟩
  · obtain ⟨rfl, rfl, rfl, rfl⟩ := h.bad h0
    obtain ⟨rfl, rfl, rfl, rfl⟩ := k.bad h0
    exact ⟨rfl, rfl, rfl, rfl⟩
end Go.Proofs.Ytelhjdplghpnbab
