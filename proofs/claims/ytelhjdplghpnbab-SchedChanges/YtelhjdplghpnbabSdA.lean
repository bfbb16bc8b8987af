import Derived.Test.YtelhjdplghpnbabProg
/-! Queues that are served in turns, plainly: two that wait all along are served alike. -/
namespace Go.Proofs.Ytelhjdplghpnbab
set_option linter.unusedVariables false
set_option linter.unusedSimpArgs false

structure Qu where
  id : Int
  quantum : Int
  deficit : Int
  costs : List Int
def Qu.zero : Qu := ⟨0, 0, 0, []⟩
structure Tu where
  qs : List Qu
  at' : Nat
  fresh : Bool
def Tu.q (t : Tu) (k : Nat) : Qu := t.qs.getD k Qu.zero
def Tu.on (t : Tu) : Tu := ⟨t.qs, (t.at' + 1) % t.qs.length, false⟩
/-- What the queue whose turn it is may spend. -/
def Tu.d (t : Tu) : Int := (t.q t.at').deficit + (if t.fresh = true then 0 else (t.q t.at').quantum)
def Tu.put (t : Tu) (q : Qu) : Tu := ⟨t.qs.set t.at' q, t.at', true⟩
/-- A look at the queue whose turn it is: the turn goes on, or it is served. -/
def micro (t : Tu) : Tu ⊕ (Tu × Int × Int) :=
  match (t.q t.at').costs with
  | [] => .inl t.on
  | c :: cs => if t.d < c then .inl (t.put ⟨(t.q t.at').id, (t.q t.at').quantum, t.d, c :: cs⟩).on
    else .inr (if cs = [] then (t.put ⟨(t.q t.at').id, (t.q t.at').quantum, 0, cs⟩).on else t.put ⟨(t.q t.at').id, (t.q t.at').quantum, t.d - c, cs⟩, (t.q t.at').id, c)
theorem Tu.put_q (t : Tu) (q : Qu) (h : t.at' < t.qs.length) : (t.put q).q t.at' = q := by unfold Tu.put Tu.q; simp [List.getD_eq_getElem?_getD, h]
theorem Tu.put_o (t : Tu) (q : Qu) {k : Nat} (h : k ≠ t.at') : (t.put q).q k = t.q k := by unfold Tu.put Tu.q; simp [List.getD_eq_getElem?_getD, Ne.symm h]
theorem Tu.put_len (t : Tu) (q : Qu) : (t.put q).qs.length = t.qs.length := by unfold Tu.put; simp
theorem Tu.on_q (t : Tu) (k : Nat) : t.on.q k = t.q k := rfl
theorem Tu.on_len (t : Tu) : t.on.qs.length = t.qs.length := rfl
/-- How far it is from place s on, round the ring, to place x. -/
def far (m x s : Nat) : Nat := (x + m - s) % m
theorem far_self (m x : Nat) (h : x < m) : far m x x = 0 := by unfold far; rw [show x + m - x = m by omega]; exact Nat.mod_self m
theorem far_is (m x s : Nat) (hx : x < m) (hs : s < m) : far m x s = if s ≤ x then x - s else x + m - s := by
  unfold far
  split
  · rw [show x + m - s = x - s + m by omega, Nat.add_mod_right]
    exact Nat.mod_eq_of_lt (by omega)
  · exact Nat.mod_eq_of_lt (by omega)
theorem next_is (m s : Nat) (hs : s < m) : (s + 1) % m = if s + 1 = m then 0 else s + 1 := by
  split
  · rename_i h; rw [h]; exact Nat.mod_self m
  · exact Nat.mod_eq_of_lt (by omega)
theorem far_next (m x s : Nat) (hx : x < m) (hs : s < m) : far m x ((s + 1) % m) = if x = s then m - 1 else far m x s - 1 := by
  have hn := next_is m s hs
  have hl : (s + 1) % m < m := Nat.mod_lt _ (by omega)
  rw [far_is m x _ hx hl, far_is m x s hx hs, hn]
  by_cases e : x = s
  · subst e
    rw [if_pos rfl]
    by_cases e2 : x + 1 = m
    · rw [if_pos e2]; simp; omega
    · rw [if_neg e2, if_neg (by omega)]; omega
  · rw [if_neg e]
    by_cases e2 : s + 1 = m
    · rw [if_pos e2]
      by_cases e3 : s ≤ x
      · omega
      · rw [if_neg e3]; simp; omega
    · rw [if_neg e2]
      by_cases e3 : s ≤ x
      · rw [if_pos (by omega), if_pos e3]; omega
      · rw [if_neg (by omega), if_neg e3]; omega
/-- From where on the quanta that are still to be added come. -/
def Tu.st (t : Tu) : Nat := if t.fresh = true then (t.at' + 1) % t.qs.length else t.at'
/-- Does i get its quantum ahead of j? -/
def bef (m i j s : Nat) : Int := if far m i s < far m j s then 1 else 0
theorem bef_pass (m i j y : Nat) (hi : i < m) (hj : j < m) (hy : y < m) (h1 : i ≠ y) (h2 : j ≠ y) : bef m i j ((y + 1) % m) = bef m i j y := by
  have a := far_next m i y hi hy
  have b := far_next m j y hj hy
  rw [if_neg h1] at a
  rw [if_neg h2] at b
  have c := far_is m i y hi hy
  have d := far_is m j y hj hy
  have c1 : 1 ≤ far m i y := by rw [c]; split <;> omega
  have d1 : 1 ≤ far m j y := by rw [d]; split <;> omega
  unfold bef
  rw [a, b]
  by_cases e : far m i y < far m j y
  · rw [if_pos e, if_pos (by omega)]
  · rw [if_neg e, if_neg (by omega)]
theorem bef_i (m i j : Nat) (hi : i < m) (hj : j < m) (hij : i ≠ j) : bef m i j i = 1 ∧ bef m i j ((i + 1) % m) = 0 := by
  have a := far_next m i i hi hi
  have b := far_next m j i hj hi
  rw [if_pos rfl] at a
  rw [if_neg (Ne.symm hij)] at b
  have c := far_self m i hi
  have d := far_is m j i hj hi
  have d1 : 1 ≤ far m j i ∧ far m j i < m := by rw [d]; split <;> omega
  unfold bef
  rw [a, b, c]
  exact ⟨if_pos (by omega), if_neg (by omega)⟩
theorem bef_j (m i j : Nat) (hi : i < m) (hj : j < m) (hij : i ≠ j) : bef m i j j = 0 ∧ bef m i j ((j + 1) % m) = 1 := by
  have a := far_next m i j hi hj
  have b := far_next m j j hj hj
  rw [if_neg hij] at a
  rw [if_pos rfl] at b
  have c := far_self m j hj
  have d := far_is m i j hi hj
  have d1 : 1 ≤ far m i j ∧ far m i j < m := by rw [d]; split <;> omega
  unfold bef
  rw [a, b, c]
  exact ⟨if_neg (by omega), if_pos (by omega)⟩
/-- How it stands with queue x, V quanta and s of cost behind the beginning, at which it had p a turn and D0 to spend. -/
structure Acc (t : Tu) (x : Nat) (p D0 C : Int) (V s : Int) : Prop where
  quantum : (t.q x).quantum = p
  sum : s = V * p + D0 - (t.q x).deficit
  low : 0 ≤ (t.q x).deficit
  high : (t.q x).deficit ≤ (if x = t.at' ∧ t.fresh = true then C + p else C)
  cost : ∀ c ∈ (t.q x).costs, 1 ≤ c ∧ c ≤ C
/-- By how much a look adds quanta to x. -/
def adds (t : Tu) (x : Nat) : Int := if x = t.at' ∧ t.fresh = false ∧ (t.q x).costs ≠ [] then 1 else 0
theorem Acc.on {t : Tu} {x : Nat} {p D0 C V s : Int} (hp : 0 ≤ p) (h : Acc t x p D0 C V s) (hd : (t.q x).deficit ≤ C) : Acc t.on x p D0 C V s := ⟨h.quantum, h.sum, h.low, by
  show (t.q x).deficit ≤ _
  split
  · omega
  · exact hd, h.cost⟩
/-- A look that serves nobody. -/
theorem Acc.inl {t t' : Tu} {x : Nat} {p D0 C V s : Int} (h : Acc t x p D0 C V s) (hp : 1 ≤ p) (ha : t.at' < t.qs.length) (hw : (t.q x).costs ≠ []) (hm : micro t = .inl t') : Acc t' x p D0 C (V + adds t x) s := by
  unfold micro at hm
  cases hc : (t.q t.at').costs with
  | nil =>
    rw [hc] at hm
    simp only [Sum.inl.injEq] at hm
    subst hm
    have hz : adds t x = 0 := by
      unfold adds
      rw [if_neg]
      rintro ⟨e1, -, e3⟩
      rw [e1] at e3
      exact e3 hc
    rw [hz, Int.add_zero]
    by_cases e : x = t.at' ∧ t.fresh = true
    · exact absurd (by rw [e.1]; exact hc) hw
    · exact h.on (by omega) (by have := h.high; rw [if_neg e] at this; exact this)
  | cons c cs =>
    rw [hc] at hm
    simp only at hm
    split at hm
    · rename_i hlt
      simp only [Sum.inl.injEq] at hm
      subst hm
      by_cases e : x = t.at'
      · subst e
        have hq := t.put_q ⟨(t.q t.at').id, (t.q t.at').quantum, t.d, c :: cs⟩ ha
        have hcc := h.cost c (by rw [hc]; simp)
        have hdd : t.d = (t.q t.at').deficit + (if t.fresh = true then 0 else p) := by unfold Tu.d; rw [h.quantum]
        refine Acc.on (by omega) ⟨?_, ?_, ?_, ?_, ?_⟩ ?_
        · rw [hq]; exact h.quantum
        · rw [hq]
          have hs := h.sum
          have had : adds t t.at' = if t.fresh = true then 0 else 1 := by
            unfold adds
            cases t.fresh <;> simp [hc]
          rw [had]
          show s = (V + _) * p + D0 - t.d
          rw [hdd]
          cases t.fresh <;> simp [Int.add_mul] <;> omega
        · rw [hq]
          show 0 ≤ t.d
          rw [hdd]
          have := h.low
          split <;> omega
        · rw [hq]
          show t.d ≤ _
          rw [if_pos ⟨rfl, rfl⟩]
          omega
        · rw [hq]
          intro z hz
          exact h.cost z (by rw [hc]; exact hz)
        · rw [hq]
          show t.d ≤ C
          omega
      · have hq := t.put_o ⟨(t.q t.at').id, (t.q t.at').quantum, t.d, c :: cs⟩ e
        have hz : adds t x = 0 := by unfold adds; rw [if_neg (by rintro ⟨e1, -⟩; exact e e1)]
        have hh := h.high
        rw [if_neg (by rintro ⟨e1, -⟩; exact e e1)] at hh
        rw [hz, Int.add_zero]
        refine Acc.on (by omega) ⟨by rw [hq]; exact h.quantum, by rw [hq]; exact h.sum, by rw [hq]; exact h.low, ?_, by rw [hq]; exact h.cost⟩ (by rw [hq]; exact hh)
        rw [hq]
        split <;> omega
    · cases hm
/-- A look that serves. -/
theorem Acc.inr {t t' : Tu} {x : Nat} {id c : Int} {p D0 C V s : Int} (h : Acc t x p D0 C V s) (hp : 1 ≤ p) (ha : t.at' < t.qs.length) (hm : micro t = .inr (t', id, c)) (hw : (t'.q x).costs ≠ []) : Acc t' x p D0 C (V + adds t x) (s + (if x = t.at' then c else 0)) := by
  unfold micro at hm
  cases hc : (t.q t.at').costs with
  | nil => rw [hc] at hm; simp at hm
  | cons c1 cs =>
    rw [hc] at hm
    simp only at hm
    split at hm
    · cases hm
    · rename_i hnl
      simp only [Sum.inr.injEq, Prod.mk.injEq] at hm
      obtain ⟨rfl, -, rfl⟩ := hm
      by_cases e : x = t.at'
      · subst e
        have hcs : cs ≠ [] := by
          rintro rfl
          rw [if_pos rfl, Tu.on_q, t.put_q _ ha] at hw
          exact hw rfl
        rw [if_neg hcs]
        have hq := t.put_q ⟨(t.q t.at').id, (t.q t.at').quantum, t.d - c1, cs⟩ ha
        have hcc := h.cost c1 (by rw [hc]; simp)
        have hdd : t.d = (t.q t.at').deficit + (if t.fresh = true then 0 else p) := by unfold Tu.d; rw [h.quantum]
        refine ⟨?_, ?_, ?_, ?_, ?_⟩
        · rw [hq]; exact h.quantum
        · rw [hq]
          have hs := h.sum
          have had : adds t t.at' = if t.fresh = true then 0 else 1 := by
            unfold adds
            cases t.fresh <;> simp [hc]
          rw [had, if_pos rfl]
          show s + c1 = (V + _) * p + D0 - (t.d - c1)
          rw [hdd]
          cases t.fresh <;> simp [Int.add_mul] <;> omega
        · rw [hq]
          show 0 ≤ t.d - c1
          omega
        · rw [hq]
          show t.d - c1 ≤ _
          have hh := h.high
          rw [if_pos ⟨rfl, rfl⟩]
          rw [hdd]
          cases hf : t.fresh with
          | true => rw [hf, if_pos ⟨rfl, rfl⟩] at hh; simp; omega
          | false => rw [hf, if_neg (by simp)] at hh; simp; omega
        · rw [hq]
          intro z hz
          exact h.cost z (by rw [hc]; exact List.mem_cons_of_mem _ hz)
      · have hz : adds t x = 0 := by unfold adds; rw [if_neg (by rintro ⟨e1, -⟩; exact e e1)]
        have hh := h.high
        rw [if_neg (by rintro ⟨e1, -⟩; exact e e1)] at hh
        rw [hz, Int.add_zero, if_neg e, Int.add_zero]
        split
        · have hq := t.put_o ⟨(t.q t.at').id, (t.q t.at').quantum, 0, cs⟩ e
          refine Acc.on (by omega) ⟨by rw [hq]; exact h.quantum, by rw [hq]; exact h.sum, by rw [hq]; exact h.low, ?_, by rw [hq]; exact h.cost⟩ (by rw [hq]; exact hh)
          rw [hq]
          split <;> omega
        · have hq := t.put_o ⟨(t.q t.at').id, (t.q t.at').quantum, t.d - c1, cs⟩ e
          refine ⟨by rw [hq]; exact h.quantum, by rw [hq]; exact h.sum, by rw [hq]; exact h.low, ?_, by rw [hq]; exact h.cost⟩
          rw [hq]
          split <;> omega
/-- What a look leaves of the ring. -/
structure Ring (t t' : Tu) : Prop where
  len : t'.qs.length = t.qs.length
  at_ : t'.at' < t'.qs.length
  st : t'.st = (t.at' + 1) % t.qs.length
  same : ∀ k, (t'.q k).id = (t.q k).id ∧ (t'.q k).quantum = (t.q k).quantum ∧ (k ≠ t.at' → t'.q k = t.q k)
theorem Ring.on {t t' : Tu} (h : t'.qs.length = t.qs.length) (ha : t'.at' = t.at') (hl : t.at' < t.qs.length) (hs : ∀ k, (t'.q k).id = (t.q k).id ∧ (t'.q k).quantum = (t.q k).quantum ∧ (k ≠ t.at' → t'.q k = t.q k)) : Ring t t'.on := by
  refine ⟨h, ?_, ?_, hs⟩
  · show (t'.at' + 1) % t'.qs.length < t'.qs.length
    exact Nat.mod_lt _ (by omega)
  · unfold Tu.st Tu.on
    simp [h, ha]
theorem Ring.put {t : Tu} (q : Qu) (hl : t.at' < t.qs.length) (h1 : q.id = (t.q t.at').id) (h2 : q.quantum = (t.q t.at').quantum) : ∀ k, ((t.put q).q k).id = (t.q k).id ∧ ((t.put q).q k).quantum = (t.q k).quantum ∧ (k ≠ t.at' → (t.put q).q k = t.q k) := fun k => by
  by_cases e : k = t.at'
  · subst e
    rw [t.put_q q hl]
    exact ⟨h1, h2, fun h => absurd rfl h⟩
  · rw [t.put_o q e]
    exact ⟨rfl, rfl, fun _ => rfl⟩
theorem micro_ring {t : Tu} (hl : t.at' < t.qs.length) : (∀ t', micro t = .inl t' → Ring t t') ∧ ∀ t' id c, micro t = .inr (t', id, c) → Ring t t' ∧ id = (t.q t.at').id ∧ ∃ cs, (t.q t.at').costs = c :: cs ∧ (t'.q t.at').costs = cs := by
  constructor
  · intro t' hm
    unfold micro at hm
    cases hc : (t.q t.at').costs with
    | nil =>
      rw [hc] at hm
      simp only [Sum.inl.injEq] at hm
      subst hm
      exact Ring.on rfl rfl hl (fun k => ⟨rfl, rfl, fun _ => rfl⟩)
    | cons c cs =>
      rw [hc] at hm
      simp only at hm
      split at hm
      · simp only [Sum.inl.injEq] at hm
        subst hm
        exact Ring.on (t.put_len _) rfl hl (Ring.put _ hl rfl rfl)
      · cases hm
  · intro t' id c hm
    unfold micro at hm
    cases hc : (t.q t.at').costs with
    | nil => rw [hc] at hm; simp at hm
    | cons c1 cs =>
      rw [hc] at hm
      simp only at hm
      split at hm
      · cases hm
      · simp only [Sum.inr.injEq, Prod.mk.injEq] at hm
        obtain ⟨rfl, rfl, rfl⟩ := hm
        refine ⟨?_, rfl, cs, rfl, ?_⟩
        · split
          · exact Ring.on (t.put_len _) rfl hl (Ring.put _ hl rfl rfl)
          · refine ⟨t.put_len _, ?_, ?_, Ring.put _ hl rfl rfl⟩
            · rw [t.put_len]; exact hl
            · unfold Tu.st; rw [t.put_len]; rfl
        · split
          · rw [Tu.on_q, t.put_q _ hl]
          · rw [t.put_q _ hl]
theorem Ring.order {t t' : Tu} (h : Ring t t') {i j : Nat} (hl : t.at' < t.qs.length) (hi : i < t.qs.length) (hj : j < t.qs.length) (hij : i ≠ j) (wi : (t.q i).costs ≠ []) (wj : (t.q j).costs ≠ []) : adds t i - adds t j + bef t.qs.length i j t'.st = bef t.qs.length i j t.st := by
  rw [h.st]
  unfold Tu.st adds
  cases hf : t.fresh with
  | true => simp
  | false =>
    simp only [Bool.false_eq_true, if_false, true_and]
    by_cases e1 : i = t.at'
    · subst e1
      obtain ⟨b1, b2⟩ := bef_i _ _ _ hi hj hij
      rw [if_pos ⟨rfl, wi⟩, if_neg (by rintro ⟨e, -⟩; exact hij e.symm), b1, b2]
      rfl
    · by_cases e2 : j = t.at'
      · subst e2
        obtain ⟨b1, b2⟩ := bef_j _ _ _ hi hj hij
        rw [if_neg (by rintro ⟨e, -⟩; exact e1 e), if_pos ⟨rfl, wj⟩, b1, b2]
        rfl
      · rw [if_neg (by rintro ⟨e, -⟩; exact e1 e), if_neg (by rintro ⟨e, -⟩; exact e2 e), bef_pass _ _ _ _ hi hj hl e1 e2]
        omega
/-- Looks until a queue is served. -/
def run : Nat → Tu → Option (Tu × Int × Int)
  | 0, _ => none
  | n + 1, t => match micro t with
    | .inl t' => run n t'
    | .inr r => some r
theorem run_more : ∀ (n k : Nat) (t : Tu) (r : Tu × Int × Int), run n t = some r → run (n + k) t = some r
  | 0, k, t, r, h => by simp [run] at h
  | n + 1, k, t, r, h => by
    rw [show n + 1 + k = n + k + 1 by omega]
    unfold run at h ⊢
    cases hm : micro t with
    | inl t' => rw [hm] at h; exact run_more n k t' r h
    | inr r' => rw [hm] at h; exact h
/-- Both queues, as they stand. -/
structure FI (t : Tu) (i j : Nat) (p q Di Dj C a : Int) (Vi Vj si sj : Int) : Prop where
  lt : t.at' < t.qs.length
  hi : i < t.qs.length
  hj : j < t.qs.length
  ai : Acc t i p Di C Vi si
  aj : Acc t j q Dj C Vj sj
  ord : Vi - Vj + bef t.qs.length i j t.st = a
theorem FI.run {i j : Nat} {p q Di Dj C a : Int} (hp : 1 ≤ p) (hq : 1 ≤ q) (hij : i ≠ j) : ∀ (n : Nat) {t t' : Tu} {id c : Int} {Vi Vj si sj : Int}, FI t i j p q Di Dj C a Vi Vj si sj → (t.q i).costs ≠ [] → (t.q j).costs ≠ [] → run n t = some (t', id, c) → (t'.q i).costs ≠ [] → (t'.q j).costs ≠ [] →
    ∃ k Vi' Vj', k < t.qs.length ∧ t'.qs.length = t.qs.length ∧ id = (t.q k).id ∧ (∀ m, (t'.q m).id = (t.q m).id ∧ (t'.q m).quantum = (t.q m).quantum) ∧ FI t' i j p q Di Dj C a Vi' Vj' (si + (if i = k then c else 0)) (sj + (if j = k then c else 0))
  | 0, t, t', id, c, Vi, Vj, si, sj, h, wi, wj, hr, wi', wj' => by simp [Go.Proofs.Ytelhjdplghpnbab.run] at hr
  | n + 1, t, t', id, c, Vi, Vj, si, sj, h, wi, wj, hr, wi', wj' => by
    unfold Go.Proofs.Ytelhjdplghpnbab.run at hr
    obtain ⟨r1, r2⟩ := micro_ring h.lt
    cases hm : micro t with
    | inl t1 =>
      rw [hm] at hr
      have hR := r1 t1 hm
      have hor := hR.order h.lt h.hi h.hj hij wi wj
      have hcost : ∀ x, (t.q x).costs ≠ [] → (t1.q x).costs ≠ [] := fun x hx => by
        by_cases e : x = t.at'
        · subst e
          unfold micro at hm
          cases hc : (t.q t.at').costs with
          | nil => exact absurd hc hx
          | cons c1 cs =>
            rw [hc] at hm
            simp only at hm
            split at hm
            · simp only [Sum.inl.injEq] at hm
              subst hm
              rw [Tu.on_q, t.put_q _ h.lt]
              simp
            · cases hm
        · rw [(hR.same x).2.2 e]; exact hx
      have h1 : FI t1 i j p q Di Dj C a (Vi + adds t i) (Vj + adds t j) si sj := ⟨hR.at_, by rw [hR.len]; exact h.hi, by rw [hR.len]; exact h.hj, h.ai.inl hp h.lt wi hm, h.aj.inl hq h.lt wj hm, by have := h.ord; rw [hR.len]; omega⟩
      obtain ⟨k, Vi', Vj', k1, k2, k3, k4, k5⟩ := FI.run hp hq hij n h1 (hcost i wi) (hcost j wj) hr wi' wj'
      refine ⟨k, Vi', Vj', by rw [← hR.len]; exact k1, by rw [k2, hR.len], by rw [k3, (hR.same k).1], fun m => ⟨(k4 m).1.trans (hR.same m).1, (k4 m).2.trans (hR.same m).2.1⟩, k5⟩
    | inr r =>
      rw [hm] at hr
      simp only [Option.some.injEq] at hr
      subst hr
      obtain ⟨hR, hid, -⟩ := r2 _ _ _ hm
      have hor := hR.order h.lt h.hi h.hj hij wi wj
      exact ⟨t.at', _, _, h.lt, hR.len, hid, fun m => ⟨(hR.same m).1, (hR.same m).2.1⟩, hR.at_, by rw [hR.len]; exact h.hi, by rw [hR.len]; exact h.hj, h.ai.inr hp h.lt hm wi', h.aj.inr hq h.lt hm wj', by have := h.ord; rw [hR.len]; omega⟩
theorem bef_01 (m i j s : Nat) : 0 ≤ bef m i j s ∧ bef m i j s ≤ 1 := by unfold bef; split <;> omega
theorem FI.start {t : Tu} {i j : Nat} {C : Int} (hl : t.at' < t.qs.length) (hi : i < t.qs.length) (hj : j < t.qs.length) (di : 0 ≤ (t.q i).deficit ∧ (t.q i).deficit ≤ C) (dj : 0 ≤ (t.q j).deficit ∧ (t.q j).deficit ≤ C) (pi : 1 ≤ (t.q i).quantum) (pj : 1 ≤ (t.q j).quantum) (ci : ∀ c ∈ (t.q i).costs, 1 ≤ c ∧ c ≤ C) (cj : ∀ c ∈ (t.q j).costs, 1 ≤ c ∧ c ≤ C) :
    FI t i j (t.q i).quantum (t.q j).quantum (t.q i).deficit (t.q j).deficit C (bef t.qs.length i j t.st) 0 0 0 0 :=
  ⟨hl, hi, hj, ⟨rfl, by omega, di.1, by split <;> omega, ci⟩, ⟨rfl, by omega, dj.1, by split <;> omega, cj⟩, by omega⟩
/-- FAIRNESS. -/
theorem FI.fair {t : Tu} {i j : Nat} {p q Di Dj C a Vi Vj si sj : Int} (h : FI t i j p q Di Dj C a Vi Vj si sj) (hp : 1 ≤ p) (hq : 1 ≤ q) (hC : 0 ≤ C) (ha : 0 ≤ a ∧ a ≤ 1) (hDi : 0 ≤ Di ∧ Di ≤ C) (hDj : 0 ≤ Dj ∧ Dj ≤ C) :
    si * q - sj * p ≤ 3 * p * q + C * (p + q) ∧ -(3 * p * q + C * (p + q)) ≤ si * q - sj * p := by
  obtain ⟨b0, b1⟩ := bef_01 t.qs.length i j t.st
  have ho := h.ord
  have hV : Vi - Vj = -1 ∨ Vi - Vj = 0 ∨ Vi - Vj = 1 := by omega
  have e1 := h.ai.sum
  have e2 := h.aj.sum
  have l1 := h.ai.low
  have l2 := h.aj.low
  have u1 : (t.q i).deficit ≤ C + p := by have := h.ai.high; split at this <;> omega
  have u2 : (t.q j).deficit ≤ C + q := by have := h.aj.high; split at this <;> omega
  generalize (t.q i).deficit = x at *
  generalize (t.q j).deficit = y at *
  have hsi : si * q = Vi * p * q + (Di - x) * q := by rw [e1, show Vi * p + Di - x = Vi * p + (Di - x) by omega, Int.add_mul]
  have hsj : sj * p = Vj * p * q + (Dj - y) * p := by
    rw [e2, show Vj * q + Dj - y = Vj * q + (Dj - y) by omega, Int.add_mul, Int.mul_assoc, Int.mul_comm q p, ← Int.mul_assoc]
  have hpq : 0 ≤ p * q := Int.mul_nonneg (by omega) (by omega)
  have m1 : (Di - x) * q ≤ C * q := Int.mul_le_mul_of_nonneg_right (by omega) (by omega)
  have m2 : -(C + p) * q ≤ (Di - x) * q := Int.mul_le_mul_of_nonneg_right (by omega) (by omega)
  have m3 : (Dj - y) * p ≤ C * p := Int.mul_le_mul_of_nonneg_right (by omega) (by omega)
  have m4 : -(C + q) * p ≤ (Dj - y) * p := Int.mul_le_mul_of_nonneg_right (by omega) (by omega)
  have n2 : -(C + p) * q = -(C * q) - p * q := by rw [Int.neg_mul, Int.add_mul]; omega
  have n4 : -(C + q) * p = -(C * p) - p * q := by rw [Int.neg_mul, Int.add_mul, Int.mul_comm q p]; omega
  have hc : C * (p + q) = C * p + C * q := Int.mul_add _ _ _
  have h3 : 3 * p * q = 3 * (p * q) := Int.mul_assoc _ _ _
  have hd : Vi * p * q - Vj * p * q = (Vi - Vj) * (p * q) := by rw [Int.sub_mul, Int.mul_assoc, Int.mul_assoc]
  have hk : (Vi - Vj) * (p * q) ≤ p * q ∧ -(p * q) ≤ (Vi - Vj) * (p * q) := by
    rcases hV with e | e | e <;> rw [e] <;> constructor <;> omega
  rw [hsi, hsj, hc, h3]
  rw [n2] at m2
  rw [n4] at m4
  generalize (Di - x) * q = A at *
  generalize (Dj - y) * p = B at *
  generalize (Vi - Vj) * (p * q) = K at *
  generalize p * q = P at *
  generalize C * q = Cq at *
  generalize C * p = Cp at *
  generalize Vi * p * q = X at *
  generalize Vj * p * q = Y at *
  omega
end Go.Proofs.Ytelhjdplghpnbab
