import Derived.Test.YtelhjdplghpnbabSdG
/-! Rounds that serve nobody, gone through at once, plainly. -/
namespace Go.Proofs.Ytelhjdplghpnbab
set_option linter.unusedVariables false
set_option linter.unusedSimpArgs false

def skipQ (k : Nat) (q : Qu) : Qu := if q.costs = [] then q else ⟨q.id, q.quantum, q.deficit + k * q.quantum, q.costs⟩
def skipT (k : Nat) (t : Tu) : Tu := ⟨t.qs.map (skipQ k), t.at', t.fresh⟩
theorem skipQ_zero (q : Qu) : skipQ 0 q = q := by unfold skipQ; split <;> simp
theorem skipQ_zeroq (k : Nat) : skipQ k Qu.zero = Qu.zero := by simp [skipQ, Qu.zero]
theorem skipT_q (k : Nat) (t : Tu) (j : Nat) : (skipT k t).q j = skipQ k (t.q j) := by
  unfold skipT Tu.q
  simp only [List.getD_eq_getElem?_getD, List.getElem?_map]
  cases h : t.qs[j]? with
  | none => simp [skipQ_zeroq]
  | some x => simp
theorem skipT_len (k : Nat) (t : Tu) : (skipT k t).qs.length = t.qs.length := by simp [skipT]
theorem skipT_zero (t : Tu) : skipT 0 t = t := by
  unfold skipT
  have : t.qs.map (skipQ 0) = t.qs := by
    rw [show (skipQ 0) = id from funext skipQ_zero]; simp
  rw [this]
theorem skipQ_add (k : Nat) (q : Qu) : skipQ 1 (skipQ k q) = skipQ (k + 1) q := by
  unfold skipQ
  by_cases h : q.costs = []
  · simp [h]
  · simp only [if_neg h]
    congr 1
    rw [show ((k + 1 : Nat) : Int) = k + 1 by omega, Int.add_mul]
    simp
    omega
theorem skipT_add (k : Nat) (t : Tu) : skipT 1 (skipT k t) = skipT (k + 1) t := by
  unfold skipT
  simp [skipQ_add]
/-- Within a round, p looks behind its beginning at place a. -/
def partQ (t : Tu) (p j : Nat) : Qu := if far t.qs.length j t.at' < p then skipQ 1 (t.q j) else t.q j
def partT (t : Tu) (p : Nat) : Tu := ⟨(List.range t.qs.length).map (partQ t p), (t.at' + p) % t.qs.length, false⟩
theorem partT_len (t : Tu) (p : Nat) : (partT t p).qs.length = t.qs.length := by simp [partT]
theorem partT_q (t : Tu) (p : Nat) {j : Nat} (hj : j < t.qs.length) : (partT t p).q j = partQ t p j := by
  unfold partT Tu.q
  simp [List.getD_eq_getElem?_getD, hj]
theorem far_lt (m x s : Nat) (hx : x < m) : far m x s < m := Nat.mod_lt _ (by omega)
theorem far_add (m s p : Nat) (hs : s < m) (hp : p < m) : far m ((s + p) % m) s = p := by
  have hl : (s + p) % m < m := Nat.mod_lt _ (by omega)
  rw [far_is m _ s hl hs]
  by_cases h : s + p < m
  · rw [Nat.mod_eq_of_lt h, if_pos (by omega)]; omega
  · have e : (s + p) % m = s + p - m := by
      rw [Nat.mod_eq_sub_mod (by omega), Nat.mod_eq_of_lt (by omega)]
    rw [e, if_neg (by omega)]; omega
theorem far_inj (m x y s : Nat) (hx : x < m) (hy : y < m) (hs : s < m) (h : far m x s = far m y s) : x = y := by
  rw [far_is m x s hx hs, far_is m y s hy hs] at h
  split at h <;> split at h <;> omega
theorem tu_ext {a b : Tu} (hl : a.qs.length = b.qs.length) (h : ∀ j, j < a.qs.length → a.q j = b.q j) (ha : a.at' = b.at') (hf : a.fresh = b.fresh) : a = b := by
  cases a; cases b
  simp only at *
  subst ha hf
  congr 1
  apply List.ext_getElem hl
  intro j h1 h2
  have := h j h1
  simpa [Tu.q, List.getD_eq_getElem?_getD, h1, h2] using this
theorem part_step {t : Tu} (hl : t.at' < t.qs.length) {p : Nat} (hp : p < t.qs.length) (hr : ∀ j, j < t.qs.length → ∀ c cs, (t.q j).costs = c :: cs → (t.q j).deficit + (t.q j).quantum < c) : micro (partT t p) = .inl (partT t (p + 1)) := by
  have hx : (t.at' + p) % t.qs.length < t.qs.length := Nat.mod_lt _ (by omega)
  obtain ⟨x, hxe⟩ : ∃ x, (t.at' + p) % t.qs.length = x := ⟨_, rfl⟩
  have hfx : far t.qs.length x t.at' = p := by rw [← hxe]; exact far_add _ _ _ hl hp
  rw [hxe] at hx
  have hat : (partT t p).at' = x := hxe
  have hq : (partT t p).q x = t.q x := by rw [partT_q t p hx]; unfold partQ; rw [hfx, if_neg (by omega)]
  have hoth : ∀ j, j < t.qs.length → j ≠ x → partQ t (p + 1) j = partQ t p j := fun j hj hne => by
    unfold partQ
    have hnp : far t.qs.length j t.at' ≠ p := fun e => hne (far_inj _ _ _ _ hj hx hl (e.trans hfx.symm))
    by_cases h : far t.qs.length j t.at' < p
    · rw [if_pos h, if_pos (by omega)]
    · rw [if_neg h, if_neg (by omega)]
  have hown : partQ t (p + 1) x = skipQ 1 (t.q x) := by unfold partQ; rw [hfx, if_pos (by omega)]
  have hnx : (x + 1) % t.qs.length = (t.at' + (p + 1)) % t.qs.length := by rw [← hxe, ← Nat.add_assoc, Nat.mod_add_mod]
  unfold micro
  rw [hat, hq]
  cases hc : (t.q x).costs with
  | nil =>
    simp only [Sum.inl.injEq]
    refine tu_ext ?_ (fun j hj => ?_) ?_ rfl
    · rw [Tu.on_len, partT_len, partT_len]
    · rw [Tu.on_len, partT_len] at hj
      rw [Tu.on_q, partT_q t p hj, partT_q t (p + 1) hj]
      by_cases e : j = x
      · subst e
        rw [hown]
        unfold partQ
        rw [hfx, if_neg (by omega)]
        unfold skipQ
        rw [if_pos hc]
      · exact (hoth j hj e).symm
    · show ((partT t p).at' + 1) % (partT t p).qs.length = (t.at' + (p + 1)) % t.qs.length
      rw [hat, partT_len]
      exact hnx
  | cons c cs =>
    have hd : (partT t p).d = (t.q x).deficit + (t.q x).quantum := by unfold Tu.d; rw [hat, hq]; rfl
    simp only [hd, if_pos (hr x hx c cs hc), Sum.inl.injEq]
    refine tu_ext ?_ (fun j hj => ?_) ?_ rfl
    · rw [Tu.on_len, Tu.put_len, partT_len, partT_len]
    · rw [Tu.on_len, Tu.put_len, partT_len] at hj
      rw [Tu.on_q, partT_q t (p + 1) hj]
      by_cases e : j = x
      · subst e
        have := (partT t p).put_q ⟨(t.q j).id, (t.q j).quantum, (t.q j).deficit + (t.q j).quantum, c :: cs⟩ (by rw [hat, partT_len]; exact hx)
        rw [hat] at this
        rw [this, hown]
        unfold skipQ
        rw [if_neg (by rw [hc]; simp), hc]
        simp
      · have := (partT t p).put_o ⟨(t.q x).id, (t.q x).quantum, (t.q x).deficit + (t.q x).quantum, c :: cs⟩ (k := j) (by rw [hat]; exact e)
        rw [this, partT_q t p hj]
        exact (hoth j hj e).symm
    · show ((partT t p).at' + 1) % ((partT t p).put _).qs.length = (t.at' + (p + 1)) % t.qs.length
      rw [hat, Tu.put_len, partT_len]
      exact hnx
theorem part_zero {t : Tu} (hl : t.at' < t.qs.length) (hf : t.fresh = false) : partT t 0 = t := by
  refine tu_ext (partT_len t 0) (fun j hj => ?_) ?_ hf.symm
  · rw [partT_len] at hj
    rw [partT_q t 0 hj]
    unfold partQ
    rw [if_neg (by omega)]
  · show (t.at' + 0) % t.qs.length = t.at'
    exact Nat.mod_eq_of_lt hl
theorem part_full {t : Tu} (hl : t.at' < t.qs.length) (hf : t.fresh = false) : partT t t.qs.length = skipT 1 t := by
  refine tu_ext (by rw [partT_len, skipT_len]) (fun j hj => ?_) ?_ hf.symm
  · rw [partT_len] at hj
    rw [partT_q t _ hj, skipT_q]
    unfold partQ
    rw [if_pos (far_lt _ _ _ hj)]
  · show (t.at' + t.qs.length) % t.qs.length = t.at'
    rw [Nat.add_mod_right]
    exact Nat.mod_eq_of_lt hl
theorem part_run {t : Tu} (hl : t.at' < t.qs.length) (hr : ∀ j, j < t.qs.length → ∀ c cs, (t.q j).costs = c :: cs → (t.q j).deficit + (t.q j).quantum < c) (n : Nat) : ∀ p, p ≤ t.qs.length → run (n + p) (partT t (t.qs.length - p)) = run n (partT t t.qs.length)
  | 0, _ => by rw [Nat.sub_zero, Nat.add_zero]
  | p + 1, hp => by
    have ih := part_run hl hr n p (by omega)
    rw [← ih, ← Nat.add_assoc]
    conv => lhs; unfold run
    rw [part_step hl (p := t.qs.length - (p + 1)) (by omega) hr]
    simp only
    rw [show t.qs.length - (p + 1) + 1 = t.qs.length - p by omega]
/-- A whole round that serves nobody. -/
theorem round_run {t : Tu} (hl : t.at' < t.qs.length) (hf : t.fresh = false) (hr : ∀ j, j < t.qs.length → ∀ c cs, (t.q j).costs = c :: cs → (t.q j).deficit + (t.q j).quantum < c) (n : Nat) : run (n + t.qs.length) t = run n (skipT 1 t) := by
  have := part_run hl hr n t.qs.length (Nat.le_refl _)
  rw [Nat.sub_self, part_zero hl hf, part_full hl hf] at this
  exact this
/-- k of them. -/
theorem skip_run (k : Nat) : ∀ {t : Tu}, t.at' < t.qs.length → t.fresh = false → (∀ j, j < t.qs.length → 0 ≤ (t.q j).quantum) → (∀ j, j < t.qs.length → ∀ c cs, (t.q j).costs = c :: cs → (t.q j).deficit + k * (t.q j).quantum < c) → ∀ n, run (n + k * t.qs.length) t = run n (skipT k t) := by
  induction k with
  | zero => intro t _ _ _ _ n; rw [Nat.zero_mul, Nat.add_zero, skipT_zero]
  | succ k ih =>
    intro t hl hf hq hr n
    have h0 : ∀ j, j < t.qs.length → ∀ c cs, (t.q j).costs = c :: cs → (t.q j).deficit + k * (t.q j).quantum < c := fun j hj c cs hc => by
      have h1 := hr j hj c cs hc
      have h2 := hq j hj
      rw [show ((k + 1 : Nat) : Int) = k + 1 by omega, Int.add_mul] at h1
      omega
    have e : n + (k + 1) * t.qs.length = (n + t.qs.length) + k * t.qs.length := by rw [Nat.add_mul]; omega
    rw [e, ih hl hf hq h0 (n + t.qs.length)]
    have hlen := skipT_len k t
    have := round_run (t := skipT k t) (by rw [hlen]; exact hl) hf (fun j hj c cs hc => ?_) n
    · rw [hlen, skipT_add] at this
      exact this
    · rw [hlen] at hj
      rw [skipT_q] at hc ⊢
      have hcs : (t.q j).costs = c :: cs := by
        unfold skipQ at hc
        split at hc <;> exact hc
      have h1 := hr j hj c cs hcs
      unfold skipQ
      rw [if_neg (by rw [hcs]; simp)]
      show (t.q j).deficit + k * (t.q j).quantum + (t.q j).quantum < c
      rw [show ((k + 1 : Nat) : Int) = k + 1 by omega, Int.add_mul] at h1
      omega
/-- How many rounds serve nobody: the least of what those that wait lack, by their quanta. -/
def missQ (q : Qu) : Int := (q.costs.headD 0 - q.deficit - 1) / q.quantum
def idleL : List Qu → Int → Int
  | [], z => z
  | q :: l, z => idleL l (if q.costs = [] then z else min z (missQ q))
theorem idleL_le : ∀ (l : List Qu) (z : Int), idleL l z ≤ z ∧ ∀ q ∈ l, q.costs ≠ [] → idleL l z ≤ missQ q
  | [], z => ⟨Int.le_refl _, by simp⟩
  | q :: l, z => by
    unfold idleL
    obtain ⟨h1, h2⟩ := idleL_le l (if q.costs = [] then z else min z (missQ q))
    constructor
    · by_cases hc : q.costs = []
      · rw [if_pos hc] at h1 ⊢; exact h1
      · rw [if_neg hc] at h1 ⊢; omega
    · intro q' hq' hw
      rcases List.mem_cons.mp hq' with rfl | h
      · rw [if_neg hw] at h1 ⊢; omega
      · exact h2 q' h hw
theorem idleL_nonneg : ∀ (l : List Qu) (z : Int), 0 ≤ z → (∀ q ∈ l, q.costs ≠ [] → 0 ≤ missQ q) → 0 ≤ idleL l z
  | [], z, h, _ => h
  | q :: l, z, h, hq => by
    unfold idleL
    refine idleL_nonneg l _ ?_ (fun q' h' => hq q' (List.mem_cons_of_mem _ h'))
    split
    · exact h
    · rename_i hw
      have := hq q (by simp) hw
      omega
theorem Tu.q_mem {t : Tu} {j : Nat} (hj : j < t.qs.length) : t.q j ∈ t.qs := by
  unfold Tu.q
  simp [List.getD_eq_getElem?_getD, hj]
/-- Who waits lacks something. -/
def Lack (t : Tu) : Prop := ∀ j, j < t.qs.length → ∀ c cs, (t.q j).costs = c :: cs → (t.q j).deficit < c
theorem missQ_nonneg {t : Tu} (h : OkT t) (hk : Lack t) : ∀ q ∈ t.qs, q.costs ≠ [] → 0 ≤ missQ q := by
  intro q hq hw
  obtain ⟨j, hj, rfl⟩ := List.mem_iff_getElem.mp hq
  have e : t.q j = t.qs[j] := by unfold Tu.q; simp [List.getD_eq_getElem?_getD, hj]
  have h1 := h.quantum j hj
  rw [e] at h1
  cases hc : t.qs[j].costs with
  | nil => exact absurd hc hw
  | cons c cs =>
    have := hk j hj c cs (by rw [e]; exact hc)
    rw [e] at this
    unfold missQ
    rw [hc]
    exact Int.ediv_nonneg (by simp; omega) (by omega)
/-- They are skipped at once. -/
theorem skip_all {t : Tu} (h : OkT t) (hk : Lack t) (hf : t.fresh = false) : OkT (skipT (idleL t.qs 1048576).toNat t) ∧ 0 ≤ idleL t.qs 1048576 ∧ idleL t.qs 1048576 ≤ 1048576 ∧ (∀ n, run (n + (idleL t.qs 1048576).toNat * t.qs.length) t = run n (skipT (idleL t.qs 1048576).toNat t)) ∧ ∀ j, j < t.qs.length → (t.q j).costs ≠ [] → 0 ≤ idleL t.qs 1048576 * (t.q j).quantum ∧ (t.q j).deficit + idleL t.qs 1048576 * (t.q j).quantum ≤ 1048575 := by
  have hn := idleL_nonneg t.qs 1048576 (by omega) (missQ_nonneg h hk)
  obtain ⟨hle, hall⟩ := idleL_le t.qs 1048576
  obtain ⟨k, hkk⟩ : ∃ k : Nat, idleL t.qs 1048576 = k := ⟨_, (Int.toNat_of_nonneg hn).symm⟩
  rw [hkk] at hall hle ⊢
  have hr : ∀ j, j < t.qs.length → ∀ c cs, (t.q j).costs = c :: cs → (t.q j).deficit + k * (t.q j).quantum < c := fun j hj c cs hc => by
    have h1 := hall (t.q j) (Tu.q_mem hj) (by rw [hc]; simp)
    have h2 := h.quantum j hj
    unfold missQ at h1
    rw [hc] at h1
    simp only [List.headD_cons] at h1
    have h3 := Int.mul_le_mul_of_nonneg_right h1 (show 0 ≤ (t.q j).quantum by omega)
    have h4 := Int.ediv_mul_le (c - (t.q j).deficit - 1) (show (t.q j).quantum ≠ 0 by omega)
    omega
  have hlast : ∀ j, j < t.qs.length → (t.q j).costs ≠ [] → 0 ≤ (k : Int) * (t.q j).quantum ∧ (t.q j).deficit + (k : Int) * (t.q j).quantum ≤ 1048575 := fun j hj hw => by
    have h2 := h.quantum j hj
    refine ⟨Int.mul_nonneg (by omega) (by omega), ?_⟩
    cases hc : (t.q j).costs with
    | nil => exact absurd hc hw
    | cons c cs =>
      have h3 := hr j hj c cs hc
      have h4 := h.cost j hj c (by rw [hc]; simp)
      omega
  have hkn : (k : Int).toNat = k := by simp
  rw [hkn]
  refine ⟨?_, by omega, hle, skip_run k h.lt hf (fun j hj => by have := (h.quantum j hj).1; omega) hr, hlast⟩
  have hid : ∀ j, ((skipT k t).q j).id = (t.q j).id ∧ ((skipT k t).q j).quantum = (t.q j).quantum ∧ ((skipT k t).q j).costs = (t.q j).costs := fun j => by
    rw [skipT_q]
    unfold skipQ
    split <;> exact ⟨rfl, rfl, rfl⟩
  refine ⟨by rw [skipT_len]; exact h.few, by rw [skipT_len]; exact h.lt, fun j hj => ?_, fun j hj => ?_, fun j hj => ?_, fun j hj => ?_, fun j hj => ?_⟩
  all_goals rw [skipT_len] at hj
  · rw [(hid j).1, (hid (j - 1)).1]; exact h.ids j hj
  · rw [(hid j).2.1]; exact h.quantum j hj
  · rw [skipT_q]
    unfold skipQ
    have hd := h.def_ j hj
    by_cases hc : (t.q j).costs = []
    · rw [if_pos hc]; exact hd
    · rw [if_neg hc]
      have := hlast j hj hc
      show 0 ≤ (t.q j).deficit + k * (t.q j).quantum ∧ (t.q j).deficit + k * (t.q j).quantum ≤ _
      exact ⟨by omega, by split <;> omega⟩
  · rw [(hid j).2.2]
    intro hc
    rw [skipT_q]
    unfold skipQ
    rw [if_pos hc]
    exact h.idle j hj hc
  · rw [(hid j).2.2]; exact h.cost j hj
/-- Looks are fewer behind it. -/
theorem skip_mu {t : Tu} (h : OkT t) (k : Nat) {x : Nat} (hx : x < t.qs.length) : mu (skipT k t) x ≤ mu t x := by
  unfold mu
  rw [skipT_len]
  have hq := h.quantum x hx
  have : (2097152 - ((skipT k t).q x).deficit).toNat ≤ (2097152 - (t.q x).deficit).toNat := by
    rw [skipT_q]
    unfold skipQ
    split
    · exact Nat.le_refl _
    · show (2097152 - ((t.q x).deficit + k * (t.q x).quantum)).toNat ≤ _
      have : 0 ≤ (k : Int) * (t.q x).quantum := Int.mul_nonneg (by omega) (by omega)
      omega
  have h2 := Nat.mul_le_mul_right t.qs.length this
  show _ + far t.qs.length x t.at' + (if t.fresh = true then _ else 0) ≤ _
  omega
end Go.Proofs.Ytelhjdplghpnbab
