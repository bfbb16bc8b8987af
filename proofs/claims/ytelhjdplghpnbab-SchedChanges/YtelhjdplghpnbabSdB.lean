import Derived.Test.YtelhjdplghpnbabSdA
/-! Queues that are served in turns, plainly: they stay right, somebody is served, nobody starves. -/
namespace Go.Proofs.Ytelhjdplghpnbab
set_option linter.unusedVariables false
set_option linter.unusedSimpArgs false

/-- Turns that may be, with queues. -/
structure OkT (t : Tu) : Prop where
  few : t.qs.length ≤ 32
  lt : t.at' < t.qs.length
  ids : ∀ k, k < t.qs.length → 0 ≤ (t.q k).id ∧ (0 < k → (t.q (k - 1)).id < (t.q k).id)
  quantum : ∀ k, k < t.qs.length → 1 ≤ (t.q k).quantum ∧ (t.q k).quantum ≤ 65536
  def_ : ∀ k, k < t.qs.length → 0 ≤ (t.q k).deficit ∧ (t.q k).deficit ≤ 1048575 + (if t.fresh = true ∧ k = t.at' then 65536 else 0)
  idle : ∀ k, k < t.qs.length → (t.q k).costs = [] → (t.q k).deficit = 0
  cost : ∀ k, k < t.qs.length → ∀ c ∈ (t.q k).costs, 1 ≤ c ∧ c ≤ 1048576
/-- The turn goes on. -/
theorem OkT.goes {t t' : Tu} (h : OkT t) (hl : t'.qs.length = t.qs.length) (ha : t'.at' = t.at') (hs : ∀ k, (t'.q k).id = (t.q k).id ∧ (t'.q k).quantum = (t.q k).quantum ∧ (k ≠ t.at' → t'.q k = t.q k)) (h1 : 0 ≤ (t'.q t.at').deficit ∧ (t'.q t.at').deficit ≤ 1048575) (h2 : (t'.q t.at').costs = [] → (t'.q t.at').deficit = 0) (h3 : ∀ c ∈ (t'.q t.at').costs, 1 ≤ c ∧ c ≤ 1048576) : OkT t'.on := by
  have hlt := h.lt
  refine ⟨?_, ?_, fun k hk => ?_, fun k hk => ?_, fun k hk => ?_, fun k hk => ?_, fun k hk => ?_⟩
  · show t'.qs.length ≤ 32; rw [hl]; exact h.few
  · show (t'.at' + 1) % t'.qs.length < t'.qs.length; exact Nat.mod_lt _ (by omega)
  all_goals
    have hk' : k < t.qs.length := by rw [← hl]; exact hk
  · rw [Tu.on_q, Tu.on_q, (hs k).1, (hs (k - 1)).1]; exact h.ids k hk'
  · rw [Tu.on_q, (hs k).2.1]; exact h.quantum k hk'
  · rw [Tu.on_q]
    by_cases e : k = t.at'
    · rw [e]; exact ⟨h1.1, by split <;> omega⟩
    · rw [(hs k).2.2 e]
      have := h.def_ k hk'
      rw [if_neg (fun x => e x.2)] at this
      exact ⟨this.1, by split <;> omega⟩
  · rw [Tu.on_q]
    by_cases e : k = t.at'
    · rw [e]; exact h2
    · rw [(hs k).2.2 e]; exact h.idle k hk'
  · rw [Tu.on_q]
    by_cases e : k = t.at'
    · rw [e]; exact h3
    · rw [(hs k).2.2 e]; exact h.cost k hk'
theorem OkT.d_ok {t : Tu} (h : OkT t) : 0 ≤ t.d ∧ t.d ≤ 1114111 := by
  have h1 := h.def_ _ h.lt
  have h2 := h.quantum _ h.lt
  unfold Tu.d
  cases hf : t.fresh with
  | true => rw [hf] at h1; simp at h1 ⊢; omega
  | false => rw [hf] at h1; simp at h1 ⊢; omega
theorem OkT.micro {t : Tu} (h : OkT t) : (∀ t', micro t = .inl t' → OkT t') ∧ ∀ t' id c, Go.Proofs.Ytelhjdplghpnbab.micro t = .inr (t', id, c) → OkT t' := by
  have hd := h.d_ok
  constructor
  · intro t' hm
    unfold Go.Proofs.Ytelhjdplghpnbab.micro at hm
    cases hc : (t.q t.at').costs with
    | nil =>
      rw [hc] at hm
      simp only [Sum.inl.injEq] at hm
      subst hm
      have hz := h.idle _ h.lt hc
      exact h.goes rfl rfl (fun k => ⟨rfl, rfl, fun _ => rfl⟩) (by rw [hz]; omega) (fun _ => hz) (by rw [hc]; simp)
    | cons c cs =>
      rw [hc] at hm
      simp only at hm
      split at hm
      · rename_i hlt
        simp only [Sum.inl.injEq] at hm
        subst hm
        have hcc := h.cost _ h.lt c (by rw [hc]; simp)
        refine h.goes (t.put_len _) rfl (Ring.put _ h.lt rfl rfl) ?_ ?_ ?_
        · rw [t.put_q _ h.lt]; exact ⟨hd.1, by show t.d ≤ _; omega⟩
        · rw [t.put_q _ h.lt]; simp
        · rw [t.put_q _ h.lt]
          intro z hz
          exact h.cost _ h.lt z (by rw [hc]; exact hz)
      · cases hm
  · intro t' id c hm
    unfold Go.Proofs.Ytelhjdplghpnbab.micro at hm
    cases hc : (t.q t.at').costs with
    | nil => rw [hc] at hm; simp at hm
    | cons c1 cs =>
      rw [hc] at hm
      simp only at hm
      split at hm
      · cases hm
      · rename_i hnl
        simp only [Sum.inr.injEq, Prod.mk.injEq] at hm
        obtain ⟨rfl, -, -⟩ := hm
        have hcc := h.cost _ h.lt c1 (by rw [hc]; simp)
        have hcs : ∀ z ∈ cs, 1 ≤ z ∧ z ≤ 1048576 := fun z hz => h.cost _ h.lt z (by rw [hc]; exact List.mem_cons_of_mem _ hz)
        split
        · rename_i e0
          refine h.goes (t.put_len _) rfl (Ring.put _ h.lt rfl rfl) ?_ ?_ ?_
          · rw [t.put_q _ h.lt]; exact ⟨by show (0 : Int) ≤ 0; omega, by show (0 : Int) ≤ _; omega⟩
          · rw [t.put_q _ h.lt]; exact fun _ => rfl
          · rw [t.put_q _ h.lt]; exact hcs
        · rename_i e0
          have hs := Ring.put (t := t) ⟨(t.q t.at').id, (t.q t.at').quantum, t.d - c1, cs⟩ h.lt rfl rfl
          have hq := t.put_q ⟨(t.q t.at').id, (t.q t.at').quantum, t.d - c1, cs⟩ h.lt
          have hlen := t.put_len ⟨(t.q t.at').id, (t.q t.at').quantum, t.d - c1, cs⟩
          generalize hT : t.put ⟨(t.q t.at').id, (t.q t.at').quantum, t.d - c1, cs⟩ = T at *
          have hTa : T.at' = t.at' := by rw [← hT]; rfl
          have hTf : T.fresh = true := by rw [← hT]; rfl
          refine ⟨by rw [hlen]; exact h.few, by rw [hTa, hlen]; exact h.lt, fun k hk => ?_, fun k hk => ?_, fun k hk => ?_, fun k hk => ?_, fun k hk => ?_⟩
          · rw [(hs k).1, (hs (k - 1)).1]; exact h.ids k (by rw [← hlen]; exact hk)
          · rw [(hs k).2.1]; exact h.quantum k (by rw [← hlen]; exact hk)
          · rw [hTa, hTf]
            by_cases e : k = t.at'
            · rw [e, hq]
              show 0 ≤ t.d - c1 ∧ t.d - c1 ≤ _
              rw [if_pos ⟨rfl, rfl⟩]
              omega
            · rw [(hs k).2.2 e]
              have := h.def_ k (by rw [← hlen]; exact hk)
              rw [if_neg (fun x => e x.2)] at this
              exact ⟨this.1, by split <;> omega⟩
          · by_cases e : k = t.at'
            · rw [e, hq]; exact fun x => absurd x e0
            · rw [(hs k).2.2 e]; exact h.idle k (by rw [← hlen]; exact hk)
          · by_cases e : k = t.at'
            · rw [e, hq]; exact hcs
            · rw [(hs k).2.2 e]; exact h.cost k (by rw [← hlen]; exact hk)
/-- How many looks there can be until somebody is served, x waiting. -/
def mu (t : Tu) (x : Nat) : Nat := (2097152 - (t.q x).deficit).toNat * t.qs.length + far t.qs.length x t.at' + (if t.fresh = true then t.qs.length else 0)
theorem mu_less {t t' : Tu} {x : Nat} (h : OkT t) (hx : x < t.qs.length) (hw : (t.q x).costs ≠ []) (hm : micro t = .inl t') : mu t' x < mu t x ∧ (t'.q x).costs = (t.q x).costs ∧ t'.qs.length = t.qs.length := by
  have hR := (micro_ring h.lt).1 t' hm
  have hq := h.quantum x hx
  have hdx := h.def_ x hx
  have hfr : t'.fresh = false ∧ t'.at' = (t.at' + 1) % t.qs.length ∧ (t'.q x).costs = (t.q x).costs ∧ (x = t.at' → (t'.q x).deficit = t.d ∧ t.d < 1048576) := by
    unfold micro at hm
    cases hc : (t.q t.at').costs with
    | nil =>
      rw [hc] at hm
      simp only [Sum.inl.injEq] at hm
      subst hm
      exact ⟨rfl, rfl, rfl, fun e => by rw [e] at hw; exact absurd hc hw⟩
    | cons c cs =>
      rw [hc] at hm
      simp only at hm
      split at hm
      · rename_i hlt
        simp only [Sum.inl.injEq] at hm
        subst hm
        have hcc := h.cost _ h.lt c (by rw [hc]; simp)
        refine ⟨rfl, ?_, ?_, fun e => ?_⟩
        · show (t.at' + 1) % (t.put _).qs.length = _
          rw [t.put_len]
        · rw [Tu.on_q]
          by_cases e : x = t.at'
          · rw [e, t.put_q _ h.lt]; exact hc.symm
          · rw [t.put_o _ e]
        · rw [Tu.on_q, e, t.put_q _ h.lt]
          exact ⟨rfl, by omega⟩
      · cases hm
  obtain ⟨f1, f2, f3, f4⟩ := hfr
  refine ⟨?_, f3, hR.len⟩
  unfold mu
  rw [f1, f2, hR.len]
  have hfn := far_next t.qs.length x t.at' hx h.lt
  rw [hfn]
  have hm0 : 1 ≤ t.qs.length := by omega
  simp only [Bool.false_eq_true, if_false, Nat.add_zero]
  by_cases e : x = t.at'
  · rw [if_pos e]
    obtain ⟨g1, g2⟩ := f4 e
    have hfs : far t.qs.length x t.at' = 0 := by rw [e]; exact far_self _ _ h.lt
    rw [g1, hfs]
    have hdd : t.d = (t.q x).deficit + (if t.fresh = true then 0 else (t.q x).quantum) := by unfold Tu.d; rw [← e]
    cases hf : t.fresh with
    | true =>
      rw [hf] at hdd
      simp at hdd
      rw [hdd]
      simp
      omega
    | false =>
      rw [hf] at hdd
      simp at hdd
      have hlt : (2097152 - t.d).toNat + 1 ≤ (2097152 - (t.q x).deficit).toNat := by omega
      have := Nat.mul_le_mul_right t.qs.length hlt
      rw [Nat.add_mul, Nat.one_mul] at this
      simp
      omega
  · rw [if_neg e, (hR.same x).2.2 e]
    have hfx := far_is t.qs.length x t.at' hx h.lt
    have hlt2 := h.lt
    have hpos : 1 ≤ far t.qs.length x t.at' := by rw [hfx]; split <;> omega
    omega
/-- Somebody is served. -/
theorem run_ends : ∀ (n : Nat) {t : Tu} {x : Nat}, OkT t → x < t.qs.length → (t.q x).costs ≠ [] → mu t x ≤ n → ∃ r, run (n + 1) t = some r
  | n, t, x, h, hx, hw, hn => by
    unfold run
    cases hm : micro t with
    | inr r => exact ⟨r, rfl⟩
    | inl t' =>
      obtain ⟨h1, h2, h3⟩ := mu_less h hx hw hm
      cases n with
      | zero => omega
      | succ n => exact run_ends n (h.micro.1 t' hm) (by rw [h3]; exact hx) (by rw [h2]; exact hw) (by omega)
end Go.Proofs.Ytelhjdplghpnbab
