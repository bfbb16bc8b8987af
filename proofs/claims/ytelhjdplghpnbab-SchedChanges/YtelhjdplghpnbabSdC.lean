import Derived.Test.YtelhjdplghpnbabSdB
/-! Queues that are served in turns, plainly: nobody starves. -/
namespace Go.Proofs.Ytelhjdplghpnbab
set_option linter.unusedVariables false
set_option linter.unusedSimpArgs false

theorem adds_01 (t : Tu) (k : Nat) : 0 ≤ adds t k ∧ adds t k ≤ 1 := by unfold adds; split <;> omega
theorem Ring.le {t t' : Tu} (h : Ring t t') {k x : Nat} (hl : t.at' < t.qs.length) (hk : k < t.qs.length) (hx : x < t.qs.length) (hkx : k ≠ x) (wx : (t.q x).costs ≠ []) : adds t k - adds t x + bef t.qs.length k x t'.st ≤ bef t.qs.length k x t.st := by
  rw [h.st]
  unfold Tu.st
  cases hf : t.fresh with
  | true =>
    have h1 : adds t k = 0 := by unfold adds; rw [hf]; simp
    have h2 : adds t x = 0 := by unfold adds; rw [hf]; simp
    rw [h1, h2]
    simp
  | false =>
    simp only [Bool.false_eq_true, if_false]
    by_cases e1 : k = t.at'
    · obtain ⟨b1, b2⟩ := bef_i t.qs.length k x hk hx hkx
      have h2 : adds t x = 0 := by unfold adds; rw [if_neg (by rintro ⟨e, -⟩; exact hkx (by rw [e1, e]))]
      have h1 := (adds_01 t k).2
      rw [← e1, b1, b2, h2]
      omega
    · have h1 : adds t k = 0 := by unfold adds; rw [if_neg (by rintro ⟨e, -⟩; exact e1 e)]
      by_cases e2 : x = t.at'
      · obtain ⟨b1, b2⟩ := bef_j t.qs.length k x hk hx hkx
        have h2 : adds t x = 1 := by unfold adds; rw [if_pos ⟨e2, hf, wx⟩]
        rw [← e2, b1, b2, h1, h2]
        omega
      · have h2 : adds t x = 0 := by unfold adds; rw [if_neg (by rintro ⟨e, -⟩; exact e2 e)]
        rw [h1, h2, bef_pass _ _ _ _ hk hx hl e1 e2]
        omega
/-- Queue x waits and is not served, V quanta and S of cost behind the beginning t0. -/
structure SI (t0 t : Tu) (x : Nat) (first : Int) (V S : Nat → Int) : Prop where
  ok : OkT t
  len : t.qs.length = t0.qs.length
  same : ∀ k, (t.q k).id = (t0.q k).id ∧ (t.q k).quantum = (t0.q k).quantum
  hx : x < t0.qs.length
  acc : ∀ k, k < t0.qs.length → S k ≤ V k * (t0.q k).quantum + (t0.q k).deficit - (t.q k).deficit
  ord : ∀ k, k < t0.qs.length → k ≠ x → V k + bef t0.qs.length k x t.st ≤ V x + 1
  head : ∃ rest, (t.q x).costs = first :: rest
  vx : 0 ≤ V x ∧ V x ≤ first / (t0.q x).quantum
  d0 : 0 ≤ (t0.q x).deficit
  dx : (t.q x).deficit = (t0.q x).deficit + V x * (t0.q x).quantum
  sx : S x = 0
theorem adds_at {t : Tu} {c : Int} {cs : List Int} (hc : (t.q t.at').costs = c :: cs) : t.d = (t.q t.at').deficit + adds t t.at' * (t.q t.at').quantum := by
  unfold Tu.d adds
  cases t.fresh <;> simp [hc]
theorem adds_off {t : Tu} {k : Nat} (h : k ≠ t.at') : adds t k = 0 := by unfold adds; rw [if_neg (by rintro ⟨e, -⟩; exact h e)]
theorem adds_idle {t : Tu} (h : (t.q t.at').costs = []) (k : Nat) : adds t k = 0 := by
  unfold adds
  rw [if_neg]
  rintro ⟨e1, -, e3⟩
  rw [e1] at e3
  exact e3 h
theorem SI.inl {t0 t t' : Tu} {x : Nat} {first : Int} {V S : Nat → Int} (h : SI t0 t x first V S) (hm : micro t = .inl t') : SI t0 t' x first (fun k => V k + adds t k) S := by
  have hR := (micro_ring h.ok.lt).1 t' hm
  have ok' := h.ok.micro.1 t' hm
  obtain ⟨rest, hhd⟩ := h.head
  have wx : (t.q x).costs ≠ [] := by rw [hhd]; simp
  have hxl : x < t.qs.length := by rw [h.len]; exact h.hx
  have hml := mu_less h.ok hxl wx hm
  have hdef : ∀ k, (t'.q k).deficit = (t.q k).deficit + adds t k * (t.q k).quantum ∧ (k = t.at' → (t.q k).costs ≠ [] → ∃ c cs, (t.q k).costs = c :: cs ∧ (t'.q k).deficit < c) := fun k => by
    by_cases e : k = t.at'
    · subst e
      unfold micro at hm
      cases hc : (t.q t.at').costs with
      | nil =>
        rw [hc] at hm
        simp only [Sum.inl.injEq] at hm
        subst hm
        rw [adds_idle hc]
        exact ⟨by rw [Tu.on_q]; omega, fun _ hh => absurd rfl hh⟩
      | cons c cs =>
        rw [hc] at hm
        simp only at hm
        split at hm
        · rename_i hlt
          simp only [Sum.inl.injEq] at hm
          subst hm
          rw [Tu.on_q, t.put_q _ h.ok.lt]
          exact ⟨adds_at hc, fun _ _ => ⟨c, cs, rfl, hlt⟩⟩
        · cases hm
    · rw [(hR.same k).2.2 e, adds_off e]
      exact ⟨by omega, fun e2 => absurd e2 e⟩
  have hp := h.ok.quantum x hxl
  rw [(h.same x).2] at hp
  refine ⟨ok', by rw [hR.len, h.len], fun k => ⟨(hR.same k).1.trans (h.same k).1, (hR.same k).2.1.trans (h.same k).2⟩, h.hx, fun k hk => ?_, fun k hk hkx => ?_, ⟨rest, by rw [hml.2.1]; exact hhd⟩, ?_, h.d0, ?_, h.sx⟩
  · have := h.acc k hk
    rw [(hdef k).1, (h.same k).2, Int.add_mul]
    omega
  · have h1 := h.ord k hk hkx
    have h2 := hR.le h.ok.lt (by rw [h.len]; exact hk) hxl hkx wx
    rw [h.len] at h2
    show V k + adds t k + _ ≤ V x + adds t x + 1
    omega
  · have hv := h.vx
    have ha := adds_01 t x
    refine ⟨by show 0 ≤ V x + adds t x; omega, ?_⟩
    by_cases e : x = t.at'
    · obtain ⟨c, cs, e1, e2⟩ := (hdef x).2 e wx
      rw [hhd] at e1
      simp only [List.cons.injEq] at e1
      obtain ⟨rfl, -⟩ := e1
      rw [(hdef x).1, h.dx, (h.same x).2] at e2
      have hd0 := h.d0
      refine Int.le_ediv_of_mul_le (by omega) ?_
      show (V x + adds t x) * _ ≤ first
      rw [Int.add_mul]
      omega
    · show V x + adds t x ≤ _
      rw [adds_off e]
      omega
  · rw [(hdef x).1, h.dx, (h.same x).2]
    show _ = _ + (V x + adds t x) * _
    rw [Int.add_mul]
    omega
/-- One that serves: x with its first cost, or another one. -/
theorem SI.inr {t0 t t' : Tu} {x : Nat} {first id c : Int} {V S : Nat → Int} (h : SI t0 t x first V S) (hm : micro t = .inr (t', id, c)) : (t.at' = x ∧ c = first) ∨ (t.at' ≠ x ∧ 1 ≤ c ∧ SI t0 t' x first (fun k => V k + adds t k) (fun k => S k + (if k = t.at' then c else 0))) := by
  obtain ⟨hR, hid, cs, hcs, hcs'⟩ := (micro_ring h.ok.lt).2 t' id c hm
  have ok' := h.ok.micro.2 t' id c hm
  obtain ⟨rest, hhd⟩ := h.head
  by_cases e : t.at' = x
  · refine .inl ⟨e, ?_⟩
    rw [e, hhd] at hcs
    simp only [List.cons.injEq] at hcs
    exact hcs.1.symm
  refine .inr ⟨e, (h.ok.cost _ h.ok.lt c (by rw [hcs]; simp)).1, ?_⟩
  have wx : (t.q x).costs ≠ [] := by rw [hhd]; simp
  have hxl : x < t.qs.length := by rw [h.len]; exact h.hx
  have hda : (t'.q t.at').deficit ≤ t.d - c := by
    unfold micro at hm
    rw [hcs] at hm
    simp only at hm
    split at hm
    · cases hm
    · rename_i hnl
      simp only [Sum.inr.injEq, Prod.mk.injEq] at hm
      obtain ⟨rfl, -, -⟩ := hm
      split
      · rw [Tu.on_q, t.put_q _ h.ok.lt]
        show (0 : Int) ≤ _
        omega
      · rw [t.put_q _ h.ok.lt]
        exact Int.le_refl _
  have hax : adds t x = 0 := adds_off (Ne.symm e)
  have hqx : t'.q x = t.q x := (hR.same x).2.2 (Ne.symm e)
  refine ⟨ok', by rw [hR.len, h.len], fun k => ⟨(hR.same k).1.trans (h.same k).1, (hR.same k).2.1.trans (h.same k).2⟩, h.hx, fun k hk => ?_, fun k hk hkx => ?_, ⟨rest, by rw [hqx]; exact hhd⟩, ?_, h.d0, ?_, ?_⟩
  · have ha := h.acc k hk
    show S k + _ ≤ (V k + adds t k) * _ + _ - _
    by_cases e2 : k = t.at'
    · rw [if_pos e2]
      have hd := adds_at hcs
      rw [← e2] at hd hda
      rw [(h.same k).2] at hd
      rw [Int.add_mul]
      omega
    · rw [if_neg e2, (hR.same k).2.2 e2, adds_off e2, Int.add_zero, Int.add_zero]
      exact ha
  · have h1 := h.ord k hk hkx
    have h2 := hR.le h.ok.lt (by rw [h.len]; exact hk) hxl hkx wx
    rw [h.len] at h2
    show V k + adds t k + _ ≤ V x + adds t x + 1
    omega
  · show 0 ≤ V x + adds t x ∧ V x + adds t x ≤ _
    rw [hax, Int.add_zero]
    exact h.vx
  · rw [hqx, h.dx]
    show _ = _ + (V x + adds t x) * _
    rw [hax, Int.add_zero]
  · show S x + _ = 0
    rw [if_neg (Ne.symm e), h.sx]
    rfl
def sumTo (m : Nat) (f : Nat → Int) : Int := ((List.range m).map f).sum
theorem sumTo_succ (m : Nat) (f : Nat → Int) : sumTo (m + 1) f = sumTo m f + f m := by unfold sumTo; rw [List.range_succ, List.map_append, List.sum_append]; simp
theorem sumTo_le {m : Nat} {f g : Nat → Int} (h : ∀ k, k < m → f k ≤ g k) : sumTo m f ≤ sumTo m g := by
  induction m with
  | zero => simp [sumTo]
  | succ m ih => rw [sumTo_succ, sumTo_succ]; have := ih (fun k hk => h k (by omega)); have := h m (by omega); omega
theorem sumTo_lt {m x : Nat} {f g : Nat → Int} (hx : x < m) (h : ∀ k, k < m → f k ≤ g k) (hlt : f x < g x) : sumTo m f < sumTo m g := by
  induction m with
  | zero => omega
  | succ m ih =>
    rw [sumTo_succ, sumTo_succ]
    by_cases e : x = m
    · subst e
      have := sumTo_le (m := x) (fun k hk => h k (by omega))
      omega
    · have := ih (by omega) (fun k hk => h k (by omega))
      have := h m (by omega)
      omega
theorem sumTo_add {m y : Nat} {f : Nat → Int} {c : Int} (hy : y < m) : sumTo m (fun k => f k + (if k = y then c else 0)) = sumTo m f + c := by
  induction m with
  | zero => omega
  | succ m ih =>
    rw [sumTo_succ, sumTo_succ]
    by_cases e : y = m
    · subst e
      have hsame : sumTo y (fun k => f k + (if k = y then c else 0)) = sumTo y f := by
        have h1 := sumTo_le (m := y) (f := fun k => f k + (if k = y then c else 0)) (g := f) (fun k hk => by show f k + (if k = y then c else 0) ≤ f k; rw [if_neg (by omega)]; omega)
        have h2 := sumTo_le (m := y) (f := f) (g := fun k => f k + (if k = y then c else 0)) (fun k hk => by show f k ≤ f k + (if k = y then c else 0); rw [if_neg (by omega)]; omega)
        omega
      rw [hsame, if_pos rfl]
      omega
    · rw [ih (by omega), if_neg (Ne.symm e)]
      omega
/-- A call: x is served its first cost, or it stands as before and at least 1 more has been served of the others. -/
theorem SI.run {t0 : Tu} {x : Nat} {first : Int} : ∀ (n : Nat) {t t' : Tu} {id c : Int} {V S : Nat → Int}, SI t0 t x first V S → Go.Proofs.Ytelhjdplghpnbab.run n t = some (t', id, c) → ∃ k, k < t0.qs.length ∧ id = (t0.q k).id ∧ ((k = x ∧ c = first) ∨ (k ≠ x ∧ 1 ≤ c ∧ ∃ V' S', SI t0 t' x first V' S' ∧ sumTo t0.qs.length S' = sumTo t0.qs.length S + c))
  | 0, t, t', id, c, V, S, h, hr => by simp [Go.Proofs.Ytelhjdplghpnbab.run] at hr
  | n + 1, t, t', id, c, V, S, h, hr => by
    unfold Go.Proofs.Ytelhjdplghpnbab.run at hr
    cases hm : micro t with
    | inl t1 =>
      rw [hm] at hr
      exact SI.run n (h.inl hm) hr
    | inr r =>
      rw [hm] at hr
      simp only [Option.some.injEq] at hr
      subst hr
      obtain ⟨hR, hid, -⟩ := (micro_ring h.ok.lt).2 _ _ _ hm
      have hlt : t.at' < t0.qs.length := by rw [← h.len]; exact h.ok.lt
      refine ⟨t.at', hlt, by rw [hid, (h.same t.at').1], ?_⟩
      rcases h.inr hm with e | ⟨e1, e2, e3⟩
      · exact .inl e
      · exact .inr ⟨e1, e2, _, _, e3, sumTo_add hlt⟩
/-- The bound that can be told ahead. -/
def bound (t0 : Tu) (x : Nat) (first : Int) : Int := sumTo t0.qs.length (fun k => (first / (t0.q x).quantum + 2) * (t0.q k).quantum + (t0.q k).deficit)
theorem SI.less {t0 t : Tu} {x : Nat} {first : Int} {V S : Nat → Int} (h : SI t0 t x first V S) (hq : ∀ k, k < t0.qs.length → 0 ≤ (t0.q k).deficit) : sumTo t0.qs.length S < bound t0 x first := by
  have hx := h.hx
  have hxl : x < t.qs.length := by rw [h.len]; exact hx
  have hqs : ∀ k, k < t0.qs.length → 1 ≤ (t0.q k).quantum := fun k hk => by
    have := (h.ok.quantum k (by rw [h.len]; exact hk)).1
    rw [(h.same k).2] at this
    exact this
  have hv := h.vx
  have each : ∀ k, k < t0.qs.length → S k ≤ (first / (t0.q x).quantum + 2) * (t0.q k).quantum + (t0.q k).deficit := fun k hk => by
    by_cases e : k = x
    · subst e
      rw [h.sx]
      have h1 : 0 ≤ (first / (t0.q k).quantum + 2) * (t0.q k).quantum := Int.mul_nonneg (by omega) (by have := hqs k hk; omega)
      have := hq k hk
      omega
    · have h1 := h.ord k hk e
      have h2 := (bef_01 t0.qs.length k x t.st).1
      have h3 := h.acc k hk
      have h4 := (h.ok.def_ k (by rw [h.len]; exact hk)).1
      have h5 : V k * (t0.q k).quantum ≤ (first / (t0.q x).quantum + 2) * (t0.q k).quantum := Int.mul_le_mul_of_nonneg_right (by omega) (by have := hqs k hk; omega)
      omega
  refine sumTo_lt hx each ?_
  rw [h.sx]
  have h1 : 1 * 1 ≤ (first / (t0.q x).quantum + 2) * (t0.q x).quantum := Int.mul_le_mul (by omega) (hqs x hx) (by omega) (by omega)
  have := hq x hx
  omega
theorem SI.start {t : Tu} {x : Nat} {first : Int} {rest : List Int} (h : OkT t) (hx : x < t.qs.length) (hc : (t.q x).costs = first :: rest) : SI t t x first (fun _ => 0) (fun _ => 0) := by
  have hf := h.cost x hx first (by rw [hc]; simp)
  have hq := h.quantum x hx
  refine ⟨h, rfl, fun k => ⟨rfl, rfl⟩, hx, fun k hk => by omega, fun k hk e => by have := (bef_01 t.qs.length k x t.st).2; omega, ⟨rest, hc⟩, ⟨by omega, Int.ediv_nonneg (by omega) (by omega)⟩, (h.def_ x hx).1, by omega, rfl⟩
end Go.Proofs.Ytelhjdplghpnbab
