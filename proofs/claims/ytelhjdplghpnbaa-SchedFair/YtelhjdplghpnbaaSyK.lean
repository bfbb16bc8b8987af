import Derived.Test.YtelhjdplghpnbaaSyJ
import Derived.Test.YtelhjdplghpnbaaSdP
import Derived.Deep.RegionWith
/-! The program's serve. -/
namespace Go.Proofs.Ytelhjdplghpnbaa
open Go.RowKit Plain
set_option linter.unusedVariables false
set_option linter.unusedSimpArgs false

/-- What a look that serves nobody leaves. -/
theorem micro_inl {t t' : Tu} (hl : t.at' < t.qs.length) (hm : micro t = .inl t') : t'.fresh = false ∧ t'.at' = (t.at' + 1) % t.qs.length ∧ ∀ c cs, (t'.q t.at').costs = c :: cs → (t'.q t.at').deficit < c := by
  unfold micro at hm
  cases hc : (t.q t.at').costs with
  | nil =>
    rw [hc] at hm
    simp only [Sum.inl.injEq] at hm
    subst hm
    refine ⟨rfl, rfl, fun c cs h => ?_⟩
    rw [Tu.on_q, hc] at h
    cases h
  | cons c cs =>
    rw [hc] at hm
    simp only at hm
    split at hm
    · rename_i hlt
      simp only [Sum.inl.injEq] at hm
      subst hm
      refine ⟨rfl, ?_, fun c' cs' h => ?_⟩
      · show (t.at' + 1) % (t.put _).qs.length = _
        rw [t.put_len]
      · rw [Tu.on_q, t.put_q _ hl] at h ⊢
        simp only [List.cons.injEq] at h
        obtain ⟨rfl, -⟩ := h
        exact hlt
    · cases hm
/-- The last p looks served nobody. -/
structure Lk (t : Tu) (n a0 p : Nat) : Prop where
  at_ : p ≤ n → t.at' = (a0 + p) % n
  fr : p ≤ n → 0 < p → t.fresh = false
  q : p ≤ n → ∀ j, j < n → far n j a0 < p → ∀ c cs, (t.q j).costs = c :: cs → (t.q j).deficit < c
theorem Lk.start {t : Tu} {n : Nat} (hl : t.at' < n) : Lk t n t.at' 0 := ⟨fun _ => by rw [Nat.add_zero, Nat.mod_eq_of_lt hl], fun _ h => by omega, fun _ j hj h => by omega⟩
theorem Lk.beyond {t : Tu} {n a0 p : Nat} (h : n < p) : Lk t n a0 p := ⟨fun e => by omega, fun e => by omega, fun e => by omega⟩
theorem Lk.lack {t : Tu} {n a0 : Nat} (h : Lk t n a0 n) (hn : t.qs.length = n) (h0 : 0 < n) : Lack t ∧ t.fresh = false := by
  refine ⟨fun j hj c cs hc => h.q (Nat.le_refl _) j (by omega) (far_lt _ _ _ (by omega)) c cs hc, h.fr (Nat.le_refl _) h0⟩
theorem Lk.step {t t' : Tu} {n a0 p : Nat} (h : Lk t n a0 p) (ha : a0 < n) (hn : t.qs.length = n) (hl : t.at' < n) (hm : micro t = .inl t') : Lk t' n a0 (p + 1) := by
  obtain ⟨m1, m2, m3⟩ := micro_inl (by rw [hn]; exact hl) hm
  have hR := (micro_ring (by rw [hn]; exact hl)).1 t' hm
  rw [hn] at m2
  refine ⟨fun hp => ?_, fun _ _ => m1, fun hp j hj hf c cs hc => ?_⟩
  · rw [m2, h.at_ (by omega), Nat.mod_add_mod, Nat.add_assoc]
  · by_cases e : j = t.at'
    · subst e; exact m3 c cs hc
    · have hfa : far n t.at' a0 = p := by rw [h.at_ (by omega)]; exact far_add n a0 p ha (by omega)
      have hne : far n j a0 ≠ p := fun e2 => e (far_inj n j t.at' a0 hj hl ha (e2.trans hfa.symm))
      rw [(hR.same j).2.2 e] at hc ⊢
      exact h.q (by omega) j hj (by omega) c cs hc
/-- What stands between two looks. -/
structure SvI (W w : World) (base B g : Nat) (rs : List (Option Nat)) (t0 t : Tu) (vs : List Qv) (n a0 x p M : Nat) : Prop where
  m : SvM W w base B g t vs rs
  ok : OkT t
  to : RunTo t0 t
  len : t.qs.length = n
  wait : (t.q x).costs ≠ []
  hx : x < n
  lk : Lk t n a0 p
  ha : a0 < n
  most : p + mu t x ≤ M
/-- The rounds that serve nobody are skipped. -/
theorem SvI.skip {W w w' : World} {base B g : Nat} {rs : List (Option Nat)} {t0 t : Tu} {vs vs' : List Qv} {n a0 x M : Nat} (h : SvI W w base B g rs t0 t vs n a0 x n M) (hs : SvM W w' base B g (skipT (idleL t.qs 1048576).toNat t) vs' rs) : OkT (skipT (idleL t.qs 1048576).toNat t) ∧ RunTo t0 (skipT (idleL t.qs 1048576).toNat t) ∧ (skipT (idleL t.qs 1048576).toNat t).qs.length = n ∧ ((skipT (idleL t.qs 1048576).toNat t).q x).costs ≠ [] ∧ mu (skipT (idleL t.qs 1048576).toNat t) x ≤ mu t x := by
  have h0 : 0 < n := by have := h.hx; omega
  obtain ⟨hL, hf⟩ := h.lk.lack h.len h0
  obtain ⟨k1, -, -, k4, -⟩ := skip_all h.ok hL hf
  refine ⟨k1, fun k r hr => ?_, by rw [skipT_len]; exact h.len, ?_, skip_mu h.ok _ (by rw [h.len]; exact h.hx)⟩
  · exact h.to _ r ((k4 k).trans hr)
  · rw [skipT_q]
    unfold skipQ
    split <;> exact h.wait
/-- A look that serves nobody. -/
theorem SvI.look {W w' : World} {base B g : Nat} {rs : List (Option Nat)} {t0 t t' : Tu} {vs' : List Qv} {n a0 x p M : Nat} (ok : OkT t) (to : RunTo t0 t) (len : t.qs.length = n) (wait : (t.q x).costs ≠ []) (hx : x < n) (lk : Lk t n a0 p ∨ n ≤ p) (ha : a0 < n) (most : p + mu t x ≤ M) (hm : micro t = .inl t') (hs : SvM W w' base B g t' vs' rs) : SvI W w' base B g rs t0 t' vs' n a0 x (p + 1) M ∧ mu t' x < mu t x := by
  obtain ⟨h1, h2, h3⟩ := mu_less ok (by rw [len]; exact hx) wait hm
  have hl : t.at' < n := by have := ok.lt; omega
  refine ⟨⟨hs, ok.micro.1 _ hm, to.step hm, by rw [h3]; exact len, by rw [h2]; exact wait, hx, ?_, ha, by omega⟩, h1⟩
  rcases lk with lk | hp
  · exact lk.step ha len hl hm
  · exact Lk.beyond (by omega)
end Go.Proofs.Ytelhjdplghpnbaa
