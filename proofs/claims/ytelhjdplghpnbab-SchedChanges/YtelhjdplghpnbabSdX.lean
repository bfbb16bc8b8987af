import Derived.Test.YtelhjdplghpnbabSdV
/-! What a Next leaves, plainly; fairness and patience, call by call. -/
namespace Go.Proofs.Ytelhjdplghpnbab
set_option linter.unusedVariables false
set_option linter.unusedSimpArgs false

/-- A Next of turns t has served the queue x. -/
structure Srv (t t' : Tu) (x : Nat) (id c : Int) : Prop where
  ok : OkT t'
  len : t'.qs.length = t.qs.length
  lt : x < t.qs.length
  id_ : id = (t.q x).id
  cost : (t.q x).costs = c :: (t'.q x).costs
  oth : ∀ m, m ≠ x → (t'.q m).costs = (t.q m).costs
  same : ∀ m, (t'.q m).id = (t.q m).id ∧ (t'.q m).quantum = (t.q m).quantum
theorem micro_costs {t t' : Tu} (hl : t.at' < t.qs.length) (hm : micro t = .inl t') : ∀ m, (t'.q m).costs = (t.q m).costs := by
  intro m
  have hR := (micro_ring hl).1 t' hm
  by_cases e : m = t.at'
  · subst e
    unfold micro at hm
    cases hc : (t.q t.at').costs with
    | nil =>
      rw [hc] at hm
      simp only [Sum.inl.injEq] at hm
      subst hm
      rw [Tu.on_q]
      exact hc
    | cons c1 cs =>
      rw [hc] at hm
      simp only at hm
      split at hm
      · simp only [Sum.inl.injEq] at hm
        subst hm
        rw [Tu.on_q, t.put_q _ hl]
      · cases hm
  · rw [(hR.same m).2.2 e]
theorem run_srv : ∀ (n : Nat) {t t' : Tu} {id c : Int}, OkT t → run n t = some (t', id, c) → ∃ x, Srv t t' x id c
  | 0, t, t', id, c, h, hr => by simp [run] at hr
  | n + 1, t, t', id, c, h, hr => by
    unfold run at hr
    cases hm : micro t with
    | inl t1 =>
      rw [hm] at hr
      have hR := (micro_ring h.lt).1 t1 hm
      have hc := micro_costs h.lt hm
      obtain ⟨x, s⟩ := run_srv n (h.micro.1 t1 hm) hr
      refine ⟨x, s.ok, by rw [s.len, hR.len], by rw [← hR.len]; exact s.lt, by rw [s.id_, (hR.same x).1], by rw [← hc x]; exact s.cost, fun m hne => by rw [s.oth m hne, hc m], fun m => ⟨(s.same m).1.trans (hR.same m).1, (s.same m).2.trans (hR.same m).2.1⟩⟩
    | inr r =>
      rw [hm] at hr
      simp only [Option.some.injEq] at hr
      subst hr
      obtain ⟨hR, hid, cs, h1, h2⟩ := (micro_ring h.lt).2 _ _ _ hm
      refine ⟨t.at', h.micro.2 _ _ _ hm, hR.len, h.lt, hid, by rw [h2]; exact h1, fun m hne => by rw [(hR.same m).2.2 hne], fun m => ⟨(hR.same m).1, (hR.same m).2.1⟩⟩
theorem nxt_srv {t t' : Tr} {id c : Int} {ok : Bool} (h : Nxt t t' id c ok) (h0 : OkR t) {k : Nat} (hk : k < t.qs.length) (hw : (t.q k).costs ≠ []) : ok = true ∧ OkR t' ∧ t'.qs ≠ [] ∧ ∃ u n x, run n t.u = some (u, id, c) ∧ t' = u.r ∧ Srv t.u u x id c := by
  have hwt : waitsT t = true := waits_yes hk (fun e => hw (by simpa [Tr.q] using e))
  obtain ⟨e1, n, u, e2, e3⟩ := h.runs (chk_ok.mpr h0) hwt
  have hne : t.qs ≠ [] := fun e => by rw [e] at hk; simp at hk
  have hokt := h0.u hne
  obtain ⟨x, s⟩ := run_srv n hokt e2
  refine ⟨e1, by rw [e3]; exact s.ok.r, ?_, u, n, x, e2, e3, s⟩
  rw [e3]
  intro e
  have h1 : u.qs.length = 0 := by have : u.r.qs = u.qs := rfl; rw [← this, e]; rfl
  have h2 := s.len
  have h3 : t.u.qs.length = t.qs.length := rfl
  omega
theorem OkR.cost_ok {t : Tr} (h : OkR t) {x : Nat} (hx : x < t.qs.length) {c : Int} {cs : List Int} (hc : (t.q x).costs = c :: cs) : 1 ≤ c ∧ c ≤ 1048576 := h.c x hx c (by rw [hc]; simp)
theorem OkR.ids_eq {t : Tr} (h : OkR t) {i j : Nat} (hi : i < t.qs.length) (hj : j < t.qs.length) : (t.q i).id = (t.q j).id ↔ i = j := by
  constructor
  · intro e
    rcases Nat.lt_trichotomy i j with c | c | c
    · have := h.rise j i c hj; omega
    · exact c
    · have := h.rise i j c hi; omega
  · rintro rfl; rfl
/-- The law on fairness, at the head of its loop. -/
structure FaI (t : Tr) (i j : Nat) (p q C : Int) (n : Nat) (si sj : Int) : Prop where
  ok : OkR t
  hi : i < t.qs.length
  hj : j < t.qs.length
  pq : 1 ≤ p ∧ p ≤ 65536 ∧ 1 ≤ q ∧ q ≤ 65536
  C0 : 0 ≤ C
  fi : ∃ Di Dj a Vi Vj, FI t.u i j p q Di Dj C a Vi Vj si sj ∧ (0 ≤ a ∧ a ≤ 1) ∧ (0 ≤ Di ∧ Di ≤ C) ∧ (0 ≤ Dj ∧ Dj ≤ C)
  bi : 0 ≤ si ∧ si ≤ (n : Int) * 1048576
  bj : 0 ≤ sj ∧ sj ≤ (n : Int) * 1048576
theorem FaI.start {t : Tr} (ok : OkR t) {i j : Nat} (hi : i < t.qs.length) (hj : j < t.qs.length) {C : Int} (h0 : 0 ≤ C) (hG : ∀ k, k < t.qs.length → (t.qs.getD k Qu.zero).deficit ≤ C ∧ ∀ c ∈ (t.qs.getD k Qu.zero).costs, c ≤ C) : FaI t i j (t.q i).quantum (t.q j).quantum C 0 0 0 := by
  have hne : t.qs ≠ [] := fun e => by rw [e] at hi; simp at hi
  have o := ok.u hne
  have bi := badQ_is (ok.q i hi)
  have bj := badQ_is (ok.q j hj)
  have di : 0 ≤ (t.q i).deficit ∧ (t.q i).deficit ≤ C := ⟨bi.2.2.2.2.1, (hG i hi).1⟩
  have dj : 0 ≤ (t.q j).deficit ∧ (t.q j).deficit ≤ C := ⟨bj.2.2.2.2.1, (hG j hj).1⟩
  refine ⟨ok, hi, hj, ⟨bi.2.2.1, bi.2.2.2.1, bj.2.2.1, bj.2.2.2.1⟩, h0, ⟨_, _, _, _, _, FI.start (t := t.u) (i := i) (j := j) (C := C) o.lt hi hj di dj bi.2.2.1 bj.2.2.1 (fun c hc => ⟨(ok.c i hi c hc).1, (hG i hi).2 c hc⟩) (fun c hc => ⟨(ok.c j hj c hc).1, (hG j hj).2 c hc⟩), bef_01 _ _ _ _, di, dj⟩, by omega, by omega⟩
/-- A call of Next in it. -/
theorem FaI.step {t t' : Tr} {i j : Nat} {p q C : Int} {n : Nat} {si sj : Int} (h : FaI t i j p q C n si sj) (hij : i ≠ j) {id c : Int} {ok : Bool} (hn : Nxt t t' id c ok) (wi : (t.q i).costs ≠ []) (wj : (t.q j).costs ≠ []) :
    ok = true ∧ t'.qs.length = t.qs.length ∧ (1 ≤ c ∧ c ≤ 1048576) ∧ OkR t' ∧ ((t'.q i).costs ≠ [] → (t'.q j).costs ≠ [] → FaI t' i j p q C (n + 1) (if id = (t.q i).id then si + c else si) (if id = (t.q j).id then sj + c else sj) ∧ (t'.q i).quantum = p ∧ (t'.q j).quantum = q) := by
  obtain ⟨e1, ok', -, u, m, x, hr, rfl, s⟩ := nxt_srv hn h.ok h.hi wi
  have hlen : u.r.qs.length = t.qs.length := s.len
  have hlt : x < t.qs.length := s.lt
  have hc := h.ok.cost_ok hlt s.cost
  refine ⟨e1, hlen, hc, ok', fun wi' wj' => ?_⟩
  obtain ⟨Di, Dj, a, Vi, Vj, fi, ha, hDi, hDj⟩ := h.fi
  obtain ⟨p1, p2, q1, q2⟩ := h.pq
  obtain ⟨k, Vi', Vj', k1, k2, k3, k4, k5⟩ := FI.run p1 q1 hij m fi wi wj hr wi' wj'
  have hk1 : k < t.qs.length := k1
  have hid : id = (t.q k).id := k3
  have ei : (if id = (t.q i).id then si + c else si) = si + (if i = k then c else 0) := by
    by_cases e : i = k
    · rw [if_pos e, if_pos (by rw [hid, e])]
    · rw [if_neg e, if_neg (by rw [hid]; exact fun e2 => e ((h.ok.ids_eq hk1 h.hi).mp e2).symm)]; omega
  have ej : (if id = (t.q j).id then sj + c else sj) = sj + (if j = k then c else 0) := by
    by_cases e : j = k
    · rw [if_pos e, if_pos (by rw [hid, e])]
    · rw [if_neg e, if_neg (by rw [hid]; exact fun e2 => e ((h.ok.ids_eq hk1 h.hj).mp e2).symm)]; omega
  have b1 := h.bi
  have b2 := h.bj
  have hqi : (u.r.q i).quantum = p := k5.ai.quantum
  have hqj : (u.r.q j).quantum = q := k5.aj.quantum
  rw [ei, ej]
  refine ⟨⟨ok', by rw [hlen]; exact h.hi, by rw [hlen]; exact h.hj, h.pq, h.C0, ⟨Di, Dj, a, Vi', Vj', ?_, ha, hDi, hDj⟩, ?_, ?_⟩, hqi, hqj⟩
  · have e : u.r.u = u := by unfold Tu.r Tr.u; simp
    rw [e]
    exact k5
  · split <;> (push_cast; omega)
  · split <;> (push_cast; omega)
theorem FaI.fair {t : Tr} {i j : Nat} {p q C : Int} {n : Nat} {si sj : Int} (h : FaI t i j p q C n si sj) : si * q - sj * p ≤ 3 * p * q + C * (p + q) ∧ -(3 * p * q + C * (p + q)) ≤ si * q - sj * p := by
  obtain ⟨Di, Dj, a, Vi, Vj, fi, ha, hDi, hDj⟩ := h.fi
  obtain ⟨p1, p2, q1, q2⟩ := h.pq
  exact fi.fair p1 q1 h.C0 ha hDi hDj
/-- The law on service, at the head of its loop: n calls behind t0. -/
structure SeI (t0 t : Tr) (i : Nat) (first : Int) (n : Int) : Prop where
  ok : OkR t
  len : t.qs.length = t0.qs.length
  hi : i < t0.qs.length
  id_ : (t.q i).id = (t0.q i).id
  hw : ∃ rest, (t.q i).costs = first :: rest
  si : ∃ V S, SI t0.u t.u i first V S ∧ n ≤ sumTo t0.qs.length S
def boundR (t : Tr) (i : Nat) (first : Int) (m : Nat) : Int := sumTo m (fun k => (first / (t.q i).quantum + 2) * (t.q k).quantum + (t.q k).deficit)
theorem SeI.start {t : Tr} (ok : OkR t) {i : Nat} (hi : i < t.qs.length) {first : Int} {rest : List Int} (hc : (t.q i).costs = first :: rest) : SeI t t i first 0 := by
  have hne : t.qs ≠ [] := fun e => by rw [e] at hi; simp at hi
  refine ⟨ok, rfl, hi, rfl, ⟨rest, hc⟩, _, _, SI.start (t := t.u) (ok.u hne) hi hc, ?_⟩
  have : ∀ m, sumTo m (fun _ => (0 : Int)) = 0 := fun m => by
    induction m with
    | zero => rfl
    | succ m ih => rw [sumTo_succ, ih]; rfl
  rw [this]
  exact Int.le_refl _
theorem SeI.less {t0 t : Tr} {i : Nat} {first n : Int} (h0 : OkR t0) (h : SeI t0 t i first n) : n < boundR t0 i first t0.qs.length := by
  obtain ⟨V, S, s, hn⟩ := h.si
  have := s.less (fun k hk => (badQ_is (h0.q k hk)).2.2.2.2.1)
  exact Int.lt_of_le_of_lt hn this
theorem SeI.step {t0 t t' : Tr} {i : Nat} {first n : Int} (h : SeI t0 t i first n) {id c : Int} {ok : Bool} (hn : Nxt t t' id c ok) : ok = true ∧ OkR t' ∧ t'.qs.length = t.qs.length ∧ (∃ x, Srv t.u t'.u x id c ∧ x < t.qs.length) ∧ (1 ≤ c ∧ c ≤ 1048576) ∧ ((id = (t0.q i).id ∧ c = first) ∨ (id ≠ (t0.q i).id ∧ SeI t0 t' i first (n + 1))) := by
  obtain ⟨rest, hw⟩ := h.hw
  have hil : i < t.qs.length := by rw [h.len]; exact h.hi
  obtain ⟨e1, ok', -, u, m, x, hr, rfl, s⟩ := nxt_srv hn h.ok hil (by rw [hw]; simp)
  have hlen : u.r.qs.length = t.qs.length := s.len
  have hlt : x < t.qs.length := s.lt
  have hc := h.ok.cost_ok hlt s.cost
  have e : u.r.u = u := by unfold Tu.r Tr.u; simp
  refine ⟨e1, ok', hlen, ⟨x, by rw [e]; exact s, hlt⟩, hc, ?_⟩
  obtain ⟨V, S, si, hs⟩ := h.si
  obtain ⟨k, k1, k2, k3⟩ := si.run m hr
  have hk : k < t.qs.length := by rw [h.len]; exact k1
  have hidk : id = (t.q k).id := by rw [k2]; exact ((si.same k).1).symm
  rcases k3 with ⟨rfl, rfl⟩ | ⟨a1, a2, V', S', a3, a4⟩
  · exact .inl ⟨k2, rfl⟩
  · refine .inr ⟨?_, ok', by rw [hlen]; exact h.len, h.hi, ?_, ?_, V', S', by rw [e]; exact a3, ?_⟩
    · rw [← h.id_, hidk]
      exact fun e2 => a1 ((h.ok.ids_eq hk hil).mp e2)
    · have : (u.r.q i).id = (t.q i).id := (s.same i).1
      rw [this]; exact h.id_
    · obtain ⟨r2, hr2⟩ := a3.head
      exact ⟨r2, hr2⟩
    · have : sumTo t0.qs.length S' = sumTo t0.qs.length S + c := a4
      omega
end Go.Proofs.Ytelhjdplghpnbab
