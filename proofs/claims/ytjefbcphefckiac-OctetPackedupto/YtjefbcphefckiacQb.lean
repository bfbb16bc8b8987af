import Derived.Test.YtjefbcphefckiacQa
namespace Go.Proofs.Ytjefbcphefckiac
open Go.RowKit Plain
set_option linter.unusedVariables false

theorem It.bytes_pos (x : It) (h : x.fits = true) : 1 ≤ x.bytes.length := by
  obtain ⟨k, n, s⟩ := x
  by_cases k0 : k = 0
  · subst k0; simp [It.bytes]
  by_cases k12 : k = 1 ∨ k = 2
  · have := uv_pos n
    simpa [It.bytes, k0, k12] using this
  have k1 : k ≠ 1 := fun h => k12 (.inl h)
  have k2 : k ≠ 2 := fun h => k12 (.inr h)
  by_cases k3 : k = 3
  · subst k3; simp [It.bytes, be_len]
  by_cases k4 : k = 4
  · subst k4; simp [It.bytes, be_len]
  by_cases k5 : k = 5
  · subst k5
    have := uv_pos s.size
    simp [It.bytes]; omega
  · simp [It.fits, k0, k1, k2, k3, k4, k5] at h

/-- A byte is missing: it fails where the item begins. -/
theorem readIt_less (x : It) (most : Int) (p : List Nat) (hf : x.fits = true) (hn : x.n < 18446744073709551616) (hs : x.s.size < 18446744073709551616) (hm : (x.s.size : Int) ≤ most) :
    (readIt ⟨p ++ x.bytes.dropLast, p.length, 0⟩ x.k most).2 = ⟨p ++ x.bytes.dropLast, p.length, 10⟩ := by
  have hpos := x.bytes_pos hf
  obtain ⟨k, n, s⟩ := x
  simp only at hn hs hm
  have hrest : (p ++ (It.bytes ⟨k, n, s⟩).dropLast).length - p.length = (It.bytes ⟨k, n, s⟩).length - 1 := by simp
  have hon : ∀ m, m = (It.bytes ⟨k, n, s⟩).length → (Rs.mk (p ++ (It.bytes ⟨k, n, s⟩).dropLast) p.length 0).on m = ⟨p ++ (It.bytes ⟨k, n, s⟩).dropLast, p.length, 10⟩ := by
    intro m hm
    rw [Rs.on_no _ _ rfl (by simp only; rw [hrest]; omega)]
  have hnum : (Rs.mk (p ++ (It.bytes ⟨k, n, s⟩).dropLast) p.length 0).num = rd ((It.bytes ⟨k, n, s⟩).dropLast) := by
    unfold Rs.num
    rw [if_neg (by simp)]
    simp only
    rw [List.drop_left']
    rfl
  by_cases k0 : k = 0
  · subst k0
    simp only [readIt, if_true]
    exact hon 1 (by simp [It.bytes])
  by_cases k12 : k = 1 ∨ k = 2
  · have hb : It.bytes ⟨k, n, s⟩ = uv n := by simp [It.bytes, k0, k12]
    have e : rd ((It.bytes ⟨k, n, s⟩).dropLast) = (0, 0, 10) := by
      rw [hb, List.dropLast_eq_take]
      exact rdPart n _ hn (by have := uv_pos n; omega)
    simp only [readIt]
    rw [if_neg k0, if_pos k12]
    simp only
    unfold Rs.uvOn
    rw [hnum, e]
    simp [Rs.fail, Rs.on]
  by_cases k3 : k = 3
  · subst k3
    simp only [readIt]
    rw [if_neg (by decide), if_neg (by decide), if_pos (by decide)]
    exact hon 4 (by simp [It.bytes, be_len])
  by_cases k4 : k = 4
  · subst k4
    simp only [readIt]
    rw [if_neg (by decide), if_neg (by decide), if_neg (by decide), if_pos (by decide)]
    exact hon 8 (by simp [It.bytes, be_len])
  by_cases k5 : k = 5
  · subst k5
    have hb : It.bytes ⟨5, n, s⟩ = uv s.size ++ bytesOf s := by simp [It.bytes]
    have hbl := bytesOf_len s
    have hE : (Rs.mk (p ++ (It.bytes ⟨5, n, s⟩).dropLast) p.length 0).textE most = 10 := by
      unfold Rs.textE
      rw [hnum]
      by_cases hz : s.size = 0
      · have e : rd ((It.bytes ⟨5, n, s⟩).dropLast) = (0, 0, 10) := by
          have h0 : bytesOf s = [] := List.eq_nil_of_length_eq_zero (by omega)
          rw [hb, h0, List.append_nil, List.dropLast_eq_take]
          exact rdPart s.size _ hs (by have := uv_pos s.size; omega)
        rw [e]; simp
      · have e : rd ((It.bytes ⟨5, n, s⟩).dropLast) = (s.size, (uv s.size).length, 0) := by
          have hne : bytesOf s ≠ [] := fun h0 => by rw [h0] at hbl; simp at hbl; omega
          rw [hb, List.dropLast_append_of_ne_nil hne]
          exact rdPre s.size _ hs
        rw [e, if_neg (by simp), if_neg (by simp; omega), if_pos]
        unfold Rs.rest
        rw [if_pos rfl]
        simp only
        rw [hrest, hb, List.length_append, hbl]
        have := uv_pos s.size
        omega
    simp only [readIt]
    rw [if_neg (by decide), if_neg (by decide), if_neg (by decide), if_neg (by decide), if_pos (by decide)]
    simp only
    unfold Rs.textOn
    rw [hE, if_neg (by simp), if_pos (by simp)]
    rfl
  · exfalso
    have k124 : ¬ (k = 1 ∨ k = 2 ∨ k = 4) := by omega
    simp [It.fits, k0, k3, k124, k5] at hf

theorem kindOk_of_fits (x : It) (h : x.fits = true) : kindOk x.k = true := by
  obtain ⟨k, n, s⟩ := x
  by_cases hk : kindOk k = true
  · exact hk
  · exfalso
    simp [kindOk] at hk
    have k0 : k ≠ 0 := by omega
    have k3 : k ≠ 3 := by omega
    have k124 : ¬ (k = 1 ∨ k = 2 ∨ k = 4) := by omega
    have k5 : k ≠ 5 := by omega
    simp [It.fits, k0, k3, k124, k5] at h
theorem kinds_of_fits (st : List It) (h : st.all It.fits = true) : (st.map It.k).all kindOk = true := by
  simp at h ⊢
  exact fun x hx => kindOk_of_fits x (h x hx)

structure Fit (st : List It) (most : Int) : Prop where
  f : st.all It.fits = true
  n : ∀ x ∈ st, x.n < 18446744073709551616 ∧ x.s.size < 18446744073709551616
  m : ∀ x ∈ st, (x.s.size : Int) ≤ most

theorem up_own (st : List It) (most : Int) (h : Fit st most) : upE (st.map It.k) most (flat st) = 0 ∧ upItems (st.map It.k) most (flat st) = st := by
  have hr := readAll_own most st [] [] h.f h.n h.m
  simp only [List.nil_append, List.append_nil, List.length_nil, Nat.zero_add] at hr
  have hk := kinds_of_fits st h.f
  have hE : (upS (st.map It.k) most (flat st)).2.endE = 0 := by
    unfold upS
    rw [hr]
    simp [Rs.endE]
  unfold upE upItems
  rw [if_pos hk, if_pos hk, if_pos hE, hE]
  refine ⟨rfl, ?_⟩
  unfold upS
  rw [hr]

theorem up_more (st : List It) (most : Int) (h : Fit st most) : upE (st.map It.k) most (flat st ++ [0]) = 13 ∧ upP (st.map It.k) most (flat st ++ [0]) = (flat st).length := by
  have hr := readAll_own most st [] [0] h.f h.n h.m
  simp only [List.nil_append, List.length_nil, Nat.zero_add] at hr
  have hk := kinds_of_fits st h.f
  unfold upE upP upS
  rw [if_pos hk, if_pos hk, hr]
  simp [Rs.endE, Rs.endP]

theorem up_less (st : List It) (most : Int) (h : Fit st most) (hne : flat st ≠ []) : upE (st.map It.k) most (flat st).dropLast = 10 ∧ upP (st.map It.k) most (flat st).dropLast < (flat st).length := by
  rcases List.eq_nil_or_concat st with rfl | ⟨st', x, rfl⟩
  · simp [flat] at hne
  rw [List.concat_eq_append] at h hne ⊢
  have hf := h.f
  rw [all_snoc] at hf
  simp only [Bool.and_eq_true] at hf
  have hpos := x.bytes_pos hf.2
  have hx := h.n x (by simp)
  have h1 := readAll_own most st' [] x.bytes.dropLast hf.1 (fun y hy => h.n y (by simp [hy])) (fun y hy => h.m y (by simp [hy]))
  have h2 := readIt_less x most (flat st') hf.2 hx.1 hx.2 (h.m x (by simp))
  simp only [List.nil_append, List.length_nil, Nat.zero_add] at h1
  have hk := kinds_of_fits _ h.f
  have e : (flat (st' ++ [x])).dropLast = flat st' ++ x.bytes.dropLast := by
    rw [flat_snoc, List.dropLast_append_of_ne_nil]
    intro h0; rw [h0] at hpos; simp at hpos
  unfold upE upP upS
  rw [if_pos hk, if_pos hk, e, List.map_append, List.map_singleton, readAll_snoc, h1]
  simp only
  rw [h2]
  refine ⟨by simp [Rs.endE], ?_⟩
  rw [flat_snoc]
  simp [Rs.endP]
  omega

/-- What was read without a failure. -/
structure Rok (s : Rs) (x : It) (s' : Rs) : Prop where
  e : s.e = 0
  f : x.fits = true
  n : x.n < 18446744073709551616
  z : x.s.size ≤ s.l.length
  l : s'.l = s.l
  p : s'.p = s.p + x.bytes.length
  q : s'.p ≤ s.l.length
  d : s.l.drop s.p = x.bytes ++ s.l.drop s'.p

theorem on_e0 (s : Rs) (m : Nat) (h : (s.on m).e = 0) : s.e = 0 ∧ m ≤ s.l.length - s.p := by
  by_cases h0 : s.e = 0
  · by_cases hm : m ≤ s.l.length - s.p
    · exact ⟨h0, hm⟩
    · rw [Rs.on_no _ _ h0 hm] at h; simp at h
  · unfold Rs.on at h
    rw [if_pos h0] at h
    exact absurd h h0

/-- A number of m bytes. -/
theorem on_ok (s : Rs) (m : Nat) (hb : ∀ c ∈ s.l, c < 256) (hp : s.p ≤ s.l.length) (h : (s.on m).e = 0) :
    s.e = 0 ∧ (s.out m).length = m ∧ be m (val 0 (s.out m)) = s.out m ∧ val 0 (s.out m) < 256 ^ m ∧ s.on m = ⟨s.l, s.p + m, 0⟩ ∧ s.p + m ≤ s.l.length ∧ s.l.drop s.p = s.out m ++ s.l.drop (s.p + m) := by
  obtain ⟨h0, hm⟩ := on_e0 s m h
  have ho := Rs.out_ok s m h0 hm
  have hby : ∀ c ∈ s.out m, c < 256 := fun c hc => by rw [ho] at hc; exact hb c (List.mem_of_mem_drop (List.mem_of_mem_take hc))
  have hl : (s.out m).length = m := by rw [ho]; simp; omega
  refine ⟨h0, hl, ?_, ?_, Rs.on_ok s m h0 hm, by omega, ?_⟩
  · have := be_val (s.out m) hby
    rwa [hl] at this
  · have := val_lt (s.out m) hby
    rwa [hl] at this
  · rw [ho]
    conv => lhs; rw [← List.take_append_drop m (s.l.drop s.p)]
    rw [List.drop_drop]

theorem readIt_ok (s : Rs) (k most : Int) (hk : kindOk k = true) (hb : ∀ c ∈ s.l, c < 256) (hp : s.p ≤ s.l.length) (hll : s.l.length < 18446744073709551616) (h : (readIt s k most).2.e = 0) : Rok s (readIt s k most).1 (readIt s k most).2 := by
  by_cases k0 : k = 0
  · subst k0
    simp only [readIt, if_true] at h ⊢
    obtain ⟨h0, h1, h2, h3, h4, h5, h6⟩ := on_ok s 1 hb hp h
    have hv : val 0 (s.out 1) % 256 = val 0 (s.out 1) := Nat.mod_eq_of_lt (by simpa using h3)
    rw [hv]
    have hby : It.bytes ⟨0, val 0 (s.out 1), ⟨#[]⟩⟩ = s.out 1 :=
      (show It.bytes ⟨0, val 0 (s.out 1), ⟨#[]⟩⟩ = be 1 (val 0 (s.out 1)) by simp [It.bytes, be]).trans h2
    refine ⟨h0, ?_, by simp only; omega, by simp [ByteArray.size], by rw [h4], by rw [h4, hby, h1], by rw [h4]; exact h5, by rw [h4, hby]; exact h6⟩
    simp [It.fits, emp_of]; omega
  by_cases k12 : k = 1 ∨ k = 2
  · simp only [readIt] at h ⊢
    rw [if_neg k0, if_pos k12] at h ⊢
    simp only at h ⊢
    unfold Rs.uvOn at h ⊢
    obtain ⟨h0, -⟩ := on_e0 _ _ h
    have e0 : s.e = 0 ∧ s.num.2.2 = 0 := by
      unfold Rs.fail at h0
      by_cases hs : s.e = 0
      · refine ⟨hs, ?_⟩
        by_cases hz : s.num.2.2 = 0
        · exact hz
        · rw [if_neg (by simp [hs, hz])] at h0
          simp at h0; omega
      · rw [if_pos (.inl hs)] at h0; exact absurd h0 hs
    obtain ⟨hs, hz⟩ := e0
    have hnum : s.num = rd (s.l.drop s.p) := by unfold Rs.num; rw [if_neg (by simp [hs])]
    rw [hnum] at hz
    obtain ⟨v, hv, e, e2, e3⟩ := rdOk _ (fun c hc => hb c (List.mem_of_mem_drop hc)) hz
    have k3 : k ≠ 3 := by omega
    have k124 : k = 1 ∨ k = 2 ∨ k = 4 := by omega
    have hby : It.bytes ⟨k, v, ⟨#[]⟩⟩ = uv v := by simp [It.bytes, k0, k12]
    have hfl : s.fail ((0 : Nat) : Int) = s := by unfold Rs.fail; rw [if_pos (.inr rfl)]
    simp at e3
    have hon := Rs.on_ok s (uv v).length hs (by omega)
    have hp2 := uv_pos v
    rw [hnum, e]
    simp only
    rw [hfl, hon]
    refine ⟨hs, by simp [It.fits, k0, k3, k124, emp_of], hv, by simp [ByteArray.size], rfl, by rw [hby], by simp only; omega, ?_⟩
    rw [hby]
    simp only
    conv => lhs; rw [e2]
    rw [List.drop_drop]
  by_cases k3 : k = 3
  · subst k3
    simp only [readIt] at h ⊢
    rw [if_neg (by decide), if_neg (by decide), if_pos (by decide)] at h ⊢
    simp only at h ⊢
    obtain ⟨h0, h1, h2, h3, h4, h5, h6⟩ := on_ok s 4 hb hp h
    have hv : val 0 (s.out 4) % 4294967296 = val 0 (s.out 4) := Nat.mod_eq_of_lt (by simpa using h3)
    rw [hv]
    have hby : It.bytes ⟨3, val 0 (s.out 4), ⟨#[]⟩⟩ = s.out 4 := by
      simp only [It.bytes]; rw [if_neg (by decide), if_neg (by decide), if_pos (by decide), hv, h2]
    refine ⟨h0, ?_, by simp only; omega, by simp [ByteArray.size], by rw [h4], by rw [h4, hby, h1], by rw [h4]; exact h5, by rw [h4, hby]; exact h6⟩
    simp [It.fits, emp_of]; omega
  by_cases k4 : k = 4
  · subst k4
    simp only [readIt] at h ⊢
    rw [if_neg (by decide), if_neg (by decide), if_neg (by decide), if_pos (by decide)] at h ⊢
    simp only at h ⊢
    obtain ⟨h0, h1, h2, h3, h4, h5, h6⟩ := on_ok s 8 hb hp h
    have hby : It.bytes ⟨4, val 0 (s.out 8), ⟨#[]⟩⟩ = s.out 8 := by
      simp only [It.bytes]; rw [if_neg (by decide), if_neg (by decide), if_neg (by decide), if_pos (by decide), h2]
    refine ⟨h0, ?_, by simp only; simpa using h3, by simp [ByteArray.size], by rw [h4], by rw [h4, hby, h1], by rw [h4]; exact h5, by rw [h4, hby]; exact h6⟩
    simp [It.fits, emp_of]
  have k5 : k = 5 := by simp [kindOk] at hk; omega
  subst k5
  simp only [readIt] at h ⊢
  rw [if_neg (by decide), if_neg (by decide), if_neg (by decide), if_neg (by decide), if_pos (by decide)] at h ⊢
  simp only at h ⊢
  have hs : s.e = 0 := by
    unfold Rs.textOn at h
    by_cases hs : s.e = 0
    · exact hs
    · rw [if_pos hs] at h; exact absurd h hs
  have hE : s.textE most = 0 := by
    unfold Rs.textOn at h
    rw [if_neg (by simp [hs])] at h
    by_cases hz : s.textE most = 0
    · exact hz
    · rw [if_pos hz] at h; simp at h; omega
  have hnum : s.num = rd (s.l.drop s.p) := by unfold Rs.num; rw [if_neg (by simp [hs])]
  have hz : (rd (s.l.drop s.p)).2.2 = 0 := by
    rw [← hnum]
    unfold Rs.textE at hE
    by_cases hz : s.num.2.2 = 0
    · exact hz
    · rw [if_pos hz] at hE; exact hE
  obtain ⟨v, hv, e, e2, e3⟩ := rdOk _ (fun c hc => hb c (List.mem_of_mem_drop hc)) hz
  have hr : v ≤ s.l.length - s.p - (uv v).length := by
    unfold Rs.textE at hE
    rw [hnum, e] at hE
    rw [if_neg (by simp)] at hE
    by_cases h1 : ((v : Nat) : Int) > max most 0
    · rw [if_pos h1] at hE; simp at hE
    · rw [if_neg h1] at hE
      by_cases h2 : v > s.rest - (uv v).length
      · rw [if_pos h2] at hE; simp at hE
      · unfold Rs.rest at h2
        rw [if_pos hs] at h2
        omega
  have ho : s.textOut most = (s.l.drop (s.p + (uv v).length)).take v := by
    unfold Rs.textOut
    rw [if_neg (by simp [hs, hE]), hnum, e]
  have hon : s.textOn most = ⟨s.l, s.p + (uv v).length + v, 0⟩ := by
    unfold Rs.textOn
    rw [if_neg (by simp [hs]), if_neg (by simp [hE]), hnum, e]
  have hbo : bytesOf (strOf (s.textOut most)) = s.textOut most := bytesOf_strOf _ (fun c hc => by rw [ho] at hc; exact hb c (List.mem_of_mem_drop (List.mem_of_mem_take hc)))
  simp at e3
  have hol : (s.textOut most).length = v := by rw [ho]; simp; omega
  have hsz : (strOf (s.textOut most)).size = v := by rw [← bytesOf_len, hbo, hol]
  have hby : It.bytes ⟨5, 0, strOf (s.textOut most)⟩ = uv v ++ s.textOut most := by
    simp only [It.bytes]
    rw [if_neg (by decide), if_neg (by decide), if_neg (by decide), if_neg (by decide), if_pos (by decide), hsz, hbo]
  have hp2 := uv_pos v
  rw [hon]
  refine ⟨hs, by simp [It.fits], by simp, by simp only; omega, rfl, by rw [hby, List.length_append, hol]; simp only; omega, by simp only; omega, ?_⟩
  rw [hby, ho]
  simp only
  conv => lhs; rw [e2, List.drop_drop]
  rw [List.append_assoc]
  congr 1
  conv => lhs; rw [← List.take_append_drop v (s.l.drop (s.p + (uv v).length))]
  rw [List.drop_drop]

structure Aok (s : Rs) (ts : List It) (s' : Rs) : Prop where
  e : s.e = 0
  f : ts.all It.fits = true
  n : ∀ x ∈ ts, x.n < 18446744073709551616 ∧ x.s.size ≤ s.l.length
  l : s'.l = s.l
  p : s'.p ≤ s.l.length
  d : s.l.drop s.p = flat ts ++ s.l.drop s'.p
  b : bulk ts ≤ s.l.length - s.p + 10 * ts.length

theorem It.bytes_size (x : It) (hf : x.fits = true) : x.s.size ≤ x.bytes.length := by
  obtain ⟨k, n, s⟩ := x
  by_cases k5 : k = 5
  · subst k5
    simp [It.bytes, bytesOf_len]
  · have : emp s = true := by
      by_cases k0 : k = 0
      · subst k0; simp [It.fits] at hf; exact hf.2
      by_cases k3 : k = 3
      · subst k3; simp [It.fits] at hf; exact hf.2
      by_cases k124 : k = 1 ∨ k = 2 ∨ k = 4
      · simp [It.fits, k0, k3, k124] at hf; exact hf
      · simp [It.fits, k0, k3, k124, k5] at hf
    have := emp_size this
    simp only; omega

theorem readAll_ok (most : Int) : ∀ (ks : List Int) (s : Rs), ks.all kindOk = true → (∀ c ∈ s.l, c < 256) → s.p ≤ s.l.length → s.l.length < 18446744073709551616 → (readAll most s ks).2.e = 0 → Aok s (readAll most s ks).1 (readAll most s ks).2
  | [], s, _, hb, hp, _, h => ⟨h, by simp [readAll], by simp [readAll], rfl, hp, by simp [readAll, flat], by simp [readAll, bulk]⟩
  | k :: ks, s, hk, hb, hp, hll, h => by
    simp only [List.all_cons, Bool.and_eq_true] at hk
    have hl1 : ∀ k, (readIt s k most).2.l = s.l := fun k => by
      unfold readIt
      have ho : ∀ (s : Rs) m, (s.on m).l = s.l := fun s m => by
        unfold Rs.on
        split
        · rfl
        · split <;> rfl
      have hfl : ∀ (s : Rs) x, (s.fail x).l = s.l := fun s x => by unfold Rs.fail; split <;> rfl
      have ht : (s.textOn most).l = s.l := by
        unfold Rs.textOn
        split
        · rfl
        · split <;> rfl
      split
      · exact ho s 1
      split
      · simp only [Rs.uvOn]; rw [ho, hfl]
      split
      · exact ho s 4
      split
      · exact ho s 8
      split
      · exact ht
      · rfl
    have hp1 : (readIt s k most).2.p ≤ s.l.length := by
      unfold readIt
      have ho : ∀ (s : Rs) m, s.p ≤ s.l.length → (s.on m).p ≤ s.l.length := fun s m h => by
        unfold Rs.on
        split
        · exact h
        · split
          · simp only; omega
          · exact h
      have hfl : ∀ (s : Rs) x, (s.fail x).l = s.l ∧ (s.fail x).p = s.p := fun s x => by unfold Rs.fail; split <;> exact ⟨rfl, rfl⟩
      have ht : (s.textOn most).p ≤ s.l.length := by
        by_cases hs : s.e = 0
        · by_cases hE : s.textE most = 0
          · have h2 : ¬ (s.num.1 > s.rest - s.num.2.1) ∧ s.num.2.2 = 0 := by
              unfold Rs.textE at hE
              by_cases hz : s.num.2.2 = 0
              · refine ⟨?_, hz⟩
                rw [if_neg (by simp [hz])] at hE
                intro h2
                by_cases h1 : ((s.num.1 : Nat) : Int) > max most 0
                · rw [if_pos h1] at hE; simp at hE
                · rw [if_neg h1, if_pos h2] at hE; simp at hE
              · rw [if_pos hz] at hE; exact absurd hE hz
            have hnum : s.num = rd (s.l.drop s.p) := by unfold Rs.num; rw [if_neg (by simp [hs])]
            rw [hnum] at h2
            obtain ⟨v, hv, e, e2, e3⟩ := rdOk _ (fun c hc => hb c (List.mem_of_mem_drop hc)) h2.2
            rw [e] at h2
            unfold Rs.textOn
            rw [if_neg (by simp [hs]), if_neg (by simp [hE]), hnum, e]
            have h3 := h2.1
            unfold Rs.rest at h3
            rw [if_pos hs] at h3
            simp at e3
            have hp2 := uv_pos v
            simp only at h3 ⊢
            omega
          · unfold Rs.textOn
            rw [if_neg (by simp [hs]), if_pos hE]; exact hp
        · unfold Rs.textOn
          rw [if_pos hs]; exact hp
      split
      · exact ho s 1 hp
      split
      · simp only [Rs.uvOn]
        have h1 := hfl s s.num.2.2
        have := ho (s.fail s.num.2.2) s.num.2.1 (by rw [h1.1, h1.2]; exact hp)
        rw [h1.1] at this
        exact this
      split
      · exact ho s 4 hp
      split
      · exact ho s 8 hp
      split
      · exact ht
      · exact hp
    have ih := readAll_ok most ks (readIt s k most).2 hk.2 (by rw [hl1]; exact hb) (by rw [hl1]; exact hp1) (by rw [hl1]; exact hll) h
    have h1 := readIt_ok s k most hk.1 hb hp hll ih.e
    have hd := ih.d
    have hbk := ih.b
    rw [hl1] at hd hbk
    have hsz := It.bytes_size _ h1.f
    have hpp := h1.p
    have hpq := h1.q
    refine ⟨h1.e, ?_, ?_, ih.l.trans (hl1 k), by have := ih.p; rwa [hl1] at this, ?_, ?_⟩
    · simp only [readAll, List.all_cons, h1.f, Bool.true_and]; exact ih.f
    · intro x hx
      simp only [readAll, List.mem_cons] at hx
      rcases hx with rfl | hx
      · exact ⟨h1.n, h1.z⟩
      · have := ih.n x hx; rwa [hl1] at this
    · simp only [readAll, flat]
      rw [h1.d, hd, List.append_assoc]
    · simp only [readAll, bulk, List.length_cons]
      omega

/-- What is unpacked packs to the bytes. -/
theorem up_back (ks : List Int) (most : Int) (l : List Nat) (hb : ∀ c ∈ l, c < 256) (hl : l.length < 18446744073709551616) (h : upE ks most l = 0) :
    (upItems ks most l).all It.fits = true ∧ flat (upItems ks most l) = l ∧ bulk (upItems ks most l) ≤ l.length + 10 * ks.length ∧ ∀ x ∈ upItems ks most l, x.n < 18446744073709551616 ∧ x.s.size < 18446744073709551616 := by
  unfold upE at h
  by_cases hk : ks.all kindOk = true
  · rw [if_pos hk] at h
    unfold upItems
    rw [if_pos hk, if_pos h]
    have he : (upS ks most l).2.e = 0 ∧ (upS ks most l).2.l.length - (upS ks most l).2.p = 0 := by
      unfold Rs.endE at h
      by_cases h0 : (upS ks most l).2.e = 0
      · rw [if_pos h0] at h
        refine ⟨h0, ?_⟩
        by_cases h1 : (upS ks most l).2.l.length - (upS ks most l).2.p = 0
        · exact h1
        · rw [if_neg h1] at h; simp at h
      · rw [if_neg h0] at h; exact absurd h h0
    have ha := readAll_ok most ks ⟨l, 0, 0⟩ hk hb (by simp) hl he.1
    have hlen : ∀ (ks : List Int) (s : Rs), (readAll most s ks).1.length = ks.length := by
      intro ks
      induction ks with
      | nil => intro s; rfl
      | cons k ks ih => intro s; simp [readAll, ih]
    have hll := ha.l
    have h2 := he.2
    refine ⟨ha.f, ?_, ?_, fun x hx => ?_⟩
    · have := ha.d
      simp only [List.drop_zero] at this
      unfold upS at h2 ⊢
      rw [hll] at h2
      simp only at h2
      rw [List.drop_eq_nil_of_le (by omega), List.append_nil] at this
      exact this.symm
    · have := ha.b
      rw [hlen] at this
      simpa [upS] using this
    · have := ha.n x hx
      simp only at this
      exact ⟨this.1, by omega⟩
  · rw [if_neg hk] at h
    simp at h
end Go.Proofs.Ytjefbcphefckiac
