import Derived.Test.YtelhjdplghpnbaaSyH
/-! The program's spend. -/
namespace Go.Proofs.Ytelhjdplghpnbaa
open Go.RowKit Plain
set_option linter.unusedVariables false
set_option linter.unusedSimpArgs false

/-- What a service leaves. -/
def spent (v : Tu) (c : Int) (cs : List Int) : Tu := if cs = [] then (v.put ⟨(v.q v.at').id, (v.q v.at').quantum, 0, cs⟩).on else v.put ⟨(v.q v.at').id, (v.q v.at').quantum, (v.q v.at').deficit - c, cs⟩
set_option maxHeartbeats 4000000 in
set_option maxRecDepth 100000 in
theorem qspendOf {W w : World} {base B g : Nat} {v : Tu} {vs : List Qv} {rs : List (Option Nat)} (h : SvM W w base B g v vs rs) (hk : OkT v) (hf : v.fresh = true) {c : Int} {cs : List Int} (hc : (v.q v.at').costs = c :: cs) (hle : c ≤ (v.q v.at').deficit) :
    Calls Try.prog 49 #[.pointer (some ⟨B, 0, none⟩), .pointer (some ⟨g, v.at' * 4, none⟩)] w fun e w' => e = .returned (.int .i64 c) ∧ ∃ vs', SvM W w' base B g (spent v c cs) vs' rs := by
  have hj := hk.lt
  have hfew := hk.few
  have hcc := hk.cost _ hj c (by rw [hc]; simp)
  have hdd := hk.def_ _ hj
  have hdm : (v.q v.at').deficit ≤ 1114111 := by have := hdd.2; split at this <;> omega
  obtain ⟨b, off, cc, c3, hle1, hle2, c0, htail⟩ := h.tail hj hc
  have hcs1 := h.few _ hj
  rw [hc] at hcs1
  simp only [List.length_cons] at hcs1
  obtain ⟨ca0, cc0, -, -, -, -, -, -, z3, -⟩ := h.at hj
  obtain ⟨ad, had⟩ : ∃ ad : Addr, (cc = 1 ∧ ad = ⟨b, off, none⟩) ∨ (cc ≠ 1 ∧ ad = ⟨b, off + 1, none⟩) := by
    by_cases h1 : cc = 1
    · exact ⟨_, .inl ⟨h1, rfl⟩⟩
    · exact ⟨_, .inr ⟨h1, rfl⟩⟩
  obtain ⟨vs1, h1⟩ := htail ad had
  -- behind the cut
  obtain ⟨w1, hw1⟩ : ∃ w1, w.setCell ⟨g, v.at' * 4 + 3, none⟩ (.slice (some ad) cs.length (cc - 1)) = w1 := ⟨_, rfl⟩
  rw [hw1] at h1
  have hq1 : (⟨v.qs.set v.at' ⟨(v.q v.at').id, (v.q v.at').quantum, (v.q v.at').deficit, cs⟩, v.at', v.fresh⟩ : Tu).q v.at' = ⟨(v.q v.at').id, (v.q v.at').quantum, (v.q v.at').deficit, cs⟩ := by rw [Tu.set_q hj, if_pos rfl]
  obtain ⟨ca1, cc1, -, -, -, y2, -, z2, -, -⟩ := h1.at (j := v.at') (by simpa using hj)
  rw [hq1] at y2
  simp only at y2
  -- behind the cost
  obtain ⟨vs2, h2⟩ := h1.putD (j := v.at') (by simpa using hj) ((v.q v.at').deficit - c)
  rw [hq1] at h2
  simp only [List.set_set] at h2
  obtain ⟨w2, hw2⟩ : ∃ w2, w1.setCell ⟨g, v.at' * 4 + 2, none⟩ (.int .i64 ((v.q v.at').deficit - c)) = w2 := ⟨_, rfl⟩
  rw [hw2] at h2
  have hq2 : (⟨v.qs.set v.at' ⟨(v.q v.at').id, (v.q v.at').quantum, (v.q v.at').deficit - c, cs⟩, v.at', v.fresh⟩ : Tu).q v.at' = ⟨(v.q v.at').id, (v.q v.at').quantum, (v.q v.at').deficit - c, cs⟩ := by rw [Tu.set_q hj, if_pos rfl]
  obtain ⟨ca2, cc2, -, x0, x1, x2, x3, -, -, -⟩ := h2.at (j := v.at') (by simpa using hj)
  rw [hq2] at x0 x1 x2 x3
  simp only at x0 x1 x2 x3
  rw [hf] at h2
  have H2 := Hid.mkT h2
  have HSP : Hid (spent v c cs = if cs = [] then (v.put ⟨(v.q v.at').id, (v.q v.at').quantum, 0, cs⟩).on else v.put ⟨(v.q v.at').id, (v.q v.at').quantum, (v.q v.at').deficit - c, cs⟩) := rfl
  obtain ⟨d, hd⟩ : ∃ d, (v.q v.at').deficit = d := ⟨_, rfl⟩
  obtain ⟨xi, hxi⟩ : ∃ xi, (v.q v.at').id = xi := ⟨_, rfl⟩
  obtain ⟨xq, hxq⟩ : ∃ xq, (v.q v.at').quantum = xq := ⟨_, rfl⟩
  have hbox := h.box
  rw [hd] at y2 x2 H2 HSP hle hdm hw2
  rw [hxi] at x0 H2 HSP
  rw [hxq] at x1 H2 HSP
  obtain ⟨J, hJ⟩ : ∃ J, v.at' = J := ⟨_, rfl⟩
  rw [hJ] at hj
  have HQS : Hid (∀ x, v.put x = ⟨v.qs.set J x, J, true⟩) := fun x => by rw [← hJ]; rfl
  rw [hJ] at y2 x0 x1 x2 x3 z2 z3 c3 H2 hw1 hw2 ⊢
  have HJL := Hid.mkT hj
  obtain ⟨n, hn⟩ : ∃ n, v.qs.length = n := ⟨_, rfl⟩
  have HNN := Hid.mkT hn
  rw [hn] at hj hfew
  clear h1 h2 htail hq1 hq2 hbox hd hxi hxq hdd hk h hJ hn
  have hcn1 : 1 ≤ cc := by omega
  obtain ⟨N, hN⟩ : ∃ N, cs.length = N := ⟨_, rfl⟩
  have HNC := Hid.mkT hN
  rw [hN] at hle1 hcs1 c3 x3 hw1
  clear hN
  obtain ⟨cc1, hcc1⟩ : ∃ cc1, cc - 1 = cc1 := ⟨_, rfl⟩
  rw [hcc1] at hw1
  obtain ⟨d9, hd9⟩ : ∃ d9, d - c = d9 := ⟨_, rfl⟩
  rw [hd9] at hw2 x2 H2 HSP
  have hd9b : 0 ≤ d9 ∧ d9 ≤ 1114111 := by omega
  have hn1 : 1 ≤ N + 1 := by omega
  have HLN : Hid (v.qs.length = n) := HNN.out
  have fin0 : N = 0 → ∀ w3, Below w2.heap.size w2 w3 → w3.frozen? ⟨g, J * 4 + 2, none⟩ = false ∧ (∃ y, w3.cell? ⟨g, J * 4 + 2, none⟩ = some y) ∧ (w3.setCell ⟨g, J * 4 + 2, none⟩ (.int .i64 0)).cell? ⟨B, 1, none⟩ = some (.int .i64 J) ∧ Calls Try.prog 44 #[.pointer (some ⟨B, 0, none⟩), .int .i64 ((J : Int) + 1)] (w3.setCell ⟨g, J * 4 + 2, none⟩ (.int .i64 0)) fun e w' => (∃ x, e = .returned x) ∧ ∃ vs', SvM W w' base B g (spent v c cs) vs' rs := fun hN0 w3 hb3 => by
    have hcs : cs = [] := List.length_eq_zero_iff.mp (by rw [HNC.out]; exact hN0)
    have h3 := H2.out.later hb3
    have hjl : J < (⟨v.qs.set J ⟨xi, xq, d9, cs⟩, J, true⟩ : Tu).qs.length := by simp; exact HJL.out
    obtain ⟨ca, cc, -, -, -, y2, -, f2, -, -⟩ := h3.at hjl
    obtain ⟨vs4, h4⟩ := h3.putD hjl 0
    have hq3 : (⟨v.qs.set J ⟨xi, xq, d9, cs⟩, J, true⟩ : Tu).q J = ⟨xi, xq, d9, cs⟩ := by rw [Tu.set_q HJL.out, if_pos rfl]
    rw [hq3] at h4
    simp only [List.set_set] at h4
    refine ⟨f2, ⟨_, y2⟩, h4.box.b1, ?_⟩
    have hg := qgiveTurnOf h4.box (J + 1) (by omega)
    rw [show ((J + 1 : Nat) : Int) = (J : Int) + 1 by omega] at hg
    refine hg.mono ?_
    rintro e w5 ⟨hx, hb5, hg5⟩
    refine ⟨hx, vs4, ?_⟩
    have h5 := h4.turn _ _ hb5 hg5
    have e : spent v c cs = ⟨v.qs.set J ⟨xi, xq, 0, cs⟩, if v.qs.length ≤ J + 1 then 0 else J + 1, false⟩ := by
      rw [HSP.out, if_pos hcs, HQS.out, next_give _ _ HJL.out]
      unfold Tu.on
      simp
    rw [e]
    simp only [List.length_set] at h5
    exact h5
  have FIN0 := Hid.mkT fin0
  have FIN1 : Hid (N ≠ 0 → ∀ w3, Below w2.heap.size w2 w3 → ∃ vs', SvM W w3 base B g (spent v c cs) vs' rs) := fun hN0 w3 hb3 => by
    have hcs : cs ≠ [] := fun e => hN0 (by rw [← HNC.out, e]; rfl)
    rw [HSP.out, if_neg hcs, HQS.out]
    exact ⟨_, H2.out.later hb3⟩
  clear fin0 H2 HSP HQS HNN HLN HNC
  have hWT : ∀ u, Calls Try.prog 31 #[.agg #[.int .i64 xi, .int .i64 xq, .int .i64 d9, .slice ca2 N cc2]] u fun e w' => e = .returned (.bool (decide (0 < N))) ∧ Below u.heap.size u w' := fun u => qwaitsOf xi xq d9 ca2 N cc2 u
  have HWT := Hid.mkT hWT
  clear hWT
  rcases had with ⟨q1, rfl⟩ | ⟨q1, rfl⟩
  · subst q1
    have h0 : N = 0 := by omega
    subst h0
    obtain rfl : cc1 = 0 := by omega
    go_enter Try.func49, Try.ntmps49
    go_wp2_with fail
    refine (HWT.out _).mono ?_
    rintro e w3 ⟨rfl, hb3⟩
    obtain ⟨f2, ⟨y, k2⟩, k1, hgv⟩ := FIN0.out (by first | rfl | trivial) w3 hb3
    have HGV := Hid.mkT hgv
    clear hgv hb3
    go_wp2_with fail
    refine HGV.out.mono ?_
    rintro e w5 ⟨⟨x, rfl⟩, hend⟩
    have HEND := Hid.mkT hend
    clear hend
    go_wp2
    go_ret
    exact ⟨rfl, HEND.out⟩
  · have q1' : ¬ cc = 1 := q1
    by_cases h0 : N = 0
    · subst h0
      go_enter Try.func49, Try.ntmps49
      go_wp2_with fail
      refine (HWT.out _).mono ?_
      rintro e w3 ⟨rfl, hb3⟩
      obtain ⟨f2, ⟨y, k2⟩, k1, hgv⟩ := FIN0.out (by first | rfl | trivial) w3 hb3
      have HGV := Hid.mkT hgv
      clear hgv hb3
      go_wp2_with fail
      refine HGV.out.mono ?_
      rintro e w5 ⟨⟨x, rfl⟩, hend⟩
      have HEND := Hid.mkT hend
      clear hend
      go_wp2
      go_ret
      exact ⟨rfl, HEND.out⟩
    · go_enter Try.func49, Try.ntmps49
      go_wp2_with fail
      refine (HWT.out _).mono ?_
      rintro e w3 ⟨rfl, hb3⟩
      have HEND := Hid.mkT (FIN1.out h0 w3 hb3)
      have hd0 : decide (0 < N) = true := by simp; omega
      clear hb3
      go_wp2
      go_ret
      exact ⟨rfl, HEND.out⟩
end Go.Proofs.Ytelhjdplghpnbaa
