import Derived.Test.YtelhjdplghpnbabSeH
/-! The law's back. -/
namespace Go.Proofs.Ytelhjdplghpnbab
open Go.RowKit Plain
set_option linter.unusedVariables false
set_option linter.unusedSimpArgs false

theorem list_ext {l k : List Qu} (h : l.length = k.length) (he : ∀ j, j < k.length → l.getD j Qu.zero = k.getD j Qu.zero) : l = k := by
  refine List.ext_getElem h (fun j h1 h2 => ?_)
  have := he j h2
  simpa [List.getD_eq_getElem?_getD, h1, h2] using this
theorem ints_ext {l k : List Int} (h : l.length = k.length) (he : ∀ j, j < k.length → l.getD j 0 = k.getD j 0) : l = k := by
  refine List.ext_getElem h (fun j h1 h2 => ?_)
  have := he j h2
  simpa [List.getD_eq_getElem?_getD, h1, h2] using this
def BackP (base : Nat) (t : Tr) (g n cap : Nat) (rs : List (Option Nat)) (w : World) (e : Ending) (w' : World) : Prop := ∃ vs', e = .returned (.tuple #[]) ∧ Rm base w' g n cap t vs' rs ∧ Below base w w' ∧ ∀ k, k < w.heap.size → k ≠ g → (∀ j, j < n → rs.getD j none ≠ some k) → w'.heap[k]? = w.heap[k]?
set_option maxHeartbeats 8000000 in
set_option maxRecDepth 100000 in
theorem lbackOf (base g n cap : Nat) (t t' : Tr) (vs : List Qv) (rs : List (Option Nat)) (v : Value) (w : World) (h : Rm base w g n cap t' vs rs) (hk : Like t t') (hT : ∀ u, Below base w u → TrAt u v t) : Calls Try.prog 10 #[turV (.slice (some ⟨g, 0, none⟩) n cap) t', turV v t] w (BackP base t g n cap rs w) := by
  obtain ⟨l, z', f'⟩ := t'
  obtain ⟨lt, z, f⟩ := t
  have e1 : z' = z := hk.at_
  have e2 : f' = f := hk.fr
  subst e1 e2
  obtain ⟨a, tc, rfl⟩ := (hT w (Below.refl _ _)).shape
  unfold turV
  simp only at hT ⊢
  have HT := Hid.mkT hT
  clear hT
  obtain ⟨w0, hw0⟩ : ∃ w0, w.alloc (.cells #[.slice (some ⟨g, 0, none⟩) n cap, .int .i64 z', .bool f'] 24) = w0 := ⟨_, rfl⟩
  obtain ⟨w1, hw1⟩ : ∃ w1, w0.alloc (.cells #[.slice a lt.length tc, .int .i64 z', .bool f'] 24) = w1 := ⟨_, rfl⟩
  obtain ⟨B, hB⟩ : ∃ B, w.heap.size = B := ⟨_, rfl⟩
  have s0 : w0.heap.size = B + 1 := by rw [← hw0, ← hB]; simp
  have HS : Hid (MvS base w w1 B (B + 1) g n cap ⟨l, z', f'⟩ vs rs ⟨l, z', f'⟩ (.slice (some ⟨g, 0, none⟩) n cap) ⟨lt, z', f'⟩ (.slice a lt.length tc)) := by
    have b0 := (turBox w (.slice (some ⟨g, 0, none⟩) n cap) z' f').1
    have x0 := BoxT.new w (.slice (some ⟨g, 0, none⟩) n cap) ⟨l, z', f'⟩ z' f' rfl rfl
    rw [hw0] at b0 x0
    rw [hB] at x0
    have b1 := (turBox w0 (.slice a lt.length tc) z' f').1
    have x1 := BoxT.new w0 (.slice a lt.length tc) ⟨lt, z', f'⟩ z' f' rfl rfl
    rw [hw1] at b1 x1
    rw [s0] at x1
    have hg := h.mem.row.lt
    have hbs : base ≤ w.heap.size := by have := h.mem.new g rfl; omega
    have hbb := below_of b0 b1
    refine ⟨h.later hbb, x0.later b1, x1, ⟨hbb.os, hbb.tape, hbb.output, hbb.size, fun k hk => hbb.block k (by omega)⟩, ⟨by omega, by omega, fun j hj b e => ?_⟩, fun k hk _ _ => hbb.block k (by omega)⟩
    have := h.row hj
    rw [e] at this
    have := this.lt
    omega
  have hn : n = l.length := h.n_
  have hnt : lt.length = n := by have := hk.len; simp only at this; omega
  have hfew := h.few
  have HNT := Hid.mkT hnt
  have HK0 := Hid.mkT hk
  clear h hn hk
  clear HNT
  generalize hNt : lt.length = nt at *
  have HNT := Hid.mkT hNt
  clear hNt
  subst hnt
  obtain ⟨p0, p1, p2, -, -⟩ := HS.out.bb
  obtain ⟨r0, r1, r2, -, -⟩ := HS.out.rb
  simp only at p1 p2 r1 r2
  go_enter Try.func10, Try.ntmps10
  go_wp2
  go_loopw [4] (fun s4 u => ∃ (i : Nat) (l' : List Qu) (vs' : List Qv), i ≤ nt ∧ s4 = .int .i64 i ∧ Hid (MvS base w u B (B + 1) g nt cap ⟨l', z', f'⟩ vs' rs ⟨l, z', f'⟩ (.slice (some ⟨g, 0, none⟩) nt cap) ⟨lt, z', f'⟩ (.slice a nt tc)) ∧ Hid (Like ⟨lt, z', f'⟩ ⟨l', z', f'⟩) ∧ Hid (∀ j, j < i → l'.getD j Qu.zero = lt.getD j Qu.zero)) (fun s4 _ => nt - (intOf s4).toNat)
  case atStart => exact ⟨0, l, vs, by omega, rfl, HS.out, HK0.out, fun j hj => by omega⟩
  case round =>
    obtain ⟨i, l1, vs1, hi, rfl, HM, HLk, HD⟩ := hrel
    clear p0 p1 p2 r0 r1 r2
    obtain ⟨p0, p1, p2, -, -⟩ := HM.out.bb
    obtain ⟨r0, r1, r2, -, -⟩ := HM.out.rb
    simp only at p1 p2 r1 r2
    by_cases hin : i < nt
    · have hini : (i : Int) < (nt : Int) := by omega
      have HIL : Hid (i < l1.length) := by have := HM.out.rm.n_; simp only at this; unfold Hid; omega
      have HLT : Hid (lt.length = nt) := HNT.out
      obtain ⟨c0, c1, c2, c3⟩ := HM.out.rm.cell (j := i) (by omega)
      have f0 := HM.out.rm.mem.row.fz (j := i * 4) (by have := HM.out.rm.len; omega)
      obtain ⟨tb, to_, ta, tcc, rfl, ht1, ht2, ht3, ht4⟩ := (HT.out _ HM.out.below).row.at (i := i) (by simp only; rw [HLT.out]; exact hin)
      simp only at ht1 ht2
      have y0 := (ht1 _ (Below.refl _ _)).1.c0
      simp only at y0
      obtain ⟨xi, hxi⟩ : ∃ xi, (lt.getD i Qu.zero).id = xi := ⟨_, rfl⟩
      have HXI := Hid.mkT hxi
      rw [hxi] at y0 ht2
      obtain ⟨vs2, hm1⟩ := HM.out.setId hin xi ht2
      have HM1 := Hid.mkT hm1.drew
      have HLk1 := Hid.mkT (HLk.out.set HIL.out ⟨xi, (l1.getD i Qu.zero).quantum, (l1.getD i Qu.zero).deficit, (l1.getD i Qu.zero).costs⟩ rfl rfl rfl)
      have HD1 : Hid ((∀ j, j < i → (l1.set i ⟨xi, (l1.getD i Qu.zero).quantum, (l1.getD i Qu.zero).deficit, (l1.getD i Qu.zero).costs⟩).getD j Qu.zero = lt.getD j Qu.zero) ∧ ((l1.set i ⟨xi, (l1.getD i Qu.zero).quantum, (l1.getD i Qu.zero).deficit, (l1.getD i Qu.zero).costs⟩).getD i Qu.zero).id = xi) := by
        refine ⟨fun j hj => ?_, ?_⟩
        · rw [getD_set _ _ _ _ _ HIL.out, if_neg (by omega)]; exact HD.out j hj
        · rw [getD_set _ _ _ _ _ HIL.out, if_pos rfl]
      generalize l1.set i ⟨xi, (l1.getD i Qu.zero).quantum, (l1.getD i Qu.zero).deficit, (l1.getD i Qu.zero).costs⟩ = l2 at *
      obtain ⟨u1, hu1⟩ : ∃ u1, (wr.setCell ⟨g, i * 4, none⟩ (.int .i64 xi)).drew = u1 := ⟨_, rfl⟩
      rw [hu1] at HM1
      obtain ⟨N, hN⟩ : ∃ N, (lt.getD i Qu.zero).costs.length = N := ⟨_, rfl⟩
      have HN := Hid.mkT hN
      have hNm : N ≤ 17592186044000 := by rw [← hN]; exact (ht1 _ (Below.refl _ _)).2.most
      clear hN hxi hm1 HM HLk HD c1 c2 c3 ht1 ht2 ht3 ht4
      go_wp2
      go_region
      clear p0 p1 p2 r0 r1 r2 c0 f0 y0
      go_wp2
      go_loopw [5] (fun s5 u => ∃ (k : Nat) (l' : List Qu) (vs' : List Qv), k ≤ N ∧ s5 = .int .i64 k ∧ Hid (MvS base w u B (B + 1) g nt cap ⟨l', z', f'⟩ vs' rs ⟨l, z', f'⟩ (.slice (some ⟨g, 0, none⟩) nt cap) ⟨lt, z', f'⟩ (.slice (some ⟨tb, to_, none⟩) nt tc)) ∧ Hid (Like ⟨lt, z', f'⟩ ⟨l', z', f'⟩) ∧ Hid ((∀ j, j < i → l'.getD j Qu.zero = lt.getD j Qu.zero) ∧ (l'.getD i Qu.zero).id = xi ∧ ∀ j, j < k → (l'.getD i Qu.zero).costs.getD j 0 = (lt.getD i Qu.zero).costs.getD j 0)) (fun s5 _ => N - (intOf s5).toNat)
      case atStart => exact ⟨0, l2, vs2, by omega, rfl, HM1.out, HLk1.out, HD1.out.1, HD1.out.2, fun j hj => by omega⟩
      case round =>
        obtain ⟨k, l3, vs3, hk, rfl, HM2, HLk2, HD2⟩ := hrel
        obtain ⟨p0, p1, p2, -, -⟩ := HM2.out.bb
        obtain ⟨r0, r1, r2, -, -⟩ := HM2.out.rb
        simp only at p1 p2 r1 r2
        have HNL : Hid ((l3.getD i Qu.zero).costs.length = N) := by
          have := (HLk2.out.same i (by simp only; rw [HLT.out]; exact hin)).2.2
          unfold Hid
          rw [← HN.out]
          exact this
        obtain ⟨-, -, -, c3⟩ := HM2.out.rm.cell (j := i) (by omega)
        obtain ⟨-, -, -, a4⟩ := HM2.out.rm.same i hin
        have a5 : (vs3.getD i Qv.zero).sl.2.1 = N := by rw [a4]; exact HNL.out
        rw [a5] at c3
        obtain ⟨tb', to', ta', tcc', e0, ht1, -, -, -⟩ := (HT.out _ HM2.out.below).row.at (i := i) (by simp only; rw [HLT.out]; exact hin)
        simp only [Option.some.injEq, Addr.mk.injEq, and_true] at e0
        obtain ⟨rfl, rfl⟩ := e0
        simp only at ht1
        obtain ⟨⟨-, -, -, y3⟩, yin⟩ := ht1 _ (Below.refl _ _)
        simp only at y3
        rw [HN.out] at y3 yin
        clear a4 a5 ht1
        have hil3 : i < l3.length := by have := HM2.out.rm.n_; simp only at this; omega
        by_cases hkN : k < N
        · have hkNi : (k : Int) < (N : Int) := by omega
          obtain ⟨yb, yo, rfl, yc, yI⟩ := yin.cell (i := k) (by rw [HN.out]; exact hkN)
          obtain ⟨x, hx⟩ : ∃ x, (lt.getD i Qu.zero).costs.getD k 0 = x := ⟨_, rfl⟩
          have HX := Hid.mkT hx
          rw [hx] at yc yI
          obtain ⟨b, off, e1, e2, e3, e4⟩ := HM2.out.setCost hin (k := k) (by rw [HNL.out]; exact hkN) x yI
          rw [e1] at c3
          generalize (vs3.getD i Qv.zero).sl.2.2 = cc at *
          have HM3 := Hid.mkT e4.drew
          have HLk3 := Hid.mkT (HLk2.out.set hil3 ⟨(l3.getD i Qu.zero).id, (l3.getD i Qu.zero).quantum, (l3.getD i Qu.zero).deficit, (l3.getD i Qu.zero).costs.set k x⟩ rfl rfl (by simp))
          have HD3 : Hid ((∀ j, j < i → (l3.set i ⟨(l3.getD i Qu.zero).id, (l3.getD i Qu.zero).quantum, (l3.getD i Qu.zero).deficit, (l3.getD i Qu.zero).costs.set k x⟩).getD j Qu.zero = lt.getD j Qu.zero) ∧ ((l3.set i ⟨(l3.getD i Qu.zero).id, (l3.getD i Qu.zero).quantum, (l3.getD i Qu.zero).deficit, (l3.getD i Qu.zero).costs.set k x⟩).getD i Qu.zero).id = xi ∧ ∀ j, j < k + 1 → ((l3.set i ⟨(l3.getD i Qu.zero).id, (l3.getD i Qu.zero).quantum, (l3.getD i Qu.zero).deficit, (l3.getD i Qu.zero).costs.set k x⟩).getD i Qu.zero).costs.getD j 0 = (lt.getD i Qu.zero).costs.getD j 0) := by
            obtain ⟨d1, d2, d3⟩ := HD2.out
            refine ⟨fun j hj => ?_, ?_, fun j hj => ?_⟩
            · rw [getD_set _ _ _ _ _ hil3, if_neg (by omega)]; exact d1 j hj
            · rw [getD_set _ _ _ _ _ hil3, if_pos rfl]; exact d2
            · rw [getD_set _ _ _ _ _ hil3, if_pos rfl]
              simp only
              rw [getD_set _ _ _ _ _ (by rw [HNL.out]; exact hkN)]
              by_cases e : j = k
              · rw [if_pos e, e]; exact HX.out.symm
              · rw [if_neg e]; exact d3 j (by omega)
          generalize l3.set i ⟨(l3.getD i Qu.zero).id, (l3.getD i Qu.zero).quantum, (l3.getD i Qu.zero).deficit, (l3.getD i Qu.zero).costs.set k x⟩ = l4 at *
          clear e1 e4 hx HM2 HLk2 HNL HD2 yin yI
          go_wp2
          go_region
          go_wp2
          go_roundw
          case rel => exact ⟨k + 1, l4, vs3, by omega, by go_num, HM3.out, HLk3.out, HD3.out⟩
          case measure => simp only [intOf]; omega
        · have hkNi : ¬ (k : Int) < (N : Int) := by omega
          have HD4 : Hid (∀ j, j < i + 1 → l3.getD j Qu.zero = lt.getD j Qu.zero) := fun j hj => by
            obtain ⟨d1, d2, d3⟩ := HD2.out
            by_cases e : j = i
            · subst e
              obtain ⟨q1, q2, q3⟩ := HLk2.out.same j (by simp only; rw [HLT.out]; exact hin)
              have hcs : (l3.getD j Qu.zero).costs = (lt.getD j Qu.zero).costs := ints_ext q3 (fun m hm => d3 m (by rw [HN.out] at hm; omega))
              have q1' : (l3.getD j Qu.zero).quantum = (lt.getD j Qu.zero).quantum := q1
              have q2' : (l3.getD j Qu.zero).deficit = (lt.getD j Qu.zero).deficit := q2
              have d2' := d2.trans HXI.out.symm
              generalize l3.getD j Qu.zero = X at *
              generalize lt.getD j Qu.zero = Y at *
              obtain ⟨xa, xb, xc, xd⟩ := X
              obtain ⟨ya, yb, yc, yd⟩ := Y
              simp only at hcs q1' q2' d2'
              rw [hcs, q1', q2', d2']
            · exact d1 j (by omega)
          clear HD2
          go_wp2
          go_roundw
          case rel => exact ⟨i + 1, l3, vs3, by omega, by go_num, HM2.out, HLk2.out, HD4.out⟩
          case measure => simp only [intOf]; omega
    · have hini : ¬ (i : Int) < (nt : Int) := by omega
      have HF : Hid (BackP base ⟨lt, z', f'⟩ g nt cap rs w (.returned (.tuple #[])) wr) := by
        have hlen : l1.length = lt.length := HLk.out.len
        have e : l1 = lt := list_ext hlen (fun j hj => HD.out j (by rw [HNT.out] at hj; omega))
        have hm := HM.out.rm
        rw [e] at hm
        exact ⟨vs1, rfl, hm, HM.out.below, HM.out.fr⟩
      clear HM HLk HD
      go_wp2
      exact ⟨rfl, _, results_none rfl _ _ _, HF.out⟩
end Go.Proofs.Ytelhjdplghpnbab
