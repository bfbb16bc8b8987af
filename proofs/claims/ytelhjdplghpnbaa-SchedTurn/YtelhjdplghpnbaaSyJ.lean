import Derived.Test.YtelhjdplghpnbaaSyI
import Derived.BigRegion
/-! The program's skipRounds. -/
namespace Go.Proofs.Ytelhjdplghpnbaa
open Go.RowKit Plain
set_option linter.unusedVariables false
set_option linter.unusedSimpArgs false

theorem idleL_snoc : ∀ (l : List Qu) (q : Qu) (z : Int), idleL (l ++ [q]) z = if q.costs = [] then idleL l z else min (idleL l z) (missQ q)
  | [], q, z => rfl
  | a :: l, q, z => by
    show idleL (l ++ [q]) _ = _
    rw [idleL_snoc l q]
    rfl
theorem take_snocQ (l : List Qu) (i : Nat) (h : i < l.length) : l.take (i + 1) = l.take i ++ [l.getD i Qu.zero] := by
  rw [List.take_succ_eq_append_getElem h]
  simp [List.getD_eq_getElem?_getD, h]
theorem idle_bounds {u : Tu} (h : OkT u) (hk : Lack u) (i : Nat) : 0 ≤ idleL (u.qs.take i) 1048576 ∧ idleL (u.qs.take i) 1048576 ≤ 1048576 := by
  refine ⟨idleL_nonneg _ _ (by omega) (fun q hq hw => missQ_nonneg h hk q (List.mem_of_mem_take hq) hw), (idleL_le _ _).1⟩
/-- One more, by the queue at place i. -/
theorem idle_step {u : Tu} (h : OkT u) (hk : Lack u) {i : Nat} (hi : i < u.qs.length) : ((u.q i).costs = [] → idleL (u.qs.take (i + 1)) 1048576 = idleL (u.qs.take i) 1048576) ∧ ∀ c cs, (u.q i).costs = c :: cs → (u.q i).deficit < c ∧ c ≤ 1048576 ∧ idleL (u.qs.take (i + 1)) 1048576 = min (idleL (u.qs.take i) 1048576) ((c - (u.q i).deficit - 1).tdiv (u.q i).quantum) := by
  rw [take_snocQ _ _ hi, idleL_snoc]
  have e : u.qs.getD i Qu.zero = u.q i := rfl
  rw [e]
  refine ⟨fun hc => by rw [if_pos hc], fun c cs hc => ?_⟩
  have h1 := hk i hi c cs hc
  have h2 := h.cost i hi c (by rw [hc]; simp)
  refine ⟨h1, h2.2, ?_⟩
  rw [if_neg (by rw [hc]; simp)]
  unfold missQ
  rw [hc]
  simp only [List.headD_cons]
  rw [Int.tdiv_eq_ediv_of_nonneg (by omega)]
/-- Within the second loop: the first i have got theirs. -/
structure SkP (u t' : Tu) (k i : Nat) : Prop where
  len : t'.qs.length = u.qs.length
  at_ : t'.at' = u.at'
  fr : t'.fresh = u.fresh
  q : ∀ j, j < u.qs.length → t'.q j = if j < i then skipQ k (u.q j) else u.q j
theorem SkP.idle {u t' : Tu} {k i : Nat} (h : SkP u t' k i) (hc : (u.q i).costs = []) : SkP u t' k (i + 1) := by
  refine ⟨h.len, h.at_, h.fr, fun j hj => ?_⟩
  rw [h.q j hj]
  by_cases e : j = i
  · subst e
    rw [if_neg (by omega), if_pos (by omega)]
    unfold skipQ
    rw [if_pos hc]
  · by_cases e2 : j < i
    · rw [if_pos e2, if_pos (by omega)]
    · rw [if_neg e2, if_neg (by omega)]
theorem SkP.more {u t' : Tu} {k i : Nat} (h : SkP u t' k i) (hi : i < u.qs.length) (hc : (u.q i).costs ≠ []) : SkP u ⟨t'.qs.set i ⟨(t'.q i).id, (t'.q i).quantum, (u.q i).deficit + k * (u.q i).quantum, (t'.q i).costs⟩, t'.at', t'.fresh⟩ k (i + 1) := by
  have hq := h.q i hi
  rw [if_neg (by omega)] at hq
  have hi' : i < t'.qs.length := by rw [h.len]; exact hi
  refine ⟨by simp [h.len], h.at_, h.fr, fun j hj => ?_⟩
  rw [Tu.set_q hi', hq]
  by_cases e : j = i
  · subst e
    rw [if_pos rfl, if_pos (by omega)]
    unfold skipQ
    rw [if_neg hc]
  · rw [if_neg e, h.q j hj]
    by_cases e2 : j < i
    · rw [if_pos e2, if_pos (by omega)]
    · rw [if_neg e2, if_neg (by omega)]
theorem SkP.all {u t' : Tu} {k : Nat} (h : SkP u t' k u.qs.length) : t' = skipT k u := by
  refine tu_ext (by rw [h.len, skipT_len]) (fun j hj => ?_) h.at_ h.fr
  rw [h.len] at hj
  rw [h.q j hj, if_pos hj, skipT_q]
set_option maxHeartbeats 4000000 in
set_option maxRecDepth 100000 in
theorem qskipRoundsOf {W w : World} {base B g : Nat} {u : Tu} {vs : List Qv} {rs : List (Option Nat)} (h : SvM W w base B g u vs rs) (hk : OkT u) (hL : Lack u) (hf : u.fresh = false) (n : Nat) (hn : u.qs.length = n) :
    Calls Try.prog 48 #[.slice (some ⟨g, 0, none⟩) n n] w fun e w' => (∃ x, e = .returned x) ∧ ∃ vs', SvM W w' base B g (skipT (idleL u.qs 1048576).toNat u) vs' rs := by
  have hfew := hk.few
  have HSV := Hid.mkT h
  have HIB := Hid.mkT (fun i => idle_bounds hk hL i)
  have HIS := Hid.mkT (fun i hi => idle_step hk hL (i := i) hi)
  have HQQ : Hid (∀ i, i < n → 1 ≤ (u.q i).quantum ∧ (u.q i).quantum ≤ 65536 ∧ 0 ≤ (u.q i).deficit ∧ (u.q i).deficit ≤ 1048575) := fun i hi => by
    have h1 := hk.quantum i (by omega)
    have h2 := hk.def_ i (by omega)
    rw [hf] at h2
    simp at h2
    exact ⟨h1.1, h1.2, h2.1, h2.2⟩
  have HSA := Hid.mkT (skip_all hk hL hf).2.2.2.2
  rw [hn] at HSA
  have HNN := Hid.mkT hn
  rw [hn] at hfew
  clear hL hk h
  go_enter Try.func48, Try.ntmps48
  go_wp2
  go_loopw [2, 9] (fun id i wx => ∃ k : Nat, k ≤ n ∧ i = .int .i64 k ∧ id = .int .i64 (idleL (u.qs.take k) 1048576) ∧ Hid (SvM W wx base B g u vs rs)) (fun _ i _ => n - (intOf i).toNat)
  case atStart => exact ⟨0, by omega, rfl, rfl, HSV.out⟩
  case round =>
    obtain ⟨k, hk, rfl, rfl, HSW⟩ := hrel
    clear HSV
    by_cases hlt : k < n
    · have hku : k < u.qs.length := by rw [HNN.out]; exact hlt
      obtain ⟨ca, cc, -, c0, c1, c2, c3, -, -, hr⟩ := HSW.out.at hku
      obtain ⟨hs1, hs2⟩ := HIS.out k hku
      have hib := HIB.out k
      have hqq := HQQ.out k hlt
      obtain ⟨I, hI⟩ : ∃ I, idleL (u.qs.take k) 1048576 = I := ⟨_, rfl⟩
      obtain ⟨I2, hI2⟩ : ∃ I, idleL (u.qs.take (k + 1)) 1048576 = I := ⟨_, rfl⟩
      have HI2 := Hid.mkT hI2
      rw [hI] at hib hs1 hs2 ⊢
      rw [hI2] at hs1 hs2
      clear hI hI2
      obtain ⟨xi, hxi⟩ : ∃ xi, (u.q k).id = xi := ⟨_, rfl⟩
      obtain ⟨xq, hxq⟩ : ∃ xq, (u.q k).quantum = xq := ⟨_, rfl⟩
      obtain ⟨xd, hxd⟩ : ∃ xd, (u.q k).deficit = xd := ⟨_, rfl⟩
      obtain ⟨cs, hcs⟩ : ∃ cs, (u.q k).costs = cs := ⟨_, rfl⟩
      rw [hxi] at c0
      rw [hxq] at c1 hs2 hqq
      rw [hxd] at c2 hs2 hqq
      rw [hcs] at c3 hs1 hs2 hr
      clear hxi hxq hxd hcs
      have hki : (k : Int) < (n : Int) := by omega
      obtain ⟨w5, hw5⟩ : ∃ w5, wr.alloc (.cells #[.int .i64 xi, .int .i64 xq, .int .i64 xd, .slice ca cs.length cc] 47) = w5 := ⟨_, rfl⟩
      have hqb := queBox wr xi xq xd (.slice ca cs.length cc)
      rw [hw5] at hqb
      have HB5 := Hid.mkT hqb.1
      have HQB := Hid.mkT hqb.2
      obtain ⟨y0, y1, y2, y3⟩ := hqb.2 w5 (Below.refl _ _)
      obtain ⟨C, hC⟩ : ∃ C, wr.heap.size = C := ⟨_, rfl⟩
      rw [hC] at y0 y1 y2 y3 HQB
      clear hqb
      cases cs with
      | nil =>
        have hI' := hs1 rfl
        clear hs1 hs2 hr
        simp only [List.length_nil] at *
        go_wp2_with fail
        refine (qwaitsOf xi xq xd ca 0 cc _).mono ?_
        rintro e w6 ⟨rfl, hb6⟩
        have HS6 : Hid (SvM W w6 base B g u vs rs) := (HSW.out.later HB5.out).later hb6
        clear hb6 HQB HB5 HSW
        go_wp2
        go_roundw
        case rel => exact ⟨k + 1, by omega, by go_num, by rw [HI2.out, hI'], HS6.out⟩
        case measure => simp only [intOf]; omega
      | cons c cs =>
        obtain ⟨hs3, hs4, hs5⟩ := hs2 c cs rfl
        clear hs1 hs2
        obtain ⟨b, off, rfl, hcell⟩ : ∃ b off, ca = some ⟨b, off, none⟩ ∧ wr.cell? ⟨b, off, none⟩ = some (.int .i64 c) := by
          rcases hr with ⟨_, e, _⟩ | ⟨g', off', cap', _, e, hgl, _, h2, _, _, h5⟩
          · simp at e
          · simp only [Value.slice.injEq] at e
            obtain ⟨rfl, -, rfl⟩ := e
            have := h5 0 (by simp)
            simp at this
            exact ⟨_, _, rfl, this⟩
        have HCC := Hid.mkT hcell
        clear hr hcell
        simp only [List.length_cons] at *
        obtain ⟨T, hT⟩ : ∃ T, (c - xd - 1).tdiv xq = T := ⟨_, rfl⟩
        have hT0 : 0 ≤ T := by rw [← hT]; exact Int.tdiv_nonneg (by omega) (by omega)
        have hT1 : T ≤ 1048576 := by
          rw [← hT, Int.tdiv_eq_ediv_of_nonneg (by omega)]
          have := Int.ediv_le_self xq (a := c - xd - 1) (by omega)
          omega
        rw [hT] at hs5
        have hq0 : ¬ xq = 0 := by omega
        go_wp2_with fail
        refine (qwaitsOf xi xq xd (some ⟨b, off, none⟩) (cs.length + 1) cc _).mono ?_
        rintro e w6 ⟨rfl, hb6⟩
        have hd0 : decide (0 < cs.length + 1) = true := by simp
        rw [hd0]
        have HS6 : Hid (∀ m, SvM W (w6.drewN m) base B g u vs rs) := fun m => ((HSW.out.later HB5.out).later hb6).later (below_drawn w6 m)
        have b6 : Below wr.heap.size wr w6 := below_of HB5.out hb6
        have hc6 : w6.cell? ⟨b, off, none⟩ = some (.int .i64 c) := (b6.cell (p := ⟨b, off, none⟩) (cell_lt HCC.out)).trans HCC.out
        have HQB6 := Hid.mkT (fun m => HQB.out (w6.drewN m) (below_of hb6 (below_drawn w6 m)))
        clear y0 y1 y2 y3
        obtain ⟨y0, y1, y2, y3⟩ := HQB.out w6 hb6
        clear hb6 b6 HQB HB5 HSW HCC
        go_wp2_with fail
        go_quiet (fail)
        clear y0 y1 y2 y3
        obtain ⟨y0, y1, y2, y3⟩ := HQB6.out nq
        have HS7 := Hid.mkT (HS6.out nq)
        clear HQB6 HS6
        generalize w6.drewN nq = w7 at *
        by_cases hmin : I ≤ T
        · have hI' : I2 = I := by omega
          go_wp2
          try any_goals (exfalso; omega)
          go_roundw
          case rel => exact ⟨k + 1, by omega, by go_num, by rw [HI2.out, hI'], HS7.out⟩
          case measure => simp only [intOf]; omega
        · have hI' : I2 = T := by omega
          go_wp2
          try any_goals (exfalso; omega)
          go_roundw
          case rel => exact ⟨k + 1, by omega, by go_num, by rw [HI2.out, hI']; first | rfl | rw [hT] | rw [if_pos (show T < I by omega)], HS7.out⟩
          case measure => simp only [intOf]; omega
    · obtain rfl : k = n := by omega
      have hall : u.qs.take k = u.qs := by rw [← HNN.out]; exact List.take_length
      have hib := HIB.out k
      rw [hall] at hib ⊢
      obtain ⟨K, hK⟩ : ∃ K : Nat, idleL u.qs 1048576 = K := ⟨_, (Int.toNat_of_nonneg hib.1).symm⟩
      rw [hK] at hib HSA ⊢
      have HKT : Hid ((idleL u.qs 1048576).toNat = K) := by unfold Hid; rw [hK]; simp
      have HP0 : Hid (SkP u u K 0) := ⟨rfl, rfl, rfl, fun j hj => by rw [if_neg (by omega)]⟩
      clear HIS HIB hK hall
      go_wp2
      go_loopw [32] (fun i wx => ∃ (j : Nat) (t' : Tu) (vs' : List Qv), j ≤ k ∧ i = .int .i64 j ∧ Hid (SkP u t' K j) ∧ Hid (SvM W wx base B g t' vs' rs)) (fun i _ => k - (intOf i).toNat)
      case atStart => exact ⟨0, u, vs, by omega, rfl, HP0.out, HSW.out⟩
      case round =>
        obtain ⟨j, t', vs', hj, rfl, HP, HSV⟩ := hrel
        clear HSW HP0
        by_cases hlt2 : j < k
        · have hju : j < u.qs.length := by rw [HNN.out]; exact hlt2
          have hjt : j < t'.qs.length := by rw [HP.out.len]; exact hju
          obtain ⟨ca, cc, -, c0, c1, c2, c3, f2, -, -⟩ := HSV.out.at hjt
          have hq := HP.out.q j hju
          rw [if_neg (by omega)] at hq
          rw [hq] at c0 c1 c2 c3
          have hqq := HQQ.out j hlt2
          have HSJ := Hid.mkT (HSA.out j hlt2)
          have hp1 := Hid.mkT (fun hc => HP.out.idle (i := j) hc)
          have hp2 := Hid.mkT (fun hc => HP.out.more hju hc)
          have HTI : Hid (t'.q j = u.q j) := hq
          clear hq
          obtain ⟨xi, hxi⟩ : ∃ xi, (u.q j).id = xi := ⟨_, rfl⟩
          obtain ⟨xq, hxq⟩ : ∃ xq, (u.q j).quantum = xq := ⟨_, rfl⟩
          obtain ⟨xd, hxd⟩ : ∃ xd, (u.q j).deficit = xd := ⟨_, rfl⟩
          obtain ⟨cs, hcs⟩ : ∃ cs, (u.q j).costs = cs := ⟨_, rfl⟩
          rw [hxi] at c0
          rw [hxq] at c1 hqq HSJ hp2
          rw [hxd] at c2 hqq HSJ hp2
          rw [hcs] at c3 HSJ hp1 hp2
          have HXQ := Hid.mkT hxq
          have HXD := Hid.mkT hxd
          clear hxi hxq hxd hcs
          have hji : (j : Int) < (k : Int) := by omega
          obtain ⟨N, hN⟩ : ∃ N, cs.length = N := ⟨_, rfl⟩
          rw [hN] at c3
          go_wp2_with fail
          refine (qwaitsOf xi xq xd ca N cc _).mono ?_
          rintro e w6 ⟨rfl, hb6⟩
          have HS6 := Hid.mkT (HSV.out.later hb6)
          clear c0 c1 c2 c3 f2 hb6
          by_cases hN0 : N = 0
          · have hcs0 : cs = [] := List.length_eq_zero_iff.mp (by omega)
            have HP1 := Hid.mkT (hp1.out hcs0)
            subst hN0
            clear hp1 hp2 HSJ hN hcs0
            go_wp2
            go_roundw
            case rel => exact ⟨j + 1, t', vs', by omega, by go_num, HP1.out, HS6.out⟩
            case measure => simp only [intOf]; omega
          · have hcs0 : cs ≠ [] := fun e => hN0 (by rw [← hN, e]; rfl)
            have HP2 := Hid.mkT (hp2.out hcs0)
            obtain ⟨hm1, hm2⟩ := HSJ.out hcs0
            have hd0 : decide (0 < N) = true := by simp; omega
            obtain ⟨ca, cc, -, c0, c1, c2, c3, f2, -, -⟩ := HS6.out.at hjt
            rw [HTI.out] at c0 c1 c2 c3
            rw [HXQ.out] at c1
            rw [HXD.out] at c2
            obtain ⟨vs2, h2⟩ := HS6.out.putD hjt (xd + K * xq)
            have HPD := Hid.mkT (fun m => h2.later (below_drawn _ m))
            clear h2
            obtain ⟨M, hM⟩ : ∃ M, (K : Int) * xq = M := ⟨_, rfl⟩
            rw [hM] at HPD HP2 hm1 hm2
            clear c0 c3 hp1 hp2 HSJ hN hcs0 HS6
            go_wp2
            go_region
            go_wp2
            go_roundw
            case rel =>
              exact ⟨j + 1, _, vs2, by omega, by go_num, HP2.out, HPD.out 1⟩
            case measure => simp only [intOf]; omega
        · obtain rfl : j = k := by omega
          have HF : Hid (∃ vs', SvM W wr base B g (skipT K u) vs' rs) := by
            have e := HP.out
            rw [← HNN.out] at e
            rw [← e.all]
            exact ⟨vs', HSV.out⟩
          go_wp2
          refine ⟨rfl, _, results_none rfl _ _ _, ?_⟩
          exact ⟨⟨_, rfl⟩, by rw [HKT.out]; exact HF.out⟩
end Go.Proofs.Ytelhjdplghpnbaa
