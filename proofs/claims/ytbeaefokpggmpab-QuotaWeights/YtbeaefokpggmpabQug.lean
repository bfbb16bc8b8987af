import Derived.Test.YtbeaefokpggmpabQuf
/-! quota: max-min fairness. -/
namespace Go.Proofs.Ytbeaefokpggmpab
open Go.RowKit
set_option linter.unusedVariables false

/-- How many ask for more than a level. -/
def cntL (L : Int) : List Int → Int
  | [] => 0
  | a :: k => (if L < a then 1 else 0) + cntL L k
theorem cntL_cons (L a : Int) (k : List Int) : cntL L (a :: k) = (if L < a then 1 else 0) + cntL L k := rfl
theorem cntL_nonneg (L : Int) : ∀ k, 0 ≤ cntL L k
  | [] => Int.le_refl _
  | a :: k => by rw [cntL_cons]; have := cntL_nonneg L k; split <;> omega
theorem capsum_succ (L : Int) : ∀ k, capsum k (L + 1) = capsum k L + cntL L k
  | [] => rfl
  | a :: k => by
    rw [capsum_cons, capsum_cons, capsum_succ L k, cntL_cons]
    split <;> omega
theorem sharesL_sum (L : Int) : ∀ (k : List Int) (left : Int), 0 ≤ left → (sharesL L left k).sum = capsum k L + min left (cntL L k)
  | [], left, h => by simp [sharesL, capsum, cntL]; omega
  | a :: k, left, h => by
    by_cases hu : L < a ∧ 0 < left
    · rw [sharesL_up k hu, List.sum_cons, sharesL_sum L k (left - 1) (by omega), capsum_cons, cntL_cons, if_pos hu.1]
      have := cntL_nonneg L k
      omega
    · rw [sharesL_down k hu, List.sum_cons, sharesL_sum L k left h, capsum_cons, cntL_cons]
      have := cntL_nonneg L k
      split
      · have : left = 0 := by omega
        omega
      · omega
theorem capsum_le_sum (L : Int) : ∀ k : List Int, capsum k L ≤ k.sum
  | [] => Int.le_refl _
  | a :: k => by rw [capsum_cons, List.sum_cons]; have := capsum_le_sum L k; omega
theorem capsum_all {L : Int} : ∀ {k : List Int}, (∀ a ∈ k, a ≤ L) → capsum k L = k.sum
  | [], _ => rfl
  | a :: k, h => by
    rw [capsum_cons, List.sum_cons, capsum_all (fun b hb => h b (List.mem_cons_of_mem _ hb))]
    have := h a (List.mem_cons_self ..)
    omega
/-- Each share, against its ask. -/
theorem sharesL_each (L : Int) : ∀ (k : List Int) (left : Int) (i : Nat), i < k.length → (∀ a ∈ k, 0 ≤ a) → 0 ≤ L →
    0 ≤ (sharesL L left k).getD i 0 ∧ (sharesL L left k).getD i 0 ≤ k.getD i 0 ∧ (sharesL L left k).getD i 0 ≤ L + 1 ∧ ((sharesL L left k).getD i 0 < k.getD i 0 → L ≤ (sharesL L left k).getD i 0)
  | [], _, i, h, _, _ => by simp at h
  | a :: k, left, i, h, ha, hL => by
    have ha0 := ha a (List.mem_cons_self ..)
    have hk : ∀ b ∈ k, 0 ≤ b := fun b hb => ha b (List.mem_cons_of_mem _ hb)
    by_cases hu : L < a ∧ 0 < left
    · rw [sharesL_up k hu]
      cases i with
      | zero => simp; omega
      | succ i => simpa using sharesL_each L k (left - 1) i (by simpa using h) hk hL
    · rw [sharesL_down k hu]
      cases i with
      | zero => simp; omega
      | succ i => simpa using sharesL_each L k left i (by simpa using h) hk hL
structure FairP (total : Int) (A S : List Int) : Prop where
  len : S.length = A.length
  n64 : A.length ≤ 64
  each : ∀ i, i < A.length → 0 ≤ S.getD i 0 ∧ S.getD i 0 ≤ A.getD i 0 ∧ A.getD i 0 ≤ 1099511627776
  fair : ∀ i k, i < A.length → k < A.length → S.getD i 0 < A.getD i 0 → S.getD k 0 ≤ S.getD i 0 + 1
  sum : S.sum = min total A.sum
theorem fair_of {total : Int} {l : List Int} (h : ShOk total l) {L : Int} (hL : IsLvl total l L) : FairP total l (sharesL L (total - capsum l L) l) := by
  have ha : ∀ a ∈ l, 0 ≤ a := fun a h1 => (h.asks a h1).1
  have hle := hL.le
  refine ⟨sharesL_len _ _ _, h.len, fun i hi => ?_, fun i k hi hk hlt => ?_, ?_⟩
  · have h1 := sharesL_each L l (total - capsum l L) i hi ha hL.l0
    exact ⟨h1.1, h1.2.1, (h.asks _ (getD_mem hi)).2⟩
  · have h1 := (sharesL_each L l (total - capsum l L) i hi ha hL.l0).2.2.2 hlt
    have h2 := (sharesL_each L l (total - capsum l L) k hk ha hL.l0).2.2.1
    omega
  · rw [sharesL_sum L l _ (by omega)]
    have hc := cntL_nonneg L l
    rcases hL.top with e | e
    · have h1 : capsum l L = l.sum := capsum_all (fun a h1 => by have := (h.asks a h1).2; omega)
      have h2 := capsum_succ L l
      have h3 : capsum l (L + 1) = l.sum := capsum_all (fun a h1 => by have := (h.asks a h1).2; omega)
      omega
    · have h2 := capsum_succ L l
      have h3 := capsum_le_sum (L + 1) l
      omega
theorem shares_fair {total : Int} {l : List Int} {w w' : World} {e : Ending} (h : ShPost total l w e w') (hg : ShOk total l) : FairP total l (sharesP total l) := by
  obtain ⟨L, v, r, h1, -⟩ := h.1 hg
  rw [sharesP_is h1]
  exact fair_of hg h1

theorem sum_takes {l : List Int} {M : Int} (h : ∀ i, i < l.length → 0 ≤ l.getD i 0 ∧ l.getD i 0 ≤ M) : ∀ k, k ≤ l.length → 0 ≤ (l.take k).sum ∧ (l.take k).sum ≤ M * (k : Int)
  | 0, _ => by simp
  | k + 1, hk => by
    have h1 := sum_takes h k (by omega)
    have h2 := h k (by omega)
    rw [sum_snoc l k (by omega)]
    have : M * ((k + 1 : Nat) : Int) = M * (k : Int) + M := by rw [Int.natCast_add, Int.mul_add]; simp
    omega
set_option maxHeartbeats 4000000 in
set_option maxRecDepth 1000000 in
theorem fairWalk (total : Int) (va : Value) (l : List Int) (W : World) (ht : I64 total) (h : NumsAt W va l) (hlen : l.length ≤ 17592186044416) : Calls Try.prog 3 #[.int .i64 total, va] W fun e w' => e = .returned (.bool true) ∧ Below W.heap.size W w' := by
  obtain ⟨a, cap, rfl, hm⟩ := h.shp
  have HN : Hid (NumsAt W (.slice a l.length cap) l) := h
  have HWK : Hid (∀ u, Calls Try.prog 8 #[] u fun e w' => e = .returned (.bool true) ∧ Below u.heap.size u w') := worksOf
  have HQ := sharesOf total (.slice a l.length cap) l W ht h
  have HQ2 : Hid (Calls Try.prog 7 #[.int .i64 total, .slice a l.length cap] W fun e w' => Ans (ShOk total l) (sharesP total l) W e w' ∧ (ShOk total l → FairP total l (sharesP total l))) := HQ.mono fun e w' h => ⟨h.ans, fun hg => shares_fair h hg⟩
  clear h hm HQ
  go_enter Try.func3, Try.ntmps3
  go_wp2_with fail
  refine HQ2.out.mono ?_
  rintro e w1 ⟨h1, hf⟩
  obtain ⟨v1, r1, G, z, rfl, o1, -, hb1, g1, g2⟩ := h1.row
  obtain ⟨a1, c1, rfl⟩ := o1.shp
  have HB1 : Hid (Below W.heap.size W w1) := hb1
  by_cases hg : ShOk total l
  case neg =>
    obtain ⟨rfl, rfl⟩ := g2 hg
    clear h1 hf g1 g2 o1 hb1
    go_wp2_with fail
    refine (HWK.out _).mono ?_
    rintro e w2 ⟨rfl, hb2⟩
    have HB2 : Hid (Below W.heap.size W w2) := HB1.out.trans (hb2.mono HB1.out.size)
    clear hb2
    go_wp2
    go_ret
    exact ⟨by simp, HB2.out⟩
  obtain ⟨hGe, rfl⟩ := g1 hg
  have hfp := hf hg
  rw [← hGe] at hfp
  have HFP : Hid (FairP total l G) := hfp
  have HT0 : 0 ≤ total ∧ total ≤ 1099511627776 := ⟨hg.t0, hg.t1⟩
  have HS : Hid (NumsAt w1 (.slice a1 G.length c1) G) := o1.nums
  have hgl : G.length = l.length := hfp.len
  have hn64 : l.length ≤ 64 := hfp.n64
  rw [hgl] at HS ⊢
  have HCA : Hid (∀ u i, Below w1.heap.size w1 u → i < l.length → ∃ b off, a = some ⟨b, off, none⟩ ∧ u.cell? ⟨b, off + i, none⟩ = some (.int .i64 (l.getD i 0))) := fun u i hu hi => by
    obtain ⟨b, off, cp, e, hc⟩ := HN.out.get hi
    simp only [Value.slice.injEq] at e
    exact ⟨b, off, e.1, hc u (HB1.out.trans (hu.mono HB1.out.size))⟩
  have HCG : Hid (∀ u i, Below w1.heap.size w1 u → i < l.length → ∃ b off, a1 = some ⟨b, off, none⟩ ∧ u.cell? ⟨b, off + i, none⟩ = some (.int .i64 (G.getD i 0))) := fun u i hu hi => by
    obtain ⟨b, off, cp, e, hc⟩ := HS.out.get (k := i) (by omega)
    simp only [Value.slice.injEq] at e
    exact ⟨b, off, e.1, hc u hu⟩
  clear h1 hf g1 g2 o1 hb1 hfp hGe
  have HSG : Hid (∀ k, k ≤ l.length → 0 ≤ (G.take k).sum ∧ (G.take k).sum ≤ 1099511627776 * (k : Int)) := fun k hk => sum_takes (fun i hi => by have := HFP.out.each i (by omega); omega) k (by omega)
  have HSA : Hid (∀ k, k ≤ l.length → 0 ≤ (l.take k).sum ∧ (l.take k).sum ≤ 1099511627776 * (k : Int)) := fun k hk => sum_takes (fun i hi => by have := HFP.out.each i hi; omega) k hk
  go_wp2
  go_loopw [7, 8, 9] (fun s7 s8 s9 wr => ∃ k : Nat, k ≤ l.length ∧ s9 = .int .i64 k ∧ s7 = .int .i64 ((G.take k).sum) ∧ s8 = .int .i64 ((l.take k).sum) ∧ Hid (Below w1.heap.size w1 wr)) (fun _ _ i _ => l.length - (intOf i).toNat)
  case atStart => exact ⟨0, by omega, rfl, rfl, rfl, Below.refl _ _⟩
  case round =>
    obtain ⟨i, hi, rfl, rfl, rfl, HB⟩ := hrel
    by_cases hI : i < l.length
    · obtain ⟨b, off, rfl, c0⟩ := HCA.out wr i HB.out hI
      obtain ⟨b2, off2, rfl, c2⟩ := HCG.out wr i HB.out hI
      have hii : (i : Int) < (l.length : Int) := by omega
      have he := HFP.out.each i hI
      have hs1 := HSG.out i hi
      have hs2 := HSA.out i hi
      have HF1 : Hid ((G.take (i + 1)).sum = (G.take i).sum + G.getD i 0) := sum_snoc G i (by omega)
      have HF2 : Hid ((l.take (i + 1)).sum = (l.take i).sum + l.getD i 0) := sum_snoc l i hI
      have HFK : Hid (∀ k, k < l.length → G.getD i 0 < l.getD i 0 → G.getD k 0 ≤ G.getD i 0 + 1) := fun k hk hlt => HFP.out.fair i k hI hk hlt
      have HCI : Hid (∀ u, Below w1.heap.size w1 u → u.cell? ⟨b, off + i, none⟩ = some (.int .i64 (l.getD i 0)) ∧ u.cell? ⟨b2, off2 + i, none⟩ = some (.int .i64 (G.getD i 0))) := fun u hu => by
        obtain ⟨b', o', e, d⟩ := HCA.out u i hu hI
        obtain ⟨b'', o'', e', d'⟩ := HCG.out u i hu hI
        simp at e e'
        obtain ⟨rfl, rfl⟩ := e
        obtain ⟨rfl, rfl⟩ := e'
        exact ⟨d, d'⟩
      generalize (G.take i).sum = SG at *
      generalize (l.take i).sum = SA at *
      generalize l.getD i 0 = x at *
      generalize hyG : G.getD i 0 = y at *
      have hw1 : wrap64 (SG + y) = SG + y := by unfold wrap64; omega
      have hw2 : wrap64 (SA + x) = SA + x := by unfold wrap64; omega
      have hw3 : wrap64 (y + 1) = y + 1 := by unfold wrap64; omega
      have hd1 : decide (y < 0) = false := by simp; omega
      have hd2 : decide (x < y) = false := by simp; omega
      go_wp2
      go_quiet (fail)
      have HB4 : Hid (Below w1.heap.size w1 (wr.drewN nq)) := ⟨HB.out.os, HB.out.tape, HB.out.output, HB.out.size, HB.out.block⟩
      go_wp2
      go_loopw [10] (fun s10 wq => ∃ k : Nat, k ≤ l.length ∧ s10 = .int .i64 k ∧ Hid (Below w1.heap.size w1 wq)) (fun i _ => l.length - (intOf i).toNat)
      case atStart => exact ⟨0, by omega, rfl, HB4⟩
      case round =>
        clear c0 c2
        obtain ⟨k, hk, rfl, HK⟩ := hrel
        by_cases hKl : k < l.length
        · obtain ⟨b3, off3, e3, c3⟩ := HCG.out wr k HK.out hKl
          simp only [Option.some.injEq, Addr.mk.injEq] at e3
          obtain ⟨rfl, rfl, -⟩ := e3
          obtain ⟨c0, c2⟩ := HCI.out wr HK.out
          have hkk : (k : Int) < (l.length : Int) := by omega
          have hff := HFK.out k hKl
          generalize G.getD k 0 = u at *
          by_cases hlt : y < x
          · have hd3 : decide (y < x) = true := by simpa using hlt
            have hd4 : decide (y + 1 < u) = false := by have := hff hlt; simp; omega
            go_wp2
            go_quiet (fail)
            have HB5 : Hid (Below w1.heap.size w1 (wr.drewN nq)) := ⟨HK.out.os, HK.out.tape, HK.out.output, HK.out.size, HK.out.block⟩
            go_wp2
            go_roundw
            case rel => exact ⟨k + 1, by omega, by go_num, HB5⟩
            case measure => simp [intOf]; omega
          · have hd3 : decide (y < x) = false := by simpa using hlt
            go_wp2
            go_quiet (fail)
            have HB5 : Hid (Below w1.heap.size w1 (wr.drewN nq)) := ⟨HK.out.os, HK.out.tape, HK.out.output, HK.out.size, HK.out.block⟩
            go_wp2
            go_roundw
            case rel => exact ⟨k + 1, by omega, by go_num, HB5⟩
            case measure => simp [intOf]; omega
        · have hkk : ¬ (k : Int) < (l.length : Int) := by omega
          go_wp2
          go_roundw
          case rel => exact ⟨i + 1, by omega, by go_num, by rw [HF1.out], by rw [HF2.out], HK⟩
          case measure => simp [intOf]; omega
    · have hii : ¬ (i : Int) < (l.length : Int) := by omega
      have hie : i = l.length := by omega
      subst hie
      have hsum := HFP.out.sum
      have e1 : G.take l.length = G := by rw [← hgl, List.take_length]
      rw [e1, List.take_length]
      have hsb := HSA.out l.length (Nat.le_refl _)
      rw [List.take_length] at hsb
      generalize G.sum = SG at *
      generalize l.sum = SA at *
      have HM : Hid ((if SA < total then SA else total) = SG) := by unfold Hid; rw [hsum]; split <;> omega
      clear hsum
      go_wp2_with (first | refine wpList_mnN (by with_reducible rfl) _ _ 2 2 _ _ _ (by with_reducible rfl) (by rfl) (by rfl) HM.out ?_ | fail)
      go_ret
      exact ⟨by simp, HB1.out.trans (HB.out.mono HB1.out.size)⟩
end Go.Proofs.Ytbeaefokpggmpab
