import Derived.Test.YtbeaefokpggmpabQuh
/-! quota: the law of weights outright: its walk. -/
namespace Go.Proofs.Ytbeaefokpggmpab
open Go.RowKit
set_option linter.unusedVariables false

set_option maxHeartbeats 4000000 in
set_option maxRecDepth 1000000 in
theorem weightsWalk (total : Int) (va : Value) (l : List Int) (W : World) (ht : I64 total) (h : NumsAt W va l) (hlen : l.length ≤ 17592186044416) : Calls Try.prog 6 #[.int .i64 total, va] W fun e w' => e = .returned (.bool true) ∧ Below W.heap.size W w' := by
  obtain ⟨a, cap, rfl, hm⟩ := h.shp
  have HN : Hid (NumsAt W (.slice a l.length cap) l) := h
  have HWK : Hid (∀ u, Calls Try.prog 8 #[] u fun e w' => e = .returned (.bool true) ∧ Below u.heap.size u w') := worksOf
  have HQ := spreadOf total (.slice a l.length cap) l W ht h
  have HQ2 : Hid (Calls Try.prog 14 #[.int .i64 total, .slice a l.length cap] W fun e w' => Ans (SpOk total l) (spreadL total l.sum l) W e w' ∧ (SpOk total l → WeightP total l (spreadL total l.sum l))) := HQ.mono fun e w' h => ⟨h.ans, fun hg => weight_of hg⟩
  clear h hm HQ
  go_enter Try.func6, Try.ntmps6
  go_wp2_with fail
  refine HQ2.out.mono ?_
  rintro e w1 ⟨h1, hf⟩
  obtain ⟨v1, r1, G, z, rfl, o1, -, hb1, g1, g2⟩ := h1.row
  obtain ⟨a1, c1, rfl⟩ := o1.shp
  have HB1 : Hid (Below W.heap.size W w1) := hb1
  by_cases hg : SpOk total l
  case neg =>
    obtain ⟨rfl, rfl⟩ := g2 hg
    clear h1 hf g1 g2 o1 hb1
    go_wp2_with fail
    refine (HWK.out _).mono ?_
    rintro e w2 ⟨rfl, hb2⟩
    have HB2 : Hid (Below W.heap.size W w2) := HB1.out.trans (hb2.mono HB1.out.size)
    clear hb2
    go_wp2
    go_ret
    exact ⟨by simp, HB2.out⟩
  obtain ⟨hGe, rfl⟩ := g1 hg
  have hfp := hf hg
  rw [← hGe] at hfp
  have HFP : Hid (WeightP total l G) := hfp
  have HT0 : 0 ≤ total ∧ total ≤ 1099511627776 := ⟨hg.t0, hg.t1⟩
  have HS : Hid (NumsAt w1 (.slice a1 G.length c1) G) := o1.nums
  have hgl : G.length = l.length := hfp.len
  have hn64 : l.length ≤ 64 := hfp.n64
  rw [hgl] at HS ⊢
  have HCA : Hid (∀ u i, Below w1.heap.size w1 u → i < l.length → ∃ b off, a = some ⟨b, off, none⟩ ∧ u.cell? ⟨b, off + i, none⟩ = some (.int .i64 (l.getD i 0))) := fun u i hu hi => by
    obtain ⟨b, off, cp, e, hc⟩ := HN.out.get hi
    simp only [Value.slice.injEq] at e
    exact ⟨b, off, e.1, hc u (HB1.out.trans (hu.mono HB1.out.size))⟩
  have HCG : Hid (∀ u i, Below w1.heap.size w1 u → i < l.length → ∃ b off, a1 = some ⟨b, off, none⟩ ∧ u.cell? ⟨b, off + i, none⟩ = some (.int .i64 (G.getD i 0))) := fun u i hu hi => by
    obtain ⟨b, off, cp, e, hc⟩ := HS.out.get (k := i) (by omega)
    simp only [Value.slice.injEq] at e
    exact ⟨b, off, e.1, hc u hu⟩
  clear h1 hf g1 g2 o1 hb1 hfp hGe
  have HSG : Hid (∀ k, k ≤ l.length → 0 ≤ (G.take k).sum ∧ (G.take k).sum ≤ 1099511627777 * (k : Int)) := fun k hk => sum_takes (fun i hi => by have := HFP.out.each i (by omega); omega) k (by omega)
  have HSA : Hid (∀ k, k ≤ l.length → 0 ≤ (l.take k).sum ∧ (l.take k).sum ≤ 1048576 * (k : Int)) := fun k hk => sum_takes (fun i hi => by have := HFP.out.each i hi; omega) k hk
  go_wp2
  go_loopw [7, 8, 9] (fun s7 s8 s9 wr => ∃ k : Nat, k ≤ l.length ∧ s9 = .int .i64 k ∧ s7 = .int .i64 ((l.take k).sum) ∧ s8 = .int .i64 ((G.take k).sum) ∧ Hid (Below w1.heap.size w1 wr)) (fun _ _ i _ => l.length - (intOf i).toNat)
  case atStart => exact ⟨0, by omega, rfl, rfl, rfl, Below.refl _ _⟩
  case round =>
    obtain ⟨i, hi, rfl, rfl, rfl, HB⟩ := hrel
    by_cases hI : i < l.length
    · obtain ⟨b, off, rfl, c0⟩ := HCA.out wr i HB.out hI
      obtain ⟨b2, off2, rfl, c2⟩ := HCG.out wr i HB.out hI
      have hii : (i : Int) < (l.length : Int) := by omega
      have he := HFP.out.each i hI
      have hs1 := HSG.out i hi
      have hs2 := HSA.out i hi
      have HF1 : Hid ((G.take (i + 1)).sum = (G.take i).sum + G.getD i 0) := sum_snoc G i (by omega)
      have HF2 : Hid ((l.take (i + 1)).sum = (l.take i).sum + l.getD i 0) := sum_snoc l i hI
      generalize (G.take i).sum = SG at *
      generalize (l.take i).sum = SA at *
      generalize l.getD i 0 = x at *
      generalize G.getD i 0 = y at *
      have hw1 : wrap64 (SG + y) = SG + y := by unfold wrap64; omega
      have hw2 : wrap64 (SA + x) = SA + x := by unfold wrap64; omega
      go_wp2
      go_roundw
      case rel => exact ⟨i + 1, by omega, by go_num, by rw [HF2.out], by rw [HF1.out], HB⟩
      case measure => simp [intOf]; omega
    · have hii : ¬ (i : Int) < (l.length : Int) := by omega
      have hie : i = l.length := by omega
      subst hie
      have hsum := HFP.out.sum
      have e1 : G.take l.length = G := by rw [← hgl, List.take_length]
      rw [e1, List.take_length, hsum]
      have hpos := HFP.out.pos
      have hsmall := HFP.out.small
      have HEA : Hid (∀ i, i < l.length → 0 ≤ G.getD i 0 ∧ G.getD i 0 ≤ 1099511627777 ∧ 0 ≤ l.getD i 0 ∧ l.getD i 0 ≤ 1048576 ∧ -l.sum < G.getD i 0 * l.sum - total * l.getD i 0 ∧ G.getD i 0 * l.sum - total * l.getD i 0 < l.sum ∧ (l.getD i 0 = 0 → G.getD i 0 = 0)) := HFP.out.each
      generalize l.sum = V at *
      go_wp2
      go_loopw [10] (fun s10 wr => ∃ k : Nat, k ≤ l.length ∧ s10 = .int .i64 k ∧ Hid (Below w1.heap.size w1 wr)) (fun i _ => l.length - (intOf i).toNat)
      case atStart => exact ⟨0, by omega, rfl, HB⟩
      case round =>
        clear HB
        obtain ⟨i, hi, rfl, HB⟩ := hrel
        by_cases hI : i < l.length
        · obtain ⟨b, off, rfl, c0⟩ := HCA.out wr i HB.out hI
          obtain ⟨b2, off2, rfl, c2⟩ := HCG.out wr i HB.out hI
          have hii : (i : Int) < (l.length : Int) := by omega
          have he := HEA.out i hI
          have HMO : Hid (∀ k, k < l.length → l.getD k 0 < l.getD i 0 → G.getD k 0 ≤ G.getD i 0) := fun k hk hlt => HFP.out.mono i k hI hk hlt
          have HAL : Hid (∀ k, k < l.length → l.getD i 0 = l.getD k 0 → G.getD i 0 ≤ G.getD k 0 + 1) := fun k hk hlt => HFP.out.alike i k hI hk hlt
          have HEK : Hid (∀ k, k < l.length → 0 ≤ G.getD k 0 ∧ G.getD k 0 ≤ 1099511627777) := fun k hk => by have := HEA.out k hk; omega
          have HCI : Hid (∀ u, Below w1.heap.size w1 u → u.cell? ⟨b, off + i, none⟩ = some (.int .i64 (l.getD i 0)) ∧ u.cell? ⟨b2, off2 + i, none⟩ = some (.int .i64 (G.getD i 0))) := fun u hu => by
            obtain ⟨b', o', e, d⟩ := HCA.out u i hu hI
            obtain ⟨b'', o'', e', d'⟩ := HCG.out u i hu hI
            simp at e e'
            obtain ⟨rfl, rfl⟩ := e
            obtain ⟨rfl, rfl⟩ := e'
            exact ⟨d, d'⟩
          generalize l.getD i 0 = x at *
          generalize G.getD i 0 = y at *
          have hprod := mul_le_of (a := total) (b := x) (m := 1099511627776) (n := 1048576) HT0.1 he.2.2.1 HT0.2 he.2.2.2.1
          have hv1 : IntKind.i64.wrap (y * V) = y * V := IntWalk.i64_in _ (by omega)
          have hv2 : IntKind.i64.wrap (total * x) = total * x := IntWalk.i64_in _ (by omega)
          have hv3 : IntKind.i64.wrap (y * V - total * x) = y * V - total * x := IntWalk.i64_in _ (by omega)
          have hw1 : wrap64 (y * V) = y * V := by unfold wrap64; omega
          have hw2 : wrap64 (total * x) = total * x := by unfold wrap64; omega
          have hw3 : wrap64 (y * V - total * x) = y * V - total * x := by unfold wrap64; omega
          go_wp2
          go_quiet (fail)
          obtain ⟨wv, hwv⟩ : ∃ u, wr.drewN nq = u := ⟨_, rfl⟩
          have HBv : Hid (Below w1.heap.size w1 wv) := by rw [← hwv]; exact ⟨HB.out.os, HB.out.tape, HB.out.output, HB.out.size, HB.out.block⟩
          rw [hwv]
          clear c0 c2 HB
          obtain ⟨c0, c2⟩ := HCI.out wv HBv.out
          obtain ⟨O, hO⟩ : ∃ z, y * V - total * x = z := ⟨_, rfl⟩
          rw [hO] at hv3 hw3 he ⊢
          clear hprod hv1 hv2 hv3 hw1 hw2 hw3 hO
          have hw4 : wrap64 (-V) = -V := by unfold wrap64; omega
          have hv4 : IntKind.i64.wrap (-V) = -V := IntWalk.i64_in _ (by omega)
          have hd1 : decide (O ≤ -V) = false := by simp; omega
          have hd2 : decide (V ≤ O) = false := by simp; omega
          by_cases hx0 : x = 0
          · have hd7 : (x == 0) = true := by simpa using hx0
            have hy0 := he.2.2.2.2.2.2 hx0
            have hd8 : (y != 0) = false := by simpa using hy0
            have hd9 : (y == 0) = true := by simpa using hy0
            have HX0 : Hid (x = 0) := hx0
            have HY0 : Hid (y = 0) := hy0
            have hx1 : 0 ≤ x ∧ x ≤ 1048576 := by omega
            have hy1 : 0 ≤ y ∧ y ≤ 1099511627777 := by omega
            clear hx0 hy0 he
            have HB4 : Hid (Below w1.heap.size w1 wv) := HBv.out
            go_wp2
            go_loopw [12] (fun s12 wq => ∃ k : Nat, k ≤ l.length ∧ s12 = .int .i64 k ∧ Hid (Below w1.heap.size w1 wq)) (fun i _ => l.length - (intOf i).toNat)
            case atStart => exact ⟨0, by omega, rfl, HB4⟩
            case round =>
              clear c0 c2
              obtain ⟨k, hk, rfl, HK⟩ := hrel
              by_cases hKl : k < l.length
              · obtain ⟨b3, off3, e3, c3⟩ := HCG.out wr k HK.out hKl
                obtain ⟨b4, off4, e4, c4⟩ := HCA.out wr k HK.out hKl
                simp only [Option.some.injEq, Addr.mk.injEq] at e3 e4
                obtain ⟨rfl, rfl, -⟩ := e3
                obtain ⟨rfl, rfl, -⟩ := e4
                obtain ⟨c0, c2⟩ := HCI.out wr HK.out
                have hkk : (k : Int) < (l.length : Int) := by omega
                have hmo := HMO.out k hKl
                have hal := HAL.out k hKl
                have hek := HEK.out k hKl
                generalize G.getD k 0 = u at *
                generalize l.getD k 0 = z at *
                have hw5 : wrap64 (u + 1) = u + 1 := by unfold wrap64; omega
                have hv5 : IntKind.i64.wrap (u + 1) = u + 1 := IntWalk.i64_in _ (by omega)
                by_cases hlt : z < x
                · have hd3 : decide (z < x) = true := by simpa using hlt
                  have hd4 : decide (y < u) = false := by have := hmo hlt; simp; omega
                  have hd5 : (x == z) = false := by simp; omega
                  go_wp2
                  go_quiet (fail)
                  have HB5 : Hid (Below w1.heap.size w1 (wr.drewN nq)) := ⟨HK.out.os, HK.out.tape, HK.out.output, HK.out.size, HK.out.block⟩
                  go_wp2
                  go_roundw
                  case rel => exact ⟨k + 1, by omega, by go_num, HB5⟩
                  case measure => simp [intOf]; omega
                have hd3 : decide (z < x) = false := by simpa using hlt
                by_cases hxz : x = z
                · have hd5 : (x == z) = true := by simpa using hxz
                  have hd6 : decide (u + 1 < y) = false := by have := hal hxz; simp; omega
                  have HXZ : Hid (x = z) := hxz
                  clear hxz hal hmo
                  go_wp2
                  go_quiet (fail)
                  have HB5 : Hid (Below w1.heap.size w1 (wr.drewN nq)) := ⟨HK.out.os, HK.out.tape, HK.out.output, HK.out.size, HK.out.block⟩
                  go_wp2
                  go_roundw
                  case rel => exact ⟨k + 1, by omega, by go_num, HB5⟩
                  case measure => simp [intOf]; omega
                · have hd5 : (x == z) = false := by simpa using hxz
                  go_wp2
                  go_quiet (fail)
                  have HB5 : Hid (Below w1.heap.size w1 (wr.drewN nq)) := ⟨HK.out.os, HK.out.tape, HK.out.output, HK.out.size, HK.out.block⟩
                  go_wp2
                  go_roundw
                  case rel => exact ⟨k + 1, by omega, by go_num, HB5⟩
                  case measure => simp [intOf]; omega
              · have hkk : ¬ (k : Int) < (l.length : Int) := by omega
                go_wp2
                go_roundw
                case rel => exact ⟨i + 1, by omega, by go_num, HK⟩
                case measure => simp [intOf]; omega
          · have hd7 : (x == 0) = false := by simpa using hx0
            have hx1 : 0 ≤ x ∧ x ≤ 1048576 := by omega
            have hy1 : 0 ≤ y ∧ y ≤ 1099511627777 := by omega
            clear he
            have HB4 : Hid (Below w1.heap.size w1 wv) := HBv.out
            go_wp2
            go_loopw [12] (fun s12 wq => ∃ k : Nat, k ≤ l.length ∧ s12 = .int .i64 k ∧ Hid (Below w1.heap.size w1 wq)) (fun i _ => l.length - (intOf i).toNat)
            case atStart => exact ⟨0, by omega, rfl, HB4⟩
            case round =>
              clear c0 c2
              obtain ⟨k, hk, rfl, HK⟩ := hrel
              by_cases hKl : k < l.length
              · obtain ⟨b3, off3, e3, c3⟩ := HCG.out wr k HK.out hKl
                obtain ⟨b4, off4, e4, c4⟩ := HCA.out wr k HK.out hKl
                simp only [Option.some.injEq, Addr.mk.injEq] at e3 e4
                obtain ⟨rfl, rfl, -⟩ := e3
                obtain ⟨rfl, rfl, -⟩ := e4
                obtain ⟨c0, c2⟩ := HCI.out wr HK.out
                have hkk : (k : Int) < (l.length : Int) := by omega
                have hmo := HMO.out k hKl
                have hal := HAL.out k hKl
                have hek := HEK.out k hKl
                generalize G.getD k 0 = u at *
                generalize l.getD k 0 = z at *
                have hw5 : wrap64 (u + 1) = u + 1 := by unfold wrap64; omega
                have hv5 : IntKind.i64.wrap (u + 1) = u + 1 := IntWalk.i64_in _ (by omega)
                by_cases hlt : z < x
                · have hd3 : decide (z < x) = true := by simpa using hlt
                  have hd4 : decide (y < u) = false := by have := hmo hlt; simp; omega
                  have hd5 : (x == z) = false := by simp; omega
                  go_wp2
                  go_quiet (fail)
                  have HB5 : Hid (Below w1.heap.size w1 (wr.drewN nq)) := ⟨HK.out.os, HK.out.tape, HK.out.output, HK.out.size, HK.out.block⟩
                  go_wp2
                  go_roundw
                  case rel => exact ⟨k + 1, by omega, by go_num, HB5⟩
                  case measure => simp [intOf]; omega
                have hd3 : decide (z < x) = false := by simpa using hlt
                by_cases hxz : x = z
                · have hd5 : (x == z) = true := by simpa using hxz
                  have hd6 : decide (u + 1 < y) = false := by have := hal hxz; simp; omega
                  have HXZ : Hid (x = z) := hxz
                  clear hxz hal hmo
                  go_wp2
                  go_quiet (fail)
                  have HB5 : Hid (Below w1.heap.size w1 (wr.drewN nq)) := ⟨HK.out.os, HK.out.tape, HK.out.output, HK.out.size, HK.out.block⟩
                  go_wp2
                  go_roundw
                  case rel => exact ⟨k + 1, by omega, by go_num, HB5⟩
                  case measure => simp [intOf]; omega
                · have hd5 : (x == z) = false := by simpa using hxz
                  go_wp2
                  go_quiet (fail)
                  have HB5 : Hid (Below w1.heap.size w1 (wr.drewN nq)) := ⟨HK.out.os, HK.out.tape, HK.out.output, HK.out.size, HK.out.block⟩
                  go_wp2
                  go_roundw
                  case rel => exact ⟨k + 1, by omega, by go_num, HB5⟩
                  case measure => simp [intOf]; omega
              · have hkk : ¬ (k : Int) < (l.length : Int) := by omega
                go_wp2
                go_roundw
                case rel => exact ⟨i + 1, by omega, by go_num, HK⟩
                case measure => simp [intOf]; omega
        · have hii : ¬ (i : Int) < (l.length : Int) := by omega
          go_wp2
          go_ret
          exact ⟨by simp, HB1.out.trans (HB.out.mono HB1.out.size)⟩
end Go.Proofs.Ytbeaefokpggmpab
