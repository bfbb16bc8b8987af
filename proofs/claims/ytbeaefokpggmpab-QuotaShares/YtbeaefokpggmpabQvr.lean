import Derived.Test.YtbeaefokpggmpabQvq
/-! quota: the program's levelOf. -/
namespace Go.Proofs.Ytbeaefokpggmpab
open Go.RowKit Plain
set_option linter.unusedVariables false

set_option maxHeartbeats 8000000 in
set_option maxRecDepth 1000000 in
theorem levelOf' (total : Int) (v : Value) (l : List Int) (w : World) (h : NumsAt w v l) (hsh : ShOk total l) : Calls Try.prog 17 #[.int .i64 total, v] w fun e w' => ∃ V, e = .returned (.int .i64 V) ∧ LvP total l V ∧ Below w.heap.size w w' := by
  have ht0 := hsh.t0
  have ht1 := hsh.t1
  have hlen := hsh.len
  have HO : Hid (AskOk l) := hsh.asks
  obtain ⟨a, cap, rfl, hm⟩ := h.shp
  obtain ⟨w0, hw0⟩ : ∃ w0, w.alloc (.cells #[.slice a l.length cap] 22) = w0 := ⟨_, rfl⟩
  have HB0 : Hid (Below w.heap.size w w0) := by rw [← hw0]; exact (Below.refl _ _).alloc (Nat.le_refl _) _
  have cb : w0.cell? ⟨w.heap.size, 0, none⟩ = some (.slice a l.length cap) := by rw [← hw0]; exact World.cell?_alloc_at _ _ _ _ rfl
  have HV : Hid (Calls Try.prog 28 #[.slice a l.length cap] w fun e w' => e = .returned (.func (.func 38) #[] #[.pointer (some ⟨w.heap.size, 0, none⟩)]) ∧ w' = w0) := by rw [← hw0]; exact valuesOf a l.length cap w
  have HS : Hid (Calls Try.prog 27 #[.func (.func 38) #[] #[.pointer (some ⟨w.heap.size, 0, none⟩)]] w0 fun e w' => ∃ v' r, e = .returned v' ∧ OwnL w' v' (sortI l) r ∧ (∀ g, r = some g → w0.heap.size ≤ g) ∧ Below w0.heap.size w0 w') := sortedOf _ l _ w0 hlen (by rw [← hw0]; simp) cb (h.later HB0.out)
  obtain ⟨s, hs⟩ : ∃ s, sortI l = s := ⟨_, rfl⟩
  have HSP : Hid (s.Perm l) := by rw [← hs]; exact sortI_perm l
  have HSR : Hid (s.Pairwise (fun a b => a ≤ b)) := by rw [← hs]; exact sortI_le l
  have HSN : Hid (∀ a ∈ s, 0 ≤ a ∧ a ≤ 1099511627776) := fun a ha => HO.out a (HSP.out.mem_iff.mp ha)
  obtain ⟨n, hn⟩ : ∃ n, l.length = n := ⟨_, rfl⟩
  have HLN : Hid (s.length = n) := by rw [← hs, ← hn]; exact sortI_len l
  rw [hs] at HS
  rw [hn] at HV hlen ⊢
  clear h hsh hw0 cb hs hn hm
  go_enter Try.func17, Try.ntmps17
  go_wp2_with fail
  refine HV.out.mono ?_
  rintro e w1 ⟨rfl, rfl⟩
  go_wp2_with fail
  refine HS.out.mono ?_
  rintro e w2 ⟨v', r, rfl, ho, hr, hb2⟩
  have HB2 : Hid (Below w.heap.size w w2) := HB0.out.trans (hb2.mono HB0.out.size)
  have HN2 : Hid (NumsAt w2 v' s) := ho.nums
  obtain ⟨a2, cap2, rfl⟩ := ho.shp
  rw [HLN.out] at HN2 ⊢
  clear ho hr hb2
  have HST : Hid (Lev total s 0 total) := Lev.start ht0 s
  go_wp2
  go_loopw [5, 14] (fun c t wr => ∃ (i : Nat) (left : Int), c = .int .i64 left ∧ t = .int .i64 i ∧ i ≤ n ∧ 0 ≤ left ∧ left ≤ 1099511627776 ∧ Hid (Lev total s i left) ∧ Hid (Below w2.heap.size w2 wr)) (fun _ t _ => n - (intOf t).toNat)
  case atStart => exact ⟨0, total, rfl, rfl, by omega, ht0, ht1, HST, Below.refl _ _⟩
  case round =>
    obtain ⟨i, left, rfl, rfl, hi, hl0, hl1, HLV, HBr⟩ := hrel
    by_cases hA : i < n
    · have hki : (i : Int) < (n : Int) := by omega
      have his : i < s.length := by have := HLN.out; omega
      obtain ⟨b, off, cap', e, hc⟩ := HN2.out.get his
      rw [HLN.out] at e
      simp only [Value.slice.injEq] at e
      obtain ⟨rfl, -, rfl⟩ := e
      have c0 := hc wr HBr.out
      have hx := HSN.out _ (getD_mem his)
      have hxs : s.getD i 0 * ((n : Int) - (i : Int)) ≤ 1099511627776 * 64 := Int.mul_le_mul hx.2 (by omega) (by omega) (by omega)
      have hx0 : 0 ≤ s.getD i 0 * ((n : Int) - (i : Int)) := Int.mul_nonneg hx.1 (by omega)
      have HF : Hid (left < s.getD i 0 * ((n : Int) - (i : Int)) → LvP total l (left / ((n : Int) - (i : Int)))) := fun hgt => by
        have := HLV.out.found ht1 HSP.out his HSR.out (fun a ha => (HSN.out a ha).1)
        rw [HLN.out] at this
        exact this hgt
      have HG : Hid (s.getD i 0 * ((n : Int) - (i : Int)) ≤ left → Lev total s (i + 1) (left - s.getD i 0)) := fun hle => by
        have := HLV.out.step his HSR.out (fun a ha => (HSN.out a ha).1)
        rw [HLN.out] at this
        exact this hle
      generalize s.getD i 0 = x at *
      clear hc
      obtain ⟨T, hT⟩ : ∃ T, x * ((n : Int) - (i : Int)) = T := ⟨_, rfl⟩
      rw [hT] at hxs hx0 HF HG
      by_cases hgt : left < T
      · have HV2 : Hid (LvP total l (left / ((n : Int) - (i : Int)))) := HF.out hgt
        obtain ⟨V, hV⟩ : ∃ V, left / ((n : Int) - (i : Int)) = V := ⟨_, rfl⟩
        have e1 : Int.tdiv left ((n : Int) - (i : Int)) = V := by rw [← hV]; exact Int.tdiv_eq_ediv_of_nonneg hl0
        have hV0 : 0 ≤ V := by rw [← hV]; exact Int.ediv_nonneg hl0 (by omega)
        have hV1 : V ≤ left := by rw [← hV]; exact Int.ediv_le_self _ hl0
        rw [hV] at HV2
        have hnz : ¬ (n : Int) - (i : Int) = 0 := by omega
        have HB3 : Hid (Below w.heap.size w wr) := HB2.out.trans (HBr.out.mono HB2.out.size)
        clear hV HF HG
        go_wp2
        go_ret
        exact ⟨V, rfl, HV2.out, HB3.out⟩
      · have HL2 : Hid (Lev total s (i + 1) (left - x)) := HG.out (by omega)
        have hp2 := HL2.out.pos
        have hngt : ¬ left < T := hgt
        clear HF HG
        go_wp2
        go_roundw
        case rel => exact ⟨i + 1, left - x, rfl, by simp, hA, hp2, by omega, HL2, HBr⟩
        case measure => simp [intOf]; omega
    · have hki : ¬ (i : Int) < (n : Int) := by omega
      have hie : i = s.length := by have := HLN.out; omega
      have HV2 : Hid (LvP total l total) := by
        have := HLV.out
        rw [hie] at this
        exact this.whole ht0 ht1 HSP.out HO.out
      have HB3 : Hid (Below w.heap.size w wr) := HB2.out.trans (HBr.out.mono HB2.out.size)
      clear hie
      go_wp2
      go_ret
      exact ⟨total, rfl, HV2.out, HB3.out⟩
end Go.Proofs.Ytbeaefokpggmpab
