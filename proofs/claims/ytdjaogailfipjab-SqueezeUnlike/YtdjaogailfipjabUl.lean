import Derived.Test.YtdjaogailfipjabOn
namespace Go.Proofs.Ytdjaogailfipjab
open Go.RowKit Plain
set_option linter.unusedVariables false
set_option linter.unusedSimpArgs false

theorem DecOk.apart {B C x : List Nat} (h : DecOk B x) (k : DecOk C x) : B = C := by
  obtain ⟨_, ts, h1, h2⟩ := h
  obtain ⟨_, ss, k1, k2⟩ := k
  rw [h2, k2]
  exact blk_c (h1.unique k1)

theorem tmod_bd (p : Int) (n : Nat) (h : 0 < n) : -(n : Int) < p.tmod n ∧ p.tmod n < n := by
  have h1 := Int.natAbs_tmod p n
  have h2 : p.natAbs % (n : Int).natAbs < (n : Int).natAbs := Nat.mod_lt _ (by omega)
  omega

theorem set_ne {B : List Nat} {k c : Nat} (hk : k < B.length) (hc : c ≠ B.getD k 0) : B.set k c ≠ B := fun e => hc (by
  have h1 : (B.set k c).getD k 0 = c := by simp [List.getD_eq_getElem?_getD, hk]
  rw [e] at h1
  exact h1.symm)

set_option maxHeartbeats 8000000 in
set_option maxRecDepth 1000000 in
theorem unlikeS (l : List Nat) (a : Option Addr) (cap : Nat) (p : Int) (to : Nat) (w : World) (h : BytesAt w (.slice a l.length cap) l) (hp1 : -9223372036854775808 ≤ p) (hp2 : p ≤ 9223372036854775807) (hto : to < 256) (hlong : ¬ 4096 < l.length) :
    Calls Try.prog 4 #[.slice a l.length cap, .int .i64 p, .int .u8 to] w fun e w' => e = .returned (.bool true) ∧ Below w.heap.size w w' := by
  have hlc : l.length ≤ cap := by obtain ⟨a', cap', e, h1, _⟩ := h; simp only [Value.slice.injEq] at e; omega
  have hcm : cap ≤ 2 ^ 63 - 1 := by obtain ⟨a', cap', e, _, h1, _⟩ := h; simp only [Value.slice.injEq] at e; unfold maxLen at h1; omega
  obtain ⟨T, hT⟩ : ∃ T, min l.length 4096 = T := ⟨_, rfl⟩
  have HL : Hid (∃ L : List Nat, L.length = T ∧ BytesAt w (.slice a T cap) L) := by
    exact ⟨l.take T, by rw [List.length_take]; omega, h.take T (by omega)⟩
  have hT2 : T ≤ 4096 := by omega
  have hT3 : T ≤ cap := by omega
  clear h
  have hlen : ¬ 4096 < l.length := hlong
  go_enter Try.func4, Try.ntmps4
  go_wp2_with fail
  have e : l.length = T := by omega
  rw [e]
  clear e
  obtain ⟨L, HLL, HBL⟩ := HL.out
  have HLT : Hid (L.length = T) := HLL
  have HV : Hid (BytesAt w (.slice a T cap) L) := HBL
  have hl : L.length ≤ 4096 := by omega
  have HE := encodeOf _ L w HBL hl
  clear HLL HBL HL hT hlong
  refine HE.mono ?_
  rintro e w1 ⟨v1, r1, ts1, rfl, hp, ho1, hb1, hr1⟩
  obtain ⟨B, hB⟩ : ∃ B, blk L.length ts1 = B := ⟨_, rfl⟩
  have HDk : Hid (DecOk B L) := ⟨hl, ts1, hp, hB.symm⟩
  obtain ⟨hbb1, hbb2⟩ := blk_bound hl hp
  rw [hB] at ho1 hbb1 hbb2
  have hB4 : B.length ≤ 10000 := by
    have h1 := uv_len10 (v := L.length) (by omega)
    have h2 := uv_len10 (v := 2 * L.length) (by omega)
    split at hbb2 <;> omega
  obtain ⟨g, hg⟩ : ∃ g, r1 = some g := by
    cases r1 with
    | none =>
      rcases ho1.2 with ⟨_, e, _⟩ | ⟨g, _, e, _⟩
      · rw [e] at hbb1; simp at hbb1
      · simp at e
    | some g => exact ⟨g, rfl⟩
  subst hg
  obtain ⟨c1, rfl, hBc, hc1⟩ := ho1.shape
  have HO1 : Hid (Own w1 (.slice (some ⟨g, 0, none⟩) B.length c1) B (some g)) := ho1
  have HB1 : Hid (Below w.heap.size w w1 ∧ w.heap.size ≤ g) := ⟨hb1, hr1 g rfl⟩
  unfold maxLen at hc1
  have hne0 : ((B.length : Int) == 0) = false := by rw [beq_eq_false_iff_ne]; omega
  obtain ⟨q, hq⟩ : ∃ q, p.tmod (B.length : Int) = q := ⟨_, rfl⟩
  have hqb := tmod_bd p B.length (by omega)
  rw [hq] at hqb
  obtain ⟨hq1, hq2⟩ := hqb
  have HW : Hid (∀ k, k < B.length → w1.cell? ⟨g, k, none⟩ = some (.int .u8 ((B.getD k 0 : Nat) : Int)) ∧ w1.frozen? ⟨g, k, none⟩ = false) := fun k hk => by
    obtain ⟨_, h0 | ⟨g', cap', e1, e2, hg, q1, q2, q3, q4, q5⟩⟩ := ho1
    · obtain ⟨_, _, h⟩ := h0; simp at h
    simp only [Option.some.injEq] at e1
    subst e1
    simp only [Value.slice.injEq] at e2
    obtain ⟨_, _, rfl⟩ := e2
    exact ⟨q5 k hk, q3 k (by omega)⟩
  have HSet : Hid (∀ (k c : Nat), k < B.length → c < 256 → Own (w1.setCell ⟨g, k, none⟩ (.int .u8 (c : Int))) (.slice (some ⟨g, 0, none⟩) B.length c1) (B.set k c) (some g) ∧ Below w.heap.size w (w1.setCell ⟨g, k, none⟩ (.int .u8 (c : Int)))) := fun k c hk hc =>
    ⟨HO1.out.set k c hk hc, HB1.out.1.trans (grow_below (grow_setCell w1 g k _) HB1.out.1.size (fun g' e => by simp at e; have := HB1.out.2; omega))⟩
  clear hp ho1 hb1 hr1 hB hbb2 HE
  obtain ⟨k, hkq⟩ : ∃ k : Nat, (k : Int) = if q < 0 then q + B.length else q := by
    by_cases hs : q < 0
    · exact ⟨(q + B.length).toNat, by rw [if_pos hs]; omega⟩
    · exact ⟨q.toNat, by rw [if_neg hs]; omega⟩
  have hk : k < B.length := by split at hkq <;> omega
  obtain ⟨hcell, hfz⟩ := HW.out k hk
  obtain ⟨b0, hb0⟩ : ∃ b0, B.getD k 0 = b0 := ⟨_, rfl⟩
  rw [hb0] at hcell
  have HB0 : Hid (B.getD k 0 = b0) := hb0
  clear hb0
  by_cases hs : q < 0
  case' pos => have hk2 : q + (B.length : Int) = (k : Int) := by rw [if_pos hs] at hkq; omega
  case' neg =>
    have hk2 : q = (k : Int) := by rw [if_neg hs] at hkq; omega
    subst hk2
  all_goals
    clear hkq
    by_cases heq : b0 = to
    · subst heq
      by_cases h255 : b0 = 255
      · subst h255
        obtain ⟨c, hc⟩ : ∃ c : Nat, c = 0 := ⟨_, rfl⟩
        have HNe : Hid (B.set k c ≠ B) := set_ne hk (by rw [HB0.out, hc]; omega)
        have HO2 : Hid (Own (w1.setCell ⟨g, k, none⟩ (.int .u8 (c : Int))) (.slice (some ⟨g, 0, none⟩) B.length c1) (B.set k c) (some g) ∧ Below w.heap.size w (w1.setCell ⟨g, k, none⟩ (.int .u8 (c : Int)))) := HSet.out k c hk (by omega)
        subst hc
        go_wp2_with fail
        refine (decodeOf _ _ _ HO2.out.1.bytes).mono ?_
        rintro e w3 ⟨hb3, hres⟩
        have HB3 : Hid (Below w.heap.size w w3) := HO2.out.2.trans (hb3.mono HO2.out.2.size)
        clear hb3
        rcases hres with ⟨x, v3, r3, rfl, hd, ho3, -⟩ | ⟨rfl, -⟩
        · have HXL : Hid (x ≠ L) := fun e => HNe.out (hd.apart (by rw [e]; exact HDk.out))
          have HO3 : Hid (Own w3 v3 x r3) := ho3
          obtain ⟨a3, c3, rfl, -⟩ := ho3.isSlice2
          clear hd ho3
          go_wp2_with fail
          refine (sameNo _ _ x L w3 HXL.out HO3.out.bytes (HV.out.later HB3.out)).mono ?_
          rintro e w4 ⟨rfl, n4, rfl⟩
          go_wp2
          go_ret
          exact ⟨rfl, below_drewN HB3.out _⟩
        · go_wp2_with fail
          refine (headOf w3).mono ?_
          rintro e w4 ⟨rfl, hb4⟩
          have HB4 : Hid (Below w.heap.size w w4) := HB3.out.trans (hb4.mono HB3.out.size)
          clear hb4
          go_wp2
          go_ret
          exact ⟨rfl, HB4.out⟩
      · have h256 : b0 + 1 ≤ 255 := by omega
        obtain ⟨c, hc⟩ : ∃ c : Nat, c = b0 + 1 := ⟨_, rfl⟩
        have HNe : Hid (B.set k c ≠ B) := set_ne hk (by rw [HB0.out, hc]; omega)
        have HO2 : Hid (Own (w1.setCell ⟨g, k, none⟩ (.int .u8 (c : Int))) (.slice (some ⟨g, 0, none⟩) B.length c1) (B.set k c) (some g) ∧ Below w.heap.size w (w1.setCell ⟨g, k, none⟩ (.int .u8 (c : Int)))) := HSet.out k c hk (by omega)
        have hcI : (b0 : Int) + 1 = (c : Int) := by omega
        clear hc
        go_wp2_with fail
        refine (decodeOf _ _ _ HO2.out.1.bytes).mono ?_
        rintro e w3 ⟨hb3, hres⟩
        have HB3 : Hid (Below w.heap.size w w3) := HO2.out.2.trans (hb3.mono HO2.out.2.size)
        clear hb3
        rcases hres with ⟨x, v3, r3, rfl, hd, ho3, -⟩ | ⟨rfl, -⟩
        · have HXL : Hid (x ≠ L) := fun e => HNe.out (hd.apart (by rw [e]; exact HDk.out))
          have HO3 : Hid (Own w3 v3 x r3) := ho3
          obtain ⟨a3, c3, rfl, -⟩ := ho3.isSlice2
          clear hd ho3
          go_wp2_with fail
          refine (sameNo _ _ x L w3 HXL.out HO3.out.bytes (HV.out.later HB3.out)).mono ?_
          rintro e w4 ⟨rfl, n4, rfl⟩
          go_wp2
          go_ret
          exact ⟨rfl, below_drewN HB3.out _⟩
        · go_wp2_with fail
          refine (headOf w3).mono ?_
          rintro e w4 ⟨rfl, hb4⟩
          have HB4 : Hid (Below w.heap.size w w4) := HB3.out.trans (hb4.mono HB3.out.size)
          clear hb4
          go_wp2
          go_ret
          exact ⟨rfl, HB4.out⟩
    · have hne : ((b0 : Int) == (to : Int)) = false := by simp; omega
      obtain ⟨c, hc⟩ : ∃ c : Nat, c = to := ⟨_, rfl⟩
      have HNe : Hid (B.set k c ≠ B) := set_ne hk (by rw [HB0.out, hc]; omega)
      have HO2 : Hid (Own (w1.setCell ⟨g, k, none⟩ (.int .u8 (c : Int))) (.slice (some ⟨g, 0, none⟩) B.length c1) (B.set k c) (some g) ∧ Below w.heap.size w (w1.setCell ⟨g, k, none⟩ (.int .u8 (c : Int)))) := HSet.out k c hk (by omega)
      subst hc
      go_wp2_with fail
      refine (decodeOf _ _ _ HO2.out.1.bytes).mono ?_
      rintro e w3 ⟨hb3, hres⟩
      have HB3 : Hid (Below w.heap.size w w3) := HO2.out.2.trans (hb3.mono HO2.out.2.size)
      clear hb3
      rcases hres with ⟨x, v3, r3, rfl, hd, ho3, -⟩ | ⟨rfl, -⟩
      · have HXL : Hid (x ≠ L) := fun e => HNe.out (hd.apart (by rw [e]; exact HDk.out))
        have HO3 : Hid (Own w3 v3 x r3) := ho3
        obtain ⟨a3, c3, rfl, -⟩ := ho3.isSlice2
        clear hd ho3
        go_wp2_with fail
        refine (sameNo _ _ x L w3 HXL.out HO3.out.bytes (HV.out.later HB3.out)).mono ?_
        rintro e w4 ⟨rfl, n4, rfl⟩
        go_wp2
        go_ret
        exact ⟨rfl, below_drewN HB3.out _⟩
      · go_wp2_with fail
        refine (headOf w3).mono ?_
        rintro e w4 ⟨rfl, hb4⟩
        have HB4 : Hid (Below w.heap.size w w4) := HB3.out.trans (hb4.mono HB3.out.size)
        clear hb4
        go_wp2
        go_ret
        exact ⟨rfl, HB4.out⟩
end Go.Proofs.Ytdjaogailfipjab
