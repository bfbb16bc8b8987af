import Derived.Test.YtklfmgkfcacfkaaSh1
/-! More helpers of bytes: spare, fill, turned, kept. -/
namespace Go.Proofs.Ytklfmgkfcacfkaa
open Go.RowKit Plain
set_option linter.unusedVariables false
set_option linter.unusedSimpArgs false

set_option maxHeartbeats 1000000 in
theorem spareAny (vb : Value) (l : List Nat) (w : World) (hb : BytesAt w vb l) (hl : l.length ≤ 140737488351232) :
    Calls Try.prog 22 #[vb] w fun e w' => ∃ g, e = .returned (.slice (some ⟨g, 0, none⟩) (l.length + 64) (l.length + 64)) ∧ Own w' (.slice (some ⟨g, 0, none⟩) (l.length + 64) (l.length + 64)) (l ++ tailM l.length) (some g) ∧ w.heap.size ≤ g ∧ Below w.heap.size w w' := by
  obtain ⟨a, capb, rfl, hlc, hcm, hby, hcells⟩ := hb
  unfold maxLen at hcm
  have HC : Hid (l ≠ [] → ∃ b off, a = some ⟨b, off, none⟩ ∧ ∀ j, j < l.length → w.cell? ⟨b, off + j, none⟩ = some (.int .u8 ((l.getD j 0 : Nat) : Int))) := hcells
  have HBY : Hid (∀ c ∈ l, c < 256) := hby
  obtain ⟨i, hi, hz0, hz1, hz2⟩ := info_parts Try.info5
  have HI5 : Hid (Try.prog.info? 5 = some i ∧ i.zero = some (.int .u8 0) ∧ i.size = 1 ∧ i.bytes = 1) := ⟨hi, hz0, hz1, hz2⟩
  obtain ⟨F, hF⟩ : ∃ F, l ++ tailM l.length = F := ⟨_, rfl⟩
  obtain ⟨N, hN⟩ : ∃ N, l.length + 64 = N := ⟨_, rfl⟩
  obtain ⟨Z, hZ⟩ : ∃ Z, List.replicate N 0 = Z := ⟨_, rfl⟩
  have HZL : Hid (F.length = Z.length ∧ Z.length = N) := by refine ⟨?_, ?_⟩ <;> subst hF hZ hN <;> simp [tailM_len]
  have HFG : Hid (∀ k, k < l.length → F.getD k 0 = l.getD k 0) := fun k hk => by rw [← hF]; simp [List.getElem?_append_left hk]
  have HFT : Hid (∀ k, l.length ≤ k → k < N → F.getD k 0 = 200 + k % 7) := fun k h1 h2 => by
    rw [← hF, List.getD_eq_getElem?_getD, List.getElem?_append_right h1, ← List.getD_eq_getElem?_getD, tailM_get _ _ (by omega)]
    congr 2
    omega
  have HFB : Hid (∀ k, k < N → F.getD k 0 < 256) := fun k hk => by
    by_cases h : k < l.length
    · rw [HFG.out k h]; exact HBY.out _ (by rw [List.getD_eq_getElem?_getD, List.getElem?_eq_getElem h]; exact List.getElem_mem _)
    · rw [HFT.out k (by omega) hk]; omega
  have hNl : l.length + 64 = N := hN
  have eN : (l.length : Int) + 64 = (N : Int) := by omega
  have hlN : l.length ≤ N := by omega
  have hNb : N ≤ 140737488351296 := by omega
  rw [hF, hN]
  clear hcells hby hi hz0 hz1 hz2 hF hN hNl
  go_enter Try.func22, Try.ntmps22
  go_wp2_with (at_make; refine wpList_make_full _ rfl _ _ 22 rfl w.heap.size 5 i _ 1 Try.underlying22 HI5.out.1 HI5.out.2.1 HI5.out.2.2.1 .i64 .i64 _ _ N rfl rfl rfl rfl (by rw [HI5.out.2.2.2]; omega) (by unfold maxLen; omega) (by simp) ?_)
  intro w2 ho2 hg2
  obtain ⟨g, hgd⟩ : ∃ g, w.heap.size = g := ⟨_, rfl⟩
  have HI2 : Hid (Own w2 (.slice (some ⟨g, 0, none⟩) N N) Z (some g) ∧ Below w.heap.size w w2) := by
    refine ⟨?_, grow_below hg2 (Nat.le_refl _) (by simp)⟩
    rw [← hgd, ← hZ]
    exact (own_made (base := w.heap.size) (fun j hj => by
      have e : (madeCells (Value.int .u8 0).cells (N * 1)).toList = List.replicate N (.int .u8 0) := by rw [Nat.mul_one]; exact toList_madeCells_one _ _
      first
        | (rw [e]; simp [hj])
        | (rw [toList_madeCells_one]; simp [hj])) ho2).1
  have hgw : w.heap.size ≤ g := by omega
  rw [hgd]
  clear ho2 hg2 hgd hZ
  go_wp2
  go_loopw [4] (fun s wr => ∃ k : Nat, s = .int .i64 k ∧ k ≤ l.length ∧ Own wr (.slice (some ⟨g, 0, none⟩) N N) (half F Z k) (some g) ∧ Below w.heap.size w wr) (fun s _ => l.length - (intOf s).toNat)
  case atStart => exact ⟨0, rfl, by omega, by rw [half_zero]; exact HI2.out.1, HI2.out.2⟩
  case round =>
    obtain ⟨k, rfl, hk, hown, hbl⟩ := hrel
    have HK : Hid (Own wr (.slice (some ⟨g, 0, none⟩) N N) (half F Z k) (some g)) := hown
    have HB : Hid (Below w.heap.size w wr) := hbl
    clear hown hbl HI2
    by_cases hlt : k < l.length
    · obtain ⟨b, off, rfl, hc⟩ := HC.out (by rintro rfl; simp at hlt)
      have hck := hc k hlt
      have hbl2 := cell_lt hck
      simp only at hbl2
      have hck' : wr.cell? ⟨b, off + k, none⟩ = some (.int .u8 ((l.getD k 0 : Nat) : Int)) := by rw [HB.out.cell (p := ⟨b, off + k, none⟩) hbl2]; exact hck
      have hhl : (half F Z k).length = N := by rw [half_len HZL.out.1, HZL.out.1]; exact HZL.out.2
      obtain ⟨g', e1, e2, hold⟩ := HK.out.get (j := k) (by rw [hhl]; omega)
      simp at e1; subst e1
      have hfz := HK.out.fz (j := k) (by rw [hhl]; omega)
      have HN : Hid (Own (wr.setCell ⟨g, k, none⟩ (.int .u8 ((l.getD k 0 : Nat) : Int))) (.slice (some ⟨g, 0, none⟩) N N) (half F Z (k + 1)) (some g)) := by
        have h1 := HK.out.set k (F.getD k 0) (by rw [hhl]; omega) (HFB.out k (by omega))
        rw [half_set HZL.out.1 k (by rw [HZL.out.1, HZL.out.2]; omega), HFG.out k hlt] at h1
        exact h1
      have HB2 : Hid (Below w.heap.size w (wr.setCell ⟨g, k, none⟩ (.int .u8 ((l.getD k 0 : Nat) : Int)))) := HB.out.trans (grow_below (grow_setCells wr g k [.int .u8 ((l.getD k 0 : Nat) : Int)]) HB.out.size (fun q hq => by simp at hq; omega))
      have hkn : k < N := by omega
      generalize l.getD k 0 = y at hck' HN HB2
      generalize (half F Z k).getD k 0 = z at hold
      clear hc hck e2
      go_wp2
      go_roundw
      case rel => exact ⟨k + 1, by go_num, by omega, HN.out, HB2.out⟩
      case measure => simp [intOf]; omega
    · obtain rfl : k = l.length := by omega
      clear HC hlt hk
      go_wp2
      go_loopw [5] (fun s wr => ∃ k : Nat, s = .int .i64 k ∧ k ≤ N ∧ l.length ≤ k ∧ Own wr (.slice (some ⟨g, 0, none⟩) N N) (half F Z k) (some g) ∧ Below w.heap.size w wr) (fun s _ => N - (intOf s).toNat)
      case atStart => exact ⟨l.length, rfl, by omega, by omega, HK.out, HB.out⟩
      case round =>
        obtain ⟨k, rfl, hk, hlk, hown, hbl⟩ := hrel
        clear HK HB
        have HK : Hid (Own wr (.slice (some ⟨g, 0, none⟩) N N) (half F Z k) (some g)) := hown
        have HB : Hid (Below w.heap.size w wr) := hbl
        clear hown hbl
        by_cases hlt : k < N
        · have hhl : (half F Z k).length = N := by rw [half_len HZL.out.1, HZL.out.1]; exact HZL.out.2
          obtain ⟨g', e1, e2, hold⟩ := HK.out.get (j := k) (by rw [hhl]; omega)
          simp at e1; subst e1
          have hfz := HK.out.fz (j := k) (by rw [hhl]; omega)
          have HN : Hid (Own (wr.setCell ⟨g, k, none⟩ (.int .u8 ((200 + k % 7 : Nat) : Int))) (.slice (some ⟨g, 0, none⟩) N N) (half F Z (k + 1)) (some g)) := by
            have h1 := HK.out.set k (F.getD k 0) (by rw [hhl]; omega) (HFB.out k (by omega))
            rw [half_set HZL.out.1 k (by rw [HZL.out.1, HZL.out.2]; omega), HFT.out k hlk hlt] at h1
            exact h1
          have HB2 : Hid (Below w.heap.size w (wr.setCell ⟨g, k, none⟩ (.int .u8 ((200 + k % 7 : Nat) : Int)))) := HB.out.trans (grow_below (grow_setCells wr g k [.int .u8 ((200 + k % 7 : Nat) : Int)]) HB.out.size (fun q hq => by simp at hq; omega))
          have ek : 200 + (k : Int) % 7 = ((200 + k % 7 : Nat) : Int) := by omega
          have ek2 : (200 + (k : Int) % 7) % 256 = ((200 + k % 7 : Nat) : Int) := by omega
          have hy9 : 200 + k % 7 < 256 := by omega
          generalize 200 + k % 7 = y at HN HB2 ek ek2 hy9
          generalize (half F Z k).getD k 0 = z at hold
          clear e2
          go_wp2
          go_roundw
          case rel => exact ⟨k + 1, by go_num, by omega, by omega, HN.out, HB2.out⟩
          case measure => simp [intOf]; omega
        · obtain rfl : k = N := by omega
          have HF2 : Hid (Own wr (.slice (some ⟨g, 0, none⟩) k k) F (some g)) := by have := HK.out; rwa [half_all F Z k HZL.out.1 (by rw [HZL.out.1, HZL.out.2]; omega)] at this
          go_wp2
          go_ret
          exact ⟨g, rfl, HF2.out, hgw, HB.out⟩
end Go.Proofs.Ytklfmgkfcacfkaa
