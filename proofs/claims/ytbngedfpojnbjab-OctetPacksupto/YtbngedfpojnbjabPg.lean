import Derived.Test.YtbngedfpojnbjabPf
/-! The document's Pack; the same items. -/
namespace Go.Proofs.Ytbngedfpojnbjab
open Go.RowKit Plain
set_option linter.unusedVariables false

theorem putAny (vb : Value) (l : List Nat) (r : Option Nat) (x : It) (w : World) (ho : Own w vb l r) (hn : x.n < 18446744073709551616) (hl : l.length + x.s.size + 10 ≤ 140737488355328) :
    Calls Try.prog 30 #[vb, .agg #[.int .i64 x.k, .int .u64 x.n, .string x.s]] w (PutPost w l r x) := by
  obtain ⟨k, n, s⟩ := x
  simp only at hn hl
  by_cases k5 : k = 5
  · subst k5; exact put5 vb l r n s w ho hn hl
  cases he : emp s with
  | false => exact putFull vb l r n s w ho hn hl k k5 he
  | true =>
    by_cases k0 : k = 0
    · subst k0; exact put0 vb l r n s w ho hn hl he
    by_cases k1 : k = 1
    · subst k1; exact put1 vb l r n s w ho hn hl he
    by_cases k2 : k = 2
    · subst k2; exact put2 vb l r n s w ho hn hl he
    by_cases k3 : k = 3
    · subst k3; exact put3 vb l r n s w ho hn hl he
    by_cases k4 : k = 4
    · subst k4; exact put4 vb l r n s w ho hn hl he
    exact putOther vb l r n s w ho hn hl k (by omega) he

set_option maxHeartbeats 1000000 in
theorem refPack (v : Value) (st : List It) (w : World) (h : ItemsAt w v st) (hl : bulk st ≤ 140737488351232) :
    Calls Try.prog 20 #[v] w fun e w' => ∃ v' r', e = .returned (.tuple #[v', .int .i64 (packErr st)]) ∧ Own w' v' (packed st) r' ∧ (∀ q, r' = some q → w.heap.size ≤ q) ∧ Below w.heap.size w w' := by
  obtain ⟨a, cap, rfl, hcl, hsn, hcells⟩ := h
  unfold maxLen at hcl
  have HC : Hid (st ≠ [] → ∃ b off, a = some ⟨b, off, none⟩ ∧ ∀ j, j < st.length → w.cell? ⟨b, off + j * 3, none⟩ = some (.int .i64 (st.getD j It.none).k) ∧ w.cell? ⟨b, off + j * 3 + 1, none⟩ = some (.int .u64 ((st.getD j It.none).n : Int)) ∧ w.cell? ⟨b, off + j * 3 + 2, none⟩ = some (.string (st.getD j It.none).s)) := hcells
  have HSN : Hid (∀ x ∈ st, x.n < 18446744073709551616 ∧ x.s.size < 18446744073709551616) := hsn
  obtain ⟨B, hB⟩ : ∃ B, B = w.heap.size := ⟨_, rfl⟩
  rw [← hB]
  have HBB : Hid (B = w.heap.size) := hB
  clear hcells hsn hB
  go_enter Try.func20, Try.ntmps20
  go_wp2
  go_loopw [4, 5] (fun b i wr => ∃ (k : Nat) (q : Option Nat), k ≤ st.length ∧ i = .int .i64 k ∧ (st.take k).all It.fits = true ∧ Own wr b (flat (st.take k)) q ∧ (∀ g, q = some g → B ≤ g) ∧ Below B w wr) (fun _ i _ => st.length - (intOf i).toNat)
  case atStart => exact ⟨0, none, by omega, rfl, by simp, by simpa [flat] using Own.nil w, by simp, Below.refl _ _⟩
  case round =>
    obtain ⟨k, q, hk, rfl, hall, hwa, hq, hbl⟩ := hrel
    have HA : Hid ((st.take k).all It.fits = true) := hall
    have HWA : Hid (Own wr u4 (flat (st.take k)) q) := hwa
    have HQ : Hid (∀ g, q = some g → B ≤ g) := hq
    have HBL : Hid (Below B w wr) := hbl
    clear hall hwa hq hbl
    by_cases hlt : k < st.length
    · have hne : st ≠ [] := by rintro rfl; simp at hlt
      obtain ⟨b, off, rfl, hc⟩ := HC.out hne
      obtain ⟨c0, d1, d2⟩ := hc k hlt
      have HT : Hid (flat (st.take (k + 1)) = flat (st.take k) ++ (st.getD k It.none).bytes) := by unfold Hid; rw [take_snoc_it st k hlt, flat_snoc]
      have HTA : Hid ((st.getD k It.none).fits = true → (st.take (k + 1)).all It.fits = true) := fun hx => by rw [take_snoc_it st k hlt, all_snoc, HA.out, hx]; rfl
      have HTB : Hid ((st.getD k It.none).fits = false → packed st = [] ∧ packErr st = 12) := fun hx => packed_bad st k hlt hx
      have HL : Hid ((flat (st.take k)).length + (st.getD k It.none).s.size + 10 ≤ 140737488355328) := by
        have := flat_load st k HSN.out hlt
        unfold Hid; omega
      have HN : Hid ((st.getD k It.none).n < 18446744073709551616) := (HSN.out _ (by simp [hlt])).1
      generalize st.getD k It.none = x at c0 d1 d2 HT HTA HTB HL HN
      obtain ⟨xk, xn, xs⟩ := x
      have hcb : ∀ u v, w.cell? ⟨b, u, none⟩ = some v → wr.cell? ⟨b, u, none⟩ = some v := fun u v h => by
        rw [HBL.out.cell (p := ⟨b, u, none⟩) (by have := cell_lt h; rw [HBB.out]; exact this)]; exact h
      have c0' := hcb _ _ c0
      have d1' := hcb _ _ d1
      have d2' := hcb _ _ d2
      have HBR : Hid (B ≤ wr.heap.size) := by have := HBL.out.size; have := HBB.out; unfold Hid; omega
      clear c0 d1 d2 hc hne hcb
      go_wp2_with fail
      refine (putAny u4 _ q ⟨xk, xn, xs⟩ wr HWA.out HN.out HL.out).mono ?_
      rintro e w2 ⟨v2, q2, rfl, ho2, hg2, hq2⟩
      have HBL2 : Hid (Below B w w2) := HBL.out.trans (grow_below hg2 HBR.out HQ.out)
      cases hfit : It.fits ⟨xk, xn, xs⟩ with
      | true =>
        have HO2 : Hid (Own w2 v2 (flat (st.take (k + 1))) q2) := by unfold Hid; rw [HT.out]; exact ho2 hfit
        have HQ2 : Hid (∀ g, q2 = some g → B ≤ g) := fun g hg => by
          rcases hq2 with rfl | ⟨g', rfl, h⟩
          · exact HQ.out g hg
          · have := HBR.out
            simp at hg; omega
        have HA2 : Hid ((st.take (k + 1)).all It.fits = true) := HTA.out hfit
        clear ho2 hg2 hq2 c0' d1' d2' hfit
        go_wp2
        go_roundw
        case rel => exact ⟨k + 1, q2, by omega, by go_num, HA2.out, HO2.out, HQ2.out, HBL2.out⟩
        case measure => simp [intOf]; omega
      | false =>
        obtain ⟨hp1, hp2⟩ := HTB.out hfit
        have HP : Hid (packed st = [] ∧ packErr st = 12) := ⟨hp1, hp2⟩
        clear ho2 hg2 hq2 hp1 hp2 hfit c0' d1' d2'
        go_wp2
        go_ret2
        exact ⟨.slice none 0 0, none, by rw [HP.out.2]; rfl, by rw [HP.out.1]; exact Own.nil _, by simp, HBL2.out⟩
    · obtain rfl : k = st.length := by omega
      have HP : Hid (packed st = flat st ∧ packErr st = 0) := packed_good st (by have := HA.out; rwa [List.take_length] at this)
      have HWF : Hid (Own wr u4 (flat st) q) := by have := HWA.out; rwa [List.take_length] at this
      clear HC HWA HA
      go_wp2
      go_ret2
      exact ⟨u4, q, by rw [HP.out.2]; rfl, by rw [HP.out.1]; exact HWF.out, HQ.out, HBL.out⟩

set_option maxHeartbeats 1000000 in
theorem sameItems (va vb : Value) (st : List It) (w : World) (ha : ItemsAt w va st) (hb : ItemsAt w vb st) :
    Calls Try.prog 21 #[va, vb] w fun e w' => e = .returned (.bool true) ∧ ∃ n, w' = w.drewN n := by
  obtain ⟨a, cap, rfl, hcl, -, hcells⟩ := ha
  obtain ⟨a', cap', rfl, -, -, hcells'⟩ := hb
  unfold maxLen at hcl
  by_cases hnil : st = []
  · subst hnil
    clear hcells hcells'
    go_enter Try.func21, Try.ntmps21
    go_wp2
    refine wp_loop_rounds 1 ?_
    rw [rounds_succ]
    go_wp2
    go_ret
    exact ⟨rfl, 0, rfl⟩
  · obtain ⟨b, off, rfl, hc⟩ := hcells hnil
    obtain ⟨b', off', rfl, hc'⟩ := hcells' hnil
    have HC : Hid (∀ j, j < st.length → w.cell? ⟨b, off + j * 3, none⟩ = some (.int .i64 (st.getD j It.none).k) ∧ w.cell? ⟨b, off + j * 3 + 1, none⟩ = some (.int .u64 ((st.getD j It.none).n : Int)) ∧ w.cell? ⟨b, off + j * 3 + 2, none⟩ = some (.string (st.getD j It.none).s)) := hc
    have HC' : Hid (∀ j, j < st.length → w.cell? ⟨b', off' + j * 3, none⟩ = some (.int .i64 (st.getD j It.none).k) ∧ w.cell? ⟨b', off' + j * 3 + 1, none⟩ = some (.int .u64 ((st.getD j It.none).n : Int)) ∧ w.cell? ⟨b', off' + j * 3 + 2, none⟩ = some (.string (st.getD j It.none).s)) := hc'
    clear hcells hcells' hc hc' hnil
    go_enter Try.func21, Try.ntmps21
    go_wp2
    go_loopw [5] (fun i w' => ∃ k n : Nat, w' = w.drewN n ∧ k ≤ st.length ∧ i = .int .i64 k) (fun i _ => st.length - (intOf i).toNat)
    case atStart => exact ⟨0, 0, rfl, by omega, rfl⟩
    case round =>
      obtain ⟨k, n, rfl, hk, rfl⟩ := hrel
      by_cases hlt : k < st.length
      · obtain ⟨c0, c1, c2⟩ := HC.out k hlt
        obtain ⟨d0, d1, d2⟩ := HC'.out k hlt
        generalize st.getD k It.none = x at c0 c1 c2 d0 d1 d2
        obtain ⟨xk, xn, xs⟩ := x
        go_wp2
        go_quiet (fail)
        go_wp2
        go_roundw
        case rel => exact ⟨k + 1, _, rfl, by omega, by go_num⟩
        case measure => simp [intOf]; omega
      · go_wp2
        go_ret
        exact ⟨rfl, _, rfl⟩
end Go.Proofs.Ytbngedfpojnbjab
