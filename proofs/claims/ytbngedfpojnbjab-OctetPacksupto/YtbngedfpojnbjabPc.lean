import Derived.Test.YtbngedfpojnbjabPb
/-! Items are packed. -/
namespace Go.Proofs.Ytbngedfpojnbjab
open Go.RowKit Plain
set_option linter.unusedVariables false

/-- v is a slice of items that reads as st. -/
def ItemsAt (w : World) (v : Value) (st : List It) : Prop :=
  ∃ a cap, v = .slice a st.length cap ∧ st.length ≤ maxLen ∧ (∀ x ∈ st, x.n < 18446744073709551616 ∧ x.s.size < 18446744073709551616) ∧
    (st ≠ [] → ∃ b off, a = some ⟨b, off, none⟩ ∧ ∀ j, j < st.length → w.cell? ⟨b, off + j * 3, none⟩ = some (.int .i64 (st.getD j It.none).k) ∧ w.cell? ⟨b, off + j * 3 + 1, none⟩ = some (.int .u64 ((st.getD j It.none).n : Int)) ∧ w.cell? ⟨b, off + j * 3 + 2, none⟩ = some (.string (st.getD j It.none).s))

theorem ItemsAt.later {w w' : World} {v : Value} {st : List It} (h : ItemsAt w v st) (hb : Below w.heap.size w w') : ItemsAt w' v st := by
  obtain ⟨a, cap, e, h1, h2, h3⟩ := h
  refine ⟨a, cap, e, h1, h2, fun hne => ?_⟩
  obtain ⟨b, off, e2, hc⟩ := h3 hne
  refine ⟨b, off, e2, fun j hj => ?_⟩
  obtain ⟨c0, c1, c2⟩ := hc j hj
  exact ⟨by rw [hb.cell (p := ⟨b, _, none⟩) (cell_lt c0)]; exact c0, by rw [hb.cell (p := ⟨b, _, none⟩) (cell_lt c1)]; exact c1, by rw [hb.cell (p := ⟨b, _, none⟩) (cell_lt c2)]; exact c2⟩

def flat : List It → List Nat
  | [] => []
  | x :: r => x.bytes ++ flat r
def bulk : List It → Nat
  | [] => 0
  | x :: r => x.s.size + 10 + bulk r
theorem flat_snoc (st : List It) (x : It) : flat (st ++ [x]) = flat st ++ x.bytes := by
  induction st with
  | nil => simp [flat]
  | cons y r ih => simp [flat, ih]
theorem take_snoc_it (st : List It) (j : Nat) (h : j < st.length) : st.take (j + 1) = st.take j ++ [st.getD j It.none] := by
  rw [List.take_succ_eq_append_getElem h]
  simp [h]
theorem flat_load (st : List It) (j : Nat) (hn : ∀ x ∈ st, x.n < 18446744073709551616 ∧ x.s.size < 18446744073709551616) (h : j < st.length) : (flat (st.take j)).length + (st.getD j It.none).s.size + 10 ≤ bulk st := by
  induction st generalizing j with
  | nil => simp at h
  | cons y r ih =>
    cases j with
    | zero => simp [flat, bulk]
    | succ j =>
      have := ih j (fun x hx => hn x (by simp [hx])) (by simpa using h)
      have hl := y.bytes_len (hn y (by simp)).1 (hn y (by simp)).2
      simp [flat, bulk]
      simp at this
      omega
theorem flat_all (st : List It) (hn : ∀ x ∈ st, x.n < 18446744073709551616 ∧ x.s.size < 18446744073709551616) : (flat st).length ≤ bulk st := by
  induction st with
  | nil => simp [flat]
  | cons y r ih =>
    have := ih (fun x hx => hn x (by simp [hx]))
    have hl := y.bytes_len (hn y (by simp)).1 (hn y (by simp)).2
    simp [flat, bulk]
    omega

def packed (st : List It) : List Nat := if st.all It.fits then flat st else []
def packErr (st : List It) : Int := if st.all It.fits then 0 else 12
theorem all_snoc (st : List It) (x : It) : (st ++ [x]).all It.fits = (st.all It.fits && x.fits) := by simp

theorem packed_bad (st : List It) (k : Nat) (h : k < st.length) (hx : (st.getD k It.none).fits = false) : packed st = [] ∧ packErr st = 12 := by
  have : st.all It.fits = false := by
    rw [List.all_eq_false]
    exact ⟨st.getD k It.none, by simp [h], by rw [hx]; simp⟩
  simp [packed, packErr, this]
theorem packed_good (st : List It) (h : st.all It.fits = true) : packed st = flat st ∧ packErr st = 0 := by simp [packed, packErr, h]

theorem newWr (w : World) : Calls Try.prog 22 #[] w fun e w' => e = .returned (.pointer (some ⟨w.heap.size, 0, none⟩)) ∧ WAt w' w.heap.size [] none ∧ Below w.heap.size w w' ∧ w'.heap.size = w.heap.size + 1 := by
  go_enter Try.func22, Try.ntmps22
  go_wp2
  go_ret
  exact ⟨rfl, ⟨_, by simp, by simp, Own.nil _, by simp⟩, (Below.refl _ _).alloc (Nat.le_refl _) _, by simp⟩

set_option maxHeartbeats 1000000 in
theorem packAny (v : Value) (st : List It) (w : World) (h : ItemsAt w v st) (hl : bulk st ≤ 140737488351232) :
    Calls Try.prog 19 #[v] w fun e w' => ∃ v' r', e = .returned (.tuple #[v', .int .i64 (packErr st)]) ∧ Own w' v' (packed st) r' ∧ (∀ q, r' = some q → w.heap.size ≤ q) ∧ Below w.heap.size w w' := by
  obtain ⟨a, cap, rfl, hcl, hsn, hcells⟩ := h
  unfold maxLen at hcl
  have HC : Hid (st ≠ [] → ∃ b off, a = some ⟨b, off, none⟩ ∧ ∀ j, j < st.length → w.cell? ⟨b, off + j * 3, none⟩ = some (.int .i64 (st.getD j It.none).k) ∧ w.cell? ⟨b, off + j * 3 + 1, none⟩ = some (.int .u64 ((st.getD j It.none).n : Int)) ∧ w.cell? ⟨b, off + j * 3 + 2, none⟩ = some (.string (st.getD j It.none).s)) := hcells
  have HSN : Hid (∀ x ∈ st, x.n < 18446744073709551616 ∧ x.s.size < 18446744073709551616) := hsn
  clear hcells hsn
  go_enter Try.func19, Try.ntmps19
  go_wp2_with fail
  refine (newWr w).mono ?_
  rintro e w0 ⟨rfl, hw0, hb0, hs0⟩
  have HW0 : Hid (WAt w0 w.heap.size [] none) := hw0
  have HB0 : Hid (Below w.heap.size w w0) := hb0
  obtain ⟨B, hB⟩ : ∃ B, B = w.heap.size := ⟨_, rfl⟩
  rw [← hB] at HW0 HB0 ⊢
  have HBB : Hid (B = w.heap.size) := hB
  clear hw0 hb0 hs0 hB
  go_wp2
  go_loopw [10] (fun i wr => ∃ (k : Nat) (q : Option Nat), k ≤ st.length ∧ i = .int .i64 k ∧ (st.take k).all It.fits = true ∧ WAt wr B (flat (st.take k)) q ∧ (∀ g, q = some g → B ≤ g) ∧ Below B w wr) (fun i _ => st.length - (intOf i).toNat)
  case atStart => exact ⟨0, none, by omega, rfl, by simp, HW0.out, by simp, HB0.out⟩
  case round =>
    obtain ⟨k, q, hk, rfl, hall, hwa, hq, hbl⟩ := hrel
    have HA : Hid ((st.take k).all It.fits = true) := hall
    have HWA : Hid (WAt wr B (flat (st.take k)) q) := hwa
    have HQ : Hid (∀ g, q = some g → B ≤ g) := hq
    have HBL : Hid (Below B w wr) := hbl
    clear hall hwa hq hbl HW0 HB0
    by_cases hlt : k < st.length
    · have hne : st ≠ [] := by rintro rfl; simp at hlt
      obtain ⟨b, off, rfl, hc⟩ := HC.out hne
      obtain ⟨c0, d1, d2⟩ := hc k hlt
      have HT : Hid (flat (st.take (k + 1)) = flat (st.take k) ++ (st.getD k It.none).bytes) := by unfold Hid; rw [take_snoc_it st k hlt, flat_snoc]
      have HTA : Hid ((st.getD k It.none).fits = true → (st.take (k + 1)).all It.fits = true) := fun hx => by rw [take_snoc_it st k hlt, all_snoc, HA.out, hx]; rfl
      have HTB : Hid ((st.getD k It.none).fits = false → packed st = [] ∧ packErr st = 12) := fun hx => packed_bad st k hlt hx
      have HL : Hid ((flat (st.take k)).length + (st.getD k It.none).s.size + 10 ≤ 140737488355328) := by
        have := flat_load st k HSN.out hlt
        unfold Hid; omega
      have HN : Hid ((st.getD k It.none).n < 18446744073709551616) := (HSN.out _ (by simp [hlt])).1
      generalize st.getD k It.none = x at c0 d1 d2 HT HTA HTB HL HN
      obtain ⟨xk, xn, xs⟩ := x
      have hcb : ∀ u v, w.cell? ⟨b, u, none⟩ = some v → wr.cell? ⟨b, u, none⟩ = some v := fun u v h => by
        rw [HBL.out.cell (p := ⟨b, u, none⟩) (by have := cell_lt h; rw [HBB.out]; exact this)]; exact h
      have c0' := hcb _ _ c0
      have d1' := hcb _ _ d1
      have d2' := hcb _ _ d2
      clear c0 d1 d2 hc hne hcb
      go_wp2_with fail
      refine (fitsAny ⟨xk, xn, xs⟩ _).mono ?_
      rintro e w1 ⟨rfl, hb1⟩
      have HB1 : Hid (Below wr.heap.size wr w1) := below_on ((Below.refl _ _).alloc (Nat.le_refl _) _) hb1
      have x0 : w1.cell? ⟨wr.heap.size, 0, none⟩ = some (.int .i64 xk) := by rw [hb1.cell (p := ⟨_, _, none⟩) (by simp)]; simp
      have x1 : w1.cell? ⟨wr.heap.size, 1, none⟩ = some (.int .u64 xn) := by rw [hb1.cell (p := ⟨_, _, none⟩) (by simp)]; simp
      have x2 : w1.cell? ⟨wr.heap.size, 2, none⟩ = some (.string xs) := by rw [hb1.cell (p := ⟨_, _, none⟩) (by simp)]; simp
      have HBR : Hid (B ≤ wr.heap.size) := by have := HBL.out.size; have := HBB.out; unfold Hid; omega
      clear c0' d1' d2' hb1
      cases hfit : It.fits ⟨xk, xn, xs⟩ with
      | true =>
        go_wp2_with fail
        refine (itemAny B _ q ⟨xk, xn, xs⟩ w1 (HWA.out.later HB1.out) HN.out HL.out).mono ?_
        rintro e w2 ⟨rfl, q2, hw2, hk2, hq2⟩
        have HW2 : Hid (WAt w2 B (flat (st.take (k + 1))) q2) := by unfold Hid; rw [HT.out]; exact hw2
        have HQ2 : Hid (∀ g, q2 = some g → B ≤ g) := fun g hg => by
          rcases hq2 with rfl | ⟨g', rfl, h⟩
          · exact HQ.out g hg
          · have := HB1.out.size
            have := HBR.out
            simp at hg; omega
        have HBL2 : Hid (Below B w w2) := (HBL.out.trans (HB1.out.mono HBR.out)).trans (hk2.below (by have := HB1.out.size; have := HBR.out; omega) (Nat.le_refl _) HQ.out)
        have HA2 : Hid ((st.take (k + 1)).all It.fits = true) := HTA.out hfit
        clear hw2 hk2 hq2 x0 x1 x2 hfit
        go_wp2
        go_roundw
        case rel => exact ⟨k + 1, q2, by omega, by go_num, HA2.out, HW2.out, HQ2.out, HBL2.out⟩
        case measure => simp [intOf]; omega
      | false =>
        obtain ⟨hp1, hp2⟩ := HTB.out hfit
        have HP : Hid (packed st = [] ∧ packErr st = 12) := ⟨hp1, hp2⟩
        have HBL2 : Hid (Below B w w1) := HBL.out.trans (HB1.out.mono HBR.out)
        clear hp1 hp2 hfit x0 x1 x2
        go_wp2
        go_ret2
        exact ⟨.slice none 0 0, none, by rw [HP.out.2]; rfl, by rw [HP.out.1]; exact Own.nil _, by simp, by rw [← HBB.out]; exact HBL2.out⟩
    · obtain rfl : k = st.length := by omega
      have HP : Hid (packed st = flat st ∧ packErr st = 0) := packed_good st (by have := HA.out; rwa [List.take_length] at this)
      have HWF : Hid (WAt wr B (flat st) q) := by have := HWA.out; rwa [List.take_length] at this
      have HLF : Hid ((flat st).length ≤ 140737488355328) := by have := flat_all st HSN.out; unfold Hid; omega
      clear HC HWA HA
      go_wp2_with fail
      refine (wBytes B _ q wr HWF.out HLF.out).mono ?_
      rintro e w2 ⟨v2, r2, rfl, ho2, hb2, hr2⟩
      have H2 : Hid (Own w2 v2 (flat st) r2) := ho2
      have HR2 : Hid (∀ g, r2 = some g → B ≤ g) := fun g hg => by have := hr2 g hg; have := HBL.out.size; have := HBB.out; omega
      have HB2 : Hid (Below B w w2) := HBL.out.trans (hb2.mono (by have := HBL.out.size; have := HBB.out; omega))
      clear ho2 hb2 hr2
      go_wp2
      go_ret2
      exact ⟨v2, r2, by rw [HP.out.2]; rfl, by rw [HP.out.1]; exact H2.out, by rw [← HBB.out]; exact HR2.out, by rw [← HBB.out]; exact HB2.out⟩
end Go.Proofs.Ytbngedfpojnbjab
