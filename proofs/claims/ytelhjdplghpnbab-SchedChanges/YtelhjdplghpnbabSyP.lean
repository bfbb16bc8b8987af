import Derived.Test.YtelhjdplghpnbabSyO
/-! The program's find, walked. -/
namespace Go.Proofs.Ytelhjdplghpnbab
open Go.RowKit Plain
set_option linter.unusedVariables false
set_option linter.unusedSimpArgs false

set_option maxHeartbeats 4000000 in
set_option maxRecDepth 100000 in
theorem sBinarySearchFuncOf (l : List Qu) (id : Int) (v : Value) (w : World) (h : QsAt w v l) (hl : l.length ≤ 32) (hr : riseTo l l.length) : Calls Try.prog 32 #[v, .int .i64 id, .func (.func 33) #[] #[]] w fun e w' => ∃ k : Nat, e = .returned (.tuple #[.int .i64 k, .bool (decide (k < l.length ∧ (l.getD k Qu.zero).id = id))]) ∧ Fnd l id k ∧ Below w.heap.size w w' := by
  obtain ⟨a, cap, rfl, -⟩ := h.shape
  have HC : Hid (∀ i, i < l.length → ∃ b off ca cn cc, a = some ⟨b, off, none⟩ ∧ ∀ u, Below w.heap.size w u → u.cell? ⟨b, off + i * 4, none⟩ = some (.int .i64 (l.getD i Qu.zero).id) ∧ u.cell? ⟨b, off + i * 4 + 1, none⟩ = some (.int .i64 (l.getD i Qu.zero).quantum) ∧ u.cell? ⟨b, off + i * 4 + 2, none⟩ = some (.int .i64 (l.getD i Qu.zero).deficit) ∧ u.cell? ⟨b, off + i * 4 + 3, none⟩ = some (.slice ca cn cc)) := fun i hi => by
    obtain ⟨b, off, ca, cc, e, h1, h2⟩ := h.at hi
    exact ⟨b, off, ca, _, cc, e, fun u hu => ⟨(h1 u hu).1.c0, (h1 u hu).1.c1, (h1 u hu).1.c2, (h1 u hu).1.c3⟩⟩
  have HMO := Hid.mkT (fun j i h1 h2 => rise_mono hr j i h1 h2)
  clear h hr
  have eg := enter_find1
  go_enter Try.func32, Try.ntmps32
  go_wp2
  go_loopw [9, 10] (fun si sj u => ∃ i j : Nat, i ≤ j ∧ j ≤ l.length ∧ si = .int .i64 i ∧ sj = .int .i64 j ∧ Hid (∀ m, m < i → (l.getD m Qu.zero).id < id) ∧ Hid (∀ m, j ≤ m → m < l.length → id ≤ (l.getD m Qu.zero).id) ∧ Hid (Below w.heap.size w u)) (fun si sj _ => (intOf sj).toNat - (intOf si).toNat)
  case atStart => exact ⟨0, l.length, by omega, by omega, rfl, rfl, fun m hm => by omega, fun m h1 h2 => by omega, Below.refl _ _⟩
  case round =>
    obtain ⟨i, j, hij, hjn, rfl, rfl, HLO, HHI, HBW⟩ := hrel
    by_cases hlt : i < j
    · have hltz : (i : Int) < (j : Int) := by omega
      obtain ⟨c, hc⟩ : ∃ c : Nat, ((i : Int) + (j : Int)) / 2 = (c : Int) := ⟨(i + j) / 2, by omega⟩
      have hci : i ≤ c := by omega
      have hcj : c < j := by omega
      have hcn : c < l.length := by omega
      obtain ⟨b, off, ca, cn, cc, rfl, hcu⟩ := HC.out c hcn
      obtain ⟨c0, c1, c2, c3⟩ := hcu wr HBW.out
      have hcz : (c : Int) < (l.length : Int) := by omega
      have HL2 : Hid ((l.getD c Qu.zero).id < id → ∀ m, m < c + 1 → (l.getD m Qu.zero).id < id) := fun hx m hm => by
        by_cases e : m = c
        · rw [e]; exact hx
        · have := HMO.out c m (by omega) hcn; omega
      have HH2 : Hid (id ≤ (l.getD c Qu.zero).id → ∀ m, c ≤ m → m < l.length → id ≤ (l.getD m Qu.zero).id) := fun hx m h1 h2 => by
        by_cases e : m = c
        · rw [e]; exact hx
        · have := HMO.out m c (by omega) h2; omega
      clear hcu
      generalize (l.getD c Qu.zero).id = xi at *
      generalize (l.getD c Qu.zero).quantum = xq at *
      generalize (l.getD c Qu.zero).deficit = xd at *
      go_wp2_with fail
      refine (qfind1Of xi xq xd ca cn cc id _).mono ?_
      rintro e w1 ⟨rfl, hb1⟩
      have HBV : Hid (Below w.heap.size w w1) := below_of HBW.out hb1
      clear hb1
      by_cases hx : xi < id
      · have hcm : cmpI xi id = -1 := by unfold cmpI; rw [if_pos hx]
        rw [hcm]
        have HL3 := Hid.mkT (HL2.out hx)
        clear HL2 HH2 HBW
        go_wp2
        go_roundw
        case rel => exact ⟨c + 1, j, by omega, hjn, by go_num, rfl, HL3.out, HHI.out, HBV.out⟩
        case measure => simp only [intOf]; omega
      · have hcm : ¬ cmpI xi id < 0 := by unfold cmpI; rw [if_neg hx]; split <;> omega
        have HH3 := Hid.mkT (HH2.out (by omega))
        clear HL2 HH2 HBW
        generalize cmpI xi id = q at *
        go_wp2
        go_roundw
        case rel => exact ⟨i, c, by omega, by omega, rfl, rfl, HLO.out, HH3.out, HBV.out⟩
        case measure => simp only [intOf]; omega
    · obtain rfl : i = j := by omega
      have HF : Hid (Fnd l id i) := ⟨hjn, HLO.out, HHI.out⟩
      clear HLO HHI
      by_cases hin : i < l.length
      · obtain ⟨b, off, ca, cn, cc, rfl, hcu⟩ := HC.out i hin
        obtain ⟨c0, c1, c2, c3⟩ := hcu wr HBW.out
        have hinz : (i : Int) < (l.length : Int) := by omega
        have HD : Hid (decide (i < l.length ∧ (l.getD i Qu.zero).id = id) = decide ((l.getD i Qu.zero).id = id)) := by unfold Hid; simp [hin]
        clear hcu
        generalize (l.getD i Qu.zero).quantum = xq at *
        generalize (l.getD i Qu.zero).deficit = xd at *
        obtain ⟨xi, hxi⟩ : ∃ xi, (l.getD i Qu.zero).id = xi := ⟨_, rfl⟩
        rw [hxi] at c0 HD
        go_wp2_with fail
        refine (qfind1Of xi xq xd ca cn cc id _).mono ?_
        rintro e w1 ⟨rfl, hb1⟩
        have HBV : Hid (Below w.heap.size w w1) := below_of HBW.out hb1
        have HXI := Hid.mkT hxi
        clear hb1 hxi
        by_cases hx : xi = id
        · have hcm : cmpI xi id = 0 := by unfold cmpI; rw [if_neg (by omega), if_neg (by omega)]
          rw [hcm]
          go_wp2
          go_ret2
          exact ⟨i, by rw [HXI.out, HD.out]; simp [hx], HF.out, HBV.out⟩
        · have hcm : ¬ cmpI xi id = 0 := by unfold cmpI; split <;> (try split) <;> omega
          generalize cmpI xi id = q at *
          go_wp2
          go_ret2
          exact ⟨i, by rw [HXI.out, HD.out]; simp [hx, hcm], HF.out, HBV.out⟩
      · have hinz : ¬ (i : Int) < (l.length : Int) := by omega
        go_wp2
        go_ret2
        exact ⟨i, by simp [hin], HF.out, HBW.out⟩
set_option maxHeartbeats 2000000 in
/-- find: the place, and whether it is there. -/
theorem qfindOf (t : Tr) (id : Int) (v : Value) (w : World) (h : TrAt w v t) (hl : t.qs.length ≤ 32) (hr : riseTo t.qs t.qs.length) : Calls Try.prog 24 #[turV v t, .int .i64 id] w fun e w' => ∃ k : Nat, e = .returned (.tuple #[.int .i64 k, .bool (decide (k < t.qs.length ∧ (t.qs.getD k Qu.zero).id = id))]) ∧ Fnd t.qs id k ∧ Below w.heap.size w w' := by
  obtain ⟨l, z, f⟩ := t
  have hb := turBox w v z f
  unfold turV
  simp only at *
  obtain ⟨w0, hw0⟩ : ∃ w0, w.alloc (.cells #[v, .int .i64 z, .bool f] 24) = w0 := ⟨_, rfl⟩
  rw [hw0] at hb
  obtain ⟨m0, -, -⟩ := hb.2 w0 (Below.refl _ _)
  have HS := Hid.mkT (sBinarySearchFuncOf l id v w0 (h.row.later hb.1) hl hr)
  have HB := Hid.mkT hb.1
  obtain ⟨a, cap, rfl, -⟩ := h.row.shape
  obtain ⟨B, hB⟩ : ∃ B, w.heap.size = B := ⟨_, rfl⟩
  rw [hB] at m0
  simp only at m0 HS ⊢
  clear hb h hr
  go_enter Try.func24, Try.ntmps24
  go_wp2_with fail
  refine HS.out.mono ?_
  rintro e w1 ⟨k, rfl, hf, hb1⟩
  have HBE : Hid (Below w.heap.size w w1) := below_of HB.out hb1
  have HF := Hid.mkT hf
  clear hf hb1
  obtain ⟨D, hD⟩ : ∃ D, decide (k < l.length ∧ (l.getD k Qu.zero).id = id) = D := ⟨_, rfl⟩
  have HDD := Hid.mkT hD
  rw [hD]
  clear hD
  go_wp2
  go_ret2
  exact ⟨k, by rw [HDD.out]; rfl, HF.out, by first | exact HBE.out | (rw [← hB]; exact HBE.out)⟩
end Go.Proofs.Ytelhjdplghpnbab
