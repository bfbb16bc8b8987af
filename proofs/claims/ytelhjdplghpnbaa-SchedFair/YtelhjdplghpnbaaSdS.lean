import Derived.Test.YtelhjdplghpnbaaSdI
/-! The law's waiting, greatest. -/
namespace Go.Proofs.Ytelhjdplghpnbaa
open Go.RowKit Plain
set_option linter.unusedVariables false
set_option linter.unusedSimpArgs false

/-- Does the queue number i wait? -/
def waitB (t : Tr) (i : Int) : Bool := decide (i < (t.qs.length : Int)) && decide (0 < (t.qs.getD i.toNat Qu.zero).costs.length)
set_option maxHeartbeats 4000000 in
set_option maxRecDepth 100000 in
theorem lwaitingOf (t : Tr) (i : Int) (hi : 0 ≤ i) (hi2 : i ≤ 9223372036854775807) (v : Value) (w : World) (h : TrAt w v t) : Calls Try.prog 20 #[turV v t, .int .i64 i] w fun e w' => e = .returned (.bool (waitB t i)) ∧ Below w.heap.size w w' := by
  obtain ⟨l, z, f⟩ := t
  obtain ⟨hrow, hz1, hz2⟩ := h
  simp only at hrow hz1 hz2
  obtain ⟨a, cap, rfl, hl⟩ := hrow.shape
  obtain ⟨I, rfl⟩ : ∃ I : Nat, i = (I : Int) := ⟨i.toNat, by omega⟩
  have HW : Hid (waitB ⟨l, z, f⟩ (I : Int) = (decide ((I : Int) < (l.length : Int)) && decide (0 < (l.getD I Qu.zero).costs.length))) := by simp [Hid, waitB]
  generalize waitB ⟨l, z, f⟩ (I : Int) = A at *
  unfold turV
  simp only
  obtain ⟨w0, hw0⟩ : ∃ w0, w.alloc (.cells #[.slice a l.length cap, .int .i64 z, .bool f] 34) = w0 := ⟨_, rfl⟩
  obtain ⟨B, hB⟩ : ∃ B, w.heap.size = B := ⟨_, rfl⟩
  obtain ⟨t1, t2⟩ := turBox w (.slice a l.length cap) z f
  rw [hw0] at t1 t2
  rw [hB] at t2
  have HB0 := Hid.mkT t1
  obtain ⟨m0, m1, m2⟩ := t2 w0 (Below.refl _ _)
  by_cases hlt : I < l.length
  · obtain ⟨b, off, ca, cc, rfl, hh, -⟩ := hrow.at hlt
    have c3 := (hh w0 t1).1.c3
    simp only at c3
    have hli : (I : Int) < (l.length : Int) := by omega
    generalize (l.getD I Qu.zero).costs.length = N at *
    clear hh hrow t1 t2
    by_cases hN : N = 0
    · subst hN
      have HA : Hid (A = false) := by rw [Hid, HW.out]; simp
      clear HW
      go_enter Try.func20, Try.ntmps20
      go_wp2
      go_ret
      exact ⟨by rw [HA.out]; rfl, by first | exact HB0.out | (rw [← hB]; exact HB0.out)⟩
    · have HA : Hid (A = true) := by rw [Hid, HW.out]; simp; omega
      have hN1 : 0 < N := by omega
      have hN2 : (0 : Int) < (N : Int) := by omega
      clear HW
      go_enter Try.func20, Try.ntmps20
      go_wp2
      go_ret
      exact ⟨by rw [HA.out]; rfl, by first | exact HB0.out | (rw [← hB]; exact HB0.out)⟩
  · have HA : Hid (A = false) := by rw [Hid, HW.out]; simp; omega
    have hli : ¬ (I : Int) < (l.length : Int) := by omega
    clear HW t1 t2 hrow
    go_enter Try.func20, Try.ntmps20
    go_wp2
    go_ret
    exact ⟨by rw [HA.out]; rfl, by first | exact HB0.out | (rw [← hB]; exact HB0.out)⟩
/-- What greatest answers: it is above all, and at most M where all are. -/
def GrP (l : List Qu) (M : Int) (w : World) (e : Ending) (w' : World) : Prop := ∃ G : Int, e = .returned (.int .i64 G) ∧ 0 ≤ G ∧ G ≤ M ∧ (∀ j, j < l.length → (l.getD j Qu.zero).deficit ≤ G ∧ ∀ c ∈ (l.getD j Qu.zero).costs, c ≤ G) ∧ Below w.heap.size w w'
set_option maxHeartbeats 4000000 in
set_option maxRecDepth 100000 in
theorem lgreatestOf (t : Tr) (M : Int) (hM : 0 ≤ M) (hM2 : M ≤ 9223372036854775807) (hd : ∀ j, j < t.qs.length → (t.qs.getD j Qu.zero).deficit ≤ M ∧ ∀ c ∈ (t.qs.getD j Qu.zero).costs, c ≤ M) (v : Value) (w : World) (h : TrAt w v t) : Calls Try.prog 22 #[turV v t] w (GrP t.qs M w) := by
  obtain ⟨l, z, f⟩ := t
  obtain ⟨hrow, hz1, hz2⟩ := h
  simp only at hrow hz1 hz2 hd ⊢
  obtain ⟨a, cap, rfl, hl⟩ := hrow.shape
  have HD := Hid.mkT hd
  clear hd
  unfold turV
  simp only
  obtain ⟨w0, hw0⟩ : ∃ w0, w.alloc (.cells #[.slice a l.length cap, .int .i64 z, .bool f] 34) = w0 := ⟨_, rfl⟩
  obtain ⟨B, hB⟩ : ∃ B, w.heap.size = B := ⟨_, rfl⟩
  obtain ⟨t1, t2⟩ := turBox w (.slice a l.length cap) z f
  rw [hw0] at t1 t2
  rw [hB] at t2
  have HB0 := Hid.mkT t1
  obtain ⟨m0, m1, m2⟩ := t2 w0 (Below.refl _ _)
  have HC : Hid (∀ i, i < l.length → ∃ b off ca cc, a = some ⟨b, off, none⟩ ∧ (w0.cell? ⟨b, off + i * 4 + 2, none⟩ = some (.int .i64 (l.getD i Qu.zero).deficit) ∧ w0.cell? ⟨b, off + i * 4 + 3, none⟩ = some (.slice ca (l.getD i Qu.zero).costs.length cc)) ∧ IntsAt w0 (.slice ca (l.getD i Qu.zero).costs.length cc) (l.getD i Qu.zero).costs ∧ I64 (l.getD i Qu.zero).deficit) := fun i hi => by
    obtain ⟨b, off, ca, cc, e, h1, -, -, h4⟩ := hrow.at hi
    exact ⟨b, off, ca, cc, e, ⟨(h1 w0 HB0.out).1.c2, (h1 w0 HB0.out).1.c3⟩, (h1 w0 HB0.out).2, h4⟩
  clear t1 t2 hrow
  go_enter Try.func22, Try.ntmps22
  go_wp2
  go_loopw [3, 4] (fun s3 s4 u => ∃ (k : Nat) (G : Int), k ≤ l.length ∧ s4 = .int .i64 k ∧ s3 = .int .i64 G ∧ 0 ≤ G ∧ G ≤ M ∧ Hid (∀ j, j < k → (l.getD j Qu.zero).deficit ≤ G ∧ ∀ c ∈ (l.getD j Qu.zero).costs, c ≤ G) ∧ u = w0) (fun _ s4 _ => l.length - (intOf s4).toNat)
  case atStart => exact ⟨0, 0, by omega, rfl, rfl, by omega, hM, fun j hj => by omega, rfl⟩
  case round =>
    obtain ⟨k, G, hk, rfl, rfl, hG0, hGM, HG, rfl⟩ := hrel
    by_cases hlt : k < l.length
    · obtain ⟨b, off, ca, cc, rfl, ⟨c2, c3⟩, hin, hi1, hi2⟩ := HC.out k hlt
      obtain ⟨hdM, hcM⟩ := HD.out k hlt
      have hki : (k : Int) < (l.length : Int) := by omega
      obtain ⟨x, hx⟩ : ∃ x, l.getD k Qu.zero = x := ⟨_, rfl⟩
      have HX := Hid.mkT hx
      rw [hx] at c2 c3 hin hi1 hi2 hdM hcM
      clear hx
      obtain ⟨xi, xq, xd, cs⟩ := x
      simp only at c2 c3 hin hi1 hi2 hdM hcM
      have HIN := Hid.mkT hin
      have HCM := Hid.mkT hcM
      have hcm := hin.most
      clear hin hcM
      obtain ⟨G1, hG1⟩ : ∃ G1, max G xd = G1 := ⟨_, rfl⟩
      have hg1 : G ≤ G1 ∧ xd ≤ G1 ∧ G1 ≤ M ∧ 0 ≤ G1 := by omega
      have HG1 : Hid (∀ j, j < k → (l.getD j Qu.zero).deficit ≤ G1 ∧ ∀ c ∈ (l.getD j Qu.zero).costs, c ≤ G1) := fun j hj => ⟨Int.le_trans (HG.out j hj).1 hg1.1, fun c hc => Int.le_trans ((HG.out j hj).2 c hc) hg1.1⟩
      have HRND : Hid (∀ G2 : Int, G1 ≤ G2 → (∀ c ∈ cs, c ≤ G2) → ∀ j, j < k + 1 → (l.getD j Qu.zero).deficit ≤ G2 ∧ ∀ c ∈ (l.getD j Qu.zero).costs, c ≤ G2) := fun G2 h1 h2 j hj => by
        by_cases e : j = k
        · rw [e, HX.out]; exact ⟨Int.le_trans hg1.2.1 h1, h2⟩
        · have := HG1.out j (by omega)
          exact ⟨Int.le_trans this.1 h1, fun c hc => Int.le_trans (this.2 c hc) h1⟩
      by_cases hmx : G < xd
      · have e1 : xd = G1 := by omega
        subst e1
        clear hG1 HG HG1
        go_wp2
        go_loopw [3, 5] (fun s3 s5 u => ∃ (m : Nat) (G2 : Int), m ≤ cs.length ∧ s5 = .int .i64 m ∧ s3 = .int .i64 G2 ∧ xd ≤ G2 ∧ G2 ≤ M ∧ Hid (∀ j, j < m → cs.getD j 0 ≤ G2) ∧ u = wr) (fun _ s5 _ => cs.length - (intOf s5).toNat)
        case atStart => exact ⟨0, xd, by omega, rfl, rfl, by omega, by omega, fun j hj => by omega, rfl⟩
        case round =>
          obtain ⟨m, G2, hm, rfl, rfl, hG2, hG2M, HG2, hu⟩ := hrel
          subst hu
          by_cases hml : m < cs.length
          · obtain ⟨cb, co, rfl, y0, yi1, yi2⟩ := HIN.out.cell (i := m) hml
            have hyM : cs.getD m 0 ≤ M := HCM.out _ (by simp [List.getD_eq_getElem?_getD, hml])
            have hmi : (m : Int) < (cs.length : Int) := by omega
            have HG3 : Hid (∀ G3 : Int, G2 ≤ G3 → cs.getD m 0 ≤ G3 → ∀ j, j < m + 1 → cs.getD j 0 ≤ G3) := fun G3 h1 h2 j hj => by
              by_cases e : j = m
              · rw [e]; exact h2
              · exact Int.le_trans (HG2.out j (by omega)) h1
            generalize cs.getD m 0 = y at *
            by_cases hyx : G2 < y
            · have HG4 := Hid.mkT (HG3.out y (by omega) (by omega))
              clear HG3 HG2
              go_wp2
              go_roundw
              case rel => exact ⟨m + 1, y, by omega, by go_num, rfl, by omega, by omega, HG4.out, by first | rfl | trivial⟩
              case measure => simp only [intOf]; omega
            · have HG4 := Hid.mkT (HG3.out G2 (by omega) (by omega))
              clear HG3 HG2
              go_wp2
              go_roundw
              case rel => exact ⟨m + 1, G2, by omega, by go_num, rfl, by omega, by omega, HG4.out, by first | rfl | trivial⟩
              case measure => simp only [intOf]; omega
          · have hmn : cs.length = m := by omega
            have HR2 : Hid (∀ j, j < k + 1 → (l.getD j Qu.zero).deficit ≤ G2 ∧ ∀ c ∈ (l.getD j Qu.zero).costs, c ≤ G2) := HRND.out G2 (by omega) (fun c hc => by
              obtain ⟨j, hj, e⟩ := List.mem_iff_getElem.mp hc
              have := HG2.out j (by omega)
              simpa [List.getD_eq_getElem?_getD, hj, e] using this)
            clear HRND HG2
            go_wp2
            go_roundw
            case rel => exact ⟨k + 1, G2, by omega, by go_num, rfl, by omega, by omega, HR2.out, by first | rfl | trivial⟩
            case measure => simp only [intOf]; omega
      · have e1 : G = G1 := by omega
        subst e1
        clear hG1 HG1
        go_wp2
        go_loopw [3, 5] (fun s3 s5 u => ∃ (m : Nat) (G2 : Int), m ≤ cs.length ∧ s5 = .int .i64 m ∧ s3 = .int .i64 G2 ∧ G ≤ G2 ∧ G2 ≤ M ∧ Hid (∀ j, j < m → cs.getD j 0 ≤ G2) ∧ u = wr) (fun _ s5 _ => cs.length - (intOf s5).toNat)
        case atStart => exact ⟨0, G, by omega, rfl, rfl, by omega, by omega, fun j hj => by omega, rfl⟩
        case round =>
          obtain ⟨m, G2, hm, rfl, rfl, hG2, hG2M, HG2, hu⟩ := hrel
          subst hu
          by_cases hml : m < cs.length
          · obtain ⟨cb, co, rfl, y0, yi1, yi2⟩ := HIN.out.cell (i := m) hml
            have hyM : cs.getD m 0 ≤ M := HCM.out _ (by simp [List.getD_eq_getElem?_getD, hml])
            have hmi : (m : Int) < (cs.length : Int) := by omega
            have HG3 : Hid (∀ G3 : Int, G2 ≤ G3 → cs.getD m 0 ≤ G3 → ∀ j, j < m + 1 → cs.getD j 0 ≤ G3) := fun G3 h1 h2 j hj => by
              by_cases e : j = m
              · rw [e]; exact h2
              · exact Int.le_trans (HG2.out j (by omega)) h1
            generalize cs.getD m 0 = y at *
            by_cases hyx : G2 < y
            · have HG4 := Hid.mkT (HG3.out y (by omega) (by omega))
              clear HG3 HG2
              go_wp2
              go_roundw
              case rel => exact ⟨m + 1, y, by omega, by go_num, rfl, by omega, by omega, HG4.out, by first | rfl | trivial⟩
              case measure => simp only [intOf]; omega
            · have HG4 := Hid.mkT (HG3.out G2 (by omega) (by omega))
              clear HG3 HG2
              go_wp2
              go_roundw
              case rel => exact ⟨m + 1, G2, by omega, by go_num, rfl, by omega, by omega, HG4.out, by first | rfl | trivial⟩
              case measure => simp only [intOf]; omega
          · have hmn : cs.length = m := by omega
            have HR2 : Hid (∀ j, j < k + 1 → (l.getD j Qu.zero).deficit ≤ G2 ∧ ∀ c ∈ (l.getD j Qu.zero).costs, c ≤ G2) := HRND.out G2 (by omega) (fun c hc => by
              obtain ⟨j, hj, e⟩ := List.mem_iff_getElem.mp hc
              have := HG2.out j (by omega)
              simpa [List.getD_eq_getElem?_getD, hj, e] using this)
            clear HRND HG2
            go_wp2
            go_roundw
            case rel => exact ⟨k + 1, G2, by omega, by go_num, rfl, by omega, by omega, HR2.out, by first | rfl | trivial⟩
            case measure => simp only [intOf]; omega
    · have hkn : l.length = k := by omega
      have HF : Hid (GrP l M w (.returned (.int .i64 G)) wr) := ⟨G, rfl, hG0, hGM, by rw [hkn]; exact HG.out, HB0.out⟩
      clear HG
      go_wp2
      go_ret
      exact HF.out
end Go.Proofs.Ytelhjdplghpnbaa
