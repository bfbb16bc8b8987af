import Derived.Test.YtelhjdplghpnbabSeG
import Derived.Test.YtelhjdplghpnbabSdR
/-! The law's kept. -/
namespace Go.Proofs.Ytelhjdplghpnbab
open Go.RowKit Plain
set_option linter.unusedVariables false
set_option linter.unusedSimpArgs false

theorem Rm.markc {base : Nat} {w : World} {g n cap : Nat} {t : Tr} {vs : List Qv} {rs : List (Option Nat)} (h : Rm base w g n cap t vs rs) {j : Nat} (hj : j < n) : ∃ b off, (vs.getD j Qv.zero).sl.1 = some ⟨b, off, none⟩ ∧ (t.q j).costs.length + 2 ≤ (vs.getD j Qv.zero).sl.2.2 ∧ w.cell? ⟨b, off + (t.q j).costs.length, none⟩ = some (.int .i64 (-77)) ∧ w.cell? ⟨b, off + ((t.q j).costs.length + 1), none⟩ = some (.int .i64 (-78)) := by
  have hr := h.row hj
  rcases hr with ⟨_, e, _⟩ | ⟨b, off, c, e0, e, hg, h1, h2, h3, h4, h5⟩
  · simp [marks] at e
  · simp only [Value.slice.injEq] at e
    obtain ⟨e1, e2, e3⟩ := e
    rw [← e3] at h1
    have hl : ((t.q j).costs ++ marks).length = (t.q j).costs.length + 2 := by rw [List.length_append]; rfl
    rw [hl] at h1 h5
    refine ⟨b, off, e1, h1, ?_, ?_⟩
    · rw [h5 _ (by omega), List.getD_eq_getElem?_getD, List.getElem?_append_right (Nat.le_refl _), Nat.sub_self]; rfl
    · rw [h5 _ (by omega), List.getD_eq_getElem?_getD, List.getElem?_append_right (by omega), show (t.q j).costs.length + 1 - (t.q j).costs.length = 1 by omega]; rfl
set_option maxHeartbeats 8000000 in
set_option maxRecDepth 100000 in
theorem lkeptOf (base g n cap : Nat) (t : Tr) (vs : List Qv) (rs : List (Option Nat)) (v : Value) (w : World) (h : Rm base w g n cap t vs rs) (hT : TrAt w v t) : Calls Try.prog 16 #[turV (.slice (some ⟨g, 0, none⟩) n cap) t, turV v t] w fun e w' => e = .returned (.bool true) ∧ Below w.heap.size w w' := by
  have HSM : Hid (∀ u, Below w.heap.size w u → Calls Try.prog 13 #[turV (.slice (some ⟨g, 0, none⟩) n cap) t, turV v t] u fun e w' => e = .returned (.bool true) ∧ Below u.heap.size u w') := fun u hu => lsameOf t _ _ u (h.later hu).reads (hT.later hu)
  obtain ⟨l, z, f⟩ := t
  obtain ⟨a, tc, rfl⟩ := hT.shape
  unfold turV at *
  simp only at *
  have HR : Hid (∀ u, Below w.heap.size w u → Rm base u g n cap ⟨l, z, f⟩ vs rs) := fun u hu => h.later hu
  have hn : n = l.length := h.n_
  have hfew := h.few
  have hcapn : n + 2 ≤ cap := by
    obtain ⟨aa, cc, e, h1, h2⟩ := h.mem.row.shape
    simp only [Value.slice.injEq] at e
    have := h.len
    omega
  clear h hT
  obtain ⟨w0, hw0⟩ : ∃ w0, w.alloc (.cells #[.slice (some ⟨g, 0, none⟩) n cap, .int .i64 z, .bool f] 24) = w0 := ⟨_, rfl⟩
  obtain ⟨w1, hw1⟩ : ∃ w1, w0.alloc (.cells #[.slice a l.length tc, .int .i64 z, .bool f] 24) = w1 := ⟨_, rfl⟩
  obtain ⟨B, hB⟩ : ∃ B, w.heap.size = B := ⟨_, rfl⟩
  have s0 : w0.heap.size = B + 1 := by rw [← hw0, ← hB]; simp
  obtain ⟨b0, x0⟩ := turBox w (.slice (some ⟨g, 0, none⟩) n cap) z f
  obtain ⟨b1, x1⟩ := turBox w0 (.slice a l.length tc) z f
  rw [hw0] at b0 x0
  rw [hw1] at b1 x1
  rw [hB] at x0
  rw [s0] at x1
  have HB1 : Hid (Below w.heap.size w w1) := below_of b0 b1
  have HX : Hid (∀ u, Below w1.heap.size w1 u → (u.cell? ⟨B, 0, none⟩ = some (.slice (some ⟨g, 0, none⟩) n cap) ∧ u.cell? ⟨B, 1, none⟩ = some (.int .i64 z) ∧ u.cell? ⟨B, 2, none⟩ = some (.bool f)) ∧ u.cell? ⟨B + 1, 0, none⟩ = some (.slice a l.length tc) ∧ u.cell? ⟨B + 1, 1, none⟩ = some (.int .i64 z) ∧ u.cell? ⟨B + 1, 2, none⟩ = some (.bool f)) := fun u hu => ⟨x0 u (below_of b1 hu), x1 u hu⟩
  obtain ⟨⟨p0, p1, p2⟩, q0, q1, q2⟩ := HX.out w1 (Below.refl _ _)
  clear b0 x0 b1 x1
  have HNl := Hid.mkT hn
  clear hn
  go_enter Try.func16, Try.ntmps16
  go_wp2_with fail
  refine (HSM.out _ HB1.out).mono ?_
  rintro e w2 ⟨rfl, hb2⟩
  have HB2 : Hid (Below w.heap.size w w2) := below_of HB1.out hb2
  clear p0 p1 p2 q0 q1 q2
  obtain ⟨⟨p0, p1, p2⟩, -⟩ := HX.out w2 hb2
  have HRM := Hid.mkT (HR.out w2 HB2.out)
  clear hb2 HR HSM HX
  go_wp2
  go_loopw [5] (fun s5 u => ∃ i : Nat, i ≤ n ∧ s5 = .int .i64 i ∧ u = w2) (fun s5 _ => n - (intOf s5).toNat)
  case atStart => exact ⟨0, by omega, rfl, rfl⟩
  case round =>
    obtain ⟨i, hi, rfl, hu⟩ := hrel
    replace hu := hu.symm
    subst hu
    by_cases hin : i < n
    · have hini : (i : Int) < (n : Int) := by omega
      obtain ⟨-, -, -, c3⟩ := HRM.out.cell (j := i) (by omega)
      obtain ⟨-, -, -, a4⟩ := HRM.out.same i hin
      obtain ⟨b, off, e1, e2, e3, e4⟩ := HRM.out.markc hin
      have hcm := (HRM.out.cok i hin).1
      rw [a4, e1] at c3
      generalize (vs.getD i Qv.zero).sl.2.2 = cc at *
      obtain ⟨N, hN⟩ : ∃ N, ((Tr.mk l z f).q i).costs.length = N := ⟨_, rfl⟩
      rw [hN] at c3 e2 e3 e4 hcm
      clear a4 e1 hN
      have hN1 : (N : Int) + 2 ≤ (cc : Int) := by omega
      have v1 : IntKind.i64.wrap ((N : Int) + 2) = (N : Int) + 2 := IntWalk.i64_in _ ⟨by omega, by omega⟩
      have v2 : IntKind.i64.wrap ((N : Int) + 1) = (N : Int) + 1 := IntWalk.i64_in _ ⟨by omega, by omega⟩
      go_wp2
      go_roundw
      case rel => exact ⟨i + 1, by omega, by go_num, by first | rfl | trivial⟩
      case measure => simp only [intOf]; omega
    · have hini : ¬ (i : Int) < (n : Int) := by omega
      obtain ⟨m0, -, -, -⟩ := HRM.out.cell (j := n) (by omega)
      obtain ⟨m1, -, -, -⟩ := HRM.out.cell (j := n + 1) (by omega)
      rw [HRM.out.m1] at m0
      rw [HRM.out.m2] at m1
      have v1 : IntKind.i64.wrap ((n : Int) + 2) = (n : Int) + 2 := IntWalk.i64_in _ ⟨by omega, by omega⟩
      have v2 : IntKind.i64.wrap ((n : Int) + 1) = (n : Int) + 1 := IntWalk.i64_in _ ⟨by omega, by omega⟩
      have hN1 : (n : Int) + 2 ≤ (cap : Int) := by omega
      clear HRM
      go_wp2
      go_ret
      exact ⟨by first | rfl | simp, by first | exact HB2.out | (rw [← hB]; exact HB2.out)⟩
end Go.Proofs.Ytelhjdplghpnbab
