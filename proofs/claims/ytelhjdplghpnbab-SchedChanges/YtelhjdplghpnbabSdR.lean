import Derived.Test.YtelhjdplghpnbabSdI
/-! The law's same: of turns that read alike. -/
namespace Go.Proofs.Ytelhjdplghpnbab
open Go.RowKit Plain
set_option linter.unusedVariables false
set_option linter.unusedSimpArgs false

set_option maxHeartbeats 4000000 in
set_option maxRecDepth 100000 in
theorem lsameOf (t : Tr) (v1 v2 : Value) (w : World) (h1 : TrAt w v1 t) (h2 : TrAt w v2 t) : Calls Try.prog 13 #[turV v1 t, turV v2 t] w fun e w' => e = .returned (.bool true) ∧ Below w.heap.size w w' := by
  obtain ⟨l, z, f⟩ := t
  obtain ⟨hrow1, hz1, hz2⟩ := h1
  obtain ⟨hrow2, -, -⟩ := h2
  simp only at hrow1 hrow2 hz1 hz2
  obtain ⟨a, cap, rfl, hl⟩ := hrow1.shape
  obtain ⟨a', cap', rfl, -⟩ := hrow2.shape
  unfold turV
  simp only
  obtain ⟨w1, hw1⟩ : ∃ w1, w.alloc (.cells #[.slice a l.length cap, .int .i64 z, .bool f] 24) = w1 := ⟨_, rfl⟩
  obtain ⟨w2, hw2⟩ : ∃ w2, w1.alloc (.cells #[.slice a' l.length cap', .int .i64 z, .bool f] 24) = w2 := ⟨_, rfl⟩
  obtain ⟨B, hB⟩ : ∃ B, w.heap.size = B := ⟨_, rfl⟩
  have s1 : w1.heap.size = B + 1 := by rw [← hw1, ← hB]; simp
  obtain ⟨t1, t2⟩ := turBox w (.slice a l.length cap) z f
  obtain ⟨t3, t4⟩ := turBox w1 (.slice a' l.length cap') z f
  rw [hw1] at t1 t2
  rw [hw2] at t3 t4
  rw [hB] at t2
  rw [s1] at t4
  have HB2 : Hid (Below w.heap.size w w2) := below_of t1 t3
  have HM : Hid (∀ u, Below w2.heap.size w2 u → (u.cell? ⟨B, 0, none⟩ = some (.slice a l.length cap) ∧ u.cell? ⟨B, 1, none⟩ = some (.int .i64 z) ∧ u.cell? ⟨B, 2, none⟩ = some (.bool f)) ∧ u.cell? ⟨B + 1, 0, none⟩ = some (.slice a' l.length cap') ∧ u.cell? ⟨B + 1, 1, none⟩ = some (.int .i64 z) ∧ u.cell? ⟨B + 1, 2, none⟩ = some (.bool f)) := fun u hu => ⟨t2 u (below_of t3 hu), t4 u hu⟩
  have HC1 : Hid (∀ i, i < l.length → ∃ b off ca cc, a = some ⟨b, off, none⟩ ∧ (∀ u, Below w2.heap.size w2 u → Qv.CellsAt u b (off + i * 4) ⟨(l.getD i Qu.zero).id, (l.getD i Qu.zero).quantum, (l.getD i Qu.zero).deficit, ca, (l.getD i Qu.zero).costs.length, cc⟩ ∧ IntsAt u (.slice ca (l.getD i Qu.zero).costs.length cc) (l.getD i Qu.zero).costs)) := fun i hi => by
    obtain ⟨b, off, ca, cc, e, hh, -⟩ := hrow1.at hi
    exact ⟨b, off, ca, cc, e, fun u hu => hh u (below_of HB2.out hu)⟩
  have HC2 : Hid (∀ i, i < l.length → ∃ b off ca cc, a' = some ⟨b, off, none⟩ ∧ (∀ u, Below w2.heap.size w2 u → Qv.CellsAt u b (off + i * 4) ⟨(l.getD i Qu.zero).id, (l.getD i Qu.zero).quantum, (l.getD i Qu.zero).deficit, ca, (l.getD i Qu.zero).costs.length, cc⟩ ∧ IntsAt u (.slice ca (l.getD i Qu.zero).costs.length cc) (l.getD i Qu.zero).costs)) := fun i hi => by
    obtain ⟨b, off, ca, cc, e, hh, -⟩ := hrow2.at hi
    exact ⟨b, off, ca, cc, e, fun u hu => hh u (below_of HB2.out hu)⟩
  obtain ⟨⟨m0, m1, m2⟩, m3, m4, m5⟩ := HM.out w2 (Below.refl _ _)
  clear t1 t2 t3 t4 hrow1 hrow2
  go_enter Try.func13, Try.ntmps13
  go_wp2
  go_loopw [5] (fun i u => ∃ k : Nat, k ≤ l.length ∧ i = .int .i64 k ∧ Hid (Below w2.heap.size w2 u)) (fun i _ => l.length - (intOf i).toNat)
  case atStart => exact ⟨0, by omega, rfl, Below.refl _ _⟩
  case round =>
    obtain ⟨k, hk, rfl, HBW⟩ := hrel
    clear m0 m1 m2 m3 m4 m5
    obtain ⟨⟨m0, m1, m2⟩, m3, m4, m5⟩ := HM.out wr HBW.out
    by_cases hlt : k < l.length
    · obtain ⟨b, off, ca, cc, rfl, hcu⟩ := HC1.out k hlt
      obtain ⟨b', off', ca', cc', rfl, hcu'⟩ := HC2.out k hlt
      obtain ⟨⟨p0, p1, p2, p3⟩, pin⟩ := hcu wr HBW.out
      have HCU := Hid.mkT hcu
      have HCU' := Hid.mkT hcu'
      have hcm := pin.most
      have hki : (k : Int) < (l.length : Int) := by omega
      clear hcu hcu' pin
      obtain ⟨x, hx⟩ : ∃ x, l.getD k Qu.zero = x := ⟨_, rfl⟩
      rw [hx] at p0 p1 p2 p3 HCU HCU' hcm
      clear hx
      obtain ⟨xi, xq, xd, cs⟩ := x
      simp only at p0 p1 p2 p3 HCU HCU' hcm
      obtain ⟨wa, hwa⟩ : ∃ wa, wr.alloc (.cells #[.int .i64 xi, .int .i64 xq, .int .i64 xd, .slice ca cs.length cc] 37) = wa := ⟨_, rfl⟩
      obtain ⟨wb, hwb⟩ : ∃ wb, wa.alloc (.cells #[.int .i64 xi, .int .i64 xq, .int .i64 xd, .slice ca' cs.length cc'] 37) = wb := ⟨_, rfl⟩
      obtain ⟨D, hD⟩ : ∃ D, wr.heap.size = D := ⟨_, rfl⟩
      have sa : wa.heap.size = D + 1 := by rw [← hwa, ← hD]; simp
      obtain ⟨q1, q2⟩ := queBox wr xi xq xd (.slice ca cs.length cc)
      obtain ⟨q3, q4⟩ := queBox wa xi xq xd (.slice ca' cs.length cc')
      rw [hwa] at q1 q2
      rw [hwb] at q3 q4
      rw [hD] at q2
      rw [sa] at q4
      have HBa : Hid (Below w2.heap.size w2 wa) := below_of HBW.out q1
      have HBb : Hid (Below w2.heap.size w2 wb) := below_of HBa.out q3
      have HQ : Hid (∀ u, Below wb.heap.size wb u → (u.cell? ⟨D, 0, none⟩ = some (.int .i64 xi) ∧ u.cell? ⟨D, 1, none⟩ = some (.int .i64 xq) ∧ u.cell? ⟨D, 2, none⟩ = some (.int .i64 xd) ∧ u.cell? ⟨D, 3, none⟩ = some (.slice ca cs.length cc)) ∧ u.cell? ⟨D + 1, 0, none⟩ = some (.int .i64 xi) ∧ u.cell? ⟨D + 1, 1, none⟩ = some (.int .i64 xq) ∧ u.cell? ⟨D + 1, 2, none⟩ = some (.int .i64 xd) ∧ u.cell? ⟨D + 1, 3, none⟩ = some (.slice ca' cs.length cc')) := fun u hu => ⟨q2 u (below_of q3 hu), q4 u hu⟩
      obtain ⟨⟨-, -, -⟩, n3, -, -⟩ := HM.out wa HBa.out
      obtain ⟨⟨g0, g1, g2, g3⟩, -⟩ := HCU'.out wa HBa.out
      simp only at g0 g1 g2 g3
      obtain ⟨⟨d0, d1, d2, d3⟩, f0, f1, f2, f3⟩ := HQ.out wb (Below.refl _ _)
      clear q1 q2 q3 q4
      go_wp2
      go_loopw [8] (fun i u => ∃ m : Nat, m ≤ cs.length ∧ i = .int .i64 m ∧ Hid (Below wb.heap.size wb u)) (fun i _ => cs.length - (intOf i).toNat)
      case atStart => exact ⟨0, by omega, rfl, Below.refl _ _⟩
      case round =>
        obtain ⟨m, hm, rfl, HBV⟩ := hrel
        clear d0 d1 d2 d3 f0 f1 f2 f3
        obtain ⟨⟨d0, d1, d2, d3⟩, f0, f1, f2, f3⟩ := HQ.out wr HBV.out
        have HBX : Hid (Below w2.heap.size w2 wr) := below_of HBb.out HBV.out
        by_cases hml : m < cs.length
        · obtain ⟨cb, co, rfl, y0, -⟩ := (HCU.out wr HBX.out).2.cell (i := m) hml
          obtain ⟨cb', co', rfl, y1, -⟩ := (HCU'.out wr HBX.out).2.cell (i := m) hml
          generalize cs.getD m 0 = y at *
          have hmi : (m : Int) < (cs.length : Int) := by omega
          have HDX : Hid (∀ n, Below wb.heap.size wb (wr.drewN n)) := fun n => below_of HBV.out (below_drawn wr n)
          go_wp2
          go_quiet (fail)
          go_wp2
          go_roundw
          case rel => exact ⟨m + 1, by omega, by go_num, HDX.out _⟩
          case measure => simp only [intOf]; omega
        · have hmn : cs.length = m := by omega
          go_wp2
          go_roundw
          case rel => exact ⟨k + 1, by omega, by go_num, HBX.out⟩
          case measure => simp only [intOf]; omega
    · have hkn : l.length = k := by omega
      have HDW : Hid (Below w.heap.size w wr) := below_of HB2.out HBW.out
      go_wp2
      go_ret
      exact ⟨rfl, by first | exact HDW.out | (rw [← hB]; exact HDW.out)⟩
end Go.Proofs.Ytelhjdplghpnbab
