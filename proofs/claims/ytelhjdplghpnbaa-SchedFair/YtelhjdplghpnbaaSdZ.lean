import Derived.Test.YtelhjdplghpnbaaSdY
/-! What the program's calls must answer, Next too; the law's works. -/
namespace Go.Proofs.Ytelhjdplghpnbaa
open Go.RowKit Plain
set_option linter.unusedVariables false
set_option linter.unusedSimpArgs false

def NextOk : Prop := ∀ (t : Tr) (v : Value) (w : World), TrAt w v t → Calls Try.prog 12 #[turV v t] w (NxtA t w)
structure SchedOk : Prop where
  enter : EnterOk
  leave : LeaveOk
  ask : AskOk
  next : NextOk
/-- The turns that the law's works goes through. -/
def wk1 : Tr := ⟨[⟨1, 4, 0, []⟩], 0, false⟩
def wk2 : Tr := ⟨[⟨1, 4, 0, []⟩, ⟨2, 2, 0, []⟩], 0, false⟩
def wk3 : Tr := ⟨[⟨1, 4, 0, [3]⟩, ⟨2, 2, 0, []⟩], 0, false⟩
def wk4 : Tr := ⟨[⟨1, 4, 0, [3]⟩, ⟨2, 2, 0, [1]⟩], 0, false⟩
def wk5 : Tr := ⟨[⟨1, 4, 0, []⟩, ⟨2, 2, 0, [1]⟩], 1, false⟩
def wk6 : Tr := ⟨[⟨1, 4, 0, []⟩, ⟨2, 2, 0, []⟩], 0, false⟩
theorem wk_1 : entT Tr.zero 1 4 = (wk1, 0) := by rfl
theorem wk_2 : entT wk1 2 2 = (wk2, 0) := by rfl
theorem wk_3 : askT wk2 1 3 = (wk3, 0) := by rfl
theorem wk_4 : askT wk3 2 1 = (wk4, 0) := by rfl
theorem wk_5 : Nxt wk4 wk5 1 3 true := ⟨fun h => absurd (show chkT wk4 = 0 by rfl) h, fun _ h => absurd h (by decide), fun _ _ => ⟨rfl, 1, ⟨wk5.qs, 1, false⟩, by rfl, rfl⟩⟩
theorem wk_6 : Nxt wk5 wk6 2 1 true := ⟨fun h => absurd (show chkT wk5 = 0 by rfl) h, fun _ h => absurd h (by decide), fun _ _ => ⟨rfl, 1, ⟨wk6.qs, 0, false⟩, by rfl, rfl⟩⟩
theorem wk_7 {t : Tr} {i c : Int} {ok : Bool} (h : Nxt wk6 t i c ok) : ok = false := (h.idle (by rfl) (by decide)).2.2.2
set_option maxHeartbeats 4000000 in
set_option maxRecDepth 100000 in
theorem worksOf (hS : SchedOk) (w : World) : Calls Try.prog 21 #[] w fun e w' => e = .returned (.bool true) ∧ Below w.heap.size w w' := by
  obtain ⟨w0, hw0⟩ : ∃ w0, w.alloc (.cells #[.slice none 0 0, .int .i64 0, .bool false] 34) = w0 := ⟨_, rfl⟩
  obtain ⟨B, hB⟩ : ∃ B, w.heap.size = B := ⟨_, rfl⟩
  have HL : Hid (LtS w w0 B (.slice none 0 0) Tr.zero) := by
    have h := BoxT.new w (.slice none 0 0) Tr.zero 0 false rfl rfl
    rw [hw0, hB] at h
    refine ⟨h, turZero _, ?_, by omega⟩
    have := (turBox w (.slice none 0 0) 0 false).1
    rw [hw0] at this
    exact this
  have C1 : Hid (∀ u, Calls Try.prog 23 #[.agg #[.slice none 0 0, .int .i64 0, .bool false], .int .i64 1, .int .i64 4] u fun e w' => ∃ a c, e = .returned (.tuple #[.agg #[.slice a 1 c, .int .i64 0, .bool false], .int .i64 0]) ∧ TurNew u.heap.size w' (.slice a 1 c) wk1 ∧ Below u.heap.size u w') := fun u => by
    have := hS.enter Tr.zero 1 4 _ u (turZero u) (by constructor <;> omega) (by constructor <;> omega)
    rw [wk_1] at this
    exact this
  have C2 : Hid (∀ a c u, TrAt u (.slice a 1 c) wk1 → Calls Try.prog 23 #[.agg #[.slice a 1 c, .int .i64 0, .bool false], .int .i64 2, .int .i64 2] u fun e w' => ∃ a c, e = .returned (.tuple #[.agg #[.slice a 2 c, .int .i64 0, .bool false], .int .i64 0]) ∧ TurNew u.heap.size w' (.slice a 2 c) wk2 ∧ Below u.heap.size u w') := fun a c u h => by
    have := hS.enter wk1 2 2 _ u h (by constructor <;> omega) (by constructor <;> omega)
    rw [wk_2] at this
    exact this
  have C3 : Hid (∀ a c u, TrAt u (.slice a 2 c) wk2 → Calls Try.prog 25 #[.agg #[.slice a 2 c, .int .i64 0, .bool false], .int .i64 1, .int .i64 3] u fun e w' => ∃ a c, e = .returned (.tuple #[.agg #[.slice a 2 c, .int .i64 0, .bool false], .int .i64 0]) ∧ TurNew u.heap.size w' (.slice a 2 c) wk3 ∧ Below u.heap.size u w') := fun a c u h => by
    have := hS.ask wk2 1 3 _ u h (fun j hj => by have : j = 0 ∨ j = 1 := by (have : j < 2 := hj); omega
                                                 rcases this with rfl | rfl <;> simp [wk2, Tr.q]) (by constructor <;> omega) (by constructor <;> omega)
    rw [wk_3] at this
    exact this
  have C4 : Hid (∀ a c u, TrAt u (.slice a 2 c) wk3 → Calls Try.prog 25 #[.agg #[.slice a 2 c, .int .i64 0, .bool false], .int .i64 2, .int .i64 1] u fun e w' => ∃ a c, e = .returned (.tuple #[.agg #[.slice a 2 c, .int .i64 0, .bool false], .int .i64 0]) ∧ TurNew u.heap.size w' (.slice a 2 c) wk4 ∧ Below u.heap.size u w') := fun a c u h => by
    have := hS.ask wk3 2 1 _ u h (fun j hj => by have : j = 0 ∨ j = 1 := by (have : j < 2 := hj); omega
                                                 rcases this with rfl | rfl <;> simp [wk3, Tr.q]) (by constructor <;> omega) (by constructor <;> omega)
    rw [wk_4] at this
    exact this
  have C5 : Hid (∀ a c u, TrAt u (.slice a 2 c) wk4 → Calls Try.prog 12 #[.agg #[.slice a 2 c, .int .i64 0, .bool false]] u fun e w' => ∃ a c, e = .returned (.tuple #[.agg #[.slice a 2 c, .int .i64 1, .bool false], .int .i64 1, .int .i64 3, .bool true]) ∧ TurNew u.heap.size w' (.slice a 2 c) wk5 ∧ Below u.heap.size u w') := fun a c u h => by
    refine (hS.next wk4 _ u h).mono ?_
    rintro e w' ⟨a', c', t', id, k, ok, rfl, h1, h2, h3⟩
    obtain ⟨rfl, rfl, rfl, rfl⟩ := h2.one wk_5
    exact ⟨a', c', rfl, h1, h3⟩
  have C6 : Hid (∀ a c u, TrAt u (.slice a 2 c) wk5 → Calls Try.prog 12 #[.agg #[.slice a 2 c, .int .i64 1, .bool false]] u fun e w' => ∃ a c, e = .returned (.tuple #[.agg #[.slice a 2 c, .int .i64 0, .bool false], .int .i64 2, .int .i64 1, .bool true]) ∧ TurNew u.heap.size w' (.slice a 2 c) wk6 ∧ Below u.heap.size u w') := fun a c u h => by
    refine (hS.next wk5 _ u h).mono ?_
    rintro e w' ⟨a', c', t', id, k, ok, rfl, h1, h2, h3⟩
    obtain ⟨rfl, rfl, rfl, rfl⟩ := h2.one wk_6
    exact ⟨a', c', rfl, h1, h3⟩
  have C7 : Hid (∀ a c u, TrAt u (.slice a 2 c) wk6 → Calls Try.prog 12 #[.agg #[.slice a 2 c, .int .i64 0, .bool false]] u fun e w' => ∃ a N c z f i k, e = .returned (.tuple #[.agg #[.slice a N c, .int .i64 z, .bool f], .int .i64 i, .int .i64 k, .bool false]) ∧ Below u.heap.size u w') := fun a c u h => by
    refine (hS.next wk6 _ u h).mono ?_
    rintro e w' ⟨a', c', t', id, k, ok, rfl, h1, h2, h3⟩
    have := wk_7 h2
    subst this
    exact ⟨_, _, _, _, _, _, _, rfl, h3⟩
  clear hS
  obtain ⟨b0, b1, b2, bf, -⟩ := HL.out.box
  have f0 := bf 0 (by omega)
  have f1 := bf 1 (by omega)
  have f2 := bf 2 (by omega)
  simp only [Tr.zero] at b1 b2
  clear bf
  go_enter Try.func21, Try.ntmps21
  go_wp2_with fail
  refine (C1.out _).mono ?_
  rintro e w1 ⟨a1, c1, rfl, hn1, hb1⟩
  have HM1 := Hid.mkT (HL.out.later hb1).box
  have HL1 : Hid (LtS w (((w1.setCell ⟨B, 0, none⟩ (.slice a1 1 c1)).setCell ⟨B, 1, none⟩ (.int .i64 0)).setCell ⟨B, 2, none⟩ (.bool false)) B (.slice a1 1 c1) wk1) := HL.out.next hb1 hn1
  obtain ⟨u1, hu1⟩ : ∃ u, ((w1.setCell ⟨B, 0, none⟩ (.slice a1 1 c1)).setCell ⟨B, 1, none⟩ (.int .i64 0)).setCell ⟨B, 2, none⟩ (.bool false) = u := ⟨_, rfl⟩
  rw [hu1] at HL1
  clear b0 b1 b2 f0 f1 f2 hn1 hb1
  obtain ⟨p0, p1, p2, pf, -⟩ := HM1.out
  have f0 := pf 0 (by omega)
  have f1 := pf 1 (by omega)
  have f2 := pf 2 (by omega)
  obtain ⟨b0, b1, b2, -, -⟩ := HL1.out.box
  simp only [wk1] at b1 b2
  simp only [Tr.zero] at p1 p2
  clear pf
  go_wp2_with fail
  refine (C2.out _ _ _ HL1.out.rd).mono ?_
  rintro e w2 ⟨a2, c2, rfl, hn2, hb2⟩
  have HM2 := Hid.mkT (HL1.out.later hb2).box
  have HL2 : Hid (LtS w (((w2.setCell ⟨B, 0, none⟩ (.slice a2 2 c2)).setCell ⟨B, 1, none⟩ (.int .i64 0)).setCell ⟨B, 2, none⟩ (.bool false)) B (.slice a2 2 c2) wk2) := HL1.out.next hb2 hn2
  obtain ⟨u2, hu2⟩ : ∃ u, ((w2.setCell ⟨B, 0, none⟩ (.slice a2 2 c2)).setCell ⟨B, 1, none⟩ (.int .i64 0)).setCell ⟨B, 2, none⟩ (.bool false) = u := ⟨_, rfl⟩
  rw [hu2] at HL2
  clear b0 b1 b2 f0 f1 f2 hn2 hb2 p0 p1 p2
  obtain ⟨p0, p1, p2, pf, -⟩ := HM2.out
  have f0 := pf 0 (by omega)
  have f1 := pf 1 (by omega)
  have f2 := pf 2 (by omega)
  obtain ⟨b0, b1, b2, -, -⟩ := HL2.out.box
  simp only [wk2] at b1 b2
  simp only [wk1] at p1 p2
  clear pf
  go_wp2_with fail
  refine (C3.out _ _ _ HL2.out.rd).mono ?_
  rintro e w3 ⟨a3, c3, rfl, hn3, hb3⟩
  have HM3 := Hid.mkT (HL2.out.later hb3).box
  have HL3 : Hid (LtS w (((w3.setCell ⟨B, 0, none⟩ (.slice a3 2 c3)).setCell ⟨B, 1, none⟩ (.int .i64 0)).setCell ⟨B, 2, none⟩ (.bool false)) B (.slice a3 2 c3) wk3) := HL2.out.next hb3 hn3
  obtain ⟨u3, hu3⟩ : ∃ u, ((w3.setCell ⟨B, 0, none⟩ (.slice a3 2 c3)).setCell ⟨B, 1, none⟩ (.int .i64 0)).setCell ⟨B, 2, none⟩ (.bool false) = u := ⟨_, rfl⟩
  rw [hu3] at HL3
  clear b0 b1 b2 f0 f1 f2 hn3 hb3 p0 p1 p2
  obtain ⟨p0, p1, p2, pf, -⟩ := HM3.out
  have f0 := pf 0 (by omega)
  have f1 := pf 1 (by omega)
  have f2 := pf 2 (by omega)
  obtain ⟨b0, b1, b2, -, -⟩ := HL3.out.box
  simp only [wk3] at b1 b2
  simp only [wk2] at p1 p2
  clear pf
  go_wp2_with fail
  refine (C4.out _ _ _ HL3.out.rd).mono ?_
  rintro e w4 ⟨a4, c4, rfl, hn4, hb4⟩
  have HM4 := Hid.mkT (HL3.out.later hb4).box
  have HL4 : Hid (LtS w (((w4.setCell ⟨B, 0, none⟩ (.slice a4 2 c4)).setCell ⟨B, 1, none⟩ (.int .i64 0)).setCell ⟨B, 2, none⟩ (.bool false)) B (.slice a4 2 c4) wk4) := HL3.out.next hb4 hn4
  obtain ⟨u4, hu4⟩ : ∃ u, ((w4.setCell ⟨B, 0, none⟩ (.slice a4 2 c4)).setCell ⟨B, 1, none⟩ (.int .i64 0)).setCell ⟨B, 2, none⟩ (.bool false) = u := ⟨_, rfl⟩
  rw [hu4] at HL4
  clear b0 b1 b2 f0 f1 f2 hn4 hb4 p0 p1 p2
  obtain ⟨p0, p1, p2, pf, -⟩ := HM4.out
  have f0 := pf 0 (by omega)
  have f1 := pf 1 (by omega)
  have f2 := pf 2 (by omega)
  obtain ⟨b0, b1, b2, -, -⟩ := HL4.out.box
  simp only [wk4] at b1 b2
  simp only [wk3] at p1 p2
  clear pf
  go_wp2_with fail
  refine (C5.out _ _ _ HL4.out.rd).mono ?_
  rintro e w5 ⟨a5, c5, rfl, hn5, hb5⟩
  have HM5 := Hid.mkT (HL4.out.later hb5).box
  have HL5 : Hid (LtS w (((w5.setCell ⟨B, 0, none⟩ (.slice a5 2 c5)).setCell ⟨B, 1, none⟩ (.int .i64 1)).setCell ⟨B, 2, none⟩ (.bool false)) B (.slice a5 2 c5) wk5) := HL4.out.next hb5 hn5
  obtain ⟨u5, hu5⟩ : ∃ u, ((w5.setCell ⟨B, 0, none⟩ (.slice a5 2 c5)).setCell ⟨B, 1, none⟩ (.int .i64 1)).setCell ⟨B, 2, none⟩ (.bool false) = u := ⟨_, rfl⟩
  rw [hu5] at HL5
  clear b0 b1 b2 f0 f1 f2 hn5 hb5 p0 p1 p2
  obtain ⟨p0, p1, p2, pf, -⟩ := HM5.out
  have f0 := pf 0 (by omega)
  have f1 := pf 1 (by omega)
  have f2 := pf 2 (by omega)
  obtain ⟨b0, b1, b2, -, -⟩ := HL5.out.box
  simp only [wk5] at b1 b2
  simp only [wk4] at p1 p2
  clear pf
  go_wp2_with fail
  refine (C6.out _ _ _ HL5.out.rd).mono ?_
  rintro e w6 ⟨a6, c6, rfl, hn6, hb6⟩
  have HM6 := Hid.mkT (HL5.out.later hb6).box
  have HL6 : Hid (LtS w (((w6.setCell ⟨B, 0, none⟩ (.slice a6 2 c6)).setCell ⟨B, 1, none⟩ (.int .i64 0)).setCell ⟨B, 2, none⟩ (.bool false)) B (.slice a6 2 c6) wk6) := HL5.out.next hb6 hn6
  obtain ⟨u6, hu6⟩ : ∃ u, ((w6.setCell ⟨B, 0, none⟩ (.slice a6 2 c6)).setCell ⟨B, 1, none⟩ (.int .i64 0)).setCell ⟨B, 2, none⟩ (.bool false) = u := ⟨_, rfl⟩
  rw [hu6] at HL6
  clear b0 b1 b2 f0 f1 f2 hn6 hb6 p0 p1 p2
  obtain ⟨p0, p1, p2, pf, -⟩ := HM6.out
  have f0 := pf 0 (by omega)
  have f1 := pf 1 (by omega)
  have f2 := pf 2 (by omega)
  obtain ⟨b0, b1, b2, -, -⟩ := HL6.out.box
  simp only [wk6] at b1 b2
  simp only [wk5] at p1 p2
  clear pf
  go_wp2_with fail
  refine (C7.out _ _ _ HL6.out.rd).mono ?_
  rintro e w7 ⟨a7, N7, c7, z7, f7, i7, k7, rfl, hb7⟩
  have HF : Hid (∀ x, Below w.heap.size w (w7.alloc x)) := fun x => (below_of HL6.out.below hb7).alloc (below_of HL6.out.below hb7).size _
  clear hb7 b0 b1 b2 f0 f1 f2 p0 p1 p2
  go_wp2
  go_ret
  exact ⟨by first | rfl | simp, by first | exact HF.out _ | (rw [← hB]; exact HF.out _)⟩
end Go.Proofs.Ytelhjdplghpnbaa
