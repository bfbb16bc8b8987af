import Derived.Test.YtelhjdplghpnbaaOwn
import Derived.Test.YtelhjdplghpnbaaSdD
import Derived.Deep.LoopGhost
import Derived.BigQuiet
import Derived.Laws.ResultCell
/-! The document's Class. -/
namespace Go.Proofs.Ytelhjdplghpnbaa
open Go.RowKit Plain
set_option linter.unusedVariables false
set_option linter.unusedSimpArgs false

theorem Hid.mkS {p : Prop} (h : p) : Hid p := h
def clsV (f : Nat → Int) : Value := .agg #[.int .i64 (f 0), .int .i64 (f 1), .int .i64 (f 2), .int .i64 (f 3)]
def wrkV (b : Nat → Bool) : Value := .agg #[.bool (b 0), .bool (b 1), .bool (b 2), .bool (b 3)]
/-- The boxes of Class: the waits, the work, the answer's. -/
structure ClB (W u : World) (B D R : Nat) (f : Nat → Int) (b : Nat → Bool) : Prop where
  c : ∀ i, i < 4 → u.cell? ⟨B, i, none⟩ = some (.int .i64 (f i))
  cf : ∀ i, i < 4 → u.frozen? ⟨B, i, none⟩ = false
  w : ∀ i, i < 4 → u.cell? ⟨D, i, none⟩ = some (.bool (b i))
  r : ∀ i, i < 4 → (u.cell? ⟨R, i, none⟩).isSome = true ∧ u.frozen? ⟨R, i, none⟩ = false
  below : Below W.heap.size W u
  ge : W.heap.size ≤ B
  gr : W.heap.size ≤ R
  nd : D ≠ B
  nr : R ≠ B
theorem ClB.set {W u : World} {B D R : Nat} {f f' : Nat → Int} {b : Nat → Bool} (h : ClB W u B D R f b) {i : Nat} (hi : i < 4) (hf : ∀ j, j < 4 → f' j = if j = i then f' i else f j) : ClB W (u.setCell ⟨B, i, none⟩ (.int .i64 (f' i))) B D R f' b := by
  have hg : u.grownBy (u.setCell ⟨B, i, none⟩ (.int .i64 (f' i))) (some B) := grow_setCells u B i [.int .i64 (f' i)]
  have nd := h.nd
  have nr := h.nr
  refine ⟨fun j hj => ?_, fun j hj => ?_, fun j hj => ?_, fun j hj => ?_, h.below.grown hg h.below.size (fun g e => by simp at e; subst e; exact h.ge), h.ge, h.gr, h.nd, h.nr⟩
  · by_cases e : j = i
    · subst e
      rw [World.cell?_setCell_same _ _ _ (h.c j hj)]
    · rw [World.cell?_setCell_other _ _ _ _ (by simp only [ne_eq, Addr.mk.injEq]; omega), h.c j hj, hf j hj, if_neg e]
  · rw [World.frozen?_setCell]; exact h.cf j hj
  · rw [World.cell?_setCell_other _ _ _ _ (by simp only [ne_eq, Addr.mk.injEq]; omega)]; exact h.w j hj
  · rw [World.cell?_setCell_other _ _ _ _ (by simp only [ne_eq, Addr.mk.injEq]; omega), World.frozen?_setCell]; exact h.r j hj
theorem ClB.drewN {W u : World} {B D R : Nat} {f : Nat → Int} {b : Nat → Bool} (h : ClB W u B D R f b) (n : Nat) : ClB W (u.drewN n) B D R f b := ⟨h.c, h.cf, h.w, h.r, below_drewN h.below n, h.ge, h.gr, h.nd, h.nr⟩
/-- The answer is stored. -/
theorem ClB.store {W u : World} {B D R : Nat} {f : Nat → Int} {b : Nat → Bool} (h : ClB W u B D R f b) (z0 z1 z2 z3 : Int) :
    ((((u.setCell ⟨R, 0, none⟩ (.int .i64 z0)).setCell ⟨R, 1, none⟩ (.int .i64 z1)).setCell ⟨R, 2, none⟩ (.int .i64 z2)).setCell ⟨R, 3, none⟩ (.int .i64 z3)).cell? ⟨R, 0, none⟩ = some (.int .i64 z0) ∧
    ((((u.setCell ⟨R, 0, none⟩ (.int .i64 z0)).setCell ⟨R, 1, none⟩ (.int .i64 z1)).setCell ⟨R, 2, none⟩ (.int .i64 z2)).setCell ⟨R, 3, none⟩ (.int .i64 z3)).cell? ⟨R, 1, none⟩ = some (.int .i64 z1) ∧
    ((((u.setCell ⟨R, 0, none⟩ (.int .i64 z0)).setCell ⟨R, 1, none⟩ (.int .i64 z1)).setCell ⟨R, 2, none⟩ (.int .i64 z2)).setCell ⟨R, 3, none⟩ (.int .i64 z3)).cell? ⟨R, 2, none⟩ = some (.int .i64 z2) ∧
    ((((u.setCell ⟨R, 0, none⟩ (.int .i64 z0)).setCell ⟨R, 1, none⟩ (.int .i64 z1)).setCell ⟨R, 2, none⟩ (.int .i64 z2)).setCell ⟨R, 3, none⟩ (.int .i64 z3)).cell? ⟨R, 3, none⟩ = some (.int .i64 z3) ∧
    Below W.heap.size W ((((u.setCell ⟨R, 0, none⟩ (.int .i64 z0)).setCell ⟨R, 1, none⟩ (.int .i64 z1)).setCell ⟨R, 2, none⟩ (.int .i64 z2)).setCell ⟨R, 3, none⟩ (.int .i64 z3)) := by
  have ot : ∀ (x : World) (i j : Nat) (v : Value), i ≠ j → (x.setCell ⟨R, i, none⟩ v).cell? ⟨R, j, none⟩ = x.cell? ⟨R, j, none⟩ := fun x i j v e => World.cell?_setCell_other _ _ _ _ (by simp only [ne_eq, Addr.mk.injEq]; omega)
  obtain ⟨v0, r0⟩ := Option.isSome_iff_exists.mp (h.r 0 (by omega)).1
  obtain ⟨v1, r1⟩ := Option.isSome_iff_exists.mp (h.r 1 (by omega)).1
  obtain ⟨v2, r2⟩ := Option.isSome_iff_exists.mp (h.r 2 (by omega)).1
  obtain ⟨v3, r3⟩ := Option.isSome_iff_exists.mp (h.r 3 (by omega)).1
  have be : ∀ (x : World) (i : Nat) (v : Value), Below W.heap.size W x → Below W.heap.size W (x.setCell ⟨R, i, none⟩ v) := fun x i v hb => hb.grown (grow_setCells x R i [v]) hb.size (fun g e => by simp at e; subst e; exact h.gr)
  refine ⟨?_, ?_, ?_, ?_, be _ _ _ (be _ _ _ (be _ _ _ (be _ _ _ h.below)))⟩
  · rw [ot _ 3 0 _ (by omega), ot _ 2 0 _ (by omega), ot _ 1 0 _ (by omega), World.cell?_setCell_same _ _ _ r0]
  · rw [ot _ 3 1 _ (by omega), ot _ 2 1 _ (by omega), World.cell?_setCell_same (h := by rw [ot _ 0 1 _ (by omega)]; exact r1)]
  · rw [ot _ 3 2 _ (by omega), World.cell?_setCell_same (h := by rw [ot _ 1 2 _ (by omega), ot _ 0 2 _ (by omega)]; exact r2)]
  · rw [World.cell?_setCell_same (h := by rw [ot _ 2 3 _ (by omega), ot _ 1 3 _ (by omega), ot _ 0 3 _ (by omega)]; exact r3)]
theorem emod4 (x : Int) : (x.tmod 4 + 4).tmod 4 = x % 4 := by
  have g1 := Int.tmod_lt_of_pos x (show (0 : Int) < 4 by omega)
  have g2 : -4 < x.tmod 4 := Int.lt_tmod_of_pos x (show (0 : Int) < 4 by omega)
  rw [Int.tmod_eq_emod_of_nonneg (by omega), Int.add_emod_right]
  have h1 : 4 * x.tdiv 4 + x.tmod 4 = x := Int.mul_tdiv_add_tmod x 4
  omega
theorem four (P : Nat → Prop) (h0 : P 0) (h1 : P 1) (h2 : P 2) (h3 : P 3) : ∀ i, i < 4 → P i := fun i hi => by
  have hc : i = 0 ∨ i = 1 ∨ i = 2 ∨ i = 3 := by omega
  rcases hc with rfl | rfl | rfl | rfl <;> assumption
set_option maxHeartbeats 8000000 in
set_option maxRecDepth 1000000 in
theorem rclassOf (c : Nat → Int) (b : Nat → Bool) (pick : Int) (w : World) : Calls Try.prog 10 #[clsV c, wrkV b, .int .i64 pick] w fun e w' => e = .returned (.tuple #[clsV (classL c b pick).1, .int .i64 (classL c b pick).2]) ∧ Below w.heap.size w w' := by
  obtain ⟨w1, hw1⟩ : ∃ w1, w.alloc (.cells #[.int .i64 (c 0), .int .i64 (c 1), .int .i64 (c 2), .int .i64 (c 3)] 26) = w1 := ⟨_, rfl⟩
  obtain ⟨w2, hw2⟩ : ∃ w2, w1.alloc (.cells #[.bool (b 0), .bool (b 1), .bool (b 2), .bool (b 3)] 27) = w2 := ⟨_, rfl⟩
  obtain ⟨w3, hw3⟩ : ∃ w3, w2.alloc (.cells #[.int .i64 0, .int .i64 0, .int .i64 0, .int .i64 0] 26) = w3 := ⟨_, rfl⟩
  have s1 : w1.heap.size = w.heap.size + 1 := by rw [← hw1]; simp
  have s2 : w2.heap.size = w.heap.size + 2 := by rw [← hw2]; simp [s1]
  have b1 : Below w.heap.size w w1 := by rw [← hw1]; exact (Below.refl _ _).alloc (Nat.le_refl _) _
  have b2 : Below w1.heap.size w1 w2 := by rw [← hw2]; exact (Below.refl _ _).alloc (Nat.le_refl _) _
  have b3 : Below w2.heap.size w2 w3 := by rw [← hw3]; exact (Below.refl _ _).alloc (Nat.le_refl _) _
  have x1 : w1.heap[w.heap.size]? = some (.cells #[.int .i64 (c 0), .int .i64 (c 1), .int .i64 (c 2), .int .i64 (c 3)] 26) := by rw [← hw1]; show (w.heap.push _)[w.heap.size]? = _; simp
  have x2 : w2.heap[w1.heap.size]? = some (.cells #[.bool (b 0), .bool (b 1), .bool (b 2), .bool (b 3)] 27) := by rw [← hw2]; show (w1.heap.push _)[w1.heap.size]? = _; simp
  have x3 : w3.heap[w2.heap.size]? = some (.cells #[.int .i64 0, .int .i64 0, .int .i64 0, .int .i64 0] 26) := by rw [← hw3]; show (w2.heap.push _)[w2.heap.size]? = _; simp
  have y1 := ((b3.block w.heap.size (by omega)).trans (b2.block w.heap.size (by omega))).trans x1
  have y2 := (b3.block w1.heap.size (by omega)).trans x2
  have H0 : Hid (ClB w w3 w.heap.size w1.heap.size w2.heap.size (fun j => if j < 0 then clampW (c j) else c j) b) := by
    refine ⟨four _ ?_ ?_ ?_ ?_, four _ ?_ ?_ ?_ ?_, four _ ?_ ?_ ?_ ?_, four _ ?_ ?_ ?_ ?_, (b1.trans ((b2.trans (b3.mono b2.size)).mono b1.size)), Nat.le_refl _, by omega, by omega, by omega⟩
    all_goals simp [World.cell?, World.frozen?, y1, y2, x3]
  unfold clsV wrkV
  clear x1 x2 x3 y1 y2 b1 b2 b3 s1 s2
  obtain ⟨B, hB⟩ : ∃ B, w.heap.size = B := ⟨_, rfl⟩
  obtain ⟨D, hD⟩ : ∃ D, w1.heap.size = D := ⟨_, rfl⟩
  obtain ⟨R, hR⟩ : ∃ R, w2.heap.size = R := ⟨_, rfl⟩
  rw [hB, hD, hR] at H0
  go_enter Try.func10, Try.ntmps10
  go_wp2
  go_loopg [8, 9, 10] 4 (fun gk s8 s9 s10 wx => ∃ (i : Nat), i + gk = 4 ∧ s10 = .int .i64 i ∧ s9 = .bool (anyL b i) ∧ s8 = .int .i64 (bestL (fun j => clampW (c j)) b i) ∧ Hid (ClB w wx B D R (fun j => if j < i then clampW (c j) else c j) b))
  case atStart => exact ⟨0, by omega, rfl, rfl, rfl, H0.out⟩
  case round =>
    obtain ⟨i, hi, rfl, rfl, rfl, HV⟩ := hrel
    cases gk with
    | succ gk1 =>
      have hi4 : i < 4 := by omega
      have hc := HV.out.c i hi4
      have hcf := HV.out.cf i hi4
      have hw := HV.out.w i hi4
      simp only [Nat.lt_irrefl, if_false] at hc
      have HS : Hid (ClB w (wr.setCell ⟨B, i, none⟩ (.int .i64 (clampW (c i)))) B D R (fun j => if j < i + 1 then clampW (c j) else c j) b) := by
        have := HV.out.set (f' := fun j => if j < i + 1 then clampW (c j) else c j) hi4 (fun j hj => by
          by_cases e : j = i
          · subst e; simp
          · simp only [if_neg e]
            by_cases e2 : j < i
            · rw [if_pos e2, if_pos (by omega)]
            · rw [if_neg e2, if_neg (by omega)])
        simp only [if_pos (Nat.lt_succ_self i)] at this
        exact this
      obtain ⟨F, hF⟩ : ∃ F : Nat → Int, (fun j => clampW (c j)) = F := ⟨_, rfl⟩
      have HFF : Hid (∀ j, clampW (c j) = F j) := fun j => by rw [← hF]
      have HF0 := Hid.mkS hF
      rw [hF]
      rw [HFF.out i] at HS
      have HB := bestL_is F b i
      have HAN : Hid (anyL b (i + 1) = (anyL b i || b i)) := rfl
      have HBE : Hid (bestL F b (i + 1) = if b i = true ∧ 13 ≤ F i ∧ (bestL F b i < 0 ∨ F (bestL F b i).toNat < F i) then (i : Int) else bestL F b i) := rfl
      have h2c := HS.out.c i hi4
      simp only [if_pos (Nat.lt_succ_self i), HFF.out i] at h2c
      have h2w := HS.out.w i hi4
      have HK : Hid (∀ k, k < i → (wr.setCell ⟨B, i, none⟩ (.int .i64 (F i))).cell? ⟨B, k, none⟩ = some (.int .i64 (F k))) := fun k hk => by
        have := HS.out.c k (by omega)
        simp only [if_pos (show k < i + 1 by omega), HFF.out k] at this
        exact this
      have HEND : Hid (∀ m, ClB w ((wr.setCell ⟨B, i, none⟩ (.int .i64 (F i))).drewN m) B D R (fun j => if j < i + 1 then clampW (c j) else c j) b) := fun m => HS.out.drewN m
      obtain ⟨z, hz⟩ : ∃ z, F i = z := ⟨_, rfl⟩
      rw [hz] at h2c h2w HK HEND HBE
      have hz3 : (c i ≤ 0 ∧ z = 0) ∨ (0 < c i ∧ c i ≤ 16 ∧ z = c i) ∨ (16 < c i ∧ z = 16) := by
        have := HFF.out i
        unfold clampW at this
        omega
      clear HS HV H0
      cases ha : anyL b i with
      | false =>
        cases hb : b i with
        | false =>
          have HBN : Hid (bestL F b (i + 1) = bestL F b i) := by unfold Hid; rw [HBE.out, if_neg (by rw [hb]; simp)]
          rw [hb] at hw h2w
          generalize bestL F b i = be at *
          clear HB HBE HK
          rcases hz3 with ⟨q1, rfl⟩ | ⟨q1, q2, rfl⟩ | ⟨q1, rfl⟩
          all_goals
            go_wp2
            go_quiet (fail)
            go_wp2
            go_roundg gk1
            case measure => omega
            case rel => exact ⟨i + 1, by omega, by go_num, by rw [HAN.out, ha, hb]; rfl, by rw [HF0.out, HBN.out], HEND.out _⟩
        | true =>
          rw [hb] at hw h2w
          by_cases h13 : 13 ≤ z
          · rcases HB with ⟨e1, e2⟩ | ⟨k, e1, e2, e3, e4, e5⟩
            · have HBN : Hid (bestL F b (i + 1) = (i : Int)) := by unfold Hid; rw [HBE.out, if_pos ⟨hb, h13, .inl (by rw [e1]; omega)⟩]
              rw [e1]
              clear HBE HK e1 e2
              replace hz3 := hz3.resolve_left (by omega)
              rcases hz3 with ⟨q1, q2, rfl⟩ | ⟨q1, rfl⟩
              all_goals
                go_wp2
                go_quiet (fail)
                go_wp2
                go_roundg gk1
                case measure => omega
                case rel => exact ⟨i + 1, by omega, by go_num, by rw [HAN.out, ha, hb]; rfl, by rw [HF0.out, HBN.out], HEND.out _⟩
            · have hck := HK.out k e2
              by_cases hlt : F k < z
              · have HBN : Hid (bestL F b (i + 1) = (i : Int)) := by unfold Hid; rw [HBE.out, if_pos ⟨hb, h13, .inr (by rw [e1]; simpa using hlt)⟩]
                rw [e1]
                have hk4 : k < 4 := by omega
                have hk4z : (k : Int) < 4 := by omega
                have hkd : decide ((k : Int) < 0) = false := by simp
                clear HBE HK e1 e3 e5
                generalize F k = fk at *
                replace hz3 := hz3.resolve_left (by omega)
                rcases hz3 with ⟨q1, q2, rfl⟩ | ⟨q1, rfl⟩
                all_goals
                  go_wp2
                  go_quiet (fail)
                  go_wp2
                  go_roundg gk1
                  case measure => omega
                  case rel => exact ⟨i + 1, by omega, by go_num, by rw [HAN.out, ha, hb]; rfl, by rw [HF0.out, HBN.out], HEND.out _⟩
              · have HBN : Hid (bestL F b (i + 1) = (k : Int)) := by unfold Hid; rw [HBE.out, if_neg (fun x => by rcases x.2.2 with q | q; (rw [e1] at q; omega); (rw [show (bestL F b i).toNat = k by rw [e1]; rfl] at q; exact hlt q)), e1]
                rw [e1]
                have hk4 : k < 4 := by omega
                have hk4z : (k : Int) < 4 := by omega
                have hkd : decide ((k : Int) < 0) = false := by simp
                clear HBE HK e1 e3 e5
                generalize F k = fk at *
                replace hz3 := hz3.resolve_left (by omega)
                rcases hz3 with ⟨q1, q2, rfl⟩ | ⟨q1, rfl⟩
                all_goals
                  go_wp2
                  go_quiet (fail)
                  go_wp2
                  go_roundg gk1
                  case measure => omega
                  case rel => exact ⟨i + 1, by omega, by go_num, by rw [HAN.out, ha, hb]; rfl, by rw [HF0.out, HBN.out], HEND.out _⟩
          · have HBN : Hid (bestL F b (i + 1) = bestL F b i) := by unfold Hid; rw [HBE.out, if_neg (fun x => h13 x.2.1)]
            generalize bestL F b i = be at *
            clear HB HBE HK
            have hd13 : decide ((13 : Int) ≤ z) = false := by simpa using h13
            replace hz3 : (c i ≤ 0 ∧ z = 0) ∨ (0 < c i ∧ c i ≤ 16 ∧ z = c i) := by omega
            rcases hz3 with ⟨q1, rfl⟩ | ⟨q1, q2, rfl⟩
            all_goals
              go_wp2
              go_quiet (fail)
              go_wp2
              go_roundg gk1
              case measure => omega
              case rel => exact ⟨i + 1, by omega, by go_num, by rw [HAN.out, ha, hb]; rfl, by rw [HF0.out, HBN.out], HEND.out _⟩
      | true =>
        cases hb : b i with
        | false =>
          have HBN : Hid (bestL F b (i + 1) = bestL F b i) := by unfold Hid; rw [HBE.out, if_neg (by rw [hb]; simp)]
          rw [hb] at hw h2w
          generalize bestL F b i = be at *
          clear HB HBE HK
          rcases hz3 with ⟨q1, rfl⟩ | ⟨q1, q2, rfl⟩ | ⟨q1, rfl⟩
          all_goals
            go_wp2
            go_quiet (fail)
            go_wp2
            go_roundg gk1
            case measure => omega
            case rel => exact ⟨i + 1, by omega, by go_num, by rw [HAN.out, ha, hb]; rfl, by rw [HF0.out, HBN.out], HEND.out _⟩
        | true =>
          rw [hb] at hw h2w
          by_cases h13 : 13 ≤ z
          · rcases HB with ⟨e1, e2⟩ | ⟨k, e1, e2, e3, e4, e5⟩
            · have HBN : Hid (bestL F b (i + 1) = (i : Int)) := by unfold Hid; rw [HBE.out, if_pos ⟨hb, h13, .inl (by rw [e1]; omega)⟩]
              rw [e1]
              clear HBE HK e1 e2
              replace hz3 := hz3.resolve_left (by omega)
              rcases hz3 with ⟨q1, q2, rfl⟩ | ⟨q1, rfl⟩
              all_goals
                go_wp2
                go_quiet (fail)
                go_wp2
                go_roundg gk1
                case measure => omega
                case rel => exact ⟨i + 1, by omega, by go_num, by rw [HAN.out, ha, hb]; rfl, by rw [HF0.out, HBN.out], HEND.out _⟩
            · have hck := HK.out k e2
              by_cases hlt : F k < z
              · have HBN : Hid (bestL F b (i + 1) = (i : Int)) := by unfold Hid; rw [HBE.out, if_pos ⟨hb, h13, .inr (by rw [e1]; simpa using hlt)⟩]
                rw [e1]
                have hk4 : k < 4 := by omega
                have hk4z : (k : Int) < 4 := by omega
                have hkd : decide ((k : Int) < 0) = false := by simp
                clear HBE HK e1 e3 e5
                generalize F k = fk at *
                replace hz3 := hz3.resolve_left (by omega)
                rcases hz3 with ⟨q1, q2, rfl⟩ | ⟨q1, rfl⟩
                all_goals
                  go_wp2
                  go_quiet (fail)
                  go_wp2
                  go_roundg gk1
                  case measure => omega
                  case rel => exact ⟨i + 1, by omega, by go_num, by rw [HAN.out, ha, hb]; rfl, by rw [HF0.out, HBN.out], HEND.out _⟩
              · have HBN : Hid (bestL F b (i + 1) = (k : Int)) := by unfold Hid; rw [HBE.out, if_neg (fun x => by rcases x.2.2 with q | q; (rw [e1] at q; omega); (rw [show (bestL F b i).toNat = k by rw [e1]; rfl] at q; exact hlt q)), e1]
                rw [e1]
                have hk4 : k < 4 := by omega
                have hk4z : (k : Int) < 4 := by omega
                have hkd : decide ((k : Int) < 0) = false := by simp
                clear HBE HK e1 e3 e5
                generalize F k = fk at *
                replace hz3 := hz3.resolve_left (by omega)
                rcases hz3 with ⟨q1, q2, rfl⟩ | ⟨q1, rfl⟩
                all_goals
                  go_wp2
                  go_quiet (fail)
                  go_wp2
                  go_roundg gk1
                  case measure => omega
                  case rel => exact ⟨i + 1, by omega, by go_num, by rw [HAN.out, ha, hb]; rfl, by rw [HF0.out, HBN.out], HEND.out _⟩
          · have HBN : Hid (bestL F b (i + 1) = bestL F b i) := by unfold Hid; rw [HBE.out, if_neg (fun x => h13 x.2.1)]
            generalize bestL F b i = be at *
            clear HB HBE HK
            have hd13 : decide ((13 : Int) ≤ z) = false := by simpa using h13
            replace hz3 : (c i ≤ 0 ∧ z = 0) ∨ (0 < c i ∧ c i ≤ 16 ∧ z = c i) := by omega
            rcases hz3 with ⟨q1, rfl⟩ | ⟨q1, q2, rfl⟩
            all_goals
              go_wp2
              go_quiet (fail)
              go_wp2
              go_roundg gk1
              case measure => omega
              case rel => exact ⟨i + 1, by omega, by go_num, by rw [HAN.out, ha, hb]; rfl, by rw [HF0.out, HBN.out], HEND.out _⟩
    | zero =>
      have hii : i = 4 := by omega
      subst hii
      obtain ⟨F, hF⟩ : ∃ F : Nat → Int, (fun j => clampW (c j)) = F := ⟨_, rfl⟩
      rw [hF]
      have HC1 : Hid (ClB w wr B D R F b) := by
        have h := HV.out
        refine ⟨fun j hj => ?_, h.cf, h.w, h.r, h.below, h.ge, h.gr, h.nd, h.nr⟩
        have := h.c j hj
        simp only [if_pos hj] at this
        rw [this, ← hF]
      have HFB : Hid (∀ j, 0 ≤ F j ∧ F j ≤ 16) := fun j => by rw [← hF]; show 0 ≤ clampW (c j) ∧ clampW (c j) ≤ 16; unfold clampW; omega
      have HCL : Hid (classL c b pick = if anyL b 4 = true then (waitL F b (pickL F b pick), (pickL F b pick : Int)) else (fun _ => 0, -1)) := by unfold Hid classL; rw [hF]
      clear HV H0 hF
      cases ha : anyL b 4 with
      | false =>
        rw [ha] at HCL
        obtain ⟨r0, f0⟩ := HC1.out.r 0 (by omega)
        obtain ⟨r1, f1⟩ := HC1.out.r 1 (by omega)
        obtain ⟨r2, f2⟩ := HC1.out.r 2 (by omega)
        obtain ⟨r3, f3⟩ := HC1.out.r 3 (by omega)
        obtain ⟨v0, r0⟩ := Option.isSome_iff_exists.mp r0
        obtain ⟨v1, r1⟩ := Option.isSome_iff_exists.mp r1
        obtain ⟨v2, r2⟩ := Option.isSome_iff_exists.mp r2
        obtain ⟨v3, r3⟩ := Option.isSome_iff_exists.mp r3
        obtain ⟨k0, k1, k2, k3, kb⟩ := HC1.out.store 0 0 0 0
        have HKB := Hid.mkS kb
        clear kb
        go_wp2
        refine bodyPost_ret (v := .tuple #[.agg #[.int .i64 0, .int .i64 0, .int .i64 0, .int .i64 0], .int .i64 (-1)]) ?hres rfl ?_
        case hres =>
          rw [results_cell_tmp rfl]
          go_simp
        exact ⟨by rw [HCL.out]; rfl, by rw [← hB]; exact HKB.out⟩
      | true =>
        rw [ha, if_pos rfl] at HCL
        rcases bestL_is F b 4 with ⟨e1, e2⟩ | ⟨K, e1, e2, e3, e4, e5⟩
        · have hpl : pickL F b pick = fromL b 4 (pick % 4).toNat := by unfold pickL; rw [e1, if_pos (by omega)]
          rw [hpl] at HCL
          have g1 := Int.tmod_lt_of_pos pick (show (0 : Int) < 4 by omega)
          have g2 : -4 < pick.tmod 4 := Int.lt_tmod_of_pos pick (show (0 : Int) < 4 by omega)
          have g3 := emod4 pick
          obtain ⟨s0, hs0⟩ : ∃ s0 : Nat, (pick % 4).toNat = s0 := ⟨_, rfl⟩
          have hs4 : s0 < 4 := by have := Int.emod_lt_of_pos pick (show (0 : Int) < 4 by omega); have := Int.emod_nonneg pick (show (4 : Int) ≠ 0 by omega); omega
          have hsz : (pick.tmod 4 + 4).tmod 4 = (s0 : Int) := by rw [g3]; have := Int.emod_nonneg pick (show (4 : Int) ≠ 0 by omega); omega
          rw [hs0] at HCL
          have HFL := Hid.mkS (fromL_is b s0 hs4 ha)
          obtain ⟨K, hK⟩ : ∃ K, fromL b 4 s0 = K := ⟨_, rfl⟩
          rw [hK] at HCL HFL
          have HFK := Hid.mkS hK
          rw [e1]
          clear e1 e2 g3 hs0 hK hpl
          go_wp2
          go_loopg [8] 4 (fun gk s8 wx => ∃ (s : Nat), s8 = .int .i64 s ∧ s < 4 ∧ fromL b gk s = K ∧ wx = wr)
          case atStart => exact ⟨s0, rfl, hs4, HFK.out, rfl⟩
          case round =>
            obtain ⟨s, rfl, hs, hfl, hwx⟩ := hrel
            subst hwx
            have hw := HC1.out.w s hs
            cases hbs : b s with
            | true =>
              have hsK : K = s := by
                cases gk with
                | zero => exact hfl.symm
                | succ n => unfold fromL at hfl; rw [if_pos hbs] at hfl; exact hfl.symm
              subst hsK
              have HC2 : Hid (ClB w wr B D R (fun j => if j < 0 then waitL F b K j else F j) b) := by
                have h := HC1.out
                refine ⟨fun j hj => ?_, h.cf, h.w, h.r, h.below, h.ge, h.gr, h.nd, h.nr⟩
                simp only [Nat.not_lt_zero, if_false]
                exact h.c j hj
              rw [hbs] at hw
              clear HC1 hfl HFK HFL
              go_wp2
              go_loopg [11] 4 (fun gk s11 wx => ∃ (i : Nat), i + gk = 4 ∧ s11 = .int .i64 i ∧ Hid (ClB w wx B D R (fun j => if j < i then waitL F b K j else F j) b))
              case atStart => exact ⟨0, by omega, rfl, HC2.out⟩
              case round =>
                obtain ⟨i, hi, rfl, HV⟩ := hrel
                cases gk with
                | succ gk1 =>
                  have hi4 : i < 4 := by omega
                  have hc := HV.out.c i hi4
                  have hcf := HV.out.cf i hi4
                  have hw := HV.out.w i hi4
                  simp only [Nat.lt_irrefl, if_false] at hc
                  have HS : Hid (ClB w (wr.setCell ⟨B, i, none⟩ (.int .i64 (waitL F b K i))) B D R (fun j => if j < i + 1 then waitL F b K j else F j) b) := by
                    have := HV.out.set (f' := fun j => if j < i + 1 then waitL F b K j else F j) hi4 (fun j hj => by
                      by_cases e : j = i
                      · subst e; simp
                      · simp only [if_neg e]
                        by_cases e2 : j < i
                        · rw [if_pos e2, if_pos (by omega)]
                        · rw [if_neg e2, if_neg (by omega)])
                    simp only [if_pos (Nat.lt_succ_self i)] at this
                    exact this
                  obtain ⟨fl, fh⟩ := HFB.out i
                  by_cases hik : i = K
                  · have hwl : waitL F b K i = 0 := by unfold waitL; rw [if_pos (.inl hik)]
                    rw [hwl] at HS
                    clear HV HC2
                    generalize F i = fi at *
                    subst hik
                    go_wp2
                    go_roundg gk1
                    case measure => omega
                    case rel => exact ⟨i + 1, by omega, by go_num, HS.out⟩
                  · have hikz : ¬ (i : Int) = (K : Int) := by omega
                    cases hbi : b i with
                    | false =>
                      have hwl : waitL F b K i = 0 := by unfold waitL; rw [if_pos (.inr hbi)]
                      rw [hwl] at HS
                      rw [hbi] at hw
                      clear HV HC2
                      generalize F i = fi at *
                      go_wp2
                      go_roundg gk1
                      case measure => omega
                      case rel => exact ⟨i + 1, by omega, by go_num, HS.out⟩
                    | true =>
                      have hwl : waitL F b K i = F i + 1 := by unfold waitL; rw [if_neg (by rw [hbi]; simp; exact hik)]
                      rw [hwl] at HS
                      rw [hbi] at hw
                      clear HV HC2
                      generalize F i = fi at *
                      go_wp2
                      go_roundg gk1
                      case measure => omega
                      case rel => exact ⟨i + 1, by omega, by go_num, HS.out⟩
                | zero =>
                  have hii : i = 4 := by omega
                  subst hii
                  have HC3 : Hid (ClB w wr B D R (waitL F b K) b) := by
                    have h := HV.out
                    refine ⟨fun j hj => ?_, h.cf, h.w, h.r, h.below, h.ge, h.gr, h.nd, h.nr⟩
                    have := h.c j hj
                    simp only [if_pos hj] at this
                    exact this
                  obtain ⟨r0, f0⟩ := HC3.out.r 0 (by omega)
                  obtain ⟨r1, f1⟩ := HC3.out.r 1 (by omega)
                  obtain ⟨r2, f2⟩ := HC3.out.r 2 (by omega)
                  obtain ⟨r3, f3⟩ := HC3.out.r 3 (by omega)
                  obtain ⟨v0, r0⟩ := Option.isSome_iff_exists.mp r0
                  obtain ⟨v1, r1⟩ := Option.isSome_iff_exists.mp r1
                  obtain ⟨v2, r2⟩ := Option.isSome_iff_exists.mp r2
                  obtain ⟨v3, r3⟩ := Option.isSome_iff_exists.mp r3
                  have q0 := HC3.out.c 0 (by omega)
                  have q1 := HC3.out.c 1 (by omega)
                  have q2 := HC3.out.c 2 (by omega)
                  have q3 := HC3.out.c 3 (by omega)
                  obtain ⟨k0, k1, k2, k3, kb⟩ := HC3.out.store (waitL F b K 0) (waitL F b K 1) (waitL F b K 2) (waitL F b K 3)
                  have HKB := Hid.mkS kb
                  clear HV HC2 kb
                  go_wp2
                  refine bodyPost_ret (v := .tuple #[.agg #[.int .i64 (waitL F b K 0), .int .i64 (waitL F b K 1), .int .i64 (waitL F b K 2), .int .i64 (waitL F b K 3)], .int .i64 (K : Int)]) ?hres rfl ?_
                  case hres =>
                    rw [results_cell_tmp rfl]
                    go_simp
                  exact ⟨by rw [HCL.out], by rw [← hB]; exact HKB.out⟩
            | false =>
              cases gk with
              | zero =>
                have h1 := HFL.out.2.1
                have h2 : s = K := hfl
                rw [← h2, hbs] at h1
                cases h1
              | succ n =>
                unfold fromL at hfl
                rw [if_neg (by simp [hbs])] at hfl
                obtain ⟨s', hs'⟩ : ∃ s', (s + 1) % 4 = s' := ⟨_, rfl⟩
                have hs4' : s' < 4 := by omega
                have hn : ((s : Int) + 1).tmod 4 = (s' : Int) := by rw [Int.tmod_eq_emod_of_nonneg (by omega)]; omega
                rw [hs'] at hfl
                rw [hbs] at hw
                clear hs'
                go_wp2
                go_roundg n
                case measure => omega
                case rel => exact ⟨s', rfl, hs4', hfl, rfl⟩
        · have hpl : pickL F b pick = K := by unfold pickL; rw [e1, if_neg (by omega)]; simp
          rw [hpl] at HCL
          have HC2 : Hid (ClB w wr B D R (fun j => if j < 0 then waitL F b K j else F j) b) := by
            have h := HC1.out
            refine ⟨fun j hj => ?_, h.cf, h.w, h.r, h.below, h.ge, h.gr, h.nd, h.nr⟩
            simp only [Nat.not_lt_zero, if_false]
            exact h.c j hj
          rw [e1]
          clear HC1 e1 e3 e4 e5 hpl
          go_wp2
          go_loopg [11] 4 (fun gk s11 wx => ∃ (i : Nat), i + gk = 4 ∧ s11 = .int .i64 i ∧ Hid (ClB w wx B D R (fun j => if j < i then waitL F b K j else F j) b))
          case atStart => exact ⟨0, by omega, rfl, HC2.out⟩
          case round =>
            obtain ⟨i, hi, rfl, HV⟩ := hrel
            cases gk with
            | succ gk1 =>
              have hi4 : i < 4 := by omega
              have hc := HV.out.c i hi4
              have hcf := HV.out.cf i hi4
              have hw := HV.out.w i hi4
              simp only [Nat.lt_irrefl, if_false] at hc
              have HS : Hid (ClB w (wr.setCell ⟨B, i, none⟩ (.int .i64 (waitL F b K i))) B D R (fun j => if j < i + 1 then waitL F b K j else F j) b) := by
                have := HV.out.set (f' := fun j => if j < i + 1 then waitL F b K j else F j) hi4 (fun j hj => by
                  by_cases e : j = i
                  · subst e; simp
                  · simp only [if_neg e]
                    by_cases e2 : j < i
                    · rw [if_pos e2, if_pos (by omega)]
                    · rw [if_neg e2, if_neg (by omega)])
                simp only [if_pos (Nat.lt_succ_self i)] at this
                exact this
              obtain ⟨fl, fh⟩ := HFB.out i
              by_cases hik : i = K
              · have hwl : waitL F b K i = 0 := by unfold waitL; rw [if_pos (.inl hik)]
                rw [hwl] at HS
                clear HV HC2
                generalize F i = fi at *
                subst hik
                go_wp2
                go_roundg gk1
                case measure => omega
                case rel => exact ⟨i + 1, by omega, by go_num, HS.out⟩
              · have hikz : ¬ (i : Int) = (K : Int) := by omega
                cases hbi : b i with
                | false =>
                  have hwl : waitL F b K i = 0 := by unfold waitL; rw [if_pos (.inr hbi)]
                  rw [hwl] at HS
                  rw [hbi] at hw
                  clear HV HC2
                  generalize F i = fi at *
                  go_wp2
                  go_roundg gk1
                  case measure => omega
                  case rel => exact ⟨i + 1, by omega, by go_num, HS.out⟩
                | true =>
                  have hwl : waitL F b K i = F i + 1 := by unfold waitL; rw [if_neg (by rw [hbi]; simp; exact hik)]
                  rw [hwl] at HS
                  rw [hbi] at hw
                  clear HV HC2
                  generalize F i = fi at *
                  go_wp2
                  go_roundg gk1
                  case measure => omega
                  case rel => exact ⟨i + 1, by omega, by go_num, HS.out⟩
            | zero =>
              have hii : i = 4 := by omega
              subst hii
              have HC3 : Hid (ClB w wr B D R (waitL F b K) b) := by
                have h := HV.out
                refine ⟨fun j hj => ?_, h.cf, h.w, h.r, h.below, h.ge, h.gr, h.nd, h.nr⟩
                have := h.c j hj
                simp only [if_pos hj] at this
                exact this
              obtain ⟨r0, f0⟩ := HC3.out.r 0 (by omega)
              obtain ⟨r1, f1⟩ := HC3.out.r 1 (by omega)
              obtain ⟨r2, f2⟩ := HC3.out.r 2 (by omega)
              obtain ⟨r3, f3⟩ := HC3.out.r 3 (by omega)
              obtain ⟨v0, r0⟩ := Option.isSome_iff_exists.mp r0
              obtain ⟨v1, r1⟩ := Option.isSome_iff_exists.mp r1
              obtain ⟨v2, r2⟩ := Option.isSome_iff_exists.mp r2
              obtain ⟨v3, r3⟩ := Option.isSome_iff_exists.mp r3
              have q0 := HC3.out.c 0 (by omega)
              have q1 := HC3.out.c 1 (by omega)
              have q2 := HC3.out.c 2 (by omega)
              have q3 := HC3.out.c 3 (by omega)
              obtain ⟨k0, k1, k2, k3, kb⟩ := HC3.out.store (waitL F b K 0) (waitL F b K 1) (waitL F b K 2) (waitL F b K 3)
              have HKB := Hid.mkS kb
              clear HV HC2 kb
              go_wp2
              refine bodyPost_ret (v := .tuple #[.agg #[.int .i64 (waitL F b K 0), .int .i64 (waitL F b K 1), .int .i64 (waitL F b K 2), .int .i64 (waitL F b K 3)], .int .i64 (K : Int)]) ?hres rfl ?_
              case hres =>
                rw [results_cell_tmp rfl]
                go_simp
              exact ⟨by rw [HCL.out], by rw [← hB]; exact HKB.out⟩
end Go.Proofs.Ytelhjdplghpnbaa
