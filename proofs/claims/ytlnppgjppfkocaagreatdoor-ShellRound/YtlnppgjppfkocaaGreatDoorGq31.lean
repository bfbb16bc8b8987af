import Derived.Test.YtlnppgjppfkocaaGreatDoorGq30
import Derived.Deep.DeepCutAuto
/-! The program's fits, CheckRequest. -/
namespace Go.Proofs.YtlnppgjppfkocaaGreatDoor.Xs
open Go.RowKit Plain
set_option linter.unusedVariables false
set_option linter.unusedSimpArgs false

def tOk (s : By) (m : Nat) (a : Bool) : Bool := decide (s.length ≤ m) && (s.isEmpty || a)
def nOk (n : Int) (a : Bool) : Bool := decide (0 ≤ n) && (decide (n ≤ 0) || a)
def txOk (u : Int) (r : Rq) (j : Nat) : Bool := if j = 0 then tOk r.topic 24 (askB u 1) else if j = 1 then tOk r.key 64 (askB u 2) else tOk r.value 1024 (askB u 4)
def nuOk (u : Int) (r : Rq) (j : Nat) : Bool := if j = 0 then nOk r.offset (askB u 8) else if j = 1 then nOk r.number (askB u 16) else if j = 2 then nOk r.pid (askB u 32) else nOk r.seq (askB u 64)
def fitsB (u : Int) (r : Rq) : Bool := txOk u r 0 && txOk u r 1 && txOk u r 2 && nuOk u r 0 && nuOk u r 1 && nuOk u r 2 && nuOk u r 3

set_option maxHeartbeats 16000000 in
set_option maxRecDepth 100000 in
theorem wfitsOf (b : Bool) (u : Int) (r : Rq) (g : Nat) (w : World) (hr : RqAt w g 0 r) (h3 : r.topic.length ≤ 1125899906842624) (h4 : r.key.length ≤ 1125899906842624) (h5 : r.value.length ≤ 1125899906842624) :
    Calls Tryz.prog 77 #[.agg #[.bool b, .int .i64 u], .pointer (some ⟨g, 0, none⟩)] w fun e w' => e = .returned (.bool (fitsB u r)) ∧ Below w.heap.size w w' := by
  have HA : Hid (∀ k v, Calls Tryz.prog 105 #[.agg #[.bool b, .int .i64 u], .int .i64 k] v fun e w' => e = .returned (.bool (askB u k)) ∧ Below v.heap.size v w') := fun k v => wasksOf b u k v
  have HBT : Hid (∀ j, j < 3 → txOk u r j = false → fitsB u r = false) := fun j hj e => by
    unfold fitsB
    have : j = 0 ∨ j = 1 ∨ j = 2 := by omega
    rcases this with rfl | rfl | rfl <;> rw [e] <;> simp
  have HBN : Hid (∀ j, j < 4 → nuOk u r j = false → fitsB u r = false) := fun j hj e => by
    unfold fitsB
    have : j = 0 ∨ j = 1 ∨ j = 2 ∨ j = 3 := by omega
    rcases this with rfl | rfl | rfl | rfl <;> rw [e] <;> simp
  have HGO : Hid ((∀ j, j < 3 → txOk u r j = true) → (∀ j, j < 4 → nuOk u r j = true) → fitsB u r = true) := fun a c => by
    unfold fitsB
    rw [a 0 (by omega), a 1 (by omega), a 2 (by omega), c 0 (by omega), c 1 (by omega), c 2 (by omega), c 3 (by omega)]
    rfl
  generalize fitsB u r = R at *
  obtain ⟨W1, hW1⟩ : ∃ W1, w.alloc (.cells #[.bool b, .int .i64 u] 92) = W1 := ⟨_, rfl⟩
  have hs1 : W1.heap.size = w.heap.size + 1 := by rw [← hW1]; simp
  have HB1 : Hid (Below w.heap.size w W1) := by rw [← hW1]; exact (Below.refl _ _).alloc (Nat.le_refl _) _
  have HBX : Hid (∀ v, Below W1.heap.size W1 v → v.cell? ⟨w.heap.size, 0, none⟩ = some (.bool b) ∧ v.cell? ⟨w.heap.size, 1, none⟩ = some (.int .i64 u)) := fun v hv => by
    have q0 : W1.cell? ⟨w.heap.size, 0, none⟩ = some (.bool b) := by rw [← hW1, World.cell?_alloc_at _ _ _ _ rfl]; rfl
    have q1 : W1.cell? ⟨w.heap.size, 1, none⟩ = some (.int .i64 u) := by rw [← hW1, World.cell?_alloc_at _ _ _ _ rfl]; rfl
    exact ⟨(hv.cell (cell_lt q0)).trans q0, (hv.cell (cell_lt q1)).trans q1⟩
  have HR : Hid (∀ v, Below W1.heap.size W1 v → RqAt v g 0 r) := fun v hv => (hr.later HB1.out).later hv
  clear hr
  go_enter Tryz.func77, Tryz.ntmps77
  go_wp2_with fail
  refine (wtextsOf g _).mono ?_
  rintro e w2 ⟨rfl, hw2⟩
  have hW2 : Below W1.heap.size W1 w2 := by
    rw [hw2]
    exact (((Below.refl _ _).alloc (Nat.le_refl _) _).drew)
  have hs2 : w2.heap.size = w.heap.size + 2 := by rw [hw2]; simp [World.drew, hs1]
  have HB2 : Hid (Below W1.heap.size W1 w2) := hW2
  have HTX : Hid (∀ v, Below w2.heap.size w2 v → ∀ j, j < 3 → ∃ (s : By) (m o : Nat) (q : Int), v.cell? ⟨w.heap.size + 1, j * 3, none⟩ = some (.int .i64 q) ∧ v.cell? ⟨w.heap.size + 1, j * 3 + 1, none⟩ = some (.int .i64 (m : Int)) ∧ v.cell? ⟨w.heap.size + 1, j * 3 + 2, none⟩ = some (.pointer (some ⟨g, o, none⟩)) ∧ v.cell? ⟨g, o, none⟩ = some (.string (ba s)) ∧ s.length ≤ 1125899906842624 ∧ m ≤ 1024 ∧ txOk u r j = tOk s m (askB u q)) := fun v hv j hj => by
    have hz : ∀ i, i < 9 → v.cell? ⟨w.heap.size + 1, i, none⟩ = (txA g)[i]? := fun i hi => by
      have h0 : w2.cell? ⟨w.heap.size + 1, i, none⟩ = (txA g)[i]? := by
        rw [hw2]
        show (W1.alloc _).cell? _ = _
        rw [World.cell?_alloc_at _ _ _ _ (by simp [hs1])]
      rw [← h0]
      exact hv.cell (by rw [hs2]; show w.heap.size + 1 < _; omega)
    have hq := HR.out v (below_on HB2.out hv)
    have hj' : j = 0 ∨ j = 1 ∨ j = 2 := by omega
    rcases hj' with rfl | rfl | rfl
    · exact ⟨r.topic, 24, 2, 1, hz 0 (by omega), hz 1 (by omega), hz 2 (by omega), hq.c2, h3, by omega, rfl⟩
    · exact ⟨r.key, 64, 3, 2, hz 3 (by omega), hz 4 (by omega), hz 5 (by omega), hq.c3, h4, by omega, rfl⟩
    · exact ⟨r.value, 1024, 4, 4, hz 6 (by omega), hz 7 (by omega), hz 8 (by omega), hq.c4, h5, by omega, rfl⟩
  clear hw2 hW2 h3 h4 h5
  go_wp2
  go_loopw [12] (fun i wl => ∃ k : Nat, k ≤ 3 ∧ i = .int .i64 k ∧ Hid (∀ j, j < k → txOk u r j = true) ∧ Hid (Below w2.heap.size w2 wl)) (fun i _ => 3 - (intOf i).toNat)
  case atStart => exact ⟨0, Nat.zero_le _, rfl, fun j hj => absurd hj (Nat.not_lt_zero _), Below.refl _ _⟩
  case round =>
    obtain ⟨k, hk, rfl, HK, HBL⟩ := hrel
    by_cases hp : k < 3
    · have hki : (k : Int) < 3 := by omega
      obtain ⟨s, m, o, q, x0, x1, x2, x3, hsl, hm, hok⟩ := HTX.out wr HBL.out k hp
      obtain ⟨z0, z1⟩ := HBX.out wr (below_on HB2.out HBL.out)
      have HBK : Hid (txOk u r k = false → R = false) := HBT.out k hp
      rw [hok] at HBK
      have HKN : Hid (tOk s m (askB u q) = true → ∀ j, j < k + 1 → txOk u r j = true) := fun e j hj => by
        by_cases ej : j = k
        · rw [ej, hok]; exact e
        · exact HK.out j (by omega)
      clear hok
      have hlb : (ba s).size = s.length := rfl
      have hgl : g < wr.heap.size := cell_lt x3
      have hbl : w.heap.size < wr.heap.size := cell_lt z0
      by_cases hm1 : s.length ≤ m
      · have hgt : decide (m < s.length) = false := by simp; omega
        by_cases hs : s = []
        · have hse : (s == []) = true := by simpa using hs
          have HKK := HKN.out (by unfold tOk; rw [decide_eq_true hm1, hs]; rfl)
          have HK1 : Hid (∀ j, j < k + 1 → txOk u r j = true) := HKK
          clear hm1 HBK HKK HKN hs
          go_wp2
          go_quiet (fail)
          go_wp2
          go_roundw
          case rel => exact ⟨k + 1, by omega, by go_num, HK1, below_drewN (HBL.out.alloc HBL.out.size _) _⟩
          case measure => simp [intOf]; omega
        · have hse : (s == []) = false := by simpa using hs
          have HBB : Hid (askB u q = false → R = false) := fun e => HBK.out (by unfold tOk; rw [e]; simp [hs])
          have HKK : Hid (askB u q = true → ∀ j, j < k + 1 → txOk u r j = true) := fun e => HKN.out (by unfold tOk; rw [decide_eq_true hm1, e]; simp)
          have HAQ := HA.out q
          generalize askB u q = A at *
          clear hm1 HBK HKN HA hs
          go_wp2
          go_region_with (
            refine (HAQ _).mono ?_
            rintro e w9 ⟨rfl, hb9⟩)
          all_goals
            have HB9 : Hid (Below w2.heap.size w2 w9) := by
              first
                | exact below_on (HBL.out.alloc HBL.out.size _) hb9
                | exact below_on (below_drewN (HBL.out.alloc HBL.out.size _) _) hb9
            clear hb9 HAQ
            cases A
            · have HF : Hid (R = false) := HBB.out rfl
              clear HBB HKK
              go_wp2
              go_ret
              exact ⟨by rw [HF.out]; rfl, by first | exact below_on HB1.out (below_on HB2.out HB9.out) | exact below_drewN (below_on HB1.out (below_on HB2.out HB9.out)) _⟩
            · have HK1 : Hid (∀ j, j < k + 1 → txOk u r j = true) := HKK.out rfl
              clear HBB HKK
              go_wp2
              go_roundw
              case rel => exact ⟨k + 1, by omega, by go_num, HK1, by first | exact HB9.out | exact below_drewN HB9.out _⟩
              case measure => simp [intOf]; omega
      · have hgt : (m : Int) < (s.length : Int) := by omega
        have HF : Hid (R = false) := HBK.out (by unfold tOk; rw [show decide (s.length ≤ m) = false from by simpa using hm1]; rfl)
        clear hm1 HBK HKN
        go_wp2
        go_quiet (fail)
        go_wp2
        go_ret
        exact ⟨by rw [HF.out]; rfl, below_drewN ((below_on HB1.out (below_on HB2.out HBL.out)).alloc (by have := HBL.out.size; omega) _) _⟩
    · have hki : ¬ (k : Int) < 3 := by omega
      have hk3 : k = 3 := by omega
      subst hk3
      have HTT : Hid (∀ j, j < 3 → txOk u r j = true) := HK
      have HBM : Hid (Below W1.heap.size W1 wr) := below_on HB2.out HBL.out
      clear HBL HK HTX HB2 hki hp hk HBT
      go_wp2_with fail
      refine (wnumbersOf g _).mono ?_
      rintro e w3 ⟨rfl, hw3⟩
      have HB3 : Hid (Below W1.heap.size W1 w3) := by
        rw [hw3]
        exact ((HBM.out.alloc HBM.out.size _).drew)
      have hs3 : w3.heap.size = wr.heap.size + 1 := by rw [hw3]; simp [World.drew]
      have HNU : Hid (∀ v, Below w3.heap.size w3 v → ∀ j, j < 4 → ∃ (n : Int) (o : Nat) (q : Int), v.cell? ⟨wr.heap.size, j * 2, none⟩ = some (.int .i64 q) ∧ v.cell? ⟨wr.heap.size, j * 2 + 1, none⟩ = some (.pointer (some ⟨g, o, none⟩)) ∧ v.cell? ⟨g, o, none⟩ = some (.int .i64 n) ∧ nuOk u r j = nOk n (askB u q)) := fun v hv j hj => by
        have hz : ∀ i, i < 8 → v.cell? ⟨wr.heap.size, i, none⟩ = (nuA g)[i]? := fun i hi => by
          have h0 : w3.cell? ⟨wr.heap.size, i, none⟩ = (nuA g)[i]? := by
            rw [hw3]
            show (wr.alloc _).cell? _ = _
            rw [World.cell?_alloc_at _ _ _ _ rfl]
          rw [← h0]
          exact hv.cell (by rw [hs3]; show wr.heap.size < _; omega)
        have hq := HR.out v (below_on HB3.out hv)
        have hj' : j = 0 ∨ j = 1 ∨ j = 2 ∨ j = 3 := by omega
        rcases hj' with rfl | rfl | rfl | rfl
        · exact ⟨r.offset, 5, 8, hz 0 (by omega), hz 1 (by omega), hq.c5, rfl⟩
        · exact ⟨r.number, 6, 16, hz 2 (by omega), hz 3 (by omega), hq.c6, rfl⟩
        · exact ⟨r.pid, 7, 32, hz 4 (by omega), hz 5 (by omega), hq.c7, rfl⟩
        · exact ⟨r.seq, 8, 64, hz 6 (by omega), hz 7 (by omega), hq.c8, rfl⟩
      clear hw3 hs2 hs1 hW1
      generalize wr.heap.size = bn at *
      go_wp2
      go_loopw [42] (fun i wl => ∃ k : Nat, k ≤ 4 ∧ i = .int .i64 k ∧ Hid (∀ j, j < k → nuOk u r j = true) ∧ Hid (Below w3.heap.size w3 wl)) (fun i _ => 4 - (intOf i).toNat)
      case atStart => exact ⟨0, Nat.zero_le _, rfl, fun j hj => absurd hj (Nat.not_lt_zero _), Below.refl _ _⟩
      case round =>
        obtain ⟨k, hk, rfl, HK, HBL⟩ := hrel
        by_cases hp : k < 4
        · have hki : (k : Int) < 4 := by omega
          obtain ⟨n, o, q, x0, x1, x2, hok⟩ := HNU.out wr HBL.out k hp
          obtain ⟨z0, z1⟩ := HBX.out wr (below_on HB3.out HBL.out)
          have HBK : Hid (nuOk u r k = false → R = false) := HBN.out k hp
          rw [hok] at HBK
          have HKN : Hid (nOk n (askB u q) = true → ∀ j, j < k + 1 → nuOk u r j = true) := fun e j hj => by
            by_cases ej : j = k
            · rw [ej, hok]; exact e
            · exact HK.out j (by omega)
          clear hok
          have hgl : g < wr.heap.size := cell_lt x2
          have hbl : w.heap.size < wr.heap.size := cell_lt z0
          by_cases hm1 : n < 0
          · have hgt : decide (n < 0) = true := by simpa using hm1
            have HF : Hid (R = false) := HBK.out (by unfold nOk; rw [show decide (0 ≤ n) = false from by simpa using hm1]; rfl)
            clear hm1 HBK HKN
            go_wp2
            go_ret
            exact ⟨by rw [HF.out]; rfl, (below_on HB1.out (below_on HB3.out HBL.out)).alloc (by have := HBL.out.size; have := HB3.out.size; have := HB1.out.size; omega) _⟩
          · by_cases hs : n = 0
            · subst hs
              have HK1 : Hid (∀ j, j < k + 1 → nuOk u r j = true) := HKN.out (by unfold nOk; simp)
              clear hm1 HBK HKN
              go_wp2
              go_roundw
              case rel => exact ⟨k + 1, by omega, by go_num, HK1, HBL.out.alloc HBL.out.size _⟩
              case measure => simp [intOf]; omega
            · have hgt : decide (n < 0) = false := by simpa using hm1
              have hse : ¬ n = 0 := hs
              have HBB : Hid (askB u q = false → R = false) := fun e => HBK.out (by unfold nOk; rw [e]; simp; omega)
              have HKK : Hid (askB u q = true → ∀ j, j < k + 1 → nuOk u r j = true) := fun e => HKN.out (by unfold nOk; rw [e]; simp; omega)
              have HAQ := HA.out q
              generalize askB u q = A at *
              clear hm1 HBK HKN HA hs
              go_wp2_with fail
              refine (HAQ _).mono ?_
              rintro e w9 ⟨rfl, hb9⟩
              all_goals
                have HB9 : Hid (Below w3.heap.size w3 w9) := by
                  first
                    | exact below_on (HBL.out.alloc HBL.out.size _) hb9
                    | exact below_on (below_drewN (HBL.out.alloc HBL.out.size _) _) hb9
                clear hb9 HAQ
                cases A
                · have HF : Hid (R = false) := HBB.out rfl
                  clear HBB HKK
                  go_wp2
                  go_ret
                  exact ⟨by rw [HF.out]; rfl, by first | exact below_on HB1.out (below_on HB3.out HB9.out) | exact below_drewN (below_on HB1.out (below_on HB3.out HB9.out)) _⟩
                · have HK1 : Hid (∀ j, j < k + 1 → nuOk u r j = true) := HKK.out rfl
                  clear HBB HKK
                  go_wp2
                  go_roundw
                  case rel => exact ⟨k + 1, by omega, by go_num, HK1, by first | exact HB9.out | exact below_drewN HB9.out _⟩
                  case measure => simp [intOf]; omega
        · have hki : ¬ (k : Int) < 4 := by omega
          have hk4 : k = 4 := by omega
          subst hk4
          have HF : Hid (R = true) := HGO.out HTT.out HK.out
          have HBF : Hid (Below w.heap.size w wr) := below_on HB1.out (below_on HB3.out HBL.out)
          clear HK HBL
          go_wp2
          go_ret
          exact ⟨by rw [HF.out]; rfl, HBF.out⟩
end Go.Proofs.YtlnppgjppfkocaaGreatDoor.Xs
