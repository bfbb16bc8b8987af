import Derived.Test.YteekmmgopnnioaaDoorMoD
/-! manifest: the question of Strangers. -/
namespace Go.Proofs.YteekmmgopnnioaaDoor
open Go.RowKit Go.Maps Plain
open Mn (FN parseL ofT lastI leftP orphP strP thoseL)
set_option linter.unusedVariables false
set_option linter.unusedSimpArgs false

set_option maxHeartbeats 4000000 in
set_option maxRecDepth 100000 in
theorem strs1Of (k i g : Int) (t : Bool) (bs b : Nat) (ids : List Int) (w : World) (hi : I64 i)
    (hs : w.cell? ⟨bs, 0, none⟩ = some (.map (some b))) (hS : SetI w b ids) :
    Calls Tryd.prog 30 #[.agg #[.int .i64 k, .int .i64 i, .int .i64 g, .bool t], .pointer (some ⟨bs, 0, none⟩)] w fun e w' => e = .returned (.bool (strP ids ⟨k, i, g, t⟩)) ∧ Below w.heap.size w w' := by
  obtain ⟨w0, hw0⟩ : ∃ w0, w.alloc (.cells #[.int .i64 k, .int .i64 i, .int .i64 g, .bool t] 23) = w0 := ⟨_, rfl⟩
  have hB0 : Below w.heap.size w w0 := by rw [← hw0]; exact (Below.refl _ _).alloc (Nat.le_refl _) _
  have m0 : w0.cell? ⟨w.heap.size, 0, none⟩ = some (.int .i64 k) := by rw [← hw0]; exact World.cell?_alloc_at _ _ _ _ rfl
  have m1 : w0.cell? ⟨w.heap.size, 1, none⟩ = some (.int .i64 i) := by rw [← hw0]; exact World.cell?_alloc_at _ _ _ _ rfl
  have m3 : w0.cell? ⟨w.heap.size, 3, none⟩ = some (.bool t) := by rw [← hw0]; exact World.cell?_alloc_at _ _ _ _ rfl
  have ns : w0.cell? ⟨bs, 0, none⟩ = some (.map (some b)) := (hB0.cell (p := ⟨bs, 0, none⟩) (cell_lt hs)).trans hs
  obtain ⟨w1, hw1⟩ : ∃ w1, w0.alloc (.cells #[] 54) = w1 := ⟨_, rfl⟩
  have hB1 : Below w0.heap.size w0 w1 := by rw [← hw1]; exact (Below.refl _ _).alloc (Nat.le_refl _) _
  have HB1 : Hid (Below w.heap.size w w1) := below_step hB0 hB1
  have p0 : w1.cell? ⟨w.heap.size, 0, none⟩ = some (.int .i64 k) := (hB1.cell (p := ⟨w.heap.size, 0, none⟩) (cell_lt m0)).trans m0
  have p1 : w1.cell? ⟨w.heap.size, 1, none⟩ = some (.int .i64 i) := (hB1.cell (p := ⟨w.heap.size, 1, none⟩) (cell_lt m1)).trans m1
  have p3 : w1.cell? ⟨w.heap.size, 3, none⟩ = some (.bool t) := (hB1.cell (p := ⟨w.heap.size, 3, none⟩) (cell_lt m3)).trans m3
  have hlk := (hS.below hB0).look i hi
  have HR : Hid (strP ids ⟨k, i, g, t⟩ = ((decide (0 < i) && !ids.contains i) || ((k == 4) && t))) := rfl
  generalize strP ids ⟨k, i, g, t⟩ = R at HR ⊢
  generalize ids.contains i = C at HR hlk
  clear hs hS hB0 hB1 m0 m3
  by_cases h0 : 0 < i
  · have h0' : decide (0 < i) = true := by simpa using h0
    rw [h0'] at HR
    cases C
    · have HR2 : Hid (R = true) := by rw [Hid, HR.out]; simp
      clear HR
      go_enter Tryd.func30, Tryd.ntmps30
      go_wp2
      go_ret
      exact ⟨by rw [HR2.out]; rfl, HB1.out⟩
    · by_cases h4 : k = 4
      · subst h4
        have HR2 : Hid (R = t) := by rw [Hid, HR.out]; simp
        clear HR
        go_enter Tryd.func30, Tryd.ntmps30
        go_wp2
        go_ret
        exact ⟨by rw [HR2.out]; rfl, HB1.out⟩
      · have h4' : (k == 4) = false := by simpa using h4
        rw [h4'] at HR
        have HR2 : Hid (R = false) := by rw [Hid, HR.out]; simp
        clear HR
        go_enter Tryd.func30, Tryd.ntmps30
        go_wp2
        go_ret
        exact ⟨by rw [HR2.out]; rfl, HB1.out⟩
  · have h0' : decide (0 < i) = false := by simpa using h0
    rw [h0'] at HR
    by_cases h4 : k = 4
    · subst h4
      have HR2 : Hid (R = t) := by rw [Hid, HR.out]; simp
      clear HR
      go_enter Tryd.func30, Tryd.ntmps30
      go_wp2
      go_ret
      exact ⟨by rw [HR2.out]; rfl, HB1.out⟩
    · have h4' : (k == 4) = false := by simpa using h4
      rw [h4'] at HR
      have HR2 : Hid (R = false) := by rw [Hid, HR.out]; simp
      clear HR
      go_enter Tryd.func30, Tryd.ntmps30
      go_wp2
      go_ret
      exact ⟨by rw [HR2.out]; rfl, HB1.out⟩
end Go.Proofs.YteekmmgopnnioaaDoor
