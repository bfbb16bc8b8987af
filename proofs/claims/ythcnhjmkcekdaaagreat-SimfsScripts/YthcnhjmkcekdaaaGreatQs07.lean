import Derived.Test.YthcnhjmkcekdaaaGreatQs06
namespace Go.Proofs.YthcnhjmkcekdaaaGreat
open Go.RowKit Go.Maps Plain
set_option linter.unusedVariables false
set_option linter.unusedSimpArgs false
def I64 (x : Int) : Prop := -9223372036854775808 ≤ x ∧ x ≤ 9223372036854775807
/-- A slice of numbers. -/
def PicksAt (w : World) (v : Value) (ps : List Int) : Prop := ∃ a cap, v = .slice a ps.length cap ∧ ps.length ≤ cap ∧ cap ≤ maxLen ∧ (∀ x ∈ ps, I64 x) ∧ (ps ≠ [] → ∃ b off, a = some ⟨b, off, none⟩ ∧ ∀ j x, ps[j]? = some x → w.cell? ⟨b, off + j, none⟩ = some (.int .i64 x))
/-- All cells of the slice lie ahead of block C. -/
def PicksOff (C : Nat) (v : Value) : Prop := ∀ b off n c, v = .slice (some ⟨b, off, none⟩) n c → 0 < n → b < C
structure ChoAt (w : World) (C : Nat) (v : Value) (ps : List Int) : Prop where
  blk : w.heap[C]? = some (.cells #[v] 110)
  row : PicksAt w v ps
  off : PicksOff C v
def upV (ps : List Int) (n : Nat) : Nat := match ps with
  | [] => 0
  | p :: _ => (p % ((n : Int) + 1)).toNat
theorem tmod_adj (p : Int) (n : Nat) : (p.tmod ((n : Int) + 1) < 0 → (p.tmod ((n : Int) + 1) + (n + 1) = p % ((n : Int) + 1))) ∧ (¬ p.tmod ((n : Int) + 1) < 0 → p.tmod ((n : Int) + 1) = p % ((n : Int) + 1)) := by
  have e := Int.tmod_eq_emod (a := p) (b := (n : Int) + 1)
  have a1 := Int.emod_nonneg p (show (n : Int) + 1 ≠ 0 by omega)
  have a2 := Int.emod_lt_of_pos p (show (0 : Int) < (n : Int) + 1 by omega)
  generalize p % ((n : Int) + 1) = Y at *
  generalize p.tmod ((n : Int) + 1) = X at *
  split at e
  · constructor <;> intro h <;> omega
  · constructor <;> intro h <;> omega
theorem upV_le (ps : List Int) (n : Nat) : upV ps n ≤ n := by
  unfold upV
  split
  · omega
  · rename_i p r
    have a1 := Int.emod_nonneg p (show (n : Int) + 1 ≠ 0 by omega)
    have a2 := Int.emod_lt_of_pos p (show (0 : Int) < (n : Int) + 1 by omega)
    omega
theorem ccell {w : World} {C : Nat} {v : Value} (h : w.heap[C]? = some (.cells #[v] 110)) : w.cell? ⟨C, 0, none⟩ = some v ∧ w.frozen? ⟨C, 0, none⟩ = false := by
  simp [World.cell?, World.frozen?, h]
theorem tail_at {w : World} {C b off len cap : Nat} {p : Int} {ps : List Int} (h : ChoAt w C (.slice (some ⟨b, off, none⟩) len cap) (p :: ps)) (v' : Value) (hv : v' = .slice (some ⟨b, off + 1, none⟩) (len - 1) (cap - 1)) : ChoAt (w.setCell ⟨C, 0, none⟩ v') C v' ps ∧ w.grownBy (w.setCell ⟨C, 0, none⟩ v') (some C) := by
  subst hv
  have hg := grow_set w C 0 (.slice (some ⟨b, off + 1, none⟩) (len - 1) (cap - 1))
  have hbC0 := h.off b off len cap rfl
  obtain ⟨a, cap', e, h1, h2, h3, h4⟩ := h.row
  simp only [Value.slice.injEq] at e
  obtain ⟨rfl, rfl, rfl⟩ := e
  have hbC := hbC0 (by simp)
  obtain ⟨b', off', e2, h5⟩ := h4 (by simp)
  simp at e2
  obtain ⟨rfl, rfl⟩ := e2
  refine ⟨⟨heap_setCell_same w C 0 _ _ _ h.blk, ⟨_, cap - 1, by simp, by simp at h1; omega, by omega, fun x hx => h3 x (by simp [hx]), fun hne => ⟨b, off + 1, rfl, fun j x hj => ?_⟩⟩, fun b1 off1 n1 c1 e1 _ => by simp at e1; omega⟩, hg⟩
  have hc := h5 (j + 1) x (by simpa using hj)
  have hc' : w.cell? ⟨b, off + 1 + j, none⟩ = some (.int .i64 x) := by rw [show off + 1 + j = off + (j + 1) by omega]; exact hc
  exact hg.cell hc' (by simp; omega)
theorem tail_end {w : World} {C b off : Nat} {len cap : Nat} {p : Int} {ps : List Int} (h : ChoAt w C (.slice (some ⟨b, off, none⟩) len cap) (p :: ps)) (h0 : len - 1 = 0) (n' : Nat) (hn : n' = 0) : ChoAt (w.setCell ⟨C, 0, none⟩ (.slice (some ⟨b, off, none⟩) n' 0)) C (.slice (some ⟨b, off, none⟩) n' 0) ps ∧ w.grownBy (w.setCell ⟨C, 0, none⟩ (.slice (some ⟨b, off, none⟩) n' 0)) (some C) := by
  subst hn
  obtain ⟨a, cap', e, h1, h2, h3, h4⟩ := h.row
  simp only [Value.slice.injEq] at e
  obtain ⟨rfl, rfl, rfl⟩ := e
  have hps : ps = [] := by
    simp at h0
    exact h0
  subst hps
  exact ⟨⟨heap_setCell_same w C 0 _ _ _ h.blk, ⟨_, 0, rfl, by simp, by simp, by simp, by simp⟩, fun b1 off1 n1 c1 e1 hn1 => by
    simp at e1; omega⟩, grow_set w C 0 _⟩
set_option maxHeartbeats 2000000 in
set_option maxRecDepth 1000000 in
theorem upToOf (w : World) (C : Nat) (v : Value) (ps : List Int) (n : Nat) (h : ChoAt w C v ps) (hn : n ≤ 4611686018427387904) : Calls Tryz.prog 67 #[.pointer (some ⟨C, 0, none⟩), .int .i64 (n : Int)] w fun e w' => e = .returned (.int .i64 (upV ps n : Int)) ∧ (∃ v', ChoAt w' C v' ps.tail) ∧ w.grownBy w' (some C) := by
  have HH : Hid (ChoAt w C v ps) := h
  obtain ⟨c0, z0⟩ := ccell h.blk
  obtain ⟨a, cap, rfl, h1, h2, h3, h4⟩ := h.row
  unfold maxLen at h2
  cases ps with
  | nil =>
    clear h h3 h4
    go_enter Tryz.func67, Tryz.ntmps67
    go_wp2
    go_ret
    exact ⟨rfl, ⟨_, HH.out⟩, below_grow (Below.refl _ _) _⟩
  | cons p r =>
    obtain ⟨b, off, rfl, h5⟩ := h4 (by simp)
    have hc := h5 0 p rfl
    rw [Nat.add_zero] at hc
    obtain ⟨i1, i2⟩ := h3 p (by simp)
    have HT := tmod_adj p n
    have hlen : (p :: r).length = r.length + 1 := rfl
    rw [hlen] at h1 c0 HH
    have HTL : Hid (∀ v', v' = .slice (some ⟨b, off + 1, none⟩) (r.length + 1 - 1) (cap - 1) → ChoAt (w.setCell ⟨C, 0, none⟩ v') C v' r ∧ w.grownBy (w.setCell ⟨C, 0, none⟩ v') (some C)) := fun v' hv' => tail_at HH.out v' hv'
    have HTE : Hid (r.length = 0 → ∀ n', n' = 0 → ChoAt (w.setCell ⟨C, 0, none⟩ (.slice (some ⟨b, off, none⟩) n' 0)) C (.slice (some ⟨b, off, none⟩) n' 0) r ∧ w.grownBy (w.setCell ⟨C, 0, none⟩ (.slice (some ⟨b, off, none⟩) n' 0)) (some C)) := fun h0 n' hn' => tail_end HH.out (by omega) n' hn'
    generalize r.length = N at *
    have t1 : -((n : Int) + 1) < p.tmod ((n : Int) + 1) ∧ p.tmod ((n : Int) + 1) < (n : Int) + 1 := by
      constructor
      · have := Int.lt_tmod_of_pos p (show (0 : Int) < (n : Int) + 1 by omega); omega
      · exact Int.tmod_lt_of_pos p (by omega)
    have HU : Hid (((upV (p :: r) n : Nat) : Int) = p % ((n : Int) + 1)) := by
      show ((p % ((n : Int) + 1)).toNat : Int) = _
      have a1 := Int.emod_nonneg p (show (n : Int) + 1 ≠ 0 by omega)
      omega
    clear h h3 h4 h5 HH
    have hnz : (n : Int) + 1 ≠ 0 := by omega
    by_cases hneg : p.tmod ((n : Int) + 1) < 0
    · have HV : Hid (p.tmod ((n : Int) + 1) + (n + 1) = ((upV (p :: r) n : Nat) : Int)) := by unfold Hid; rw [HU.out]; exact HT.1 hneg
      clear HT
      go_enter Tryz.func67, Tryz.ntmps67
      go_wp2
      · go_ret
        have hT := HTE.out (by omega) N (by omega)
        exact ⟨retI HV.out, ⟨_, hT.1⟩, hT.2⟩
      · go_ret
        have hT := HTL.out _ rfl
        exact ⟨retI HV.out, ⟨_, hT.1⟩, hT.2⟩
    · have HV : Hid (p.tmod ((n : Int) + 1) = ((upV (p :: r) n : Nat) : Int)) := by unfold Hid; rw [HU.out]; exact HT.2 hneg
      clear HT
      go_enter Tryz.func67, Tryz.ntmps67
      go_wp2
      · go_ret
        have hT := HTE.out (by omega) N (by omega)
        exact ⟨retI HV.out, ⟨_, hT.1⟩, hT.2⟩
      · go_ret
        have hT := HTL.out _ rfl
        exact ⟨retI HV.out, ⟨_, hT.1⟩, hT.2⟩
end Go.Proofs.YthcnhjmkcekdaaaGreat
