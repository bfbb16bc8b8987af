import Derived.Test.YteekmmgopnnioaaDoorMnJ
/-! Names of files: strings.SplitN at a dot and three. -/
namespace Go.Proofs.YteekmmgopnnioaaDoor.Mn
open Go.RowKit
set_option linter.unusedVariables false
set_option linter.unusedSimpArgs false

/-- Behind i cuts. -/
def SpI (l : By) (w : World) (N i : Nat) (cur : ByteArray) (wx : World) : Prop :=
  RowN w N wx ∧ ((i = 0 ∧ cur.data.toList = l) ∨
    (i = 1 ∧ 0 ≤ ix l ∧ cur.data.toList = l.drop ((ix l).toNat + 1) ∧ wx.cell? ⟨w.heap.size, 0, none⟩ = some (.string ⟨(l.take (ix l).toNat).toArray⟩)) ∨
    (i = 2 ∧ 0 ≤ ix l ∧ 0 ≤ ix (l.drop ((ix l).toNat + 1)) ∧ cur.data.toList = (l.drop ((ix l).toNat + 1)).drop ((ix (l.drop ((ix l).toNat + 1))).toNat + 1) ∧ wx.cell? ⟨w.heap.size, 0, none⟩ = some (.string ⟨(l.take (ix l).toNat).toArray⟩) ∧ wx.cell? ⟨w.heap.size, 1, none⟩ = some (.string ⟨((l.drop ((ix l).toNat + 1)).take (ix (l.drop ((ix l).toNat + 1))).toNat).toArray⟩)))
theorem str_of (s : ByteArray) : (⟨s.data.toList.toArray⟩ : ByteArray) = s := by cases s; rfl
/-- The last part is what is left. -/
theorem SpI.done {l : By} {w wx : World} {N i : Nat} {cur : ByteArray} (h : SpI l w N i cur wx) (hi : i < N) (hN : N ≤ 3) (hlast : i = 2 ∨ ix cur.data.toList < 0) :
    SpPost l w (.returned (.slice (some ⟨w.heap.size, 0, none⟩) (i + 1) N)) (wx.setCell ⟨w.heap.size, i, none⟩ (.string cur)) := by
  obtain ⟨hr, h⟩ := h
  have hset := hr.set hi (v := .string cur)
  obtain ⟨u, hu⟩ := hr.cell i hi
  have hnew := World.cell?_setCell_same wx ⟨w.heap.size, i, none⟩ (.string cur) hu
  have hold : ∀ j v, j ≠ i → wx.cell? ⟨w.heap.size, j, none⟩ = some v → (wx.setCell ⟨w.heap.size, i, none⟩ (.string cur)).cell? ⟨w.heap.size, j, none⟩ = some v := fun j v hj hv => by
    rw [World.cell?_setCell_other _ _ _ _ (by intro h; simp only [Addr.mk.injEq] at h; omega)]; exact hv
  rcases h with ⟨rfl, h1⟩ | ⟨rfl, h1, h2, h3⟩ | ⟨rfl, h1, h2, h3, h4, h5⟩
  · have hp : parts l = [l] := by
      have : ix l < 0 := by rw [← h1]; exact hlast.resolve_left (by omega)
      unfold parts; rw [if_pos this]
    refine ⟨N, by rw [hp]; rfl, by rw [hp]; exact hi, hN, hset.below, fun j p hj => ?_⟩
    rw [hp] at hj
    obtain ⟨rfl, rfl⟩ : j = 0 ∧ l = p := by
      rcases j with _ | j
      · exact ⟨rfl, by simpa using hj⟩
      · simp at hj
    rw [hnew, ← h1, str_of]
  · have hp : parts l = [l.take (ix l).toNat, l.drop ((ix l).toNat + 1)] := by
      have : ix (l.drop ((ix l).toNat + 1)) < 0 := by rw [← h2]; exact hlast.resolve_left (by omega)
      unfold parts; rw [if_neg (by omega), if_pos this]
    refine ⟨N, by rw [hp]; rfl, by rw [hp]; exact hi, hN, hset.below, fun j p hj => ?_⟩
    rw [hp] at hj
    rcases j with _ | _ | j
    · have : l.take (ix l).toNat = p := by simpa using hj
      rw [← this]
      exact hold 0 _ (by omega) h3
    · have : l.drop ((ix l).toNat + 1) = p := by simpa using hj
      rw [hnew, ← this, ← h2, str_of]
    · simp at hj
  · have hp : parts l = [l.take (ix l).toNat, (l.drop ((ix l).toNat + 1)).take (ix (l.drop ((ix l).toNat + 1))).toNat, (l.drop ((ix l).toNat + 1)).drop ((ix (l.drop ((ix l).toNat + 1))).toNat + 1)] := by
      unfold parts; rw [if_neg (by omega), if_neg (by omega)]
    refine ⟨N, by rw [hp]; rfl, by rw [hp]; exact hi, hN, hset.below, fun j p hj => ?_⟩
    rw [hp] at hj
    rcases j with _ | _ | _ | j
    · have : l.take (ix l).toNat = p := by simpa using hj
      rw [← this]
      exact hold 0 _ (by omega) h4
    · have : (l.drop ((ix l).toNat + 1)).take (ix (l.drop ((ix l).toNat + 1))).toNat = p := by simpa using hj
      rw [← this]
      exact hold 1 _ (by omega) h5
    · have : (l.drop ((ix l).toNat + 1)).drop ((ix (l.drop ((ix l).toNat + 1))).toNat + 1) = p := by simpa using hj
      rw [hnew, ← this, ← h3, str_of]
    · simp at hj
/-- One cut more. -/
theorem SpI.next {l : By} {w wx : World} {N i m : Nat} {cur piece rest : ByteArray} (h : SpI l w N i cur wx) (hi : i + 1 < N) (hN : N ≤ 3) (hm : ix cur.data.toList = (m : Int)) (hp : piece.data.toList = cur.data.toList.take m) (hr : rest.data.toList = cur.data.toList.drop (m + 1)) :
    SpI l w N (i + 1) rest (wx.setCell ⟨w.heap.size, i, none⟩ (.string piece)) := by
  obtain ⟨hrow, h⟩ := h
  obtain ⟨u, hu⟩ := hrow.cell i (by omega)
  have hnew := World.cell?_setCell_same wx ⟨w.heap.size, i, none⟩ (.string piece) hu
  have hold : ∀ j v, j ≠ i → wx.cell? ⟨w.heap.size, j, none⟩ = some v → (wx.setCell ⟨w.heap.size, i, none⟩ (.string piece)).cell? ⟨w.heap.size, j, none⟩ = some v := fun j v hj hv => by
    rw [World.cell?_setCell_other _ _ _ _ (by intro h; simp only [Addr.mk.injEq] at h; omega)]; exact hv
  refine ⟨hrow.set (by omega), ?_⟩
  rcases h with ⟨rfl, h1⟩ | ⟨rfl, h1, h2, h3⟩ | ⟨rfl, _⟩
  · have e : (ix l).toNat = m := by rw [h1] at hm; rw [hm]; simp
    refine .inr (.inl ⟨rfl, by rw [← h1, hm]; omega, by rw [hr, h1, e], ?_⟩)
    rw [hnew, e, ← h1, ← hp, str_of]
  · have e : (ix (l.drop ((ix l).toNat + 1))).toNat = m := by rw [h2] at hm; rw [hm]; simp
    refine .inr (.inr ⟨rfl, h1, by rw [← h2, hm]; omega, by rw [hr, h2, e], hold 0 _ (by omega) h3, ?_⟩)
    rw [hnew, e, ← h2, ← hp, str_of]
  · omega
end Go.Proofs.YteekmmgopnnioaaDoor.Mn
