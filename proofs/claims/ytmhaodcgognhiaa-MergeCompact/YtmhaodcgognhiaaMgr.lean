import Derived.Test.YtmhaodcgognhiaaHm
/-! merge: rows of records that are made, and written in place. -/
namespace Go.Proofs.Ytmhaodcgognhiaa
open Go.RowKit Plain
set_option linter.unusedVariables false
set_option linter.unusedSimpArgs false

theorem OwnR.sets {w : World} {v : Value} {g o : Nat} {ts ts' : List Rc} (h : OwnR w v ts (some g)) (cs : List Value) (hl : ts'.length = ts.length) (ho : o + cs.length ≤ 7 * ts.length) (hq : ∀ m, m < 7 * ts.length → (rcells ts')[m]? = if o ≤ m ∧ m < o + cs.length then cs[m - o]? else (rcells ts)[m]?) : OwnR (w.setCells g o cs) v ts' (some g) := by
  rcases h with ⟨_, _, h⟩ | ⟨g', cap, e, rfl, hg, h1, h2, h3, h4, h5⟩
  · simp at h
  · cases e
    refine .inr ⟨g, cap, rfl, by rw [hl], by rw [setCells_size]; exact hg, by rw [hl]; exact h1, h2, fun i hi => ?_, fun i hi => ?_, fun i hi => ?_⟩
    · rw [World.frozen?_setCells]; exact h3 i hi
    · exact isSome_setCells g _ _ w _ (h4 i hi)
    · rw [hl] at hi
      rw [hq i hi]
      by_cases hin : o ≤ i ∧ i < o + cs.length
      · rw [if_pos hin]
        have := World.cell?_setCells_in g cs o w (fun m hm => h4 _ (by omega)) (i - o) (by omega)
        rw [show o + (i - o) = i by omega] at this
        rw [this, List.getElem?_eq_getElem (by omega)]
      · rw [if_neg hin, ← h5 i hi]
        refine World.cell?_setCells_out g _ _ w _ (fun _ _ => ?_)
        simp only
        omega
theorem rcells_put (ts : List Rc) (j : Nat) (x : Rc) (h : j < ts.length) (m : Nat) (hm : m < 7 * ts.length) : (rcells (ts.set j x))[m]? = if j * 7 ≤ m ∧ m < j * 7 + 7 then x.cells[m - j * 7]? else (rcells ts)[m]? := by
  obtain ⟨q, r, hq, hr, rfl⟩ : ∃ q r, q < ts.length ∧ r < 7 ∧ m = q * 7 + r := ⟨m / 7, m % 7, by omega, by omega, by omega⟩
  rw [rcells_get (ts.set j x) q r (by simpa using hq) hr, rcells_get ts q r hq hr]
  by_cases e : q = j
  · subst e
    rw [if_pos (by omega), show q * 7 + r - q * 7 = r by omega]
    simp [hq]
  · rw [if_neg (by omega)]
    congr 2
    simp [Ne.symm e]
theorem OwnR.putAll {w : World} {v : Value} {g j : Nat} {ts : List Rc} (h : OwnR w v ts (some g)) (hj : j < ts.length) (x : Rc) : OwnR (w.setCells g (j * 7) x.cells) v (ts.set j x) (some g) :=
  h.sets x.cells (by simp) (by show j * 7 + 7 ≤ _; omega) fun m hm => rcells_put ts j x hj m hm
theorem OwnR.capP {w : World} {g n c : Nat} {ts : List Rc} (h : OwnR w (.slice (some ⟨g, 0, none⟩) n c) ts (some g)) : n = ts.length ∧ n ≤ c := by
  rcases h with ⟨h, _, _⟩ | ⟨g', cap, e, e2, hg, h1, _⟩
  · simp at h
  · simp at e2
    obtain ⟨_, rfl, rfl⟩ := e2
    exact ⟨rfl, h1⟩
theorem OwnR.of_block {w w' : World} {v : Value} {ts : List Rc} {r : Option Nat} (h : OwnR w v ts r) (hs : w.heap.size ≤ w'.heap.size) (hb : ∀ g, r = some g → w'.heap[g]? = w.heap[g]?) : OwnR w' v ts r := by
  rcases h with h0 | ⟨g, cap, rfl, rfl, hg, h1, h2, h3, h4, h5⟩
  · exact .inl h0
  · have hb := hb g rfl
    refine .inr ⟨g, cap, rfl, rfl, Nat.lt_of_lt_of_le hg hs, h1, h2, fun j hj => ?_, fun j hj => ?_, fun j hj => ?_⟩
    · rw [World.frozen?_of_block (w := w) (a := ⟨g, j, none⟩) hb]; exact h3 j hj
    · rw [World.cell?_of_block (w := w) (a := ⟨g, j, none⟩) hb]; exact h4 j hj
    · rw [World.cell?_of_block (w := w) (a := ⟨g, j, none⟩) hb]; exact h5 j hj
/-- A first part of a row reads. -/
theorem OwnR.first {w : World} {g n c k : Nat} {ts : List Rc} (h : OwnR w (.slice (some ⟨g, 0, none⟩) n c) ts (some g)) (hk : k ≤ ts.length) (hl : ts.length ≤ 2199023255000) (hok : ∀ x ∈ ts, x.Ok) : RecsAt w (.slice (some ⟨g, 0, none⟩) k c) (ts.take k) := by
  have hlen : (ts.take k).length = k := by simp; omega
  refine ⟨_, c, by rw [hlen], by rw [hlen]; omega, fun z hz => hok z (List.mem_of_mem_take hz), fun hne => ⟨g, 0, rfl, fun j hj => ?_⟩⟩
  rw [hlen] at hj
  have e : (ts.take k).getD j Rc.none = ts.getD j Rc.none := by simp [List.getD_eq_getElem?_getD, hj]
  rw [e, Nat.zero_add]
  exact h.at (by omega)

theorem rmade (n j : Nat) (h : j < n * 7) : (madeCells Rc.none.agg.cells (n * 7)).toList[j]? = Rc.none.cells[j % 7]? := by
  unfold madeCells
  rw [zcells7]
  simp only [Array.toList_map, List.getElem?_map, Array.toList_range]
  rw [List.getElem?_eq_getElem (by simpa using h)]
  simp only [List.getElem_range, Option.map_some]
  have hm : j % 7 < 7 := Nat.mod_lt _ (by decide)
  have h3 : j % 7 = 0 ∨ j % 7 = 1 ∨ j % 7 = 2 ∨ j % 7 = 3 ∨ j % 7 = 4 ∨ j % 7 = 5 ∨ j % 7 = 6 := by omega
  rcases h3 with e | e | e | e | e | e | e <;> rw [e] <;> rfl
theorem OwnR.made {w : World} {g base n : Nat} (ho : w.ownsRow base 33 7 (.slice (some ⟨g, 0, none⟩) n n) n (madeCells Rc.none.agg.cells (n * 7)).toList) : OwnR w (.slice (some ⟨g, 0, none⟩) n n) (List.replicate n Rc.none) (some g) ∧ base ≤ g := by
  rcases ho.2 with ⟨h, _⟩ | ⟨g', cap', cur, e, hg, hh, hle, hm, hs, ht⟩
  · simp at h
  · simp only [Value.slice.injEq, Option.some.injEq, Addr.mk.injEq] at e
    obtain ⟨⟨rfl, _, _⟩, _, rfl⟩ := e
    have hlt : g < w.heap.size := (Array.getElem?_eq_some_iff.mp hh).1
    refine ⟨.inr ⟨g, n, rfl, by rw [List.length_replicate], hlt, by rw [List.length_replicate]; exact Nat.le_refl _, hm, fun j hj => ?_, fun j hj => ?_, fun j hj => ?_⟩, hg⟩
    · simp only [World.frozen?, hh]; simp
    · simp only [World.cell?, hh]
      have hsz : j < cur.size := by omega
      simp [hsz]
    · rw [List.length_replicate] at hj
      obtain ⟨k, m, rfl, hm⟩ : ∃ k m, j = k * 7 + m ∧ m < 7 := ⟨j / 7, j % 7, by omega, by omega⟩
      have h1 := rmade n (k * 7 + m) (by omega)
      rw [← ht, List.getElem?_take_of_lt (by omega)] at h1
      simp only [World.cell?, hh]
      rw [Array.getElem?_toList] at h1
      rw [rcells_get _ k m (by rw [List.length_replicate]; omega) hm]
      have h0 : (List.replicate n Rc.none).getD k Rc.none = Rc.none := by simp [List.getD_eq_getElem?_getD, List.getElem?_replicate]; split <;> rfl
      have h2 : (k * 7 + m) % 7 = m := by omega
      rw [h2] at h1
      rw [h0]
      simpa using h1
end Go.Proofs.Ytmhaodcgognhiaa
