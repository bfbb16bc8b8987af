import Derived.Test.YtjefbcphefckiacRows
import Derived.Test.YtjefbcphefckiacQe
import Derived.ProofKit
import Derived.Deep.Slices
import Derived.Deep.Strs
/-! A slice of items that came in. -/
namespace Go.Proofs.Ytjefbcphefckiac
open Go.RowKit Go.Deep Plain
set_option linter.unusedVariables false

def datum {H : Type} (x : It) : DataW H := .agg [.lit (.int .i64 x.k), .lit (.int .u64 (x.n : Int)), .lit (.string x.s.data.toList)]

theorem cells_st : Try.prog.cellsOf 32 = 3 := by kernel_rfl
theorem cells_3 : Try.prog.cellsOf 3 = 1 := by kernel_rfl
theorem cells_U : Try.prog.cellsOf 30 = 1 := by kernel_rfl
theorem cells_9 : Try.prog.cellsOf 9 = 1 := by kernel_rfl

theorem open_step {H : Type} {enc : TypeId × Value → H} {W : World} {n : Nat} {a : Addr} {i : Nat} {D : DataW H} {Pl : List MemPlace} {cs' : List Value} (h1 : W.cells? 0 (a.add (i * Try.prog.cellsOf 32)) (Try.prog.cellsOf 32) = some cs')
    (h2 : DataW.trod enc Try.prog W 0 (fun _ => true) true n 32 cs' = some (D, Pl)) :
    ∃ s : It, D = datum s ∧ s.n < 18446744073709551616 ∧ s.s.size ≤ maxLen ∧ W.cell? ((a.add (i * 3)).add 0) = some (.int .i64 s.k) ∧ W.cell? ((a.add (i * 3)).add 1) = some (.int .u64 (s.n : Int)) ∧ W.cell? ((a.add (i * 3)).add 2) = some (.string s.s) := by
  rw [cells_st] at h1
  obtain ⟨_, hlen, hcell⟩ := World.cells?_some h1
  obtain ⟨y0, y1, y2, n', hxy, _, g0, g1, g2⟩ := trod_struct3 Try.underlying32 h2
  match cs', hlen with
  | [v0, v1, v2], _ =>
    have k0 : DataW.trod enc Try.prog W 0 (fun _ => true) true n' 3 [v0] = some y0 := by simpa [cells_3] using g0
    have k1 : DataW.trod enc Try.prog W 0 (fun _ => true) true n' 30 [v1] = some y1 := by simpa [cells_U] using g1
    have k2 : DataW.trod enc Try.prog W 0 (fun _ => true) true n' 9 [v2] = some y2 := by simpa [cells_9] using g2
    obtain ⟨kk, e0, hy0, wk⟩ := DataW.trod_int Try.underlying3 k0
    obtain ⟨nn, e1, hy1, wn⟩ := DataW.trod_int Try.underlying30 k1
    obtain ⟨ss, e2, hy2, hs⟩ := DataW.trod_string Try.underlying9 k2
    simp only [List.cons.injEq, and_true] at e0 e1 e2
    subst e0 e1 e2 hy0 hy1 hy2
    have hb := bounds_u64 wn
    obtain ⟨m, rfl⟩ : ∃ m : Nat, nn = (m : Int) := ⟨nn.toNat, by omega⟩
    simp only [Prod.mk.injEq] at hxy
    exact ⟨⟨kk, m, ss⟩, hxy.1, by simp; omega, hs, by simpa using hcell 0 (by omega), by simpa using hcell 1 (by omega), by simpa using hcell 2 (by omega)⟩

theorem open_items {H : Type} {enc : TypeId × Value → H} {W : World} {fuel : Nat} {v : Value} {x : DataW H × List MemPlace} (h : DataW.trod enc Try.prog W 0 (fun _ => true) true fuel 22 [v] = some x) :
    ∃ st : List It, ItemsAt W v st ∧ ((x.1 = .nil ∧ st = []) ∨ ∃ sp, x.1 = .slice (st.map datum) sp) := by
  rcases open_slice Try.underlying22 h with ⟨hcs, hx⟩ | ⟨a, len, cap, m, n, D, Pl, hcs, hb, hl, hm, hmm, hx, hel⟩
  · simp at hcs
    subst hcs
    exact ⟨[], ⟨none, 0, rfl, by simp, by simp, by simp⟩, .inl ⟨by rw [hx], rfl⟩⟩
  · simp at hcs
    subst hcs
    simp only [if_true] at hmm
    subst hmm
    have each : ∀ i, i < m → ∃ s : It, D i = datum s ∧ s.n < 18446744073709551616 ∧ s.s.size ≤ maxLen ∧ W.cell? ((a.add (i * 3)).add 0) = some (.int .i64 s.k) ∧ W.cell? ((a.add (i * 3)).add 1) = some (.int .u64 (s.n : Int)) ∧ W.cell? ((a.add (i * 3)).add 2) = some (.string s.s) := by
      intro i hi
      obtain ⟨cs', h1, h2⟩ := hel i hi
      exact open_step h1 h2
    have iSt : Inhabited It := ⟨It.none⟩
    obtain ⟨q, hq⟩ := choose_lt each
    refine ⟨(List.range len).map q, ⟨some a, m, by simp, by simp; omega, ?_, ?_⟩, .inr ⟨(List.range (m - len)).map fun j => D (len + j), ?_⟩⟩
    · intro s hs
      obtain ⟨i, hi, rfl⟩ := List.mem_map.mp hs
      have := hq i (by have := List.mem_range.mp hi; omega)
      exact ⟨this.2.1, by have h := this.2.2.1; unfold maxLen at h; omega⟩
    · intro hne
      have hlen : 0 < len := by
        rcases Nat.eq_zero_or_pos len with rfl | h
        · simp at hne
        · exact h
      obtain ⟨b, off, spot⟩ := a
      have hspot : spot = none := by
        have := World.cell?_spot (hq 0 (by omega)).2.2.2.1
        simpa [Addr.add] using this
      subst hspot
      refine ⟨b, off, rfl, fun j hj => ?_⟩
      have hj' : j < len := by simpa using hj
      obtain ⟨_, _, _, c0, c1, c2⟩ := hq j (by omega)
      rw [WideShapes.add_plain, WideShapes.add_plain] at c0 c1 c2
      have e : ((List.range len).map q).getD j It.none = q j := by simp [hj']
      rw [e]
      exact ⟨c0, c1, c2⟩
    · rw [hx]
      simp only [List.map_map, DataW.slice.injEq]
      exact ⟨List.map_congr_left (fun i hi => (hq i (by have := List.mem_range.mp hi; omega)).1), trivial⟩

/-- What the bound gives. -/
theorem load_bulk {H : Type} (st : List It) : bulk st ≤ 3 * Rows.uptoBulkAll (st.map (datum (H := H))) := by
  induction st with
  | nil => simp [bulk, Rows.uptoBulkAll]
  | cons x r ih =>
    simp only [List.map_cons, Rows.uptoBulkAll, bulk]
    have : x.s.size + 10 ≤ 3 * Rows.uptoBulk (datum (H := H) x) := by
      simp [datum, Rows.uptoBulk, Rows.uptoBulkAll]
      omega
    omega
end Go.Proofs.Ytjefbcphefckiac
