import Derived.Test.YtlnppgjppfkocaaDoorSf0
import Derived.Laws.StructEq
import Derived.Deep.DeepAppendWide
/-! Rows of numbers, that came in and of the call's own. -/
namespace Go.Proofs.YtlnppgjppfkocaaDoor
open Go.RowKit Plain
set_option linter.unusedVariables false
set_option linter.unusedSimpArgs false

def I64 (z : Int) : Prop := -9223372036854775808 ≤ z ∧ z ≤ 9223372036854775807
def ints (l : List Int) : List Value := l.map fun z => .int .i64 z
theorem ints_len (l : List Int) : (ints l).length = l.length := by simp [ints]
theorem ints_app (l k : List Int) : ints (l ++ k) = ints l ++ ints k := by simp [ints]
theorem ints_get {l : List Int} {j : Nat} (h : j < l.length) : (ints l)[j]? = some (.int .i64 (l.getD j 0)) := by simp [ints, h]
/-- v is a slice of numbers that reads as l. -/
def IntsAt (w : World) (v : Value) (l : List Int) : Prop :=
  ∃ a cap, v = .slice a l.length cap ∧ l.length ≤ cap ∧ l.length ≤ 17592186044000 ∧ (∀ z ∈ l, I64 z) ∧ (l ≠ [] → ∃ b off, a = some ⟨b, off, none⟩ ∧ ∀ j, j < l.length → w.cell? ⟨b, off + j, none⟩ = some (.int .i64 (l.getD j 0)))
theorem IntsAt.later {w w' : World} {v : Value} {l : List Int} (h : IntsAt w v l) (hb : Below w.heap.size w w') : IntsAt w' v l := by
  obtain ⟨a, cap, e, h0, h1, h2, h3⟩ := h
  refine ⟨a, cap, e, h0, h1, h2, fun hne => ?_⟩
  obtain ⟨b, off, e2, hc⟩ := h3 hne
  exact ⟨b, off, e2, fun j hj => (hb.cell (p := ⟨b, off + j, none⟩) (cell_lt (hc j hj))).trans (hc j hj)⟩
theorem getI_take {l : List Int} {n j : Nat} (h : j < n) : (l.take n).getD j 0 = l.getD j 0 := by
  simp [List.getD_eq_getElem?_getD, h]
/-- A first part of it. -/
theorem IntsAt.take {w : World} {a : Option Addr} {n cap : Nat} {l : List Int} (h : IntsAt w (.slice a n cap) l) (k : Nat) (hk : k ≤ l.length) : IntsAt w (.slice a k cap) (l.take k) := by
  obtain ⟨a', cap', e, h0, h1, h2, h3⟩ := h
  simp at e
  obtain ⟨rfl, rfl, rfl⟩ := e
  have hl : (l.take k).length = k := by simp; omega
  refine ⟨a, cap, by rw [hl], by rw [hl]; omega, by rw [hl]; omega, fun z hz => h2 z (List.mem_of_mem_take hz), fun hne => ?_⟩
  have hk0 : 0 < k := by
    rcases Nat.eq_zero_or_pos k with rfl | h
    · simp at hne
    · exact h
  obtain ⟨b, off, e2, hc⟩ := h3 (by intro e; rw [e] at hk; simp at hk; omega)
  refine ⟨b, off, e2, fun j hj => ?_⟩
  rw [hl] at hj
  rw [getI_take hj]
  exact hc j (by omega)
theorem OwnV.reads {w : World} {g n cap : Nat} {l : List Int} (h : OwnV w (.slice (some ⟨g, 0, none⟩) n cap) (ints l) (some g)) (hl : l.length ≤ 17592186044000) (hok : ∀ z ∈ l, I64 z) : IntsAt w (.slice (some ⟨g, 0, none⟩) n cap) l := by
  rcases h with ⟨h, _, _⟩ | ⟨g', cap', e, e2, hg, h1, h2, h3, h4, h5⟩
  · simp at h
  · cases e
    simp at e2
    obtain ⟨rfl, rfl⟩ := e2
    refine ⟨_, cap, by rw [ints_len], by rw [ints_len] at h1; exact h1, hl, hok, fun _ => ⟨g, 0, rfl, fun j hj => ?_⟩⟩
    rw [Nat.zero_add, h5 j (by rw [ints_len]; exact hj), ints_get hj]
theorem Tryd.infoI : (Tryd.prog.info? 3).map (fun i => (i.zero, i.size, i.bytes)) = some (some (.int .i64 0), 1, 8) := by kernel_rfl
/-- An empty slice of numbers. -/
theorem OwnV.made (w : World) : OwnV (w.alloc (.cells #[] 3)) (.slice (some ⟨w.heap.size, 0, none⟩) 0 0) [] (some w.heap.size) :=
  .inr ⟨w.heap.size, 0, rfl, rfl, by simp, by simp, by simp [maxLen], by simp, by simp, by simp⟩
end Go.Proofs.YtlnppgjppfkocaaDoor
