import Derived.Test.YtbngedfpojnbjabPh
import Derived.Test.YtbngedfpojnbjabLaw
/-! The law of packing. -/
namespace Go.Proofs.Ytbngedfpojnbjab
open Go.RowKit Plain
set_option linter.unusedVariables false

def m77 : It := ⟨77, 0, ⟨#[]⟩⟩
def m78 : It := ⟨78, 0, ⟨#[]⟩⟩

/-- The same items but for their numbers. -/
structure Alike (ts st : List It) : Prop where
  len : ts.length = st.length
  k : ∀ j, j < st.length → (ts.getD j It.none).k = (st.getD j It.none).k
  s : ∀ j, j < st.length → (ts.getD j It.none).s = (st.getD j It.none).s
  n : ∀ x ∈ ts, x.n < 18446744073709551616 ∧ x.s.size < 18446744073709551616

theorem getD_set_same (ts : List It) (j : Nat) (x : It) (h : j < ts.length) : (ts.set j x).getD j It.none = x := by simp [h]
theorem getD_set_other (ts : List It) (j i : Nat) (x : It) (h : i ≠ j) : (ts.set j x).getD i It.none = ts.getD i It.none := by
  simp [List.getElem?_set_ne (Ne.symm h)]

theorem Alike.set {ts st : List It} (h : Alike ts st) (j m : Nat) (hj : j < st.length) (hm : m < 18446744073709551616) : Alike (ts.set j ⟨(ts.getD j It.none).k, m, (ts.getD j It.none).s⟩) st := by
  have hl : j < ts.length := by rw [h.len]; exact hj
  refine ⟨by rw [List.length_set]; exact h.len, fun i hi => ?_, fun i hi => ?_, fun x hx => ?_⟩
  · by_cases e : i = j
    · subst e; rw [getD_set_same _ _ _ hl]; exact h.k i hi
    · rw [getD_set_other _ _ _ _ e]; exact h.k i hi
  · by_cases e : i = j
    · subst e; rw [getD_set_same _ _ _ hl]; exact h.s i hi
    · rw [getD_set_other _ _ _ _ e]; exact h.s i hi
  · rcases List.mem_or_eq_of_mem_set hx with h1 | rfl
    · exact h.n x h1
    · refine ⟨hm, (h.n (ts.getD j It.none) ?_).2⟩
      simp [hl]

theorem bulk_alike : ∀ (ts st : List It), ts.length = st.length → (∀ j, j < st.length → (ts.getD j It.none).s = (st.getD j It.none).s) → bulk ts = bulk st
  | [], [], _, _ => rfl
  | [], _ :: _, h, _ => by simp at h
  | _ :: _, [], h, _ => by simp at h
  | t :: ts, x :: st, h, hs => by
    have h0 : t.s = x.s := by simpa using hs 0 (by simp)
    have := bulk_alike ts st (by simpa using h) (fun j hj => by simpa using hs (j + 1) (by simpa using hj))
    simp [bulk, h0, this]

/-- The first k of them are the same. -/
def Same (ts st : List It) (k : Nat) : Prop := ∀ j, j < k → ts.getD j It.none = st.getD j It.none
theorem same_all {ts st : List It} (h : Alike ts st) (hs : Same ts st st.length) : ts = st := by
  apply List.ext_getElem? 
  intro j
  by_cases hj : j < st.length
  · have := hs j hj
    rw [List.getElem?_eq_getElem hj, List.getElem?_eq_getElem (by rw [h.len]; exact hj)]
    simpa [hj, h.len] using this
  · have := h.len
    rw [List.getElem?_eq_none (by omega), List.getElem?_eq_none (by omega)]

theorem getD_app (ts ks : List It) (j : Nat) (h : j < ts.length) : (ts ++ ks).getD j It.none = ts.getD j It.none := by simp [List.getElem?_append_left h]
theorem set_app (ts ks : List It) (j : Nat) (x : It) (h : j < ts.length) : (ts ++ ks).set j x = ts.set j x ++ ks := by simp [h]

/-- The row with the two marks behind. -/
theorem full_items {w : World} {g cap : Nat} {ts : List It} (h : OwnI w (.slice (some ⟨g, 0, none⟩) (ts ++ [m77, m78]).length cap) (ts ++ [m77, m78]) (some g)) (hn : ∀ x ∈ ts, x.n < 18446744073709551616 ∧ x.s.size < 18446744073709551616) : ItemsAt w (.slice (some ⟨g, 0, none⟩) ts.length cap) ts := by
  have := h.items (n := ts.length) (by simp) (fun x hx => by
    rcases List.mem_append.mp hx with h1 | h1
    · exact hn x h1
    · simp at h1
      rcases h1 with rfl | rfl
      · decide
      · decide)
  rwa [List.take_left] at this
theorem full_set {w : World} {g cap j m : Nat} {ts : List It} (h : OwnI w (.slice (some ⟨g, 0, none⟩) (ts.length + 2) cap) (ts ++ [m77, m78]) (some g)) (hj : j < ts.length) :
    OwnI (w.setCell ⟨g, j * 3 + 1, none⟩ (.int .u64 (m : Int))) (.slice (some ⟨g, 0, none⟩) (ts.length + 2) cap) (ts.set j ⟨(ts.getD j It.none).k, m, (ts.getD j It.none).s⟩ ++ [m77, m78]) (some g) := by
  have hl : (ts ++ [m77, m78]).length = ts.length + 2 := by simp
  have := OwnI.setN (m := m) (j := j) (w := w) (g := g) (cap := cap) (ts := ts ++ [m77, m78]) (by rw [hl]; exact h) (by simp; omega)
  rw [hl, getD_app ts _ j hj, set_app ts _ j _ hj] at this
  exact this
theorem full_cell {w : World} {g cap j : Nat} {ts : List It} (h : OwnI w (.slice (some ⟨g, 0, none⟩) (ts.length + 2) cap) (ts ++ [m77, m78]) (some g)) (hj : j < ts.length) :
    w.cell? ⟨g, j * 3 + 1, none⟩ = some (.int .u64 ((ts.getD j It.none).n : Int)) ∧ w.frozen? ⟨g, j * 3 + 1, none⟩ = false := by
  rcases h with ⟨h, _⟩ | ⟨g', cap', e, e2, hg, h1, h2, h3, h4, h5⟩
  · simp at h
  · simp at e; subst e
    simp only [Value.slice.injEq, true_and] at e2
    obtain ⟨_, rfl⟩ := e2
    simp at h1 h5
    have hg := (icells_get (ts ++ [m77, m78]) j (by simp; omega)).2.1
    rw [getD_app ts _ j hj] at hg
    exact ⟨by rw [h5 _ (by omega)]; exact hg, h3 _ (by omega)⟩
theorem full_marks {w : World} {g cap : Nat} {ts : List It} (h : OwnI w (.slice (some ⟨g, 0, none⟩) (ts.length + 2) cap) (ts ++ [m77, m78]) (some g)) :
    w.cell? ⟨g, ts.length * 3, none⟩ = some (.int .i64 77) ∧ w.cell? ⟨g, (ts.length + 1) * 3, none⟩ = some (.int .i64 78) ∧ ts.length + 2 ≤ cap ∧ cap ≤ maxLen := by
  rcases h with ⟨h, _⟩ | ⟨g', cap', e, e2, hg, h1, h2, h3, h4, h5⟩
  · simp at h
  · simp at e; subst e
    simp only [Value.slice.injEq, true_and] at e2
    obtain ⟨_, rfl⟩ := e2
    simp at h1 h5
    have h77 := (icells_get (ts ++ [m77, m78]) ts.length (by simp)).1
    have h78 := (icells_get (ts ++ [m77, m78]) (ts.length + 1) (by simp)).1
    simp [m77, m78] at h77 h78
    refine ⟨?_, ?_, by omega, h2⟩
    · rw [h5 _ (by omega)]; simpa [m77, m78] using h77
    · rw [h5 _ (by omega)]; simpa [m77, m78] using h78
theorem OwnI.later {w w' : World} {v : Value} {ts : List It} {r : Option Nat} (h : OwnI w v ts r) (k : Below w.heap.size w w') : OwnI w' v ts r := by
  rcases r with _ | g
  · exact h.kept (below_grow k none) (.inl rfl)
  · exact h.kept (below_grow k none) (.inr (by simp))
end Go.Proofs.Ytbngedfpojnbjab
