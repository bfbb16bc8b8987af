import Derived.Test.YtklfmgkfcacfkaaTkn
namespace Go.Proofs.Ytklfmgkfcacfkaa
open Go.RowKit Plain
set_option linter.unusedVariables false
set_option linter.unusedSimpArgs false

theorem PreP.zero {l : List Nat} {i : Nat} (h : PreP l [] i) : i = 0 := by have := h.sum; simpa using this

theorem PreP.snoc {l : List Nat} {ts : List Tk} {t : Tk} {j : Nat} (h : PreP l (ts ++ [t]) j) : ∃ i, PreP l ts i ∧ j = i + t.len ∧
    ((∃ g b, t = .lit g b ∧ (∀ g' b', ts.getLast? ≠ some (.lit g' b')) ∧ b ≠ [] ∧ i + b.length ≤ l.length ∧ b = (l.drop i).take b.length ∧ ∀ j, i ≤ j → j < i + b.length → Best l j 0 0) ∨ (∃ d n, t = .mat d n ∧ 5 ≤ n ∧ Best l i d n)) := by
  generalize hx : ts ++ [t] = x at h
  induction h using PreP.ind with
  | nil => simp at hx
  | lit h hlast hb hi he hn ih =>
    clear ih
    obtain ⟨rfl, e⟩ := List.append_inj' hx rfl
    simp only [List.cons.injEq, and_true] at e
    subst e
    exact ⟨_, h, rfl, .inl ⟨_, _, rfl, hlast, hb, hi, he, hn⟩⟩
  | mat h hn hb ih =>
    clear ih
    obtain ⟨rfl, e⟩ := List.append_inj' hx rfl
    simp only [List.cons.injEq, and_true] at e
    subst e
    exact ⟨_, h, rfl, .inr ⟨_, _, rfl, hn, hb⟩⟩

theorem PreP.take {l : List Nat} {ts : List Tk} {j : Nat} (h : PreP l ts j) : ∀ k, k ≤ ts.length → ∃ i, PreP l (ts.take k) i := by
  induction h using PreP.ind with
  | nil => intro k hk; exact ⟨0, by simpa using PreP.nil⟩
  | @lit ts i g b h hlast hb hi he hn ih =>
    intro k hk
    by_cases e : k = (ts ++ [Tk.lit g b]).length
    · subst e; rw [List.take_length]; exact ⟨_, .lit h hlast hb hi he hn⟩
    · have : k ≤ ts.length := by simp at hk e; omega
      rw [List.take_append_of_le_length this]
      exact ih k this
  | @mat ts i d n h hn hb ih =>
    intro k hk
    by_cases e : k = (ts ++ [Tk.mat d n]).length
    · subst e; rw [List.take_length]; exact ⟨_, .mat h hn hb⟩
    · have : k ≤ ts.length := by simp at hk e; omega
      rw [List.take_append_of_le_length this]
      exact ih k this

theorem PreP.same {l : List Nat} {ts : List Tk} {i j : Nat} (h : PreP l ts i) (k : PreP l ts j) : i = j := by rw [h.sum, k.sum]

/-- The token at k, and what it is. -/
theorem PreP.at {l : List Nat} {ts : List Tk} {T k i : Nat} (h : PreP l ts T) (hk : k < ts.length) (hi : PreP l (ts.take k) i) : PreP l (ts.take (k + 1)) (i + ts[k].len) ∧
    ((∃ g b, ts[k] = .lit g b ∧ (∀ g' b', (ts.take k).getLast? ≠ some (.lit g' b')) ∧ b ≠ [] ∧ i + b.length ≤ l.length ∧ b = (l.drop i).take b.length ∧ ∀ j, i ≤ j → j < i + b.length → Best l j 0 0) ∨ (∃ d n, ts[k] = .mat d n ∧ 5 ≤ n ∧ Best l i d n)) := by
  obtain ⟨j, hj⟩ := h.take (k + 1) (by omega)
  have e := List.take_succ_eq_append_getElem hk
  have hj' := hj
  rw [e] at hj'
  obtain ⟨i', h1, h2, h3⟩ := hj'.snoc
  obtain rfl := hi.same h1
  rw [← h2]
  exact ⟨hj, h3⟩

theorem tcells_get (ts : List Tk) (k : Nat) (hk : k < ts.length) (j : Nat) (hj : j < 3) : (tcells ts)[3 * k + j]? = ts[k].cells[j]? := by
  induction ts generalizing k with
  | nil => simp at hk
  | cons t ts ih =>
    have e : tcells (t :: ts) = t.cells ++ tcells ts := rfl
    rw [e]
    cases k with
    | zero =>
      rw [List.getElem?_append_left (by rw [Tk.cells_len]; omega)]
      simp
    | succ k =>
      rw [List.getElem?_append_right (by rw [Tk.cells_len]; omega), Tk.cells_len]
      rw [show 3 * (k + 1) + j - 3 = 3 * k + j by omega]
      rw [ih k (by simpa using hk)]
      simp
end Go.Proofs.Ytklfmgkfcacfkaa
