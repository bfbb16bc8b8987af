import Derived.Test.YtlbofjeopbadhaaDoorJt
/-! dedupe: the document's laid. -/
namespace Go.Proofs.YtlbofjeopbadhaaDoor
open Go.RowKit Go.Maps Plain
set_option linter.unusedVariables false
set_option linter.unusedSimpArgs false

/-- What laid has got together behind k producers. -/
structure LdI (L : List Pr) (p : Pr) (k : Nat) (d : Bool) (M : List Pr) : Prop where
  rise : Rise M
  mem : ∀ y, y ∈ M ↔ (y ∈ L.take k ∧ y.pid ≠ p.pid) ∨ (d = true ∧ y = p)
  lo : d = false → ∀ y ∈ L.take k, y.pid < p.pid
  hi : d = true → ∀ y ∈ L.drop k, p.pid < y.pid
  len : M.length ≤ k + 1
  lenF : d = false → M.length ≤ k
theorem LdI.start (L : List Pr) (p : Pr) : LdI L p 0 false [] := ⟨by simp, by simp, by simp, by simp, by simp, by simp⟩
theorem rise_app {M : List Pr} {x : Pr} (h : Rise M) (hx : ∀ y ∈ M, y.pid < x.pid) : Rise (M ++ [x]) := by
  rw [Rise, List.pairwise_append]
  exact ⟨h, by simp, fun a ha b hb => by simp at hb; rw [hb]; exact hx a ha⟩
theorem take_mem {L : List Pr} {k : Nat} (h : k < L.length) (y : Pr) : y ∈ L.take (k + 1) ↔ y ∈ L.take k ∨ y = L.getD k Pr.zero := by
  rw [takeP h, List.mem_append, List.mem_singleton]
theorem drop_mem {L : List Pr} (hr : Rise L) {k : Nat} (h : k < L.length) : (∀ y ∈ L.drop (k + 1), (L.getD k Pr.zero).pid < y.pid) ∧ (∀ y ∈ L.take k, y.pid < (L.getD k Pr.zero).pid) ∧ L.getD k Pr.zero ∈ L.drop k ∧ (∀ y ∈ L.drop (k + 1), y ∈ L.drop k) := by
  have e : L.getD k Pr.zero = L[k] := by simp [h]
  have h1 : L = L.take k ++ (L[k] :: L.drop (k + 1)) := by rw [← List.drop_eq_getElem_cons h, List.take_append_drop]
  have h2 := hr
  rw [h1, Rise, List.pairwise_append, List.pairwise_cons] at h2
  rw [e]
  refine ⟨h2.2.1.1, fun y hy => h2.2.2 y hy _ (List.mem_cons_self ..), ?_, ?_⟩
  · rw [List.drop_eq_getElem_cons h]; exact List.mem_cons_self ..
  · intro y hy; rw [List.drop_eq_getElem_cons h]; exact List.mem_cons_of_mem _ hy
/-- It is laid, and the next one, another, behind it. -/
theorem LdI.put2 {L : List Pr} {p : Pr} {k : Nat} {M : List Pr} (h : LdI L p k false M) (hr : Rise L) (hk : k < L.length) (hx : p.pid < (L.getD k Pr.zero).pid) : LdI L p (k + 1) true (M ++ [p] ++ [L.getD k Pr.zero]) := by
  obtain ⟨d1, d2, d3, d4⟩ := drop_mem hr hk
  have hM : ∀ y ∈ M, y.pid < p.pid := fun y hy => by
    rcases (h.mem y).mp hy with h1 | h1
    · exact h.lo rfl y h1.1
    · simp at h1
  refine ⟨rise_app (rise_app h.rise hM) ?_, ?_, by simp, ?_, ?_, by simp⟩
  · intro y hy
    rcases List.mem_append.mp hy with hy | hy
    · have := hM y hy; omega
    · simp at hy; rw [hy]; exact hx
  · intro y
    rw [List.mem_append, List.mem_append, List.mem_singleton, List.mem_singleton, h.mem y, take_mem hk]
    constructor
    · rintro (((⟨a, b⟩ | b) | h1) | h1)
      · exact .inl ⟨.inl a, b⟩
      · simp at b
      · exact .inr ⟨rfl, h1⟩
      · exact .inl ⟨.inr h1, by rw [h1]; omega⟩
    · rintro (⟨a | a, b⟩ | ⟨_, a⟩)
      · exact .inl (.inl (.inl ⟨a, b⟩))
      · exact .inr a
      · exact .inl (.inr a)
  · intro _ y hy; have := d1 y hy; omega
  · have := h.lenF rfl; simp; omega
/-- It is laid in the place of the one of that number. -/
theorem LdI.put1 {L : List Pr} {p : Pr} {k : Nat} {M : List Pr} (h : LdI L p k false M) (hr : Rise L) (hk : k < L.length) (hx : (L.getD k Pr.zero).pid = p.pid) : LdI L p (k + 1) true (M ++ [p]) := by
  obtain ⟨d1, d2, d3, d4⟩ := drop_mem hr hk
  have hM : ∀ y ∈ M, y.pid < p.pid := fun y hy => by
    rcases (h.mem y).mp hy with h1 | h1
    · exact h.lo rfl y h1.1
    · simp at h1
  refine ⟨rise_app h.rise hM, ?_, by simp, ?_, ?_, by simp⟩
  · intro y
    rw [List.mem_append, List.mem_singleton, h.mem y, take_mem hk]
    constructor
    · rintro ((⟨a, b⟩ | b) | h1)
      · exact .inl ⟨.inl a, b⟩
      · simp at b
      · exact .inr ⟨rfl, h1⟩
    · rintro (⟨a | a, b⟩ | ⟨_, a⟩)
      · exact .inl (.inl ⟨a, b⟩)
      · exact absurd (by rw [a, hx]) b
      · exact .inr a
  · intro _ y hy; have := d1 y hy; omega
  · have := h.lenF rfl; simp; omega
/-- The next one, behind the others. -/
theorem LdI.next {L : List Pr} {p : Pr} {k : Nat} {d : Bool} {M : List Pr} (h : LdI L p k d M) (hr : Rise L) (hk : k < L.length) (hx : d = false → (L.getD k Pr.zero).pid < p.pid) : LdI L p (k + 1) d (M ++ [L.getD k Pr.zero]) := by
  obtain ⟨d1, d2, d3, d4⟩ := drop_mem hr hk
  have hne : (L.getD k Pr.zero).pid ≠ p.pid := by
    cases hd : d with
    | false => have := hx hd; omega
    | true => have := h.hi hd _ d3; omega
  refine ⟨rise_app h.rise fun y hy => ?_, ?_, ?_, fun hd y hy => h.hi hd y (d4 y hy), ?_, fun hd => by have := h.lenF hd; simp; omega⟩
  · rcases (h.mem y).mp hy with ⟨a, _⟩ | ⟨a, b⟩
    · exact d2 y a
    · rw [b]; exact h.hi a _ d3
  · intro y
    rw [List.mem_append, List.mem_singleton, h.mem y, take_mem hk]
    constructor
    · rintro ((⟨a, b⟩ | b) | h1)
      · exact .inl ⟨.inl a, b⟩
      · exact .inr b
      · exact .inl ⟨.inr h1, by rw [h1]; exact hne⟩
    · rintro (⟨a | a, b⟩ | a)
      · exact .inl (.inl ⟨a, b⟩)
      · exact .inr a
      · exact .inl (.inr a)
  · intro hd y hy
    rcases (take_mem hk y).mp hy with a | a
    · exact h.lo hd y a
    · rw [a]; exact hx hd
  · have := h.len; simp; omega
theorem LdI.done {L : List Pr} {p : Pr} {M : List Pr} (h : LdI L p L.length true M) (hr : Rise L) : M = layP L p := by
  refine rise_ext h.rise (rise_layP hr p) fun y => ?_
  rw [h.mem, List.take_length, mem_layP]
  constructor
  · rintro (a | ⟨_, a⟩)
    · exact .inr a
    · exact .inl a
  · rintro (a | a)
    · exact .inr ⟨rfl, a⟩
    · exact .inl a
theorem LdI.last {L : List Pr} {p : Pr} {M : List Pr} (h : LdI L p L.length false M) (hr : Rise L) : M ++ [p] = layP L p := by
  have hM : ∀ y ∈ M, y.pid < p.pid := fun y hy => by
    rcases (h.mem y).mp hy with h1 | h1
    · exact h.lo rfl y h1.1
    · simp at h1
  refine rise_ext (rise_app h.rise hM) (rise_layP hr p) fun y => ?_
  rw [List.mem_append, List.mem_singleton, h.mem, List.take_length, mem_layP]
  constructor
  · rintro ((a | ⟨a, _⟩) | a)
    · exact .inr a
    · simp at a
    · exact .inl a
  · rintro (a | a)
    · exact .inr a
    · exact .inl (.inl a)
end Go.Proofs.YtlbofjeopbadhaaDoor
