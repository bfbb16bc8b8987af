import Derived.Test.YtklfmgkfcacfkaaRw2
/-! The document's Encode. -/
namespace Go.Proofs.Ytklfmgkfcacfkaa
open Go.RowKit Plain
set_option linter.unusedVariables false
set_option linter.unusedSimpArgs false

theorem tlen_c3 : ∀ (tg sg : List Tg) (m : Nat), tg.map Tg.c3 = sg.map Tg.c3 → tlen tg m = tlen sg m
  | [], [], _, _ => rfl
  | [], _ :: _, _, h => by simp at h
  | _ :: _, [], _, h => by simp at h
  | t :: tg, s :: sg, m, h => by
    simp only [List.map_cons, List.cons.injEq, Tg.c3, Prod.mk.injEq] at h
    obtain ⟨⟨h1, h2, h3⟩, h4⟩ := h
    have e1 : t.right m = s.right m := by unfold Tg.right; rw [h1, h2, h3]
    have e2 : t.add = s.add := by unfold Tg.add; rw [h1, h3]
    simp only [tlen]
    rw [e1, e2, tlen_c3 tg sg _ h4]
theorem Sims.tlen {tg : List Tg} {ts : List Tk} (h : Sims tg ts) (m : Nat) : Go.Proofs.Ytklfmgkfcacfkaa.tlen tg m = Go.Proofs.Ytklfmgkfcacfkaa.tlen (ts.map Tk.g) m := by
  refine tlen_c3 _ _ m ?_
  rw [List.map_map]
  exact h
theorem PreP.full {l : List Nat} {ts : List Tk} {i : Nat} (h : PreP l ts i) : ∀ g b, Tk.lit g b ∈ ts → b ≠ [] := by
  induction h using PreP.ind with
  | nil => simp
  | lit h hlast hb hi he hn ih =>
    intro g b hm
    rcases List.mem_append.mp hm with h1 | h1
    · exact ih g b h1
    · rw [List.mem_singleton] at h1
      simp at h1
      rw [h1.2]
      exact hb
  | mat h hn hb ih =>
    intro g b hm
    rcases List.mem_append.mp hm with h1 | h1
    · exact ih g b h1
    · rw [List.mem_singleton] at h1
      simp at h1

end Go.Proofs.Ytklfmgkfcacfkaa
