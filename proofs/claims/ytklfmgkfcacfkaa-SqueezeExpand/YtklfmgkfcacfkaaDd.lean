import Derived.Test.YtklfmgkfcacfkaaDc
namespace Go.Proofs.Ytklfmgkfcacfkaa
open Go.RowKit Plain
set_option linter.unusedVariables false
set_option linter.unusedSimpArgs false

/-- The bytes are the block of the text x. -/
def DecOk (l x : List Nat) : Prop := x.length ≤ 4096 ∧ ∃ ts, PreP x ts x.length ∧ l = blk x.length ts

theorem DecOk.sol {l x : List Nat} (h : DecOk l x) : ∃ ts, PreP x ts x.length ∧ Sol l x.length ts := by
  obtain ⟨h1, ts, h2, h3⟩ := h
  exact ⟨ts, h2, by rw [h3]; exact h2.sol h1⟩

theorem DecOk.unique {l x y : List Nat} (h : DecOk l x) (k : DecOk l y) : x = y := by
  obtain ⟨ts, h1, h2⟩ := h.sol
  obtain ⟨ss, k1, k2⟩ := k.sol
  obtain ⟨hn, hc⟩ := h2.unique k2
  have e1 := (h1.sound h.1).2
  have e2 := (k1.sound k.1).2
  rw [List.take_length] at e1 e2
  rw [← e1, ← e2]
  exact expd_c hc

end Go.Proofs.Ytklfmgkfcacfkaa
