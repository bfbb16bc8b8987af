import Derived.Test.YtgffncbmchimdaaSfU
/-! SetQuota. -/
namespace Go.Proofs.Ytgffncbmchimdaa
open Go.RowKit Go.Maps Plain
set_option linter.unusedVariables false
set_option linter.unusedSimpArgs false
set_option maxRecDepth 1000000

def Dk.quotas (k : Dk) (q : Int) : Dk := { k with quota := q }
theorem quotaSt {S : Nat → Prop} {w w1 : World} {d : Nat} {k : Dk} (h : St S w d k w1) (u : Int) : St S w d (k.quotas u) (w1.setCell ⟨d, 4, none⟩ (.int .i64 u)) := by
  obtain ⟨⟨ms, md, vc, rc, Sf, hm, hS1, hS2, hS3⟩, hc⟩ := h
  have hg := grow_set w1 d 4 (.int .i64 u)
  have hsz : (w1.setCell ⟨d, 4, none⟩ (.int .i64 u)).heap.size = w1.heap.size := by simp
  have keep : ∀ x, x < w1.heap.size → x ≠ d → (w1.setCell ⟨d, 4, none⟩ (.int .i64 u)).heap[x]? = w1.heap[x]? := fun x hx h1 => hg.block x hx (by simpa using h1)
  have hE : ∀ x, Ext S w w1 x → Ext S w (w1.setCell ⟨d, 4, none⟩ (.int .i64 u)) x := fun x hx => by
    rcases hx with hx | hx
    · exact .inl hx
    · exact .inr ⟨hx.1, by omega⟩
  have hdS : S d ∨ w.heap.size ≤ d := by
    rcases hS1 d (.inl rfl) with h | h
    · exact .inl h
    · exact .inr h.1
  refine ⟨⟨ms, md, vc, rc, Sf, ⟨dset hm.cells 4 _, hm.seen.of_block (fun b e => keep b (hm.seen.rlt b e) (hm.sepS b e).1), hm.dur.of_block (fun b e => keep b (hm.dur.rlt b e) (hm.sepD b e).1), hm.chg.of_block hg.size (fun b e => keep b (hm.chg.rlt b e) (hm.sepC b e)), fun G hG => (hm.files G hG).frame hg.size (fun x hx => keep x ((hm.files G hG).live x hx) (hm.sepF G hG x hx).1), hm.sepS, hm.sepD, hm.sepC, hm.sepF, hm.sepFF⟩, fun x hx => hE x (hS1 x hx), fun G x hG hx => hE x (hS2 G x hG hx), fun x hx => ?_⟩, hc.grown hg (fun g e => by simp at e; subst e; exact hdS)⟩
  rcases hx with hx | hx
  · have := hS3 x (.inl hx); omega
  · exact hx.2
end Go.Proofs.Ytgffncbmchimdaa
