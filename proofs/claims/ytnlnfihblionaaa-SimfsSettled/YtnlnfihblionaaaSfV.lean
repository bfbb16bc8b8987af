import Derived.Test.YtnlnfihblionaaaSfU
/-! SetQuota. -/
namespace Go.Proofs.Ytnlnfihblionaaa
open Go.RowKit Go.Maps Plain
set_option linter.unusedVariables false
set_option linter.unusedSimpArgs false
set_option maxRecDepth 1000000

def Dk.quotas (k : Dk) (q : Int) : Dk := { k with quota := q }
theorem quotaSt {S : Nat → Prop} {w w1 : World} {d : Nat} {k : Dk} (h : St S w d k w1) (u : Int) : St S w d (k.quotas u) (w1.setCell ⟨d, 4, none⟩ (.int .i64 u)) := by
  obtain ⟨⟨ms, md, vc, rc, Sf, hm, hS1, hS2, hS3⟩, hc⟩ := h
  have hg := grow_set w1 d 4 (.int .i64 u)
  have hsz : (w1.setCell ⟨d, 4, none⟩ (.int .i64 u)).heap.size = w1.heap.size := by simp
  have keep : ∀ x, x < w1.heap.size → x ≠ d → (w1.setCell ⟨d, 4, none⟩ (.int .i64 u)).heap[x]? = w1.heap[x]? := fun x hx h1 => hg.block x hx (by simpa using h1)
  have hE : ∀ x, Ext S w w1 x → Ext S w (w1.setCell ⟨d, 4, none⟩ (.int .i64 u)) x := fun x hx => by
    rcases hx with hx | hx
    · exact .inl hx
    · exact .inr ⟨hx.1, by omega⟩
  have hdS : S d ∨ w.heap.size ≤ d := by
    rcases hS1 d (.inl rfl) with h | h
    · exact .inl h
    · exact .inr h.1
  refine ⟨⟨ms, md, vc, rc, Sf, ⟨dset hm.cells 4 _, hm.seen.of_block (fun b e => keep b (hm.seen.rlt b e) (hm.sepS b e).1), hm.dur.of_block (fun b e => keep b (hm.dur.rlt b e) (hm.sepD b e).1), hm.chg.of_block hg.size (fun b e => keep b (hm.chg.rlt b e) (hm.sepC b e)), fun G hG => (hm.files G hG).frame hg.size (fun x hx => keep x ((hm.files G hG).live x hx) (hm.sepF G hG x hx).1), hm.sepS, hm.sepD, hm.sepC, hm.sepF, hm.sepFF⟩, fun x hx => hE x (hS1 x hx), fun G x hG hx => hE x (hS2 G x hG hx), fun x hx => ?_⟩, hc.grown hg (fun g e => by simp at e; subst e; exact hdS)⟩
  rcases hx with hx | hx
  · have := hS3 x (.inl hx); omega
  · exact hx.2
theorem setqOf {S : Nat → Prop} {w w1 : World} {d : Nat} {k : Dk} (h : St S w d k w1) (q : Int) (hq1 : -9223372036854775808 ≤ q) (hq2 : q ≤ 9223372036854775807) : Calls Try.prog 19 #[.pointer (some ⟨d, 0, none⟩), .int .i64 q] w1 fun e w' => (qB q = true ∧ e = .returned (.int .i64 0) ∧ St S w d (k.quotas q) w') ∨ (qB q = false ∧ e = .returned (.int .i64 3) ∧ St S w d k w') := by
  have HS : Hid (St S w d k w1) := h
  have HQ : Hid (Calls Try.prog 49 #[.int .i64 q] w1 fun e w' => e = .returned (.bool (qB q)) ∧ w' = w1) := isQuotaOf q hq1 hq2 w1
  have HW : Hid (St S w d (k.quotas q) (w1.setCell ⟨d, 4, none⟩ (.int .i64 q))) := quotaSt h q
  obtain ⟨ms, md, vc, rc, Sf, hm⟩ := h.at
  obtain ⟨⟨_, _, _, _, c4, _, _, _, _⟩, ⟨_, _, _, _, z4, _, _, _, _⟩⟩ := dcells hm.cells
  clear hm h
  cases hb : qB q with
  | false =>
    rw [hb] at HQ
    clear hb
    go_enter Try.func19, Try.ntmps19
    go_wp2_with fail
    refine HQ.out.mono ?_
    rintro e w2 ⟨rfl, rfl⟩
    go_wp2
    go_ret
    exact .inr ⟨by trivial, rfl, HS.out⟩
  | true =>
    rw [hb] at HQ
    clear hb
    go_enter Try.func19, Try.ntmps19
    go_wp2_with fail
    refine HQ.out.mono ?_
    rintro e w2 ⟨rfl, rfl⟩
    go_wp2
    go_ret
    exact .inl ⟨by trivial, rfl, HW.out⟩
end Go.Proofs.Ytnlnfihblionaaa
