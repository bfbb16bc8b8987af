import Derived.Test.YthfnbcicpcbgjaaKoe
import Derived.Sort.QuietIn
/-! Regions that draw their order, within a round. -/
namespace Go.Proofs.Ythfnbcicpcbgjaa
open Go.RowKit Go.Shelf Plain
set_option linter.unusedVariables false

/-- No operation of these puts a call off. -/
def noDefer (l : List Oper) : Bool := l.all fun o => match o.op with
  | .defer _ => false
  | _ => true
theorem noDefer_at {l : List Oper} (h : noDefer l = true) {i : Nat} {o : Oper} (ho : l.toArray[i]? = some o) : ∀ c, o.op ≠ .defer c := by
  intro c e
  have hm : o ∈ l := by
    rw [List.getElem?_toArray] at ho
    exact List.mem_of_getElem? ho
  have h1 := List.all_eq_true.mp h o hm
  rw [e] at h1
  cases h1
theorem uponIn_round {o : Oper} {n l : Nat} {a : Act} {K : Act → World → Prop} {Q : Exit → Act → World → Prop} {r : Result Next} (h : o.uponIn Fence.wide n Try.prog a K Q r) : o.uponIn (Fence.wide.inRound l) n Try.prog a K Q r := by
  unfold Oper.uponIn at h ⊢
  exact h
theorem wpAnyIn_round {ops : List Oper} {n l : Nat} {md : Region.Mode} {Q : Exit → Act → World → Prop} (hnd : noDefer ops = true) : ∀ (fuel : Nat) (listed : Array Bool) (a : Act) (w : World), wpAnyIn Fence.wide n Try.prog md ops.toArray Q fuel listed a w → wpAnyIn (Fence.wide.inRound l) n Try.prog md ops.toArray Q fuel listed a w
  | 0, _, _, _, h => h
  | fuel + 1, listed, a, w, h => by
    refine ⟨h.1, fun i hi => ?_⟩
    have h2 := h.2 i hi
    unfold wpOpIn at h2 ⊢
    cases ho : ops.toArray[i]? with
    | none =>
      simp only [ho] at h2 ⊢
      exact wpAnyIn_round hnd fuel _ _ _ h2
    | some o =>
      simp only [ho] at h2 ⊢
      by_cases hw : Region.wanted o (yielded ops.toArray a.tmps) = true
      · rw [if_pos hw] at h2 ⊢
        have h3 := Oper.wpIn_mono (fun a' w' hq => wpAnyIn_round (l := l) hnd fuel (listed.setIfInBounds i true) a' w' hq) h2
        refine ⟨h3.1, ?_⟩
        have h4 := h3.2
        rw [Oper.semAt_eq _ _ _ (noDefer_at hnd ho)] at h4 ⊢
        exact uponIn_round h4
      · rw [if_neg hw] at h2 ⊢
        exact ⟨h2.1, wpAnyIn_round hnd fuel _ _ _ h2.2⟩
/-- A region that only reads, within a round: one order serves all. -/
theorem quietRound {ops : List Oper} {id n l : Nat} {Q : Exit → Act → World → Prop} {a : Act} {w : World} (hm : Try.prog.follows .mixedOrders = true) (hB : Region.lexB .any ops.toArray = true) (hnd : noDefer ops = true)
    (h : wpQuietIn Fence.wide n Try.prog ops.toArray (fun w' => ∃ n, w' = w.drewN n) (fun a' => ∀ w', (∃ n, w' = w.drewN n) → Q .normal a' w') ops a) : (Code.region id ops.toArray true).wpIn (Fence.wide.inRound l) n Try.prog Q a w := by
  refine wpIn_region_any hm (wpAnyIn_round hnd _ _ _ _ ?_)
  refine wpAnyIn_of_quiet (C := fun w' => ∃ n, w' = w.drewN n) (Q := fun a' => ∀ w', (∃ n, w' = w.drewN n) → Q .normal a' w') rfl (fun _ w' hw' h => h w' hw') _ _ _ _ ⟨1, rfl⟩ ?_
  have hb := (Bool.and_eq_true _ _).mp hB
  have h5 := wpAnyQIn_lex (F := Fence.wide) (n := n) (md := .any) hb.1 ops 0 (Array.replicate ops.toArray.size false) a (fun j => by simp) (by simpa using hb.2) h
  simpa using h5
end Go.Proofs.Ythfnbcicpcbgjaa
