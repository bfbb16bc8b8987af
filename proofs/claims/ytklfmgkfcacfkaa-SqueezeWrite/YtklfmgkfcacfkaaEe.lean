import Derived.Test.YtklfmgkfcacfkaaEc
import Derived.Test.YtklfmgkfcacfkaaEd
/-! What Expand answers, of both. -/
namespace Go.Proofs.Ytklfmgkfcacfkaa
open Go.RowKit Plain
set_option linter.unusedVariables false
set_option linter.unusedSimpArgs false

theorem expdC (tg sg : List Tg) (h : tg.map Tg.c3 = sg.map Tg.c3) : expd tg = expd sg := by
  have key : ∀ (tg sg : List Tg) (x : List Nat), tg.map Tg.c3 = sg.map Tg.c3 → tg.foldl Tg.grow x = sg.foldl Tg.grow x := by
    intro tg
    induction tg with
    | nil =>
      intro sg x h
      cases sg with
      | nil => rfl
      | cons s sg => simp at h
    | cons t tg ih =>
      intro sg x h
      cases sg with
      | nil => simp at h
      | cons s sg =>
        simp only [List.map_cons, List.cons.injEq, Tg.c3, Prod.mk.injEq] at h
        obtain ⟨⟨h1, h2, h3⟩, h4⟩ := h
        have e : Tg.grow x t = Tg.grow x s := by unfold Tg.grow; rw [h1, h2, h3]
        rw [List.foldl_cons, List.foldl_cons, e]
        exact ih sg _ h4
  exact key tg sg [] h
/-- What bytes are answered, and which error. -/
def BytPost (R : List Nat → Int → Prop) (w : World) : Ending → World → Prop := fun e w' => ∃ v r X z, e = .returned (.tuple #[v, .int .i64 z]) ∧ R X z ∧ Own w' v X r ∧ (∀ g, r = some g → w.heap.size ≤ g) ∧ Below w.heap.size w w'
def ExpIs (tg : List Tg) (X : List Nat) (z : Int) : Prop := z = (((tlen tg 0).2 : Nat) : Int) ∧ ((tlen tg 0).2 = 0 → X = expd tg ∧ X.length ≤ 4096) ∧ ((tlen tg 0).2 ≠ 0 → X = [])
theorem ExpIs.one {tg sg : List Tg} {X Y : List Nat} {y z : Int} (hc : tg.map Tg.c3 = sg.map Tg.c3) (h : ExpIs tg X y) (k : ExpIs sg Y z) : X = Y ∧ y = z := by
  obtain ⟨h1, h2, h3⟩ := h
  obtain ⟨k1, k2, k3⟩ := k
  have e := tlen_c3 tg sg 0 hc
  rw [e] at h1 h2 h3
  refine ⟨?_, h1.trans k1.symm⟩
  by_cases h0 : (tlen sg 0).2 = 0
  · rw [(h2 h0).1, (k2 h0).1]; exact expdC tg sg hc
  · rw [h3 h0, k3 h0]
theorem ExpIs.len {tg : List Tg} {X : List Nat} {z : Int} (h : ExpIs tg X z) : X.length ≤ 140737488351232 := by
  by_cases h0 : (tlen tg 0).2 = 0
  · have := (h.2.1 h0).2; omega
  · rw [h.2.2 h0]; simp
theorem tlen_4096 (tg : List Tg) (h : (tlen tg 0).2 = 0) : (tlen tg 0).1 ≤ 4096 := (tlen_fine tg 0 (by omega) h).2.1
theorem expandAll (sv : Value) (tg : List Tg) (w : World) (h : TRd w sv tg) : Calls Try.prog 14 #[sv] w (BytPost (ExpIs tg) w) := by
  by_cases h0 : (tlen tg 0).2 = 0
  · refine (expandOf sv tg w h h0 (tlen_4096 tg h0)).mono ?_
    rintro e w' ⟨g, cap, rfl, h1, h2, h3, h4⟩
    exact ⟨_, some g, expd tg, 0, rfl, ⟨by rw [h0]; rfl, fun _ => ⟨rfl, by rw [h4]; exact tlen_4096 tg h0⟩, fun hx => absurd h0 hx⟩, h1, fun x hx => by simp at hx; omega, h3⟩
  · refine (expandBad sv tg w h h0).mono ?_
    rintro e w' ⟨rfl, h1⟩
    exact ⟨_, none, [], _, rfl, ⟨rfl, fun hx => absurd hx h0, fun _ => rfl⟩, Own.nil _, by simp, h1⟩
theorem refExpandAll (sv : Value) (tg : List Tg) (w : World) (h : TRd w sv tg) : Calls Try.prog 12 #[sv] w (BytPost (ExpIs tg) w) := by
  refine (refExpand sv tg w h).mono ?_
  rintro e w' ⟨⟨h0, rfl⟩ | ⟨h0, v, r, rfl, h1, h2, h3⟩, hb⟩
  · exact ⟨_, none, [], _, rfl, ⟨rfl, fun hx => absurd hx h0, fun _ => rfl⟩, Own.nil _, by simp, hb⟩
  · exact ⟨v, r, expd tg, 0, rfl, ⟨by rw [h0]; rfl, fun _ => ⟨rfl, by rw [h3]; exact tlen_4096 tg h0⟩, fun hx => absurd h0 hx⟩, h1, h2, hb⟩
theorem take_drop_set (tw ts : List Tg) (i : Nat) (t : Tg) (hi : i < tw.length) (ht : tw[i]? = some t) (hl : tw.length ≤ ts.length) : (tw.take i ++ ts.drop i).set i t = tw.take (i + 1) ++ ts.drop (i + 1) := by
  have e : (tw.take i).length = i := by simp; omega
  rw [List.getElem?_eq_getElem hi] at ht
  simp only [Option.some.injEq] at ht
  rw [List.set_append_right _ _ (by omega), e, Nat.sub_self, List.drop_eq_getElem_cons (by omega), List.set_cons_zero, List.take_succ_eq_append_getElem hi, ht, List.append_assoc]
  rfl
end Go.Proofs.Ytklfmgkfcacfkaa
