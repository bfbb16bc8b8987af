import Derived.Test.YtlbofjeopbadhaaDoorJn
import Derived.Test.YtlbofjeopbadhaaDoorJtro
/-! dedupe: three tables. -/
namespace Go.Proofs.YtlbofjeopbadhaaDoor
open Go.RowKit Go.Maps Plain
set_option linter.unusedVariables false
set_option linter.unusedSimpArgs false

/-- Two maps, if both are there, are not one. -/
def mAp (m m' : Option Nat) : Prop := ∀ b, m = some b → m' ≠ some b
theorem mAp.symm {m m' : Option Nat} (h : mAp m m') : mAp m' m := fun b e e2 => h b e2 e
/-- Three tables behind the world W. -/
structure Tri (W w : World) (t r c : Nat) (m1 m2 m3 : Option Nat) (L1 L2 L3 : List Pr) : Prop where
  ta : TabAt w t m1 L1
  tb : TabAt w r m2 L2
  tcc : TabAt w c m3 L3
  tr : t ≠ r
  tc : t ≠ c
  rc : r ≠ c
  m12 : mAp m1 m2
  m13 : mAp m1 m3
  m23 : mAp m2 m3
  g1 : W.heap.size ≤ t
  g2 : W.heap.size ≤ r
  g3 : W.heap.size ≤ c
  n1 : ∀ b, m1 = some b → W.heap.size ≤ b
  n2 : ∀ b, m2 = some b → W.heap.size ≤ b
  n3 : ∀ b, m3 = some b → W.heap.size ≤ b
  below : Below W.heap.size W w
theorem Tri.swap12 {W w : World} {t r c : Nat} {m1 m2 m3 : Option Nat} {L1 L2 L3 : List Pr} (h : Tri W w t r c m1 m2 m3 L1 L2 L3) : Tri W w r t c m2 m1 m3 L2 L1 L3 :=
  ⟨h.tb, h.ta, h.tcc, h.tr.symm, h.rc, h.tc, h.m12.symm, h.m23, h.m13, h.g2, h.g1, h.g3, h.n2, h.n1, h.n3, h.below⟩
theorem Tri.swap13 {W w : World} {t r c : Nat} {m1 m2 m3 : Option Nat} {L1 L2 L3 : List Pr} (h : Tri W w t r c m1 m2 m3 L1 L2 L3) : Tri W w c r t m3 m2 m1 L3 L2 L1 :=
  ⟨h.tcc, h.tb, h.ta, h.rc.symm, h.tc.symm, h.tr.symm, h.m23.symm, h.m13.symm, h.m12.symm, h.g3, h.g2, h.g1, h.n3, h.n2, h.n1, h.below⟩
theorem Tri.later {W w w' : World} {t r c : Nat} {m1 m2 m3 : Option Nat} {L1 L2 L3 : List Pr} (h : Tri W w t r c m1 m2 m3 L1 L2 L3) (hb : Below w.heap.size w w') : Tri W w' t r c m1 m2 m3 L1 L2 L3 :=
  ⟨h.ta.later hb, h.tb.later hb, h.tcc.later hb, h.tr, h.tc, h.rc, h.m12, h.m13, h.m23, h.g1, h.g2, h.g3, h.n1, h.n2, h.n3, h.below.trans (hb.mono h.below.size)⟩
theorem Tri.note {W w : World} {t r c : Nat} {m1 m2 m3 : Option Nat} {L1 L2 L3 : List Pr} (h : Tri W w t r c m1 m2 m3 L1 L2 L3) (hF : Refs W) (pid seq off : Int) (hp : I64 pid) (hs : I64 seq) (ho : I64 off) :
    Calls Tryd.prog 9 #[.pointer (some ⟨t, 0, none⟩), .int .i64 pid, .int .i64 seq, .int .i64 off] w fun e w' => e = .returned (.int .i64 (noteE L1 pid seq off)) ∧ ∃ m1', Tri W w' t r c m1' m2 m3 (noteL L1 pid seq off) L2 L3 := by
  refine (noteOf t m1 L1 pid seq off w h.ta (hF.later h.below) hp hs ho).mono ?_
  rintro e w' ⟨rfl, m', h1, h2, h3⟩
  have hsz := h.below.size
  refine ⟨rfl, m', h1, h.ta.apart h.tb h2 h.tr.symm h.m12.symm, h.ta.apart h.tcc h2 h.tc.symm h.m13.symm, h.tr, h.tc, h.rc, ?_, ?_, h.m23, h.g1, h.g2, h.g3, ?_, h.n2, h.n3, ?_⟩
  · rcases h3 with rfl | ⟨_, b, rfl, hb⟩
    · exact h.m12
    · intro b' e e2; cases e; have := h.tb.mlt _ e2; omega
  · rcases h3 with rfl | ⟨_, b, rfl, hb⟩
    · exact h.m13
    · intro b' e e2; cases e; have := h.tcc.mlt _ e2; omega
  · rcases h3 with rfl | ⟨_, b, rfl, hb⟩
    · exact h.n1
    · intro b' e; cases e; omega
  · exact h.below.trans (h2.below hsz (fun x hx => by
      rcases hx with rfl | e
      · exact h.g1
      · exact h.n1 _ e))
/-- An empty slice of producers. -/
theorem OwnPr.made (w : World) : OwnPr (w.alloc (.cells #[] 50)) (.slice (some ⟨w.heap.size, 0, none⟩) 0 0) [] (some w.heap.size) :=
  .inr ⟨w.heap.size, 0, rfl, rfl, by simp, by simp, by simp [maxLen], by simp, by simp, by simp⟩
end Go.Proofs.YtlbofjeopbadhaaDoor
