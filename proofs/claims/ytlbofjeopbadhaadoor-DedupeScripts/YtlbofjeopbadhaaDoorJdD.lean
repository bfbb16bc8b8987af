import Derived.Test.YtlbofjeopbadhaaDoorJdC
import Derived.Test.YtlbofjeopbadhaaDoorJy
import Derived.Test.YtlbofjeopbadhaaDoorJsto
/-! dedupe: the program's table beside the document's. -/
namespace Go.Proofs.YtlbofjeopbadhaaDoor
open Go.RowKit Go.Maps Plain
set_option linter.unusedVariables false
set_option linter.unusedSimpArgs false

theorem OwnPr.of_block {w w' : World} {v : Value} {ts : List Pr} {r : Option Nat} (h : OwnPr w v ts r) (hb : ∀ g, r = some g → w'.heap[g]? = w.heap[g]?) (hs : w.heap.size ≤ w'.heap.size) : OwnPr w' v ts r := by
  rcases h with h0 | ⟨g, cap, rfl, rfl, hg, h1, h2, h3, h4, h5⟩
  · exact .inl h0
  · have hb := hb g rfl
    refine .inr ⟨g, cap, rfl, rfl, Nat.lt_of_lt_of_le hg hs, h1, h2, fun j hj => ?_, fun j hj => ?_, fun j hj => ?_⟩
    · rw [World.frozen?_of_block (w := w) (a := ⟨g, j, none⟩) hb]; exact h3 j hj
    · rw [World.cell?_of_block (w := w) (a := ⟨g, j, none⟩) hb]; exact h4 j hj
    · rw [World.cell?_of_block (w := w) (a := ⟨g, j, none⟩) hb]; exact h5 j hj
theorem RTab.of_block {w w' : World} {t : Nat} {v : Value} {L : List Pr} {r : Option Nat} (h : RTab w t v L r) (ht : w'.heap[t]? = w.heap[t]?) (hr : ∀ g, r = some g → w'.heap[g]? = w.heap[g]?) (hs : w.heap.size ≤ w'.heap.size) : RTab w' t v L r :=
  ⟨(World.cell?_of_block (w := w) (a := ⟨t, 0, none⟩) ht).trans h.cell, (World.frozen?_of_block (w := w) (a := ⟨t, 0, none⟩) ht).trans h.froz, h.row.of_block hr hs, h.tab, h.ne⟩
theorem RTab.rlt {w : World} {t : Nat} {v : Value} {L : List Pr} {r : Option Nat} (h : RTab w t v L r) : ∀ g, r = some g → g < w.heap.size := fun g e => by
  have := h.row
  rw [e] at this
  exact this.lt
/-- Both tables behind the world W. -/
structure Two (W w : World) (t : Nat) (m : Option Nat) (t2 : Nat) (v : Value) (r : Option Nat) (La Lb : List Pr) : Prop where
  ta : TabAt w t m La
  tb : RTab w t2 v Lb r
  ne : t ≠ t2
  rt : r ≠ some t
  mt : m ≠ some t2
  mr : ∀ b, m = some b → r ≠ some b
  g1 : W.heap.size ≤ t
  g2 : W.heap.size ≤ t2
  n1 : ∀ b, m = some b → W.heap.size ≤ b
  n2 : ∀ b, r = some b → W.heap.size ≤ b
  below : Below W.heap.size W w
theorem Two.later {W w w' : World} {t t2 : Nat} {m r : Option Nat} {v : Value} {La Lb : List Pr} (h : Two W w t m t2 v r La Lb) (hb : Below w.heap.size w w') : Two W w' t m t2 v r La Lb :=
  ⟨h.ta.later hb, h.tb.later hb, h.ne, h.rt, h.mt, h.mr, h.g1, h.g2, h.n1, h.n2, h.below.trans (hb.mono h.below.size)⟩
theorem Two.noteA {W w : World} {t t2 : Nat} {m r : Option Nat} {v : Value} {La Lb : List Pr} (h : Two W w t m t2 v r La Lb) (hF : Refs W) (pid seq off : Int) (hp : I64 pid) (hs : I64 seq) (ho : I64 off) :
    Calls Tryd.prog 9 #[.pointer (some ⟨t, 0, none⟩), .int .i64 pid, .int .i64 seq, .int .i64 off] w fun e w' => e = .returned (.int .i64 (noteE La pid seq off)) ∧ (∃ m', Two W w' t m' t2 v r (noteL La pid seq off) Lb) ∧ Chg (foot t m) w w' := by
  refine (noteOf t m La pid seq off w h.ta (hF.later h.below) hp hs ho).mono ?_
  rintro e w' ⟨rfl, m', h1, h2, h3⟩
  have hsz := h.below.size
  have hb2 : RTab w' t2 v Lb r := h.tb.of_block (h2.block t2 h.tb.lt (fun e => by
      rcases e with e | e
      · exact h.ne e.symm
      · exact h.mt e)) (fun g e => h2.block g (h.tb.rlt g e) (fun e2 => by
      rcases e2 with e2 | e2
      · exact h.rt (by rw [e, e2])
      · exact h.mr g e2 e)) h2.size
  refine ⟨rfl, ⟨m', h1, hb2, h.ne, h.rt, ?_, ?_, h.g1, h.g2, ?_, h.n2, ?_⟩, h2⟩
  · rcases h3 with rfl | ⟨_, b, rfl, hb⟩
    · exact h.mt
    · intro e; injection e with e; have := h.tb.lt; omega
  · rcases h3 with rfl | ⟨_, b, rfl, hb⟩
    · exact h.mr
    · intro b' e e2; cases e; have := h.tb.rlt _ e2; omega
  · rcases h3 with rfl | ⟨_, b, rfl, hb⟩
    · exact h.n1
    · intro b' e; cases e; omega
  · exact h.below.trans (h2.below hsz (fun x hx => by
      rcases hx with rfl | e
      · exact h.g1
      · exact h.n1 _ e))
theorem Two.noteB {W w : World} {t t2 : Nat} {m r : Option Nat} {v : Value} {La Lb : List Pr} (h : Two W w t m t2 v r La Lb) (pid seq off : Int) (hp : I64 pid) (hs : I64 seq) (ho : I64 off) :
    Calls Tryd.prog 39 #[.pointer (some ⟨t2, 0, none⟩), .int .i64 pid, .int .i64 seq, .int .i64 off] w fun e w' => e = .returned (.int .i64 (noteE Lb pid seq off)) ∧ (∃ v' r', Two W w' t m t2 v' r' La (noteL Lb pid seq off)) ∧ Chg (fun k => k = t2) w w' := by
  refine (rnoteOf t2 v Lb r pid seq off w h.tb hp hs ho).mono ?_
  rintro e w' ⟨rfl, v', r', h1, h2, h3⟩
  have hsz := h.below.size
  refine ⟨rfl, ⟨v', r', h.ta.of_block (h2.block t h.ta.lt (fun e => h.ne e)) (fun b e => h2.block b (h.ta.mlt b e) (fun e2 => h.mt (by rw [e, e2]))), h1, h.ne, ?_, h.mt, ?_, h.g1, h.g2, h.n1, ?_, ?_⟩, h2⟩
  · rcases h3 with rfl | h3
    · exact h.rt
    · intro e; have := h3 t e; have := h.ta.lt; omega
  · rcases h3 with rfl | h3
    · exact h.mr
    · intro b e e2; have := h3 b e2; have := h.ta.mlt b e; omega
  · rcases h3 with rfl | h3
    · exact h.n2
    · intro b e; have := h3 b e; omega
  · exact h.below.trans (h2.below hsz (fun x hx => by rw [hx]; exact h.g2))
/-- Both clones. -/
theorem Two.clones {w0 w1 w2 : World} {c q : Nat} {m r : Option Nat} {v : Value} {L : List Pr} (h1 : NewAt w0 w1 c m L) (h2 : RNew w1 w2 q v L r) : Two w0 w2 c m q v r L L := by
  have hs := h1.below.size
  have hc := h1.tab.lt
  refine ⟨h1.tab.later h2.below, h2.tab, by have := h2.tb; omega, fun e => by have := h2.rb c e; omega, fun e => by have := h1.tab.mlt q e; have := h2.tb; omega, fun b e e2 => by have := h1.tab.mlt b e; have := h2.rb b e2; omega, h1.tb, by have := h2.tb; omega, h1.mb, fun b e => by have := h2.rb b e; omega, below_step h1.below h2.below⟩
/-- The lists of both, held against each other. -/
theorem Two.lists {W w : World} {t t2 : Nat} {m r : Option Nat} {v : Value} {L : List Pr} (h : Two W w t m t2 v r L L) : TabL L := h.ta.tab
end Go.Proofs.YtlbofjeopbadhaaDoor
