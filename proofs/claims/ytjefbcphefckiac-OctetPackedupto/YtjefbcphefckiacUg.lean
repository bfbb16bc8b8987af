import Derived.Test.YtjefbcphefckiacUf
/-! Items are unpacked: the document's answer. -/
namespace Go.Proofs.Ytjefbcphefckiac
open Go.RowKit Plain
set_option linter.unusedVariables false

theorem unpackAny (vk vb : Value) (ks : List Int) (most : Int) (l : List Nat) (w : World) (hk : IntsAt w vk ks) (hb : BytesAt w vb l) (hl : l.length ≤ 140737488351232) (hkl : ks.length ≤ 1099511627776) (hm1 : -9223372036854775808 ≤ most) (hm2 : most ≤ 9223372036854775807) :
    Calls Try.prog 6 #[vk, .int .i64 most, vb] w fun e w' => ∃ v' r', e = .returned (.tuple #[v', .agg #[.int .i64 (upE ks most l), .int .i64 (upP ks most l)]]) ∧ OwnI w' v' (upItems ks most l) r' ∧ (∀ q, r' = some q → w.heap.size ≤ q) ∧ Below w.heap.size w w' := by
  cases hok : ks.all kindOk with
  | true => exact unpackGood vk vb ks most l w hk hb hl hkl hm1 hm2 hok
  | false =>
    refine (unpackBad vk vb ks most l w hk hok).mono ?_
    rintro e w' ⟨rfl, h⟩
    refine ⟨.slice none 0 0, none, ?_, ?_, by simp, h⟩
    · simp [upE, upP, hok]
    · simp [upItems, hok]
      exact .inl ⟨rfl, rfl, rfl⟩

theorem QA.low {w w' : World} {b g B : Nat} {s : Rs} (h : QA w b s (some g)) (k : Below B w w') (hb : b < B) (hg : g < B) : QA w' b s (some g) := by
  have hbl := k.block b hb
  have hgl := k.block g hg
  rcases h with ⟨h0, dv, h⟩ | ⟨h0, dv, h⟩
  · exact .inl ⟨h0, dv, h.kept k.size hbl (fun q hq => by simp at hq; subst hq; exact hgl)⟩
  · exact .inr ⟨h0, dv, h.kept k.size hbl (fun q hq => by simp at hq; subst hq; exact hgl)⟩

/-- A reader of the document's, and a row of items beside it. -/
structure Rf2 (S : Nat) (W wr : World) (b g : Nat) (v : Value) (ts : List It) (s : Rs) : Prop where
  qa : QA wr b s (some g)
  bl : S < b
  ow : ∃ q, OwnI wr v ts q ∧ ∀ g', q = some g' → S < g' ∧ g' ≠ b ∧ g' ≠ g
  be : Below (S + 1) W wr
  sz : S + 1 ≤ wr.heap.size

/-- A round: the item's box is new, the reader's block was written, the row is longer. -/
theorem Rf2.next {S : Nat} {W wr w1 w2 : World} {b g : Nat} {v v2 : Value} {ts ts2 : List It} {s s2 : Rs} {q : Option Nat} {q2 : Nat} (h : Rf2 S W wr b g v ts s) (hq1 : QA w1 b s2 (some g)) (hg : wr.grownBy w1 (some b)) (hq : ∀ g', q = some g' → S < g' ∧ g' ≠ b ∧ g' ≠ g)
    (ho2 : OwnI w2 v2 ts2 (some q2)) (hg2 : w1.grownBy w2 q) (hq2 : some q2 = q ∨ w1.heap.size ≤ q2) : Rf2 S W w2 b g v2 ts2 s2 := by
  have e1 := hg.size
  have e2 := hg2.size
  have e3 := hq1.lt
  have e4 := hq1.glt
  have e5 := h.sz
  refine ⟨hq1.kept hg2 (fun e => (hq b e.symm).2.1 rfl) (fun g' hg' e => by simp at hg'; subst hg'; exact (hq g e.symm).2.2 rfl), h.bl, ⟨some q2, ho2, fun g' hg' => ?_⟩, ?_, by omega⟩
  · simp at hg'
    subst hg'
    rcases hq2 with h2 | h2
    · exact hq q2 h2.symm
    · omega
  · exact (h.be.trans (grow_below hg h.sz (fun g' hg' => by have := h.bl; simp at hg'; omega))).trans (grow_below hg2 (by omega) (fun g' hg' => by have := (hq g' hg').1; omega))
end Go.Proofs.Ytjefbcphefckiac
