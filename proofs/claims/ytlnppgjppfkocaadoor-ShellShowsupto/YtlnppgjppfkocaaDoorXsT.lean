import Derived.Test.YtlnppgjppfkocaaDoorXsJ
import Derived.Test.YtlnppgjppfkocaaDoorXsT0
/-! Lines: the document's parts. -/
namespace Go.Proofs.YtlnppgjppfkocaaDoor.Xs
open Go.RowKit Plain
set_option linter.unusedVariables false
set_option linter.unusedSimpArgs false

def strs (l : List By) : List Value := l.map fun x => .string (ba x)
theorem strs_len (l : List By) : (strs l).length = l.length := by simp [strs]
theorem strs_app (l k : List By) : strs (l ++ k) = strs l ++ strs k := by simp [strs]
theorem strs_get {l : List By} {j : Nat} (h : j < l.length) : (strs l)[j]? = some (.string (ba (l.getD j []))) := by simp [strs, h]
/-- A row of texts that was made since the world W. -/
def Gt (W w : World) (v : Value) (l : List By) : Prop := ∃ r, OwnV w v (strs l) r ∧ (∀ g, r = some g → W.heap.size ≤ g) ∧ Below W.heap.size W w
theorem Gt.nil {W w : World} (h : Below W.heap.size W w) : Gt W w (.slice none 0 0) [] := ⟨none, OwnV.nil w, by simp, h⟩
theorem Gt.below {W w : World} {v : Value} {l : List By} (h : Gt W w v l) : Below W.heap.size W w := by
  obtain ⟨r, _, _, hb⟩ := h; exact hb
theorem ownV_later {w w' : World} {v : Value} {vs : List Value} {r : Option Nat} (h : OwnV w v vs r) (hb : Below w.heap.size w w') : OwnV w' v vs r := by
  cases r with
  | none => exact h.kept (below_grow hb none) (.inl rfl)
  | some g => exact h.kept (below_grow hb none) (.inr (by simp))
theorem Gt.later {W w w' : World} {v : Value} {l : List By} (h : Gt W w v l) (hb : Below w.heap.size w w') : Gt W w' v l := by
  obtain ⟨r, h1, h2, h3⟩ := h
  exact ⟨r, ownV_later h1 hb, h2, below_on h3 hb⟩
theorem Gt.slice {W w : World} {v : Value} {l : List By} (h : Gt W w v l) : ∃ a cap, v = .slice a l.length cap := by
  obtain ⟨r, h1, _, _⟩ := h
  rcases h1 with ⟨e, e2, _⟩ | ⟨g, cap, _, e, _⟩
  · have : l.length = 0 := by have := congrArg List.length e2; rwa [strs_len] at this
    exact ⟨none, 0, by rw [e, this]⟩
  · exact ⟨_, cap, by rw [e, strs_len]⟩
theorem Gt.reads {W w : World} {v : Value} {l : List By} (h : Gt W w v l) (hl : l.length ≤ 8796093022000) (hx : ∀ x ∈ l, x.length ≤ 1125899906842624) : NmsAt w v l := by
  obtain ⟨r, h1, _, _⟩ := h
  rcases h1 with ⟨e, e2, _⟩ | ⟨g, cap, _, e, _, k1, _, _, _, hc⟩
  · have h0 : l = [] := List.length_eq_zero_iff.1 (by have := congrArg List.length e2; rwa [strs_len] at this)
    subst h0
    exact ⟨none, 0, e, Nat.le_refl _, Nat.zero_le _, by simp, fun h => absurd rfl h⟩
  · refine ⟨_, cap, by rw [e, strs_len], by rw [strs_len] at k1; exact k1, hl, hx, fun _ => ⟨g, 0, rfl, fun j hj => ?_⟩⟩
    rw [Nat.zero_add, hc j (by rw [strs_len]; exact hj), strs_get hj]
theorem wpList_append_gt {ops : Array Oper} {rest : List Oper} {o : Oper} {a : Act} {Q : Exit → Act → World → Prop} {W : World} (w w1 : World) (hgd : o.guard = none) (s x : Operand)
    (ho : o.op = .call { callee := .builtin .append, args := #[s, x], argTypes := #[24, 24] }) (v xv : Value) (l : List By) (y : By)
    (hs : a.eval s = v) (hx : a.eval x = xv) (h : Gt W w v l) (hb1 : Below w.heap.size w w1) (hsrc : Src Tryd.prog 1 24 xv [Value.string (ba y)].length [Value.string (ba y)] w1) (hlen : l.length ≤ 8796093022000)
    (hK : ∀ v' w', Gt W w' v' (l ++ [y]) → wpList Tryd.prog ops Q rest (a.put o.dst v') w') : wpList Tryd.prog ops Q (o :: rest) a w1 := by
  obtain ⟨r, h1, h2, h3⟩ := h
  refine wpList_append_txs w1 hgd s x ho v xv (strs l) [.string (ba y)] r hs hx (ownV_later h1 hb1) hsrc (by rw [strs_len]; simp; omega) (.inr (by simp)) ?_
  intro v' w' g ho' hg' hr'
  refine hK v' w' ⟨some g, by rw [strs_app]; exact ho', fun g' e => ?_, ?_⟩
  · cases e
    rcases hr' with k | k
    · exact h2 g k.symm
    · rw [k]; exact Nat.le_trans h3.size hb1.size
  · exact (h3.trans (hb1.mono h3.size)).trans (grow_below hg' (Nat.le_trans h3.size hb1.size) h2)

/-! ### Parts, plainly -/
def Prt (s : By) (i : Nat) (q : Bool) (fr : Nat) (l : List By) : Prop := cutL false [] s = l ++ cutL q ((s.take i).drop fr) (s.drop i)
theorem Prt.start (s : By) : Prt s 0 false 0 [] := by unfold Prt; simp
theorem cur_snoc {s : By} {i fr : Nat} (h : i < s.length) (hf : fr ≤ i) : (s.take (i + 1)).drop fr = (s.take i).drop fr ++ [s.getD i 0] := by
  rw [take_at h, List.drop_append_of_le_length (by rw [List.length_take]; omega)]
theorem drop_at {s : By} {i : Nat} (h : i < s.length) : s.drop i = s.getD i 0 :: s.drop (i + 1) := by
  rw [List.drop_eq_getElem_cons h, List.getD_eq_getElem?_getD, List.getElem?_eq_getElem h]; rfl
theorem Prt.back {s : By} {i fr : Nat} {l : List By} (h : Prt s i true fr l) (hi : i < s.length) (hf : fr ≤ i) (hc : s.getD i 0 = 92) : Prt s (i + 2) true fr l := by
  unfold Prt at *
  rw [h, drop_at hi, hc]
  by_cases h1 : i + 1 < s.length
  · rw [drop_at h1, cut_esc, cur_snoc h1 (by omega), cur_snoc hi hf, hc]
    simp
  · have e1 : s.drop (i + 1) = [] := List.drop_eq_nil_of_le (by omega)
    have e2 : s.drop (i + 2) = [] := List.drop_eq_nil_of_le (by omega)
    have e3 : s.take (i + 2) = s.take (i + 1) := by rw [List.take_of_length_le (by omega), List.take_of_length_le (by omega)]
    rw [e1, e2, e3, cur_snoc hi hf, hc, cut_one, if_pos (.inr (.inl rfl)), cut_nil]
theorem Prt.quote {s : By} {i fr : Nat} {q : Bool} {l : List By} (h : Prt s i q fr l) (hi : i < s.length) (hf : fr ≤ i) (hc : s.getD i 0 = 34) : Prt s (i + 1) (!q) fr l := by
  unfold Prt at *
  rw [h, drop_at hi, cur_snoc hi hf, hc]
  cases q
  · rw [cut_quote]; rfl
  · rw [cut_unquote]; rfl
theorem Prt.blank {s : By} {i fr : Nat} {l : List By} (h : Prt s i false fr l) (hi : i < s.length) (hc : s.getD i 0 = 32) : Prt s (i + 1) false (i + 1) (l ++ [(s.take i).drop fr]) := by
  unfold Prt at *
  rw [h, drop_at hi, hc, cut_blank]
  have e : (s.take (i + 1)).drop (i + 1) = [] := List.drop_eq_nil_of_le (by rw [List.length_take]; omega)
  rw [e]
  simp
theorem Prt.other {s : By} {i fr : Nat} {q : Bool} {l : List By} (h : Prt s i q fr l) (hi : i < s.length) (hf : fr ≤ i) (h34 : s.getD i 0 ≠ 34) (h92 : q = true → s.getD i 0 ≠ 92) (h32 : q = false → s.getD i 0 ≠ 32) : Prt s (i + 1) q fr l := by
  unfold Prt at *
  rw [h, drop_at hi, cur_snoc hi hf]
  cases q
  · rw [cut_out _ _ _ h34 (h32 rfl)]
  · rw [cut_in _ _ _ h34 (h92 rfl)]
theorem Prt.done {s : By} {i fr : Nat} {q : Bool} {l : List By} (h : Prt s i q fr l) (hi : s.length ≤ i) : cutL false [] s = l ++ [s.drop fr] := by
  unfold Prt at h
  rw [h, List.drop_eq_nil_of_le hi, List.take_of_length_le hi, cut_nil]
theorem ba_sub {s : By} {i j : Nat} : (ba s).extract i j = ba ((s.take j).drop i) := by
  apply ByteArray.ext
  rw [ByteArray.data_extract]
  apply Array.ext'
  rw [Array.toList_extract]
  show (s.drop i).take (j - i) = (s.take j).drop i
  rw [List.drop_take]
end Go.Proofs.YtlnppgjppfkocaaDoor.Xs
