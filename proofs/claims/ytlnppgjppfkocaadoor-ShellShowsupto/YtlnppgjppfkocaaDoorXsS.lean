import Derived.Test.YtlnppgjppfkocaaDoorXsR
import Derived.Test.YtlnppgjppfkocaaDoorOwn
import Derived.Deep.RegionLaw
import Derived.Laws.BytesArg
/-! Lines: rows of bytes that a call makes; the document's readText. -/
namespace Go.Proofs.YtlnppgjppfkocaaDoor.Xs
open Go.RowKit Plain
set_option linter.unusedVariables false
set_option linter.unusedSimpArgs false

def nats (l : By) : List Nat := l.map UInt8.toNat
theorem nats_len (l : By) : (nats l).length = l.length := by simp [nats]
theorem nats_app (l k : By) : nats (l ++ k) = nats l ++ nats k := by simp [nats]
theorem nats_lt (l : By) : ∀ c ∈ nats l, c < 256 := fun c hc => by
  obtain ⟨x, _, e⟩ := List.mem_map.1 hc
  rw [← e]; exact x.toNat_lt
/-- A row of bytes that was made since the world W. -/
def Gb (W w : World) (v : Value) (l : By) : Prop := ∃ r, Own w v (nats l) r ∧ (∀ g, r = some g → W.heap.size ≤ g) ∧ Below W.heap.size W w
theorem Gb.nil {W w : World} (h : Below W.heap.size W w) : Gb W w (.slice none 0 0) [] := ⟨none, Own.nil w, by simp, h⟩
theorem Gb.below {W w : World} {v : Value} {l : By} (h : Gb W w v l) : Below W.heap.size W w := by
  obtain ⟨r, _, _, hb⟩ := h; exact hb
theorem Gb.later {W w w' : World} {v : Value} {l : By} (h : Gb W w v l) (hb : Below w.heap.size w w') : Gb W w' v l := by
  obtain ⟨r, h1, h2, h3⟩ := h
  exact ⟨r, h1.later hb, h2, below_on h3 hb⟩
theorem Gb.slice {W w : World} {v : Value} {l : By} (h : Gb W w v l) : ∃ a cap, v = .slice a l.length cap := by
  obtain ⟨r, h1, _, _⟩ := h
  rcases h1.2 with ⟨e, e2, _⟩ | ⟨g, cap, _, e, _⟩
  · have : l.length = 0 := by have := congrArg List.length e2; rwa [nats_len] at this
    exact ⟨none, 0, by rw [e, this]⟩
  · exact ⟨_, cap, by rw [e, nats_len]⟩
theorem Gb.pushed {W w w1 w' : World} {v' : Value} {l : By} {y : UInt8} {r r' : Option Nat} (hb : Below W.heap.size W w) (h2 : ∀ g, r = some g → W.heap.size ≤ g)
    (hb1 : Below w.heap.size w w1) (ho : Own w' v' (nats l ++ [y.toNat]) r') (hg : w1.grownBy w' r) (hr : r' = r ∨ r' = some w1.heap.size) : Gb W w' v' (l ++ [y]) := by
  refine ⟨r', by rw [nats_app]; exact ho, fun g e => ?_, ?_⟩
  · rcases hr with k | k
    · exact h2 g (by rw [← k]; exact e)
    · rw [k] at e; cases e; exact Nat.le_trans hb.size hb1.size
  · exact (hb.trans (hb1.mono hb.size)).trans (grow_below hg (Nat.le_trans hb.size hb1.size) h2)
theorem src_gb (w : World) (y : UInt8) (t : TypeId) : Src Tryd.prog 1 59 (.slice (some ⟨w.heap.size, 0, none⟩) 1 1) [y.toNat].length (cellsOf [y.toNat]) (w.alloc (.cells #[.int .u8 (y.toNat : Int)] t)) := src_one w y.toNat 59 t Tryd.underlying59
/-- append of one byte, which lies in a block of its own. -/
theorem wpList_append_gb {ops : Array Oper} {rest : List Oper} {o : Oper} {a : Act} {Q : Exit → Act → World → Prop} {W : World} (w w1 : World) (hgd : o.guard = none) (s x : Operand)
    (ho : o.op = .call { callee := .builtin .append, args := #[s, x], argTypes := #[59, 59] }) (v xv : Value) (l : By) (y : UInt8)
    (hs : a.eval s = v) (hx : a.eval x = xv) (h : Gb W w v l) (hb1 : Below w.heap.size w w1) (hsrc : Src Tryd.prog 1 59 xv [y.toNat].length (cellsOf [y.toNat]) w1) (hlen : l.length ≤ 140737488355000)
    (hK : ∀ v' w', Gb W w' v' (l ++ [y]) → wpList Tryd.prog ops Q rest (a.put o.dst v') w') : wpList Tryd.prog ops Q (o :: rest) a w1 := by
  obtain ⟨r, h1, h2, h3⟩ := h
  refine wpList_append_row w1 hgd s x 59 59 ho Tryd.underlying59 v xv (nats l) [y.toNat] r hs hx (h1.later hb1) (by intro u hu; rw [List.mem_singleton] at hu; rw [hu]; exact y.toNat_lt) hsrc (by rw [nats_len]; simp; omega) ?_
  intro v' w' r' ho' hg' hr' _
  exact hK v' w' (Gb.pushed h3 h2 hb1 ho' hg' hr')
theorem step_append_gb {ops : Array Oper} {o : Oper} {a : Act} {w w1 W : World} {K : Act → World → Prop} {Q : Exit → Act → World → Prop} {E : Prop}
    (hg : o.guard = none) (s x : Operand) (hop : o.op = Op.call { callee := Callee.builtin Builtin.append, args := #[s, x], argTypes := #[59, 59] }) (v xv : Value) (l : By) (y : UInt8)
    (hs : a.eval s = v) (hx : a.eval x = xv) (h : Gb W w v l) (hb1 : Below w.heap.size w w1) (hsrc : Src Tryd.prog 1 59 xv [y.toNat].length (cellsOf [y.toNat]) w1) (hlen : l.length ≤ 140737488355000)
    (hK : ∀ v' w', Gb W w' v' (l ++ [y]) → K (a.put o.dst v') w') :
    if Region.wanted o (yielded ops a.tmps) = true then Oper.wp Tryd.prog o a w1 K Q else E := by
  have hw : Region.wanted o (yielded ops a.tmps) = true := by simp [Region.wanted, hg]
  rw [if_pos hw]
  obtain ⟨r, h1, h2, h3⟩ := h
  obtain ⟨v', w', r', hrun, k1, k2, k3, k4⟩ := run_append_row w1 59 59 o.type Tryd.underlying59 v xv (nats l) [y.toNat] r (h1.later hb1) (by intro u hu; rw [List.mem_singleton] at hu; rw [hu]; exact y.toNat_lt) hsrc (by rw [nats_len]; simp; omega)
  unfold Oper.wp
  simp [execOp, hop, resolve, invoke, builtin, hs, hx, hrun, Result.andThen]
  exact hK v' w' (Gb.pushed h3 h2 hb1 k1 k2 k3)
/-- A row of bytes as a text. -/
theorem conv_gb {W w : World} {v : Value} {l : By} (h : Gb W w v l) (u : World) (hb : Below w.heap.size w u) : (convert 59 9 v).run Tryd.prog u = .ok (.string (ba l)) u := by
  obtain ⟨r, h1, _, _⟩ := h
  rcases (h1.later hb).2 with ⟨e, e2, _⟩ | ⟨g, cap, _, e, _, _, _, _, _, hc⟩
  · have : l = [] := List.length_eq_zero_iff.1 (by have := congrArg List.length e2; rwa [nats_len] at this)
    rw [e, this]
    have := run_convert_bytes_nil (P := Tryd.prog) u 59 5 Tryd.underlying59 Tryd.underlying5 0 0 9 Tryd.underlying9
    exact this
  · rw [e, nats_len]
    have := run_convert_bytes_back (P := Tryd.prog) u 59 9 5 ⟨g, 0, none⟩ cap l Tryd.underlying59 Tryd.underlying5 Tryd.underlying9 (fun j hj => by
      rw [WideShapes.add_plain, Nat.zero_add, hc j (by rw [nats_len]; exact hj)]
      simp [nats, List.getD_eq_getElem?_getD, hj])
    exact this

end Go.Proofs.YtlnppgjppfkocaaDoor.Xs
