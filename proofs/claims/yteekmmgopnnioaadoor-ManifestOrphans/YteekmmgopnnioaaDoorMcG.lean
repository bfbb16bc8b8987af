import Derived.Test.YteekmmgopnnioaaDoorMcF
import Derived.Test.YteekmmgopnnioaaDoorCWalkB
import Derived.Test.YteekmmgopnnioaaDoorCOrd
/-! manifest: which catalogues may be: the pieces. -/
namespace Go.Proofs.YteekmmgopnnioaaDoor
open Go.RowKit Plain
set_option linter.unusedVariables false
set_option linter.unusedSimpArgs false

/-- A slice of topics, within its room. -/
def TesIn (w : World) (v : Value) (l : List Te) : Prop := TesAt w v l ∧ ∀ a n c, v = .slice a n c → n ≤ c
theorem TesIn.later {w w' : World} {v : Value} {l : List Te} (h : TesIn w v l) (hb : Below w.heap.size w w') : TesIn w' v l := ⟨h.1.later hb, h.2⟩
theorem getT_take {l : List Te} {n j : Nat} (h : j < n) : (l.take n).getD j Te.zero = l.getD j Te.zero := by
  simp [List.getD_eq_getElem?_getD, h]
theorem TesAt.take {w : World} {a : Option Addr} {n cap : Nat} {l : List Te} (h : TesAt w (.slice a n cap) l) (k : Nat) (hk : k ≤ l.length) : TesAt w (.slice a k cap) (l.take k) := by
  obtain ⟨a', cap', e, h1, h2, h3⟩ := h
  simp at e
  obtain ⟨rfl, rfl, rfl⟩ := e
  have hl : (l.take k).length = k := by simp; omega
  refine ⟨a, cap, by rw [hl], by rw [hl]; omega, fun z hz => h2 z (List.mem_of_mem_take hz), fun hne => ?_⟩
  have hk0 : 0 < k := by
    rcases Nat.eq_zero_or_pos k with rfl | h
    · simp at hne
    · exact h
  obtain ⟨b, off, e2, hc⟩ := h3 (by intro e; rw [e] at hk; simp at hk; omega)
  refine ⟨b, off, e2, fun j hj => ?_⟩
  rw [hl] at hj
  rw [getT_take hj]
  exact hc j (by omega)
def entB (t : Te) (next : Int) : Bool := inW t.id 1 (next - 1) && (nameB t.name && (inW t.lim 256 65536 && inW t.hor 0 1099511627776))
theorem nameA_eq (s : ByteArray) : (nameA s == 0) = nameB s := by
  unfold nameA
  cases nameB s <;> rfl
def hasId (l : List Te) (z : Int) : Bool := l.any fun t => t.id == z
theorem hasId_take {l : List Te} {z : Int} {k : Nat} (hk : k < l.length) : hasId (l.take (k + 1)) z = (hasId (l.take k) z || (l.getD k Te.zero).id == z) := by
  unfold hasId
  rw [List.take_succ_eq_append_getElem hk, List.any_append]
  simp [hk]
theorem hasId_mem {l : List Te} {z : Int} {k : Nat} (hk : k < l.length) (h : (l.getD k Te.zero).id = z) : hasId l z = true := by
  unfold hasId
  rw [List.any_eq_true]
  exact ⟨l.getD k Te.zero, by simp [hk], by rw [beq_iff_eq]; exact h⟩
end Go.Proofs.YteekmmgopnnioaaDoor
