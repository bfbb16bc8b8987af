import Derived.Test.YteekmmgopnnioaaDoorMnA
import Derived.RowKit
import Derived.SizedLaws
/-! manifest: which names belong to nothing: plain. -/
namespace Go.Proofs.YteekmmgopnnioaaDoor.Mn
open Go.RowKit
set_option linter.unusedVariables false
set_option linter.unusedSimpArgs false

def ofT (n : FN) : Bool := (n.kind == 1) || ((n.kind == 2) || (n.kind == 3))
/-- The last segment's number, 0 of none. -/
def lastI (l : List Int) : Int := l.getD (l.length - 1) 0
def leftP (segs : List Int) (n : FN) : Bool := (n.tmp || (!(n.kind == 3) && !segs.contains n.seg)) || ((n.kind == 2) && (n.seg == lastI segs))
/-- What the program's Orphans asks of a file. -/
def orphP (id : Int) (segs : List Int) (n : FN) : Bool := (ofT n && (n.id == id)) && leftP segs n
/-- What the program's Strangers asks. -/
def strP (ids : List Int) (n : FN) : Bool := (decide (0 < n.id) && !ids.contains n.id) || ((n.kind == 4) && n.tmp)
/-- What the document's Orphans asks. -/
def namedQ (segs : List Int) (n : FN) : Bool := (n.kind == 3) || segs.contains n.seg
def namedR (segs : List Int) (n : FN) : Bool := if ((n.kind == 2) && namedQ segs n) = true then !(n.seg == lastI segs) else namedQ segs n
def orphQ (id : Int) (segs : List Int) (n : FN) : Bool := !((n.kind == 0) || (n.kind == 4) || !(n.id == id)) && (n.tmp || !namedR segs n)
/-- What the document's Strangers asks. -/
def knownQ (ids : List Int) (n : FN) : Bool := (n.id == 0) || ids.contains n.id
def strQ (ids : List Int) (n : FN) : Bool := (ofT n && !knownQ ids n) || ((n.kind == 4) && n.tmp)

/-- A file as Parse tells it. -/
structure FN.Pn (n : FN) : Prop where
  k : n.kind = 0 ∨ n.kind = 1 ∨ n.kind = 2 ∨ n.kind = 3 ∨ n.kind = 4
  i : 0 ≤ n.id
  z : n.kind = 0 ∨ n.kind = 4 → n.id = 0
theorem FN.Pn.zero : FN.zero.Pn := ⟨.inl rfl, Int.le_refl _, fun _ => rfl⟩
theorem kindL_cases (p : By) : kindL p = 0 ∨ kindL p = 1 ∨ kindL p = 2 ∨ kindL p = 3 := by
  unfold kindL
  split
  · simp
  split
  · simp
  split <;> simp
theorem rd_kind (l : By) : (rd l).kind = 0 ∨ (rd l).kind = 1 ∨ (rd l).kind = 2 ∨ (rd l).kind = 3 ∨ (rd l).kind = 4 := by
  unfold rd
  split
  · simp
  · have := kindL_cases ((parts (Lib.trimPrefix (Lib.trimSuffix l tmpB) [116])).getD ((parts (Lib.trimPrefix (Lib.trimSuffix l tmpB) [116])).length - 1) [])
    unfold rdP
    simp only
    omega
theorem nameL_nil {n : FN} (h : stemL n = []) : nameL n = [] := by
  unfold nameL
  simp [h]
theorem isN_ge {n : Int} (h : isN n = true) : 0 ≤ n := by
  unfold isN at h
  simp at h
  omega
theorem parse_pn (l : By) : (parseL l).Pn := by
  unfold parseL
  split
  next h =>
    by_cases hs : stemL (rd l) = []
    · rw [nameL_nil hs] at h
      rw [← h, rd_nil]
      exact FN.Pn.zero
    · have hk := rd_kind l
      generalize rd l = n at hs hk
      unfold stemL at hs
      by_cases h1 : n.kind = 1 ∧ isN n.id = true ∧ isS n.seg = true
      · exact ⟨hk, isN_ge h1.2.1, fun h => by omega⟩
      rw [if_neg h1] at hs
      by_cases h2 : n.kind = 2 ∧ isN n.id = true ∧ isS n.seg = true
      · exact ⟨hk, isN_ge h2.2.1, fun h => by omega⟩
      rw [if_neg h2] at hs
      by_cases h3 : n.kind = 3 ∧ isN n.id = true ∧ n.seg = 0
      · exact ⟨hk, isN_ge h3.2.1, fun h => by omega⟩
      rw [if_neg h3] at hs
      by_cases h4 : n.kind = 4 ∧ n.id = 0 ∧ n.seg = 0
      · exact ⟨hk, by omega, fun _ => h4.2.1⟩
      rw [if_neg h4] at hs
      exact absurd rfl hs
  next => exact FN.Pn.zero
theorem lastI_none {l : List Int} {z : Int} (h : l.contains z = false) (hne : l ≠ []) : (z == lastI l) = false := by
  have hl : l.length - 1 < l.length := by have := List.length_pos_iff.mpr hne; omega
  have hm : lastI l ∈ l := by
    unfold lastI
    rw [List.getD_eq_getElem?_getD, List.getElem?_eq_getElem hl]
    exact List.getElem_mem hl
  apply Bool.eq_false_iff.mpr
  intro e
  have : z = lastI l := by simpa using e
  rw [← this] at hm
  simp [hm] at h
/-- Both ask the same. -/
theorem orphan_eq (id : Int) (segs : List Int) (n : FN) (h : n.Pn) : orphQ id segs n = orphP id segs n := by
  obtain ⟨k, i, s, t⟩ := n
  obtain ⟨hk, hi, hz⟩ := h
  simp only at hk hi hz
  unfold orphQ orphP ofT leftP namedR namedQ
  simp only
  cases hc : segs.contains s with
  | true => rcases hk with rfl | rfl | rfl | rfl | rfl <;> cases t <;> cases (i == id) <;> cases (s == lastI segs) <;> simp
  | false => rcases hk with rfl | rfl | rfl | rfl | rfl <;> cases t <;> cases (i == id) <;> cases (s == lastI segs) <;> simp
theorem strange_eq (ids : List Int) (n : FN) (h : n.Pn) : strQ ids n = strP ids n := by
  obtain ⟨k, i, s, t⟩ := n
  obtain ⟨hk, hi, hz⟩ := h
  simp only at hk hi hz
  unfold strQ strP ofT knownQ
  simp only
  by_cases h0 : i = 0
  · subst h0
    rcases hk with rfl | rfl | rfl | rfl | rfl <;> cases t <;> simp
  · have hp : 0 < i := by omega
    have hb : (i == 0) = false := by simpa using h0
    rcases hk with rfl | rfl | rfl | rfl | rfl
    · exact absurd (hz (.inl rfl)) h0
    · simp [hp, hb, h0]
    · simp [hp, hb, h0]
    · simp [hp, hb, h0]
    · exact absurd (hz (.inr rfl)) h0
/-- The names that a question keeps, in their order. -/
def thoseL (q : FN → Bool) (ss : List ByteArray) : List ByteArray := ss.filter fun s => q (parseL s.data.toList)
theorem thoseL_step (q : FN → Bool) (ss : List ByteArray) (k : Nat) (s : ByteArray) (h : ss[k]? = some s) : thoseL q (ss.take (k + 1)) = if q (parseL s.data.toList) = true then thoseL q (ss.take k) ++ [s] else thoseL q (ss.take k) := by
  unfold thoseL
  rw [List.take_add_one, h]
  simp only [Option.toList, List.filter_append, List.filter_cons, List.filter_nil]
  split <;> simp
theorem thoseL_eq (p q : FN → Bool) (ss : List ByteArray) (h : ∀ n : FN, n.Pn → q n = p n) : thoseL q ss = thoseL p ss := by
  unfold thoseL
  congr 1
  funext s
  exact h _ (parse_pn _)
theorem thoseL_len (q : FN → Bool) (ss : List ByteArray) : (thoseL q ss).length ≤ ss.length := List.length_filter_le _ _
end Go.Proofs.YteekmmgopnnioaaDoor.Mn
