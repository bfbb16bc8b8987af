import Derived.Test.YtdcagkojfgcbkaaHkf
/-! hint: what the law of keys counts. -/
namespace Go.Proofs.Ytdcagkojfgcbkaa
open Go.RowKit Plain Go.WideMaps Go.Maps
set_option linter.unusedVariables false
set_option linter.unusedSimpArgs false

theorem pcells_one (ks : List Pl) : ∀ u ∈ pcells ks, u.oneCell' = true := by
  intro u hu
  simp only [pcells, List.mem_flatMap] at hu
  obtain ⟨x, _, hx⟩ := hu
  simp [Pl.cells] at hx
  rcases hx with rfl | rfl | rfl | rfl | rfl | rfl | rfl | rfl | rfl <;> rfl
theorem src_pls {w : World} {v : Value} {st : List Pl} (h : PlsAt w v st) : Src Try.prog 9 22 v st.length (pcells st) w := by
  obtain ⟨a, cap, rfl, h1, h2, h3⟩ := h
  by_cases hnil : st = []
  · subst hnil
    cases a with
    | none => exact Src.ofNil w Try.underlying22 cap
    | some a => exact Src.ofSlice w Try.underlying22 a 0 cap [] (by simp) (by simp) (by simp)
  · obtain ⟨b, off, rfl, h5⟩ := h3 hnil
    refine Src.ofSlice w Try.underlying22 _ _ cap _ (by rw [pcells_len]; omega) (fun j u hj => ?_) (pcells_one st)
    have hjl : j < 9 * st.length := by
      have := (List.getElem?_eq_some_iff.mp hj).1
      rwa [pcells_len] at this
    rw [WideShapes.add_plain]
    have hg := pcells_get st (j / 9) (j % 9) (by omega) (by omega)
    rw [show j / 9 * 9 + j % 9 = j by omega, hj] at hg
    obtain ⟨c0, c1, c2, c3, c4, c5, c6, c7, c8⟩ := h5 (j / 9) (by omega)
    have hm : j % 9 = 0 ∨ j % 9 = 1 ∨ j % 9 = 2 ∨ j % 9 = 3 ∨ j % 9 = 4 ∨ j % 9 = 5 ∨ j % 9 = 6 ∨ j % 9 = 7 ∨ j % 9 = 8 := by omega
    rw [hg]
    rcases hm with e | e | e | e | e | e | e | e | e <;> rw [e]
    · rw [show off + j = off + j / 9 * 9 by omega]; exact c0
    · rw [show off + j = off + j / 9 * 9 + 1 by omega]; exact c1
    · rw [show off + j = off + j / 9 * 9 + 2 by omega]; exact c2
    · rw [show off + j = off + j / 9 * 9 + 3 by omega]; exact c3
    · rw [show off + j = off + j / 9 * 9 + 4 by omega]; exact c4
    · rw [show off + j = off + j / 9 * 9 + 5 by omega]; exact c5
    · rw [show off + j = off + j / 9 * 9 + 6 by omega]; exact c6
    · rw [show off + j = off + j / 9 * 9 + 7 by omega]; exact c7
    · rw [show off + j = off + j / 9 * 9 + 8 by omega]; exact c8
theorem OwnPl.empty (w : World) (t : TypeId) : OwnPl (w.alloc (.cells #[] t)) (.slice (some ⟨w.heap.size, 0, none⟩) 0 0) [] (some w.heap.size) :=
  .inr ⟨w.heap.size, 0, rfl, rfl, by simp, by simp, by simp [maxLen], by simp, by simp, by simp⟩

def lastIn (st : List Pl) (key : ByteArray) : Nat → Int
  | 0 => -1
  | k + 1 => if pk st k = key then (k : Int) else lastIn st key k
theorem lastIn_last {st : List Pl} {n j : Nat} (h : LastP st n j) : lastIn st (pk st j) n = j := by
  induction n with
  | zero => exact absurd h.1 (by omega)
  | succ n ih =>
    by_cases e : j = n
    · subst e; simp [lastIn]
    · obtain ⟨h1, h2⟩ := h.more e
      unfold lastIn
      rw [if_neg h2]
      exact ih h1
def atOf (qs : List Nat) : Nat → Int
  | 0 => -1
  | i + 1 => ((qs.getD i 0 : Nat) : Int)
theorem atOf_lt {qs : List Nat} (h : qs.Pairwise (· < ·)) {i j : Nat} (hj : qs[i]? = some j) : atOf qs i < (j : Int) := by
  cases i with
  | zero => show (-1 : Int) < j; omega
  | succ i =>
    obtain ⟨h1, e⟩ := List.getElem?_eq_some_iff.mp hj
    have := List.pairwise_iff_getElem.mp h i (i + 1) (by omega) h1 (by omega)
    rw [e] at this
    show ((qs.getD i 0 : Nat) : Int) < j
    have e2 : qs.getD i 0 = qs[i]'(by omega) := by simp [List.getD_eq_getElem?_getD, List.getElem?_eq_getElem (show i < qs.length by omega)]
    rw [e2]
    omega
theorem atOf_next {qs : List Nat} {i j : Nat} (hj : qs[i]? = some j) : atOf qs (i + 1) = j := by
  show ((qs.getD i 0 : Nat) : Int) = j
  simp [List.getD_eq_getElem?_getD, hj]
def cntK (st : List Pl) (qs : List Nat) (key : ByteArray) (i : Nat) : Nat := (qs.take i).countP (fun q => decide (pk st q = key))
theorem cntK_next {st : List Pl} {qs : List Nat} {i j : Nat} (key : ByteArray) (hj : qs[i]? = some j) : cntK st qs key (i + 1) = cntK st qs key i + if pk st j = key then 1 else 0 := by
  unfold cntK
  obtain ⟨h1, e⟩ := List.getElem?_eq_some_iff.mp hj
  rw [List.take_succ_eq_append_getElem h1, List.countP_append, e]
  congr 1
  by_cases h : pk st j = key
  · rw [if_pos h]; simp [List.countP_cons, h]
  · rw [if_neg h]; simp [List.countP_cons, h]
theorem cntK_le (st : List Pl) (qs : List Nat) (key : ByteArray) (i : Nat) : cntK st qs key i ≤ qs.length := by
  unfold cntK
  exact Nat.le_trans List.countP_le_length (by simp; omega)
theorem cntK_all {st : List Pl} {qs : List Nat} (h : PlacesOk st qs) {k : Nat} (hk : k < st.length) : cntK st qs (pk st k) qs.length = 1 := by
  obtain ⟨j, _, hkey, hl⟩ := lastP_of st st.length st.length k hk (by omega)
  obtain ⟨l1, l2, e⟩ := List.append_of_mem (h.all j hl)
  have hup := h.up
  unfold cntK
  rw [List.take_length]
  have hmem := h.mem
  rw [e] at hup hmem ⊢
  have hne : ∀ q, q ∈ l1 ++ j :: l2 → pk st q = pk st k → q = j := fun q hq e2 => (hmem q hq).uniq hl (e2.trans hkey.symm)
  rw [List.pairwise_append] at hup
  obtain ⟨u1, u2, u3⟩ := hup
  rw [List.pairwise_cons] at u2
  have z1 : l1.countP (fun q => decide (pk st q = pk st k)) = 0 := List.countP_eq_zero.mpr (fun q hq => by
    intro hd
    have := hne q (List.mem_append_left _ hq) (of_decide_eq_true hd)
    have := u3 q hq j (List.mem_cons_self ..)
    omega)
  have z2 : l2.countP (fun q => decide (pk st q = pk st k)) = 0 := List.countP_eq_zero.mpr (fun q hq => by
    intro hd
    have := hne q (List.mem_append_right _ (List.mem_cons_of_mem _ hq)) (of_decide_eq_true hd)
    have := u2.1 q hq
    omega)
  rw [List.countP_append, List.countP_cons, z1, z2]
  simp [hkey]
theorem ents_at (st : List Pl) (qs : List Nat) {k j : Nat} (h : qs[k]? = some j) : (ents st qs).getD k He.zero = (st.getD j Pl.zero).entry := by
  simp [ents, List.getD_eq_getElem?_getD, h]
end Go.Proofs.Ytdcagkojfgcbkaa
