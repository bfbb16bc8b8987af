import Derived.Test.YtpdhkojiehifeaaAr
import Derived.Test.YtpdhkojiehifeaaLk
/-! What a merge keeps: what the answer is, and the program's. -/
namespace Go.Proofs.Ytpdhkojiehifeaa
open Go.RowKit Plain Go.WideMaps Go.Maps
set_option linter.unusedVariables false

theorem src_rec (W : World) (x : Rc) : Src Try.prog 7 22 (.slice (some ⟨W.heap.size, 0, none⟩) 1 1) [x].length (rcells [x]) (W.alloc (.cells #[.int .i64 x.k, .int .i64 x.o, .int .i64 x.t, .int .i64 x.p, .int .i64 x.q, .string x.key, .string x.val] 32)) :=
  Src.ofSlice _ Try.underlying22 _ 1 1 _ (by rfl) (fun j u hj => by
    rw [WideShapes.add_plain, World.cell?_alloc_at _ _ _ _ rfl, Nat.zero_add, ← hj]
    simp [rcells, Rc.cells]) (by intro u hu; simp [rcells, Rc.cells] at hu; rcases hu with rfl | rfl | rfl | rfl | rfl | rfl | rfl <;> rfl)

theorem ownsMap_later {H : Type} {w w' : World} {b n : Nat} {D : DataW H} (h : w.ownsMap Try.prog 9 (plainElem Try.prog 3) b n D) (k : Below w.heap.size w w') : w'.ownsMap Try.prog 9 (plainElem Try.prog 3) b n D :=
  h.kept (below_grow k none) (by simp)

theorem wpList_maxN {ops : Array Oper} {rest : List Oper} {o : Oper} {a : Act} {Q : Exit → Act → World → Prop} {w : World} (hgd : o.guard = none) (s x : Operand) (t tx : TypeId) (z y m : Int)
    (ho : o.op = .call { callee := .builtin .max, args := #[s, x], argTypes := #[t, tx] }) (hs : a.eval s = .int .i64 z) (hx : a.eval x = .int .i64 y) (hm : (if y > z then y else z) = m)
    (h : wpList Try.prog ops Q rest (a.put o.dst (.int .i64 m)) w) : wpList Try.prog ops Q (o :: rest) a w :=
  wpList_plain hgd fun _ hK => by
    have hr := run_max_int2 (P := Try.prog) (w := w) #[t, tx] o.type .i64 .i64 z y
    rw [hm] at hr
    unfold Oper.wp execOp
    simp only [ho, resolve, invoke, builtin, Sem.run_bind, Sem.run_pure, Result.andThen_ok, List.map_toArray, List.map_cons, List.map_nil, hs, hx, hr]
    exact hK _ _ h
theorem wpList_minN {ops : Array Oper} {rest : List Oper} {o : Oper} {a : Act} {Q : Exit → Act → World → Prop} {w : World} (hgd : o.guard = none) (s x : Operand) (t tx : TypeId) (z y m : Int)
    (ho : o.op = .call { callee := .builtin .min, args := #[s, x], argTypes := #[t, tx] }) (hs : a.eval s = .int .i64 z) (hx : a.eval x = .int .i64 y) (hm : (if y < z then y else z) = m)
    (h : wpList Try.prog ops Q rest (a.put o.dst (.int .i64 m)) w) : wpList Try.prog ops Q (o :: rest) a w :=
  wpList_plain hgd fun _ hK => by
    have hr := run_min_int2 (P := Try.prog) (w := w) #[t, tx] o.type .i64 .i64 z y
    rw [hm] at hr
    unfold Oper.wp execOp
    simp only [ho, resolve, invoke, builtin, Sem.run_bind, Sem.run_pure, Result.andThen_ok, List.map_toArray, List.map_cons, List.map_nil, hs, hx, hr]
    exact hK _ _ h

/-- The horizon that counts. -/
def hor (hz : Int) : Int := if 1099511627776 < hz then 1099511627776 else hz
def youngB (now hz : Int) (x : Rc) : Bool := decide (now < x.t + hor hz)
def keepB (now hz : Int) (x : Rc) : Bool := (x.k == 1) || youngB now hz x
def cstep (st : List Rc) (now hz : Int) (i : Nat) (r : List Rc × Int) : List Rc × Int :=
  if lastB st i = false then r else if keepB now hz (st.getD i Rc.none) = true then (r.1 ++ [st.getD i Rc.none], r.2) else (r.1, if (st.getD i Rc.none).o + 1 > r.2 then (st.getD i Rc.none).o + 1 else r.2)
def cmp (st : List Rc) (now hz : Int) : Nat → List Rc × Int
  | 0 => ([], 0)
  | i + 1 => cstep st now hz i (cmp st now hz i)
def badC (st : List Rc) (now hz : Int) : Bool := decide (now < 0) || decide (hz < 0) || !(st.all okB)
def comp (st : List Rc) (now hz : Int) : List Rc × Int := if badC st now hz = true then ([], 0) else cmp st now hz st.length

theorem cstep_skip {st : List Rc} {now hz : Int} {i : Nat} (r : List Rc × Int) (h : lastB st i = false) : cstep st now hz i r = r := by unfold cstep; rw [if_pos h]
theorem cstep_keep {st : List Rc} {now hz : Int} {i : Nat} (r : List Rc × Int) (h : lastB st i = true) (hk : keepB now hz (st.getD i Rc.none) = true) : cstep st now hz i r = (r.1 ++ [st.getD i Rc.none], r.2) := by unfold cstep; rw [if_neg (by simp [h]), if_pos hk]
theorem cstep_mark {st : List Rc} {now hz : Int} {i : Nat} (r : List Rc × Int) (h : lastB st i = true) (hk : keepB now hz (st.getD i Rc.none) = false) : cstep st now hz i r = (r.1, if (st.getD i Rc.none).o + 1 > r.2 then (st.getD i Rc.none).o + 1 else r.2) := by unfold cstep; rw [if_neg (by simp [h]), if_neg (by rw [hk]; decide)]

/-- What a record that may be is like. -/
structure Fine (x : Rc) : Prop where
  k : x.k = 1 ∨ x.k = 2
  o : 0 ≤ x.o ∧ x.o < 1099511627776
  t : 0 ≤ x.t ∧ x.t < 1125899906842624
theorem fine_of {x : Rc} (h : okB x = true) : Fine x := by
  have h0 : chk x = 0 := by simpa [okB] using h
  unfold chk at h0
  by_cases h1 : x.k ≠ 1 ∧ x.k ≠ 2
  · rw [if_pos h1] at h0; simp at h0
  rw [if_neg h1] at h0
  by_cases h2 : inR x.o 0 1099511627776 = false
  · rw [if_pos h2] at h0; simp at h0
  rw [if_neg h2] at h0
  by_cases h3 : inR x.t 0 1125899906842624 = false
  · rw [if_pos h3] at h0; simp at h0
  have h2' : inR x.o 0 1099511627776 = true := by simpa using h2
  have h3' : inR x.t 0 1125899906842624 = true := by simpa using h3
  simp only [inR, Bool.and_eq_true, decide_eq_true_eq] at h2' h3'
  exact ⟨by omega, h2', h3'⟩

theorem cmp_len (st : List Rc) (now hz : Int) : ∀ i, (cmp st now hz i).1.length ≤ i
  | 0 => by simp [cmp]
  | i + 1 => by
    have := cmp_len st now hz i
    show (cstep st now hz i (cmp st now hz i)).1.length ≤ i + 1
    unfold cstep
    split
    · omega
    · split
      · simp; omega
      · simp only; omega
theorem cmp_mem (st : List Rc) (now hz : Int) : ∀ i, i ≤ st.length → ∀ x ∈ (cmp st now hz i).1, x ∈ st
  | 0, _, x, hx => by simp [cmp] at hx
  | i + 1, hi, x, hx => by
    have ih := cmp_mem st now hz i (by omega)
    have hx' : x ∈ (cstep st now hz i (cmp st now hz i)).1 := hx
    unfold cstep at hx'
    split at hx'
    · exact ih x hx'
    · split at hx'
      · simp only [List.mem_append, List.mem_singleton] at hx'
        rcases hx' with h | rfl
        · exact ih x h
        · rw [List.getD_eq_getElem?_getD, List.getElem?_eq_getElem (by omega)]; exact List.getElem_mem _
      · exact ih x hx'
theorem cmp_mark (st : List Rc) (now hz : Int) (hf : ∀ x ∈ st, Fine x) : ∀ i, i ≤ st.length → 0 ≤ (cmp st now hz i).2 ∧ (cmp st now hz i).2 ≤ 1099511627776
  | 0, _ => by simp [cmp]
  | i + 1, hi => by
    have ih := cmp_mark st now hz hf i (by omega)
    show 0 ≤ (cstep st now hz i (cmp st now hz i)).2 ∧ (cstep st now hz i (cmp st now hz i)).2 ≤ 1099511627776
    have hx := (hf (st.getD i Rc.none) (by rw [List.getD_eq_getElem?_getD, List.getElem?_eq_getElem (by omega)]; exact List.getElem_mem _)).o
    unfold cstep
    split
    · exact ih
    · split
      · exact ih
      · simp only
        split <;> omega
end Go.Proofs.Ytpdhkojiehifeaa
