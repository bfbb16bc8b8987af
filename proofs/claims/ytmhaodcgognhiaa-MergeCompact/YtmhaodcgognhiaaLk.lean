import Derived.Test.YtmhaodcgognhiaaRc
import Derived.Maps.Own
import Derived.Maps.OwnOps
import Derived.Maps.Views
import Derived.Deep.Quiet
/-! Where the last record of each key stands: the program's map, the document's search. -/
namespace Go.Proofs.Ytmhaodcgognhiaa
open Go.RowKit Plain Go.WideMaps Go.Maps
set_option linter.unusedVariables false

abbrev rk (st : List Rc) (i : Nat) : ByteArray := (st.getD i Rc.none).key
/-- No record behind place i has its key. -/
def Last (st : List Rc) (i : Nat) : Prop := ∀ m, i < m → m < st.length → rk st m ≠ rk st i
def lastB (st : List Rc) (i : Nat) : Bool := (List.range st.length).all fun m => decide (m ≤ i) || decide (rk st m ≠ rk st i)
theorem lastB_iff (st : List Rc) (i : Nat) : lastB st i = true ↔ Last st i := by
  unfold lastB Last
  simp only [List.all_eq_true, List.mem_range, Bool.or_eq_true, decide_eq_true_eq]
  constructor
  · intro h m h1 h2
    rcases h m h2 with h3 | h3
    · omega
    · exact h3
  · intro h m h2
    by_cases h1 : m ≤ i
    · exact .inl h1
    · exact .inr (h m (by omega) h2)

/-- Some last place has this key. -/
theorem last_of (st : List Rc) : ∀ (n i : Nat), i < st.length → st.length - i ≤ n → ∃ j, i ≤ j ∧ j < st.length ∧ rk st j = rk st i ∧ Last st j := by
  intro n
  induction n with
  | zero => intro i h1 h2; omega
  | succ n ih =>
    intro i h1 h2
    by_cases h : Last st i
    · exact ⟨i, Nat.le_refl _, h1, rfl, h⟩
    · unfold Last at h
      obtain ⟨m, hm⟩ := Classical.not_forall.mp h
      simp only [Classical.not_imp, ne_eq, Classical.not_not] at hm
      obtain ⟨a1, a2, a3⟩ := hm
      obtain ⟨j, b1, b2, b3, b4⟩ := ih m a2 (by omega)
      exact ⟨j, by omega, b2, by rw [b3, a3], b4⟩

theorem klaw : Keyed Try.prog 9 := string_keyed Try.underlying9
theorem kzero (w : World) : (zeroValue 3).run Try.prog w = .ok (.int .i64 0) w := by kernel_rfl
def klit (s : ByteArray) : Lit := .string s.data.toList
theorem klit_inj {s t : ByteArray} (h : klit s = klit t) : s = t := by
  unfold klit at h
  injection h with h
  exact WideShapes.bytes_inj h
theorem klit_key (s : ByteArray) : WideAt.IsKeyLit (klit s) := by
  unfold klit
  first | trivial | constructor | (unfold WideAt.IsKeyLit; trivial)

/-- The map tells the last place of each of the first k records' keys. -/
def LastD {H : Type} (st : List Rc) (k : Nat) (D : DataW H) : Prop :=
  Maps.IsMap D ∧ ∀ j, j < k → (∀ m, j < m → m < k → rk st m ≠ rk st j) → D.atKey (klit (rk st j)) (.lit (.int .i64 0)) = .lit (.int .i64 (j : Int))

theorem LastD.zero {H : Type} (st : List Rc) : LastD (H := H) st 0 (.map []) := ⟨⟨_, rfl⟩, fun j hj => by omega⟩
theorem LastD.step {H : Type} {st : List Rc} {k : Nat} {D : DataW H} (h : LastD st k D) : LastD st (k + 1) (D.put (klit (rk st k)) (.lit (.int .i64 (k : Int)))) := by
  obtain ⟨h1, h2⟩ := h
  refine ⟨h1.put _ _, fun j hj hl => ?_⟩
  by_cases e : j = k
  · subst e
    exact Maps.atKey_put_same h1 (klit_key _) _ _
  · rw [Maps.atKey_put_other (fun e2 => hl k (by omega) (by omega) (klit_inj e2).symm)]
    exact h2 j (by omega) (fun m a b => hl m a (by omega))

/-- What is found there. -/
theorem LastD.found {H : Type} {st : List Rc} {D : DataW H} (h : LastD st st.length D) {i : Nat} (hi : i < st.length) {c : Int} (hc : D.atKey (klit (rk st i)) (.lit (.int .i64 0)) = .lit (.int .i64 c)) : (c == (i : Int)) = lastB st i := by
  obtain ⟨j, h1, h2, h3, h4⟩ := last_of st st.length i hi (by omega)
  have := h.2 j h2 (fun m a b => h4 m a b)
  rw [h3, hc] at this
  injection this with this
  injection this with this
  by_cases hl : Last st i
  · have e := (lastB_iff st i).mpr hl
    have : j = i := by
      rcases Nat.lt_or_ge i j with h5 | h5
      · exact absurd h3 (hl j h5 h2)
      · omega
    rw [e, beq_iff_eq]
    omega
  · have e : lastB st i = false := by
      cases hb : lastB st i with
      | false => rfl
      | true => exact absurd ((lastB_iff st i).mp hb) hl
    rw [e, beq_eq_false_iff_ne]
    rintro rfl
    have : j = i := by omega
    subst this
    exact hl h4

end Go.Proofs.Ytmhaodcgognhiaa
