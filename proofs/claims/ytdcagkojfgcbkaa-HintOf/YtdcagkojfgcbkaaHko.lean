import Derived.Test.YtdcagkojfgcbkaaHkj
import Derived.Test.YtdcagkojfgcbkaaHkl
import Derived.Test.YtdcagkojfgcbkaaHkn
/-! hint: what both Ofs answer. -/
namespace Go.Proofs.Ytdcagkojfgcbkaa
open Go.RowKit Plain Go.WideMaps Go.Maps
set_option linter.unusedVariables false
set_option linter.unusedSimpArgs false
/-- The entries of a list of records. -/
def entsOf (st : List Pl) : List He := ents st (lps st st.length)
theorem entsOf_len (st : List Pl) : (entsOf st).length ≤ st.length := by unfold entsOf; rw [ents_len]; exact lps_len st _
theorem entsOf_ok (st : List Pl) (hok : ∀ x ∈ st, x.Ok) : ∀ x ∈ entsOf st, x.Ok := by
  intro x hx
  obtain ⟨j, hj, rfl⟩ := List.mem_map.mp hx
  have hl := ((lps_mem st _ (Nat.le_refl _) j).mp hj).1
  refine Pl.Ok.entry (hok _ ?_)
  simp [List.getD_eq_getElem?_getD, List.getElem?_eq_getElem hl]
/-- A hint's entries in memory, newer than B. -/
structure HAt (w : World) (a : Option Addr) (c : Nat) (es : List He) (B : Nat) (r : Option Nat) : Prop where
  own : OwnHe w (.slice a es.length c) es r
  new : ∀ g, r = some g → B ≤ g
def OfE (s z : Int) (st : List Pl) (w : World) (e : Ending) (w' : World) : Prop := ∃ a c r, e = .returned (.agg #[.int .i64 s, .int .i64 z, .slice a (entsOf st).length c]) ∧ HAt w' a c (entsOf st) w.heap.size r ∧ Below w.heap.size w w'
theorem OfPost.same {s z : Int} {st : List Pl} {w w' : World} {e : Ending} (h : OfPost s z st w e w') : OfE s z st w e w' := by
  obtain ⟨a, n, c, r, qs, rfl, hp, hl, ho, hr, hb⟩ := h
  obtain rfl : qs = lps st st.length := hp.uniq (lps_ok st)
  obtain ⟨a', c', e, _⟩ := ho.shape
  simp only [Value.slice.injEq] at e
  obtain ⟨rfl, rfl, rfl⟩ := e
  exact ⟨a, c, r, rfl, ⟨ho, hr⟩, hb⟩
theorem ofE (s z : Int) (v : Value) (st : List Pl) (w : World) (h : PlsAt w v st) : Calls Try.prog 5 #[.int .i64 s, .int .i64 z, v] w (OfE s z st w) := (ofOf s z v st w h).mono fun _ _ h => h.same
theorem rofE (s z : Int) (v : Value) (st : List Pl) (w : World) (h : PlsAt w v st) : Calls Try.prog 6 #[.int .i64 s, .int .i64 z, v] w (OfE s z st w) := (rofOf s z v st w h).mono fun _ _ h => h.same
theorem HAt.later {w w' : World} {a : Option Addr} {c B : Nat} {es : List He} {r : Option Nat} (h : HAt w a c es B r) (k : Below w.heap.size w w') : HAt w' a c es B r := ⟨h.own.later k, h.new⟩
theorem HAt.hes {w : World} {a : Option Addr} {c B : Nat} {st : List Pl} {r : Option Nat} (h : HAt w a c (entsOf st) B r) (hok : ∀ x ∈ st, x.Ok) (hl : st.length ≤ 2199023255000) : HesAt w (.slice a (entsOf st).length c) (entsOf st) :=
  h.own.recs (Nat.le_trans (entsOf_len st) hl) (entsOf_ok st hok)
theorem PlsAt.take {w : World} {a : Option Addr} {n cap : Nat} {st : List Pl} (h : PlsAt w (.slice a n cap) st) (k c : Nat) (hk : k ≤ st.length) : PlsAt w (.slice a k c) (st.take k) := by
  obtain ⟨a', cap', e, h1, h2, h3⟩ := h
  simp only [Value.slice.injEq] at e
  obtain ⟨rfl, rfl, rfl⟩ := e
  have hl : (st.take k).length = k := by simp; omega
  refine ⟨a, c, by rw [hl], by omega, fun x hx => h2 x (List.mem_of_mem_take hx), fun hne => ?_⟩
  obtain ⟨b, off, e2, hc⟩ := h3 (by rintro rfl; simp at hne)
  refine ⟨b, off, e2, fun j hj => ?_⟩
  rw [hl] at hj
  have e3 : (st.take k).getD j Pl.zero = st.getD j Pl.zero := by simp [List.getD_eq_getElem?_getD, List.getElem?_take_of_lt hj]
  rw [e3]
  exact hc j (by omega)
end Go.Proofs.Ytdcagkojfgcbkaa
