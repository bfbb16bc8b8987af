import Derived.Test.YtklfmgkfcacfkaaVb
/-! Rows of tokens that are held against one another. -/
namespace Go.Proofs.Ytklfmgkfcacfkaa
open Go.RowKit Plain
set_option linter.unusedVariables false
set_option linter.unusedSimpArgs false

theorem sameC (va vb : Value) (gs hs : List Tg) (w : World) (ha : TRd w va gs) (hb : TRd w vb hs) (h : gs.map Tg.c3 = hs.map Tg.c3) :
    Calls Try.prog 23 #[va, vb] w fun e w' => e = .returned (.bool true) ∧ ∃ n, w' = w.drewN n := by
  have hl : gs.length = hs.length := by
    have := congrArg List.length h
    simpa using this
  refine sameTok va vb gs hs w ha hb hl fun k h1 h2 => ?_
  have e : (gs.map Tg.c3)[k]? = (hs.map Tg.c3)[k]? := by rw [h]
  rw [List.getElem?_map, List.getElem?_map, List.getElem?_eq_getElem h1, List.getElem?_eq_getElem h2] at e
  simp only [Option.map_some, Option.some.injEq, Tg.c3, Prod.mk.injEq] at e
  exact e
theorem c3_c (t : Tk) : t.g.c3 = t.c.g.c3 := by cases t using Tk.elim <;> rfl
theorem c3_of {ts ss : List Tk} (h : ts.map Tk.c = ss.map Tk.c) : (ts.map Tk.g).map Tg.c3 = ss.map fun k => k.g.c3 := by
  have : ∀ xs : List Tk, (xs.map fun k => k.g.c3) = (xs.map Tk.c).map fun k => k.g.c3 := fun xs => by
    rw [List.map_map]
    apply List.map_congr_left
    intro t _
    exact c3_c t
  rw [List.map_map]
  show (ts.map fun k => k.g.c3) = _
  rw [this ts, this ss, h]
theorem fits_len {t : Tk} (h : t.fits) : t.len ≤ 4096 := by
  cases t using Tk.elim with
  | lit g l => rw [Tk.fits_lit] at h; rw [Tk.len_lit]; exact h
  | mat d n => rw [Tk.fits_mat] at h; rw [Tk.len_mat]; exact h.2
/-- What the program answers: tokens of its own. -/
def RowPost (R : List Tk → Int → Prop) (w : World) : Ending → World → Prop := fun e w' => ∃ tv ts r z, e = .returned (.tuple #[tv, .int .i64 z]) ∧ R ts z ∧ TRow w.heap.size w' tv ts r ∧ Below w.heap.size w w'
/-- What the document answers. -/
def RefPost (R : List Tk → Int → Prop) (w : World) : Ending → World → Prop := fun e w' => ∃ tv tg ts z, e = .returned (.tuple #[tv, .int .i64 z]) ∧ R ts z ∧ Sims tg ts ∧ TRd w' tv tg ∧ Below w.heap.size w w'

/-- A text's own tokens. -/
def TokIs (l : List Nat) (ts : List Tk) (z : Int) : Prop := (4096 < l.length ∧ ts = [] ∧ z = 2) ∨ (l.length ≤ 4096 ∧ z = 0 ∧ PreP l ts l.length)
theorem TokIs.one {l : List Nat} {ts ss : List Tk} {y z : Int} (h : TokIs l ts y) (k : TokIs l ss z) : y = z ∧ ts.map Tk.c = ss.map Tk.c := by
  rcases h with ⟨h1, rfl, rfl⟩ | ⟨h1, rfl, h2⟩
  · rcases k with ⟨k1, rfl, rfl⟩ | ⟨k1, _⟩
    · exact ⟨rfl, rfl⟩
    · omega
  · rcases k with ⟨k1, _⟩ | ⟨k1, rfl, k2⟩
    · omega
    · exact ⟨rfl, h2.unique k2⟩
theorem TokIs.fits {l : List Nat} {ts : List Tk} {z : Int} (h : TokIs l ts z) : (∀ t ∈ ts, t.fits) ∧ ts.length ≤ 8192 := by
  rcases h with ⟨h1, rfl, rfl⟩ | ⟨h1, rfl, h2⟩
  · exact ⟨by simp, by simp⟩
  · exact ⟨h2.fits h1, by have := h2.count; omega⟩
theorem TRow.weaken {a b : Nat} {w : World} {v : Value} {ts : List Tk} {r : Option Nat} (h : TRow a w v ts r) (hb : b ≤ a) : TRow b w v ts r :=
  ⟨h.own, fun g e => Nat.le_trans hb (h.rb g e), fun g l hm => ⟨(h.lits g l hm).1, Nat.le_trans hb (h.lits g l hm).2.1, (h.lits g l hm).2.2⟩, h.apart⟩
theorem tokensAll (v : Value) (l : List Nat) (w : World) (h : BytesAt w v l) : Calls Try.prog 9 #[v] w (RowPost (TokIs l) w) := by
  by_cases hl : 4096 < l.length
  · refine (tokensLong v l w h hl).mono ?_
    rintro e w' ⟨rfl, rfl⟩
    exact ⟨_, [], none, 2, rfl, .inl ⟨hl, rfl, rfl⟩, TRow.nil _ _, Below.refl _ _⟩
  · refine (tokensAny v l w h (by omega)).mono ?_
    rintro e w' ⟨tv, ts, r, rfl, h1, h2, h3⟩
    exact ⟨tv, ts, r, 0, rfl, .inr ⟨by omega, rfl, h1⟩, h2.weaken (Nat.le_succ _), h3⟩
theorem refTokensAll (v : Value) (l : List Nat) (w : World) (h : BytesAt w v l) : Calls Try.prog 21 #[v] w (RefPost (TokIs l) w) := by
  by_cases hl : 4096 < l.length
  · refine (refTokensLong v l w h hl).mono ?_
    rintro e w' ⟨rfl, rfl⟩
    exact ⟨_, [], [], 2, rfl, .inl ⟨hl, rfl, rfl⟩, rfl, (GRow.nil 0 _).rd, Below.refl _ _⟩
  · refine (refTokensOf v l w h (by omega)).mono ?_
    rintro e w' ⟨tv, tg, r, ts, rfl, h1, h2, h3, h4⟩
    exact ⟨tv, tg, ts, 0, rfl, .inr ⟨by omega, rfl, h1⟩, h2, h3.rd, h4⟩

/-- A block's tokens. -/
def RdIs (l : List Nat) (ts : List Tk) (z : Int) : Prop := (z = 0 ∧ ∃ n, Sol l n ts) ∨ (z = 20 ∧ ts = [] ∧ ∀ k ss, ¬ Sol l k ss)
theorem RdIs.one {l : List Nat} {ts ss : List Tk} {y z : Int} (h : RdIs l ts y) (k : RdIs l ss z) : y = z ∧ ts.map Tk.c = ss.map Tk.c := by
  rcases h with ⟨rfl, n, h⟩ | ⟨rfl, rfl, h⟩
  · rcases k with ⟨rfl, m, k⟩ | ⟨rfl, rfl, k⟩
    · exact ⟨rfl, (h.unique k).2⟩
    · exact absurd h (k _ _)
  · rcases k with ⟨rfl, m, k⟩ | ⟨rfl, rfl, k⟩
    · exact absurd k (h _ _)
    · exact ⟨rfl, rfl⟩
theorem RdIs.fits {l : List Nat} {ts : List Tk} {z : Int} (h : RdIs l ts z) : (∀ t ∈ ts, t.fits) ∧ ts.length ≤ 8192 := by
  rcases h with ⟨rfl, n, h⟩ | ⟨rfl, rfl, h⟩
  · obtain ⟨h1, h2⟩ := sol_fits ts 0 n (by omega) h.1
    have := h.n4.1
    exact ⟨h1, by omega⟩
  · exact ⟨by simp, by simp⟩
theorem readAll (v : Value) (l : List Nat) (w : World) (h : BytesAt w v l) : Calls Try.prog 31 #[v] w (RowPost (RdIs l) w) := by
  refine (readAny v l w h).mono ?_
  rintro e w' ⟨hb, ⟨tv, ts, r, n, rfl, h1, h2⟩ | ⟨rfl, h1⟩⟩
  · exact ⟨tv, ts, r, 0, rfl, .inl ⟨rfl, n, h1⟩, h2, hb⟩
  · exact ⟨_, [], none, 20, rfl, .inr ⟨rfl, rfl, h1⟩, TRow.nil _ _, hb⟩
theorem refReadAll (v : Value) (l : List Nat) (w : World) (h : BytesAt w v l) (hl : l.length ≤ 1048576) : Calls Try.prog 30 #[v] w (RefPost (RdIs l) w) := by
  refine (refReadOf v l w h hl).mono ?_
  rintro e w' ⟨hb, ⟨tv, tg, r, n, ts, rfl, h1, h2, h3⟩ | ⟨rfl, h1⟩⟩
  · exact ⟨tv, tg, ts, 0, rfl, .inl ⟨rfl, n, h1⟩, h2, h3.rd, hb⟩
  · exact ⟨_, [], [], 20, rfl, .inr ⟨rfl, rfl, h1⟩, rfl, (GRow.nil 0 _).rd, hb⟩
end Go.Proofs.Ytklfmgkfcacfkaa
