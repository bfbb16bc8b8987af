import Derived.Test.YtklfmgkfcacfkaaSh4
import Derived.Test.YtklfmgkfcacfkaaSt
/-! Rows of tokens that are written in place; twins. -/
namespace Go.Proofs.Ytklfmgkfcacfkaa
open Go.RowKit Plain
set_option linter.unusedVariables false
set_option linter.unusedSimpArgs false

theorem sameC3 (va vb : Value) (gs hs : List Tg) (w : World) (ha : TRd w va gs) (hb : TRd w vb hs) (h : gs.map Tg.c3 = hs.map Tg.c3) :
    Calls Try.prog 23 #[va, vb] w fun e w' => e = .returned (.bool true) ∧ ∃ n, w' = w.drewN n := by
  have hl : gs.length = hs.length := by
    have := congrArg List.length h
    simpa using this
  refine sameTok va vb gs hs w ha hb hl fun k h1 h2 => ?_
  have e : (gs.map Tg.c3)[k]? = (hs.map Tg.c3)[k]? := by rw [h]
  rw [List.getElem?_map, List.getElem?_map, List.getElem?_eq_getElem h1, List.getElem?_eq_getElem h2] at e
  simp only [Option.map_some, Option.some.injEq, Tg.c3, Prod.mk.injEq] at e
  exact e

theorem OwnG.set {w : World} {g n cap : Nat} {ts : List Tg} (h : OwnG w (.slice (some ⟨g, 0, none⟩) n cap) ts (some g)) (i : Nat) (hi : i < ts.length) (t : Tg) : OwnG (w.setCells g (i * 3) t.cells) (.slice (some ⟨g, 0, none⟩) n cap) (ts.set i t) (some g) := by
  rcases h with ⟨h, _⟩ | ⟨g', cap', e, e2, hg, h1, h2, h3, h4, h5⟩
  · simp at h
  · simp at e; subst e
    simp only [Value.slice.injEq, true_and] at e2
    obtain ⟨rfl, rfl⟩ := e2
    refine .inr ⟨g, cap, rfl, by rw [List.length_set], by rw [setCells_size]; exact hg, by rw [List.length_set]; exact h1, h2, fun j hj => ?_, fun j hj => ?_, fun j hj => ?_⟩
    · rw [World.frozen?_setCells]; exact h3 j hj
    · exact isSome_setCells g _ _ w _ (h4 j hj)
    · rw [List.length_set] at hj
      obtain ⟨k, m, rfl, hm⟩ : ∃ k m, j = k * 3 + m ∧ m < 3 := ⟨j / 3, j % 3, by omega, by omega⟩
      have hk : k < ts.length := by omega
      rw [gcells_get (ts.set i t) k m (by rw [List.length_set]; exact hk) hm]
      by_cases hki : k = i
      · subst hki
        have := World.cell?_setCells_in g t.cells (k * 3) w (fun q hq => h4 _ (by rw [Tg.cells_len] at hq; omega)) m (by rw [Tg.cells_len]; exact hm)
        rw [this, List.getElem_set_self, List.getElem?_eq_getElem (by rw [Tg.cells_len]; exact hm)]
      · rw [World.cell?_setCells_out g _ _ w _ (fun _ _ => by
          rw [Tg.cells_len]
          show k * 3 + m < i * 3 ∨ i * 3 + 3 ≤ k * 3 + m
          omega), h5 _ (by omega), gcells_get ts k m hk hm, List.getElem_set_ne (Ne.symm hki)]
theorem OwnG.cells3 {w : World} {g n cap : Nat} {ts : List Tg} (h : OwnG w (.slice (some ⟨g, 0, none⟩) n cap) ts (some g)) {k : Nat} {t : Tg} (hk : ts[k]? = some t) :
    w.cell? ⟨g, k * 3, none⟩ = some t.v ∧ w.cell? ⟨g, k * 3 + 1, none⟩ = some (.int .i64 t.d) ∧ w.cell? ⟨g, k * 3 + 2, none⟩ = some (.int .i64 t.n) ∧ w.frozen? ⟨g, k * 3, none⟩ = false ∧ w.frozen? ⟨g, k * 3 + 1, none⟩ = false ∧ w.frozen? ⟨g, k * 3 + 2, none⟩ = false := by
  obtain ⟨hlt, hk⟩ := List.getElem?_eq_some_iff.mp hk
  rcases h with ⟨h, _⟩ | ⟨g', cap', e, e2, hg, h1, h2, h3, h4, h5⟩
  · simp at h
  · simp at e; subst e
    have e : ∀ j, j < 3 → w.cell? ⟨g, k * 3 + j, none⟩ = ts[k].cells[j]? := fun j hj => by rw [h5 _ (by omega)]; exact gcells_get ts k j hlt hj
    rw [hk] at e
    exact ⟨e 0 (by decide), e 1 (by decide), e 2 (by decide), h3 _ (by omega), h3 _ (by omega), h3 _ (by omega)⟩
theorem OwnG.rd {w : World} {v : Value} {ts : List Tg} {r : Option Nat} (h : OwnG w v ts r) (hok : ∀ t ∈ ts, t.ok w) : TRd w v ts := by
  rcases h with ⟨rfl, rfl, rfl⟩ | ⟨g, cap, rfl, rfl, hg, h1, h2, h3, h4, h5⟩
  · exact ⟨none, 0, rfl, by simp, by simp, hok, by simp⟩
  · refine ⟨_, cap, rfl, h1, h2, hok, fun _ => ⟨g, 0, rfl, fun k hk => ?_⟩⟩
    rw [Nat.zero_add]
    have e : ∀ j, j < 3 → w.cell? ⟨g, k * 3 + j, none⟩ = ts[k].cells[j]? := fun j hj => by rw [h5 _ (by omega)]; exact gcells_get ts k j hk hj
    exact ⟨e 0 (by decide), e 1 (by decide), e 2 (by decide)⟩
theorem OwnG.rdHead {w : World} {g n cap : Nat} {ts rs : List Tg} (h : OwnG w (.slice (some ⟨g, 0, none⟩) n cap) (ts ++ rs) (some g)) (hok : ∀ t ∈ ts, t.ok w) : TRd w (.slice (some ⟨g, 0, none⟩) ts.length cap) ts := by
  rcases h with ⟨h, _⟩ | ⟨g', cap', e, e2, hg, h1, h2, h3, h4, h5⟩
  · simp at h
  · simp at e; subst e
    simp only [Value.slice.injEq, true_and] at e2
    obtain ⟨rfl, rfl⟩ := e2
    rw [List.length_append] at h1
    refine ⟨_, cap, rfl, by omega, h2, hok, fun _ => ⟨g, 0, rfl, fun k hk => ?_⟩⟩
    rw [Nat.zero_add]
    have e : ∀ j, j < 3 → w.cell? ⟨g, k * 3 + j, none⟩ = ts[k].cells[j]? := fun j hj => by
      rw [h5 _ (by rw [List.length_append]; omega), gcells_get (ts ++ rs) k j (by rw [List.length_append]; omega) hj, List.getElem_append_left hk]
    exact ⟨e 0 (by decide), e 1 (by decide), e 2 (by decide)⟩
def zT : Tg := ⟨.slice none 0 0, [], 0, 0⟩
def mT : Tg := ⟨.slice none 0 0, [], 77, -5⟩
theorem made3 (n j : Nat) (h : j < n * 3) : (madeCells (Value.agg #[.slice none 0 0, .int .i64 0, .int .i64 0]).cells (n * 3)).toList[j]? = zT.cells[j % 3]? := by
  unfold madeCells
  rw [zcellsG]
  simp only [Array.toList_map, List.getElem?_map, Array.toList_range]
  rw [List.getElem?_eq_getElem (by simpa using h)]
  simp only [List.getElem_range, Option.map_some]
  have hm : j % 3 < 3 := Nat.mod_lt _ (by decide)
  have h3 : j % 3 = 0 ∨ j % 3 = 1 ∨ j % 3 = 2 := by omega
  rcases h3 with e | e | e <;> rw [e] <;> rfl
theorem OwnG.made {w : World} {g base n : Nat} (ho : w.ownsRow base 28 3 (.slice (some ⟨g, 0, none⟩) n n) n (madeCells (Value.agg #[.slice none 0 0, .int .i64 0, .int .i64 0]).cells (n * 3)).toList) : OwnG w (.slice (some ⟨g, 0, none⟩) n n) (List.replicate n zT) (some g) ∧ base ≤ g := by
  rcases ho.2 with ⟨h, _⟩ | ⟨g', cap', cur, e, hg, hh, hle, hm, hs, ht⟩
  · simp at h
  · simp only [Value.slice.injEq, Option.some.injEq, Addr.mk.injEq] at e
    obtain ⟨⟨rfl, _, _⟩, _, rfl⟩ := e
    have hlt : g < w.heap.size := (Array.getElem?_eq_some_iff.mp hh).1
    refine ⟨.inr ⟨g, n, rfl, by rw [List.length_replicate], hlt, by rw [List.length_replicate]; exact Nat.le_refl _, hm, fun j hj => ?_, fun j hj => ?_, fun j hj => ?_⟩, hg⟩
    · simp only [World.frozen?, hh]; simp
    · simp only [World.cell?, hh]
      have hsz : j < cur.size := by omega
      simp [hsz]
    · rw [List.length_replicate] at hj
      obtain ⟨k, m, rfl, hm⟩ : ∃ k m, j = k * 3 + m ∧ m < 3 := ⟨j / 3, j % 3, by omega, by omega⟩
      have h1 := made3 n (k * 3 + m) (by omega)
      rw [← ht, List.getElem?_take_of_lt (by omega)] at h1
      simp only [World.cell?, hh]
      rw [Array.getElem?_toList] at h1
      rw [gcells_get _ k m (by rw [List.length_replicate]; omega) hm, List.getElem_replicate]
      have h2 : (k * 3 + m) % 3 = m := by omega
      rw [h2] at h1
      simpa using h1
theorem OwnG.later {w w' : World} {v : Value} {ts : List Tg} {r : Option Nat} (h : OwnG w v ts r) (k : Below w.heap.size w w') : OwnG w' v ts r := h.kept (below_grow k none) (by cases r <;> simp)

/-- A token whose bytes lie in a row of their own, with marks behind them. -/
def TwL (base gl : Nat) (w : World) (t : Tg) : Prop := ∃ G, t.v = .slice (some ⟨G, 0, none⟩) t.l.length (t.l.length + 64) ∧ base ≤ G ∧ G ≠ gl ∧ Own w (.slice (some ⟨G, 0, none⟩) (t.l.length + 64) (t.l.length + 64)) (t.l ++ tailM t.l.length) (some G)
def Tg.nums (t : Tg) : Prop := t.l.length ≤ 140737488351232 ∧ -9223372036854775808 ≤ t.d ∧ t.d ≤ 9223372036854775807 ∧ -9223372036854775808 ≤ t.n ∧ t.n ≤ 9223372036854775807
theorem TwL.bytes {base gl : Nat} {w : World} {t : Tg} (h : TwL base gl w t) : BytesAt w t.v t.l := by
  obtain ⟨G, h1, h2, h3, h4⟩ := h
  rw [h1]
  have := (h4.bytes).take t.l.length (by simp)
  rwa [List.take_append_of_le_length (Nat.le_refl _), List.take_length] at this
theorem TwL.ok {base gl : Nat} {w : World} {t : Tg} (h : TwL base gl w t) (hn : t.nums) : t.ok w := ⟨h.bytes, by have := hn.1; omega, hn.2⟩
theorem TwL.kept {base gl : Nat} {w w' : World} {t : Tg} {r : Option Nat} (h : TwL base gl w t) (k : w.grownBy w' r) (hr : ∀ x, r = some x → x < base ∨ x = gl ∨ w.heap.size ≤ x) : TwL base gl w' t := by
  obtain ⟨G, h1, h2, h3, h4⟩ := h
  exact ⟨G, h1, h2, h3, h4.kept k (.inr fun e => by have := hr G e.symm; have := h4.lt; omega)⟩
theorem c3_nums {tg tw : List Tg} (h : tw.map Tg.c3 = tg.map Tg.c3) (hn : ∀ t ∈ tg, t.nums) : ∀ t ∈ tw, t.nums := by
  intro t ht
  have : t.c3 ∈ tg.map Tg.c3 := by rw [← h]; exact List.mem_map_of_mem ht
  obtain ⟨s, hs, e⟩ := List.mem_map.mp this
  have hsn := hn s hs
  simp only [Tg.c3, Prod.mk.injEq] at e
  unfold Tg.nums at hsn ⊢
  rw [← e.1, ← e.2.1, ← e.2.2]
  exact hsn
/-- The twins of tokens. -/
structure TwAt (base : Nat) (w : World) (gl : Nat) (tg tw : List Tg) : Prop where
  c3 : tw.map Tg.c3 = tg.map Tg.c3
  lits : ∀ t ∈ tw, TwL base gl w t
  own : OwnG w (.slice (some ⟨gl, 0, none⟩) (tg.length + 1) (tg.length + 1)) (tw ++ [mT]) (some gl)
  gb : base ≤ gl
theorem TwAt.len {base : Nat} {w : World} {gl : Nat} {tg tw : List Tg} (h : TwAt base w gl tg tw) : tw.length = tg.length := by
  have := congrArg List.length h.c3
  simpa using this
theorem TwAt.rd {base : Nat} {w : World} {gl : Nat} {tg tw : List Tg} (h : TwAt base w gl tg tw) (hn : ∀ t ∈ tg, t.nums) : TRd w (.slice (some ⟨gl, 0, none⟩) tg.length (tg.length + 1)) tw := by
  have := h.own.rdHead (fun t ht => (h.lits t ht).ok (c3_nums h.c3 hn t ht))
  rwa [h.len] at this
theorem TwAt.later {base : Nat} {w w' : World} {gl : Nat} {tg tw : List Tg} (h : TwAt base w gl tg tw) (k : Below w.heap.size w w') : TwAt base w' gl tg tw :=
  ⟨h.c3, fun t ht => (h.lits t ht).kept (below_grow k none) (by simp), h.own.later k, h.gb⟩
end Go.Proofs.Ytklfmgkfcacfkaa
