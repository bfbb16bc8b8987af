import Derived.Test.YtmcfcbonmmifeaaDoorOnB
import Derived.Test.YtmcfcbonmmifeaaDoorJd
/-! dedupe: what was given, in memory. -/
namespace Go.Proofs.YtmcfcbonmmifeaaDoor
open Go.RowKit Go.Maps Plain
set_option linter.unusedVariables false
set_option linter.unusedSimpArgs false

def ints (l : List Int) : List Value := l.map fun z => .int .i64 z
theorem ints_len (l : List Int) : (ints l).length = l.length := by simp [ints]
theorem ints_snoc (l : List Int) (x : Int) : ints (l ++ [x]) = ints l ++ [.int .i64 x] := by simp [ints]
theorem OwnGc.of_block {w w' : World} {v : Value} {ts : List Gc} {r : Option Nat} (h : OwnGc w v ts r) (hs : w.heap.size ≤ w'.heap.size) (hb : ∀ g, r = some g → w'.heap[g]? = w.heap[g]?) : OwnGc w' v ts r := by
  rcases h with h0 | ⟨g, cap, rfl, rfl, hg, h1, h2, h3, h4, h5⟩
  · exact .inl h0
  · have hb := hb g rfl
    refine .inr ⟨g, cap, rfl, rfl, Nat.lt_of_lt_of_le hg hs, h1, h2, fun j hj => ?_, fun j hj => ?_, fun j hj => ?_⟩
    · rw [World.frozen?_of_block (w := w) (a := ⟨g, j, none⟩) hb]; exact h3 j hj
    · rw [World.cell?_of_block (w := w) (a := ⟨g, j, none⟩) hb]; exact h4 j hj
    · rw [World.cell?_of_block (w := w) (a := ⟨g, j, none⟩) hb]; exact h5 j hj
/-- The slice of one element is set. -/
theorem OwnGc.set {w : World} {v : Value} {g : Nat} {ts : List Gc} (h : OwnGc w v ts (some g)) (i : Nat) (hi : i < ts.length) (u : Value) : OwnGc (w.setCell ⟨g, i * 2 + 1, none⟩ u) v (ts.set i ⟨(ts.getD i Gc.zero).pid, u⟩) (some g) := by
  rcases h with ⟨_, _, h⟩ | ⟨g', cap, e, rfl, hg, h1, h2, h3, h4, h5⟩
  · simp at h
  · simp at e; subst e
    refine .inr ⟨g, cap, rfl, by rw [List.length_set], by rw [size_setC]; exact hg, by rw [List.length_set]; exact h1, h2, fun j hj => ?_, fun j hj => ?_, fun j hj => ?_⟩
    · have := World.frozen?_setCells g [u] (i * 2 + 1) w ⟨g, j, none⟩
      exact this.trans (h3 j hj)
    · exact isSome_setCells g [u] (i * 2 + 1) w _ (h4 j hj)
    · rw [List.length_set] at hj
      obtain ⟨k, m, rfl, hm⟩ : ∃ k m, j = k * 2 + m ∧ m < 2 := ⟨j / 2, j % 2, by omega, by omega⟩
      have hk : k < ts.length := by omega
      have hout : (k ≠ i ∨ m = 0) → (w.setCell ⟨g, i * 2 + 1, none⟩ u).cell? ⟨g, k * 2 + m, none⟩ = w.cell? ⟨g, k * 2 + m, none⟩ := fun hne => by
        have := World.cell?_setCells_out g [u] (i * 2 + 1) w ⟨g, k * 2 + m, none⟩ (fun _ _ => by
          show k * 2 + m < i * 2 + 1 ∨ i * 2 + 1 + 1 ≤ k * 2 + m
          omega)
        exact this
      rw [ccells_get _ k m (by rw [List.length_set]; exact hk) hm]
      by_cases hki : k = i
      · subst hki
        have e1 : (ts.set k ⟨(ts.getD k Gc.zero).pid, u⟩).getD k Gc.zero = ⟨(ts.getD k Gc.zero).pid, u⟩ := by
          rw [List.getD_eq_getElem?_getD, List.getElem?_set_self hk]; rfl
        rw [e1]
        rcases (by omega : m = 0 ∨ m = 1) with rfl | rfl
        · rw [hout (.inr rfl), h5 _ (by omega), ccells_get ts k 0 hk (by decide)]
          rfl
        · have := World.cell?_setCells_in g [u] (k * 2 + 1) w (fun q hq => h4 _ (by simp at hq; omega)) 0 (by simp)
          exact this
      · have e1 : (ts.set i ⟨(ts.getD i Gc.zero).pid, u⟩).getD k Gc.zero = ts.getD k Gc.zero := by
          rw [List.getD_eq_getElem?_getD, List.getElem?_set_ne (Ne.symm hki), ← List.getD_eq_getElem?_getD]
        rw [e1, hout (.inl hki), h5 _ (by omega), ccells_get ts k m hk hm]

/-- A row of what was given: the row's block r, the slices' blocks bs, all in P. -/
structure GRow (P : Nat → Prop) (w : World) (v : Value) (G : List Gv) (ts : List Gc) (r : Option Nat) (bs : Nat → Option Nat) : Prop where
  row : OwnGc w v ts r
  len : ts.length = G.length
  offs : ∀ j g, G[j]? = some g → (ts.getD j Gc.zero).pid = g.pid ∧ OwnV w (ts.getD j Gc.zero).sl (ints g.offs) (bs j)
  ap : ∀ i j b, i < G.length → j < G.length → bs i = some b → bs j = some b → i = j
  inp : ∀ j b, j < G.length → bs j = some b → P b ∧ r ≠ some b
  inr : ∀ b, r = some b → P b
/-- Somewhere in P. -/
def GAt (P : Nat → Prop) (w : World) (v : Value) (G : List Gv) : Prop := ∃ ts r bs, GRow P w v G ts r bs
theorem OwnV.blt {w : World} {v : Value} {vs : List Value} {r : Option Nat} (h : OwnV w v vs r) : ∀ b, r = some b → b < w.heap.size := by
  intro b e; subst e; exact h.lt
theorem OwnGc.blt {w : World} {v : Value} {ts : List Gc} {r : Option Nat} (h : OwnGc w v ts r) : ∀ b, r = some b → b < w.heap.size := by
  intro b e; subst e; exact h.lt
theorem GRow.keep {P : Nat → Prop} {w w' : World} {v : Value} {G : List Gv} {ts : List Gc} {r : Option Nat} {bs : Nat → Option Nat} (h : GRow P w v G ts r bs) (hs : w.heap.size ≤ w'.heap.size) (hb : ∀ b, P b → b < w.heap.size → w'.heap[b]? = w.heap[b]?) : GRow P w' v G ts r bs := by
  refine ⟨h.row.of_block hs fun g e => hb g (h.inr g e) (h.row.blt g e), h.len, fun j g hg => ?_, h.ap, h.inp, h.inr⟩
  obtain ⟨h1, h2⟩ := h.offs j g hg
  have hj := (List.getElem?_eq_some_iff.mp hg).1
  exact ⟨h1, h2.of_block hs fun b e => hb b (h.inp j b hj e).1 (h2.blt b e)⟩
theorem GAt.keep {P : Nat → Prop} {w w' : World} {v : Value} {G : List Gv} (h : GAt P w v G) (hs : w.heap.size ≤ w'.heap.size) (hb : ∀ b, P b → b < w.heap.size → w'.heap[b]? = w.heap[b]?) : GAt P w' v G := by
  obtain ⟨ts, r, bs, h⟩ := h
  exact ⟨ts, r, bs, h.keep hs hb⟩
theorem GAt.later {P : Nat → Prop} {w w' : World} {v : Value} {G : List Gv} (h : GAt P w v G) (hb : Below w.heap.size w w') : GAt P w' v G := h.keep hb.size fun b _ hl => hb.block b hl
theorem GAt.chg {P : Nat → Prop} {S : Nat → Prop} {w w' : World} {v : Value} {G : List Gv} (h : GAt P w v G) (hb : Chg S w w') (hn : ∀ b, P b → ¬ S b) : GAt P w' v G := h.keep hb.size fun b hp hl => hb.block b hl (hn b hp)
theorem GAt.nil (w : World) : GAt (fun _ => False) w (.slice none 0 0) [] := ⟨[], none, fun _ => none, OwnGc.nil w, rfl, by simp, by simp, by simp, by simp⟩
theorem GAt.shape {P : Nat → Prop} {w : World} {v : Value} {G : List Gv} (h : GAt P w v G) : ∃ a cap, v = .slice a G.length cap := by
  obtain ⟨ts, r, bs, h⟩ := h
  obtain ⟨a, cap, e, _, _⟩ := h.row.shape
  rw [h.len] at e
  exact ⟨a, cap, e⟩
/-- What is read of one. -/
structure GOne (w : World) (b i : Nat) (g : Gv) (a : Option Addr) (cap : Nat) : Prop where
  c0 : w.cell? ⟨b, i * 2, none⟩ = some (.int .i64 g.pid)
  c1 : w.cell? ⟨b, i * 2 + 1, none⟩ = some (.slice a g.offs.length cap)
  last : g.offs ≠ [] → ∃ x, a = some ⟨x, 0, none⟩ ∧ w.cell? ⟨x, g.offs.length - 1, none⟩ = some (.int .i64 (g.offs.getLastD 0))
theorem ints_last {l : List Int} (h : l ≠ []) : (ints l)[l.length - 1]? = some (.int .i64 (l.getLastD 0)) := by
  unfold ints
  rw [List.getElem?_map, ← List.getLast?_eq_getElem?, List.getLastD_eq_getLast?]
  cases hl : l.getLast? with
  | none => exact absurd (List.getLast?_eq_none_iff.mp hl) h
  | some x => rfl
theorem GAt.one {P : Nat → Prop} {w : World} {v : Value} {G : List Gv} (h : GAt P w v G) : ∃ a cap, v = .slice a G.length cap ∧ ∀ i g, G[i]? = some g → ∃ b a' cap', a = some ⟨b, 0, none⟩ ∧ GOne w b i g a' cap' := by
  obtain ⟨ts, r, bs, h⟩ := h
  obtain ⟨a, cap, e, _, _⟩ := h.row.shape
  have e' := e
  rw [h.len] at e'
  refine ⟨a, cap, e', fun i g hg => ?_⟩
  have hi : i < ts.length := by rw [h.len]; exact (List.getElem?_eq_some_iff.mp hg).1
  have hrow := h.row
  have hr : ∃ b, r = some b ∧ a = some ⟨b, 0, none⟩ := by
    rcases hrow with ⟨_, e2, _⟩ | ⟨b, c, e2, e3, _⟩
    · rw [e2] at hi; simp at hi
    · rw [e] at e3; simp at e3; exact ⟨b, e2, e3.1⟩
  obtain ⟨b, rfl, rfl⟩ := hr
  obtain ⟨k0, k1⟩ := hrow.at hi
  obtain ⟨h1, h2⟩ := h.offs i g hg
  obtain ⟨a', cap', e2, _, _⟩ := h2.shape
  rw [ints_len] at e2
  refine ⟨b, a', cap', rfl, by rw [k0, h1], by rw [k1, e2], fun hne => ?_⟩
  rw [e2] at h2
  obtain ⟨x, _, hx, hc⟩ := h2.get (ints_last hne)
  exact ⟨x, hx, hc⟩
/-- One more is listed. -/
theorem GRow.more {P : Nat → Prop} {w w' : World} {v v' : Value} {G : List Gv} {ts : List Gc} {r : Option Nat} {bs : Nat → Option Nat} (h : GRow P w v G ts r bs) {pid : Int} {g : Nat} (ho : OwnGc w' v' (ts ++ [⟨pid, .slice none 0 0⟩]) (some g)) (hk : w.grownBy w' r) (hg : some g = r ∨ w.heap.size ≤ g) : GRow (fun b => P b ∨ b = g) w' v' (G ++ [⟨pid, []⟩]) (ts ++ [⟨pid, .slice none 0 0⟩]) (some g) (fun j => if j < G.length then bs j else none) := by
  refine ⟨ho, by simp [h.len], fun j x hx => ?_, fun i j b hi hj ei ej => ?_, fun j b hj e => ?_, fun b e => by cases e; exact .inr rfl⟩
  · by_cases hj : j < G.length
    · rw [List.getElem?_append_left hj] at hx
      obtain ⟨h1, h2⟩ := h.offs j x hx
      have e : (ts ++ [(⟨pid, .slice none 0 0⟩ : Gc)]).getD j Gc.zero = ts.getD j Gc.zero := by
        rw [List.getD_eq_getElem?_getD, List.getElem?_append_left (by rw [h.len]; exact hj), ← List.getD_eq_getElem?_getD]
      rw [e, if_pos hj]
      refine ⟨h1, h2.kept hk ?_⟩
      cases hb : bs j with
      | none => exact .inl rfl
      | some b => exact .inr fun e => (h.inp j b hj hb).2 e.symm
    · have hj2 : j = G.length := by
        have := (List.getElem?_eq_some_iff.mp hx).1
        simp at this; omega
      subst hj2
      have e2 : x = ⟨pid, []⟩ := by simpa using hx.symm
      subst e2
      have e : (ts ++ [(⟨pid, .slice none 0 0⟩ : Gc)]).getD G.length Gc.zero = (⟨pid, .slice none 0 0⟩ : Gc) := by
        rw [List.getD_eq_getElem?_getD, ← h.len]; simp
      rw [e, if_neg (by omega)]
      exact ⟨rfl, OwnV.nil _⟩
  · split at ei
    · split at ej
      · exact h.ap i j b (by assumption) (by assumption) ei ej
      · cases ej
    · cases ei
  · split at e
    · rename_i hj'
      obtain ⟨h1, h2⟩ := h.inp j b hj' e
      refine ⟨.inl h1, fun e3 => ?_⟩
      cases e3
      rcases hg with hg | hg
      · exact h2 hg.symm
      · obtain ⟨x, hx⟩ : ∃ x, G[j]? = some x := ⟨G[j], by simp [hj']⟩
        have := (h.offs j x hx).2.blt _ e
        omega
    · cases e
/-- One more offset is listed. -/
theorem GRow.lay {P : Nat → Prop} {w w' : World} {v u : Value} {G : List Gv} {ts : List Gc} {r : Nat} {bs : Nat → Option Nat} (h : GRow P w v G ts (some r) bs) {i : Nat} {x : Gv} (hx : G[i]? = some x) {off : Int} {g : Nat} (ho : OwnV w' u (ints (x.offs ++ [off])) (some g)) (hk : w.grownBy w' (bs i)) (hg : some g = bs i ∨ w.heap.size ≤ g) :
    GRow (fun b => P b ∨ b = g) (w'.setCell ⟨r, i * 2 + 1, none⟩ u) v (G.modify i fun y => ⟨y.pid, y.offs ++ [off]⟩) (ts.set i ⟨(ts.getD i Gc.zero).pid, u⟩) (some r) (fun j => if j = i then some g else bs j) := by
  have hi : i < G.length := (List.getElem?_eq_some_iff.mp hx).1
  have hit : i < ts.length := by rw [h.len]; exact hi
  have hrl := h.row.blt r rfl
  have hgr : g ≠ r := by
    intro e
    rcases hg with hg | hg
    · exact (h.inp i g hi hg.symm).2 (by rw [e])
    · omega
  have hrow : OwnGc w' v ts (some r) := h.row.of_block hk.size fun y e => by
    cases e
    exact hk.block r hrl fun e => (h.inp i r hi e.symm).2 rfl
  have hgl : g < w'.heap.size := ho.lt
  have hset : ∀ (y : Value) (vs : List Value) (q : Option Nat), OwnV w' y vs q → q ≠ some r → OwnV (w'.setCell ⟨r, i * 2 + 1, none⟩ u) y vs q := fun y vs q hq hne => by
    refine hq.of_block (by rw [size_setC]; exact Nat.le_refl _) fun b e => ?_
    have hbl := hq.blt b e
    exact (grow_setC w' r (i * 2 + 1) u).block b hbl (fun e2 => hne (e.trans e2))
  refine ⟨hrow.set i hit u, by simp [h.len], fun j y hy => ?_, fun a b q ha hb ea eb => ?_, fun j b hj e => ?_, fun b e => .inl (h.inr b e)⟩
  · rw [List.getElem?_modify] at hy
    by_cases hji : j = i
    · subst hji
      rw [hx] at hy
      simp at hy
      subst hy
      have e : (ts.set j ⟨(ts.getD j Gc.zero).pid, u⟩).getD j Gc.zero = ⟨(ts.getD j Gc.zero).pid, u⟩ := by
        rw [List.getD_eq_getElem?_getD, List.getElem?_set_self hit]; rfl
      rw [e, if_pos rfl]
      exact ⟨(h.offs j x hx).1, hset _ _ _ ho (by simpa using hgr)⟩
    · have hy' : G[j]? = some y := by
        simpa [Ne.symm hji] using hy
      have e : (ts.set i ⟨(ts.getD i Gc.zero).pid, u⟩).getD j Gc.zero = ts.getD j Gc.zero := by
        rw [List.getD_eq_getElem?_getD, List.getElem?_set_ne (Ne.symm hji), ← List.getD_eq_getElem?_getD]
      rw [e, if_neg hji]
      obtain ⟨h1, h2⟩ := h.offs j y hy'
      have hjl := (List.getElem?_eq_some_iff.mp hy').1
      refine ⟨h1, hset _ _ _ (h2.kept hk ?_) fun e => (h.inp j r hjl e).2 rfl⟩
      cases hb : bs j with
      | none => exact .inl rfl
      | some b => exact .inr fun e => hji (h.ap j i b hjl hi hb e.symm)
  · rw [List.length_modify] at ha hb
    split at ea <;> split at eb
    · simp_all
    · exfalso
      cases ea
      obtain ⟨z, hz⟩ : ∃ z, G[b]? = some z := ⟨G[b], by simp [hb]⟩
      have := (h.offs b z hz).2.blt g eb
      rcases hg with hg | hg
      · have := h.ap b i g hb hi eb hg.symm; simp_all
      · omega
    · exfalso
      cases eb
      obtain ⟨z, hz⟩ : ∃ z, G[a]? = some z := ⟨G[a], by simp [ha]⟩
      have := (h.offs a z hz).2.blt g ea
      rcases hg with hg | hg
      · have := h.ap a i g ha hi ea hg.symm; simp_all
      · omega
    · exact h.ap a b q ha hb ea eb
  · rw [List.length_modify] at hj
    split at e
    · cases e
      exact ⟨.inr rfl, by simpa using hgr.symm⟩
    · obtain ⟨h1, h2⟩ := h.inp j b hj e
      exact ⟨.inl h1, h2⟩
/-- One is read, and can be written. -/
theorem GAt.pick {P : Nat → Prop} {w : World} {b cap : Nat} {G : List Gv} (h : GAt P w (.slice (some ⟨b, 0, none⟩) G.length cap) G) {i : Nat} {g : Gv} (hi : G[i]? = some g) : ∃ ts bs a c, GRow P w (.slice (some ⟨b, 0, none⟩) G.length cap) G ts (some b) bs ∧ w.cell? ⟨b, i * 2 + 1, none⟩ = some (.slice a g.offs.length c) ∧ w.frozen? ⟨b, i * 2 + 1, none⟩ = false ∧ OwnV w (.slice a g.offs.length c) (ints g.offs) (bs i) := by
  obtain ⟨ts, r, bs, h⟩ := h
  have hit : i < ts.length := by rw [h.len]; exact (List.getElem?_eq_some_iff.mp hi).1
  have hr : r = some b := by
    rcases h.row with ⟨e, _, _⟩ | ⟨g', c', e1, e2, _⟩
    · simp at e
    · simp at e2; rw [e1, e2.1]
  subst hr
  obtain ⟨h1, h2⟩ := h.offs i g hi
  obtain ⟨k0, k1⟩ := h.row.at hit
  obtain ⟨a, c, e, _, _⟩ := h2.shape
  rw [ints_len] at e
  have hf : w.frozen? ⟨b, i * 2 + 1, none⟩ = false := by
    rcases h.row with ⟨e, _, _⟩ | ⟨g', c', e1, e2, _, l1, _, l3, _⟩
    · simp at e
    · cases e1; exact l3 _ (by omega)
  exact ⟨ts, bs, a, c, h, by rw [k1, e], hf, by rw [← e]; exact h2⟩
end Go.Proofs.YtmcfcbonmmifeaaDoor
