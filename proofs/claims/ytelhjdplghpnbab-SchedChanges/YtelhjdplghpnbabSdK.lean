import Derived.Test.YtelhjdplghpnbabSdI
/-! Rows of numbers of the call's own that may begin within their block. -/
namespace Go.Proofs.Ytelhjdplghpnbab
open Go.RowKit Plain
set_option linter.unusedVariables false
set_option linter.unusedSimpArgs false

theorem grow_setT (w : World) (b j : Nat) (v : Value) : w.grownBy (w.setCell ⟨b, j, none⟩ v) (some b) := grow_setCells w b j [v]
/-- A row of numbers of the call's own, in block r, from off on. -/
def RowO (w : World) (v : Value) (l : List Int) (r : Option Nat) : Prop :=
  (v = .slice none 0 0 ∧ l = [] ∧ r = none) ∨
  ∃ g off cap, r = some g ∧ v = .slice (some ⟨g, off, none⟩) l.length cap ∧ g < w.heap.size ∧ l.length ≤ cap ∧ cap ≤ maxLen ∧ (∀ j, j < cap → w.frozen? ⟨g, off + j, none⟩ = false) ∧ (∀ j, j < cap → (w.cell? ⟨g, off + j, none⟩).isSome = true) ∧
    ∀ j, j < l.length → w.cell? ⟨g, off + j, none⟩ = some (.int .i64 (l.getD j 0))
theorem RowO.nil (w : World) : RowO w (.slice none 0 0) [] none := .inl ⟨rfl, rfl, rfl⟩
theorem RowO.of_own {w : World} {v : Value} {l : List Int} {r : Option Nat} (h : OwnV w v (ints l) r) : RowO w v l r := by
  rcases h with ⟨rfl, h0, rfl⟩ | ⟨g, cap, rfl, rfl, hg, h1, h2, h3, h4, h5⟩
  · have : l = [] := by simpa [ints] using h0
    subst this
    exact .inl ⟨rfl, rfl, rfl⟩
  · rw [ints_len] at h1 h5 ⊢
    refine .inr ⟨g, 0, cap, rfl, rfl, hg, h1, h2, fun j hj => ?_, fun j hj => ?_, fun j hj => ?_⟩
    · rw [Nat.zero_add]; exact h3 j hj
    · rw [Nat.zero_add]; exact h4 j hj
    · rw [Nat.zero_add, h5 j hj, ints_get hj]
theorem RowO.of_block {w w' : World} {v : Value} {l : List Int} {r : Option Nat} (h : RowO w v l r) (hs : w.heap.size ≤ w'.heap.size) (hb : ∀ g, r = some g → w'.heap[g]? = w.heap[g]?) : RowO w' v l r := by
  rcases h with h0 | ⟨g, off, cap, rfl, rfl, hg, h1, h2, h3, h4, h5⟩
  · exact .inl h0
  · have hb := hb g rfl
    refine .inr ⟨g, off, cap, rfl, rfl, Nat.lt_of_lt_of_le hg hs, h1, h2, fun j hj => ?_, fun j hj => ?_, fun j hj => ?_⟩
    · rw [World.frozen?_of_block (w := w) (a := ⟨g, off + j, none⟩) hb]; exact h3 j hj
    · rw [World.cell?_of_block (w := w) (a := ⟨g, off + j, none⟩) hb]; exact h4 j hj
    · rw [World.cell?_of_block (w := w) (a := ⟨g, off + j, none⟩) hb]; exact h5 j hj
theorem RowO.lt {w : World} {v : Value} {l : List Int} {g : Nat} (h : RowO w v l (some g)) : g < w.heap.size := by
  rcases h with ⟨_, _, e⟩ | ⟨g', _, _, e, _, hg, _⟩
  · simp at e
  · simp at e; omega
theorem RowO.kept {w w' : World} {v : Value} {l : List Int} {r r' : Option Nat} (h : RowO w v l r) (k : w.grownBy w' r') (hne : ∀ g, r = some g → r' ≠ some g) : RowO w' v l r := by
  refine h.of_block k.size (fun g e => ?_)
  subst e
  exact k.block g h.lt (fun e2 => hne g rfl (by first | exact e2 | exact e2.symm))
theorem RowO.later {w w' : World} {v : Value} {l : List Int} {r : Option Nat} (h : RowO w v l r) (hb : Below w.heap.size w w') : RowO w' v l r := h.of_block hb.size (fun g e => hb.block g (by rw [e] at h; exact h.lt))
theorem RowO.shape {w : World} {v : Value} {l : List Int} {r : Option Nat} (h : RowO w v l r) : ∃ a cap, v = .slice a l.length cap ∧ cap ≤ maxLen ∧ l.length ≤ cap := by
  rcases h with ⟨rfl, rfl, h⟩ | ⟨g', off, cap, e, rfl, hg, h1, h2, _⟩
  · exact ⟨none, 0, rfl, by simp, by simp⟩
  · exact ⟨_, cap, rfl, h2, h1⟩
theorem RowO.reads {w : World} {v : Value} {l : List Int} {r : Option Nat} (h : RowO w v l r) (hl : l.length ≤ 17592186044000) (hok : ∀ z ∈ l, I64 z) : IntsAt w v l := by
  rcases h with ⟨rfl, rfl, rfl⟩ | ⟨g, off, cap, rfl, rfl, hg, h1, h2, h3, h4, h5⟩
  · exact ⟨none, 0, rfl, by simp, by simp, by simp, by simp⟩
  · exact ⟨_, cap, rfl, h1, hl, hok, fun _ => ⟨g, off, rfl, h5⟩⟩
/-- A first part of a row, read. -/
theorem RowO.head {w : World} {a : Option Addr} {N cap : Nat} {l k : List Int} {r : Option Nat} (h : RowO w (.slice a N cap) l r) (n : Nat) (hn : n ≤ l.length) (e : l.take n = k) (hb : n ≤ 17592186044000) (hok : ∀ z ∈ k, I64 z) : IntsAt w (.slice a n cap) k := by
  have hk : k.length = n := by rw [← e]; simp; omega
  rcases h with ⟨e0, rfl, rfl⟩ | ⟨g, off, cap', rfl, e0, hg, h1, h2, h3, h4, h5⟩
  · cases e0
    have : k = [] := by rw [← e]; simp
    subst this
    simp at hk
    subst hk
    exact ⟨none, 0, rfl, by simp, by simp, by simp, by simp⟩
  · cases e0
    refine ⟨_, cap, by rw [hk], by omega, by omega, hok, fun _ => ⟨g, off, rfl, fun j hj => ?_⟩⟩
    rw [h5 j (by omega), ← e, getI_take (by omega)]
/-- One number written. -/
theorem RowO.set {w : World} {a : Option Addr} {N c i : Nat} {l : List Int} {r : Option Nat} (h : RowO w (.slice a N c) l r) (hi : i < l.length) (z : Int) : ∃ g off, a = some ⟨g, off, none⟩ ∧ r = some g ∧ w.frozen? ⟨g, off + i, none⟩ = false ∧ w.cell? ⟨g, off + i, none⟩ = some (.int .i64 (l.getD i 0)) ∧ RowO (w.setCell ⟨g, off + i, none⟩ (.int .i64 z)) (.slice a N c) (l.set i z) r ∧ w.grownBy (w.setCell ⟨g, off + i, none⟩ (.int .i64 z)) (some g) := by
  rcases h with ⟨_, rfl, _⟩ | ⟨g, off, cap, rfl, e, hg, h1, h2, h3, h4, h5⟩
  · simp at hi
  · cases e
    refine ⟨g, off, rfl, rfl, h3 i (by omega), h5 i hi, .inr ⟨g, off, c, rfl, by simp, ?_, by simp; omega, h2, fun j hj => ?_, fun j hj => ?_, fun j hj => ?_⟩, grow_setT w g _ _⟩
    · have := (grow_setT w g (off + i) (.int .i64 z)).size; omega
    · rw [World.frozen?_setCell]; exact h3 j hj
    · by_cases e : j = i
      · subst e; rw [World.cell?_setCell_same _ _ _ (h5 j hi)]; rfl
      · rw [World.cell?_setCell_other _ _ _ _ (by simp only [ne_eq, Addr.mk.injEq]; omega)]; exact h4 j hj
    · simp at hj
      by_cases e : j = i
      · subst e; rw [World.cell?_setCell_same _ _ _ (h5 j hi)]; simp [List.getD_eq_getElem?_getD, hj]
      · rw [World.cell?_setCell_other _ _ _ _ (by simp only [ne_eq, Addr.mk.injEq]; omega), h5 j hj]; simp [List.getD_eq_getElem?_getD, Ne.symm e]
/-- The first one cut off. -/
theorem RowO.tail {w : World} {a : Option Addr} {N c : Nat} {x : Int} {l : List Int} {r : Option Nat} (h : RowO w (.slice a N c) (x :: l) r) : ∃ g off, a = some ⟨g, off, none⟩ ∧ r = some g ∧ N = l.length + 1 ∧ N ≤ c ∧ RowO w (.slice (some ⟨g, off + 1, none⟩) l.length (c - 1)) l r := by
  rcases h with ⟨_, e, _⟩ | ⟨g, off, cap, rfl, e, hg, h1, h2, h3, h4, h5⟩
  · cases e
  · cases e
    simp only [List.length_cons] at h1 h5
    refine ⟨g, off, rfl, rfl, by simp, by simpa using h1, .inr ⟨g, off + 1, c - 1, rfl, rfl, hg, by omega, by omega, fun j hj => ?_, fun j hj => ?_, fun j hj => ?_⟩⟩
    · have := h3 (j + 1) (by omega); rwa [show off + (j + 1) = off + 1 + j by omega] at this
    · have := h4 (j + 1) (by omega); rwa [show off + (j + 1) = off + 1 + j by omega] at this
    · have := h5 (j + 1) (by omega); rw [show off + (j + 1) = off + 1 + j by omega] at this; rw [this]; simp
/-- WHAT append DOES of numbers. -/
theorem run_append_o (w : World) (ty : TypeId) (v x : Value) (l us : List Int) (r : Option Nat) (hown : RowO w v l r) (hs : Src Try.prog 1 35 x us.length (ints us) w) (hlen : l.length + us.length ≤ 17592186044417) (hr0 : r ≠ none ∨ 0 < us.length) :
    ∃ v' w' g, (Builtin.append_ #[35, 35] ty #[v, x]).run Try.prog w = .ok v' w' ∧ RowO w' v' (l ++ us) (some g) ∧ w.grownBy w' r ∧ (some g = r ∨ g = w.heap.size) := by
  rcases hown with ⟨rfl, rfl, rfl⟩ | ⟨g, off, cap, rfl, rfl, hg, h1, h2, h3, h4, h5⟩
  · have hr1 : 0 < us.length := by
      rcases hr0 with h | h
      · exact absurd rfl h
      · exact h
    obtain ⟨v', w', g, e, h1, h2, h3⟩ := run_append_ints w ty (.slice none 0 0) x [] (ints us) none (OwnV.nil w) (by rw [ints_len]; exact hs) (by rw [ints_len]; simp at hlen ⊢; omega) (.inr (by rw [ints_len]; exact hr1))
    exact ⟨v', w', g, e, RowO.of_own (by simpa using h1), h2, h3⟩
  obtain ⟨i, hi, hz0, hz1, hz2⟩ := info_parts Try.infoI
  have hs' : Src Try.prog i.size 35 x us.length (ints us) w := by rw [hz1]; exact hs
  have hzc : (Value.int .i64 0).cells.size = 1 := by rfl
  by_cases hroom : l.length + us.length ≤ cap
  · have hr := run_append_room_src (P := Try.prog) w 35 35 ty 3 i Try.underlying35 hi g off l.length cap x us.length (ints us) hs' hroom
      (fun j hj => by rw [ints_len] at hj; rw [hz1, Nat.mul_one, Nat.add_assoc]; exact h4 _ (by omega))
      (fun j hj => by rw [ints_len] at hj; rw [hz1, Nat.mul_one, Nat.add_assoc]; exact h3 _ (by omega))
    rw [hz1, Nat.mul_one] at hr
    refine ⟨_, _, g, hr, .inr ⟨g, off, cap, rfl, by simp, ?_, by simp; omega, h2, fun j hj => ?_, fun j hj => ?_, fun j hj => ?_⟩, grow_setCells w g _ _, .inl rfl⟩
    · rw [setCells_size]; exact hg
    · rw [World.frozen?_setCells]; exact h3 j hj
    · exact isSome_setCells g _ _ w _ (h4 j hj)
    · simp only [List.length_append] at hj
      by_cases hj' : j < l.length
      · rw [World.cell?_setCells_out g _ _ w _ (fun _ _ => .inl (by show off + j < off + l.length; omega)), h5 j hj']
        simp [List.getD_eq_getElem?_getD, List.getElem?_append_left hj']
      · have hj2 : j - l.length < (ints us).length := by rw [ints_len]; omega
        have := World.cell?_setCells_in g (ints us) (off + l.length) w (fun m hm => by rw [ints_len] at hm; rw [Nat.add_assoc]; exact h4 _ (by omega)) (j - l.length) hj2
        rw [show off + l.length + (j - l.length) = off + j by omega] at this
        rw [ints_len] at hj2
        rw [this]
        simp [ints, List.getD_eq_getElem?_getD, List.getElem?_append_right (Nat.le_of_not_lt hj'), hj2]
  · have hold : (Builtin.firstCells i.size l.length (.slice (some ⟨g, off, none⟩) l.length cap)).run Try.prog w.drew = .ok (ints l).toArray w.drew := by
      rw [hz1]
      refine run_firstCells_some w.drew 1 l.length ⟨g, off, none⟩ _ _ (ints l) (by rw [ints_len]; omega) (fun j u hj => ?_)
      have hjl : j < l.length := by have := (List.getElem?_eq_some_iff.mp hj).1; rwa [ints_len] at this
      rw [WideShapes.add_plain]
      show w.cell? ⟨g, off + j, none⟩ = some u
      rw [h5 j hjl, ← hj, ints_get hjl]
    have hgr : cap < l.length + us.length := by omega
    have hr := run_append_grow_src (P := Try.prog) w 35 35 ty 3 i _ Try.underlying35 hi hz0 (some ⟨g, off, none⟩) l.length cap (ints l) hold x us.length (ints us) hs' hgr (by omega) (by rw [hz2]; exact growslice_fits_wide hgr (by omega))
    have hge := grownCap_ge w (l.length + us.length) cap 3
    have hcm := grownCap_le_maxLen w (l.length + us.length) cap 3 (by unfold maxLen; omega)
    refine ⟨_, _, w.heap.size, hr, ?_, ⟨rfl, rfl, rfl, by simp, fun k hk _ => heap_alloc_old w.drew _ hk⟩, .inr rfl⟩
    obtain ⟨C, hC⟩ : ∃ C, (ints l ++ ints us).toArray ++ Builtin.zeroCells (Value.int .i64 0).cells (grownCap w (l.length + us.length) cap 3 - (l.length + us.length)) = C := ⟨_, rfl⟩
    have hCs : C.size = grownCap w (l.length + us.length) cap 3 := by
      rw [← hC, Array.size_append, List.size_toArray, size_zeroCells, hzc, List.length_append, ints_len, ints_len]
      omega
    have hCg : ∀ j, j < l.length + us.length → C[j]? = some (.int .i64 ((l ++ us).getD j 0)) := fun j hj => by
      rw [← hC, Array.getElem?_append_left (by rw [List.size_toArray, List.length_append, ints_len, ints_len]; exact hj), List.getElem?_toArray, ← ints_app, ints_get (by simp; omega)]
    rw [hC]
    refine .inr ⟨w.heap.size, 0, grownCap w (l.length + us.length) cap 3, rfl, by simp, by simp, by simp; exact hge, hcm, fun j hj => ?_, fun j hj => ?_, fun j hj => ?_⟩
    · exact World.frozen?_alloc_at _ _ _ _ rfl
    · show ((w.drew.alloc (Obj.cells C 3)).cell? ⟨w.drew.heap.size, 0 + j, none⟩).isSome = true
      rw [World.cell?_alloc_at _ _ _ _ rfl, Nat.zero_add, Array.getElem?_eq_getElem (by omega)]; rfl
    · show (w.drew.alloc (Obj.cells C 3)).cell? ⟨w.drew.heap.size, 0 + j, none⟩ = _
      rw [World.cell?_alloc_at _ _ _ _ rfl, Nat.zero_add]; exact hCg j (by simpa using hj)
theorem wpList_append_o {ops : Array Oper} {rest : List Oper} {o : Oper} {a : Act} {Q : Exit → Act → World → Prop} (w : World) (hgd : o.guard = none) (s x : Operand)
    (ho : o.op = .call { callee := .builtin .append, args := #[s, x], argTypes := #[35, 35] }) (v xv : Value) (l us : List Int) (r : Option Nat)
    (hs : a.eval s = v) (hx : a.eval x = xv) (hown : RowO w v l r) (hsrc : Src Try.prog 1 35 xv us.length (ints us) w) (hlen : l.length + us.length ≤ 17592186044417) (hr0 : r ≠ none ∨ 0 < us.length)
    (h : ∀ v' w' g, RowO w' v' (l ++ us) (some g) → w.grownBy w' r → (some g = r ∨ g = w.heap.size) → wpList Try.prog ops Q rest (a.put o.dst v') w') : wpList Try.prog ops Q (o :: rest) a w :=
  wpList_plain hgd fun _ hK => by
    obtain ⟨v', w', g, hr, h1, h2, h3⟩ := run_append_o w o.type v xv l us r hown hsrc hlen hr0
    unfold Oper.wp execOp
    simp only [ho, resolve, invoke, builtin, Sem.run_bind, Sem.run_pure, Result.andThen_ok, List.map_toArray, List.map_cons, List.map_nil, hs, hx, hr]
    exact hK _ _ (h v' w' g h1 h2 h3)
end Go.Proofs.Ytelhjdplghpnbab
