import Derived.Test.YtelhjdplghpnbabSdO
/-! Numbers that are appended to a row, where the slice as it was reads on. -/
namespace Go.Proofs.Ytelhjdplghpnbab
open Go.RowKit Plain
set_option linter.unusedVariables false
set_option linter.unusedSimpArgs false

/-- What append does of numbers; the slice as it was reads on. -/
theorem run_append_p (w : World) (ty : TypeId) (v x : Value) (l us : List Int) (r : Option Nat) (hown : RowO w v l r) (hs : Src Try.prog 1 35 x us.length (ints us) w) (hlen : l.length + us.length ≤ 17592186044417) (hr0 : r ≠ none ∨ 0 < us.length) :
    ∃ v' w' g, (Builtin.append_ #[35, 35] ty #[v, x]).run Try.prog w = .ok v' w' ∧ RowO w' v' (l ++ us) (some g) ∧ w.grownBy w' r ∧ (some g = r ∨ g = w.heap.size) ∧ RowO w' v l r ∧ ((some g = r ∧ ∃ a c, v = .slice a l.length c ∧ v' = .slice a (l.length + us.length) c) ∨ g = w.heap.size) := by
  rcases hown with ⟨rfl, rfl, rfl⟩ | ⟨g, off, cap, rfl, rfl, hg, h1, h2, h3, h4, h5⟩
  · have hr1 : 0 < us.length := by
      rcases hr0 with h | h
      · exact absurd rfl h
      · exact h
    obtain ⟨v', w', g, e, h1, h2, h3⟩ := run_append_ints w ty (.slice none 0 0) x [] (ints us) none (OwnV.nil w) (by rw [ints_len]; exact hs) (by rw [ints_len]; simp at hlen ⊢; omega) (.inr (by rw [ints_len]; exact hr1))
    exact ⟨v', w', g, e, RowO.of_own (by simpa using h1), h2, h3, RowO.nil _, .inr (h3.resolve_left (by simp))⟩
  obtain ⟨i, hi, hz0, hz1, hz2⟩ := info_parts Try.infoI
  have hs' : Src Try.prog i.size 35 x us.length (ints us) w := by rw [hz1]; exact hs
  have hzc : (Value.int .i64 0).cells.size = 1 := by rfl
  by_cases hroom : l.length + us.length ≤ cap
  · have hr := run_append_room_src (P := Try.prog) w 35 35 ty 3 i Try.underlying35 hi g off l.length cap x us.length (ints us) hs' hroom
      (fun j hj => by rw [ints_len] at hj; rw [hz1, Nat.mul_one, Nat.add_assoc]; exact h4 _ (by omega))
      (fun j hj => by rw [ints_len] at hj; rw [hz1, Nat.mul_one, Nat.add_assoc]; exact h3 _ (by omega))
    rw [hz1, Nat.mul_one] at hr
    refine ⟨_, _, g, hr, .inr ⟨g, off, cap, rfl, by simp, ?_, by simp; omega, h2, fun j hj => ?_, fun j hj => ?_, fun j hj => ?_⟩, grow_setCells w g _ _, .inl rfl, .inr ⟨g, off, cap, rfl, rfl, by rw [setCells_size]; exact hg, h1, h2, fun j hj => by rw [World.frozen?_setCells]; exact h3 j hj, fun j hj => isSome_setCells g _ _ w _ (h4 j hj), fun j hj => by rw [World.cell?_setCells_out g _ _ w _ (fun _ _ => .inl (by show off + j < off + l.length; omega))]; exact h5 j hj⟩, .inl ⟨rfl, _, _, rfl, rfl⟩⟩
    · rw [setCells_size]; exact hg
    · rw [World.frozen?_setCells]; exact h3 j hj
    · exact isSome_setCells g _ _ w _ (h4 j hj)
    · simp only [List.length_append] at hj
      by_cases hj' : j < l.length
      · rw [World.cell?_setCells_out g _ _ w _ (fun _ _ => .inl (by show off + j < off + l.length; omega)), h5 j hj']
        simp [List.getD_eq_getElem?_getD, List.getElem?_append_left hj']
      · have hj2 : j - l.length < (ints us).length := by rw [ints_len]; omega
        have := World.cell?_setCells_in g (ints us) (off + l.length) w (fun m hm => by rw [ints_len] at hm; rw [Nat.add_assoc]; exact h4 _ (by omega)) (j - l.length) hj2
        rw [show off + l.length + (j - l.length) = off + j by omega] at this
        rw [ints_len] at hj2
        rw [this]
        simp [ints, List.getD_eq_getElem?_getD, List.getElem?_append_right (Nat.le_of_not_lt hj'), hj2]
  · have hold : (Builtin.firstCells i.size l.length (.slice (some ⟨g, off, none⟩) l.length cap)).run Try.prog w.drew = .ok (ints l).toArray w.drew := by
      rw [hz1]
      refine run_firstCells_some w.drew 1 l.length ⟨g, off, none⟩ _ _ (ints l) (by rw [ints_len]; omega) (fun j u hj => ?_)
      have hjl : j < l.length := by have := (List.getElem?_eq_some_iff.mp hj).1; rwa [ints_len] at this
      rw [WideShapes.add_plain]
      show w.cell? ⟨g, off + j, none⟩ = some u
      rw [h5 j hjl, ← hj, ints_get hjl]
    have hgr : cap < l.length + us.length := by omega
    have hr := run_append_grow_src (P := Try.prog) w 35 35 ty 3 i _ Try.underlying35 hi hz0 (some ⟨g, off, none⟩) l.length cap (ints l) hold x us.length (ints us) hs' hgr (by omega) (by rw [hz2]; exact growslice_fits_wide hgr (by omega))
    have hge := grownCap_ge w (l.length + us.length) cap 3
    have hcm := grownCap_le_maxLen w (l.length + us.length) cap 3 (by unfold maxLen; omega)
    refine ⟨_, _, w.heap.size, hr, ?_, ⟨rfl, rfl, rfl, by simp, fun k hk _ => heap_alloc_old w.drew _ hk⟩, .inr rfl, RowO.of_block (w := w) (.inr ⟨g, off, cap, rfl, rfl, hg, h1, h2, h3, h4, h5⟩) (by simp) (fun k e => by cases e; exact heap_alloc_old w.drew _ hg), .inr rfl⟩
    obtain ⟨C, hC⟩ : ∃ C, (ints l ++ ints us).toArray ++ Builtin.zeroCells (Value.int .i64 0).cells (grownCap w (l.length + us.length) cap 3 - (l.length + us.length)) = C := ⟨_, rfl⟩
    have hCs : C.size = grownCap w (l.length + us.length) cap 3 := by
      rw [← hC, Array.size_append, List.size_toArray, size_zeroCells, hzc, List.length_append, ints_len, ints_len]
      omega
    have hCg : ∀ j, j < l.length + us.length → C[j]? = some (.int .i64 ((l ++ us).getD j 0)) := fun j hj => by
      rw [← hC, Array.getElem?_append_left (by rw [List.size_toArray, List.length_append, ints_len, ints_len]; exact hj), List.getElem?_toArray, ← ints_app, ints_get (by simp; omega)]
    rw [hC]
    refine .inr ⟨w.heap.size, 0, grownCap w (l.length + us.length) cap 3, rfl, by simp, by simp, by simp; exact hge, hcm, fun j hj => ?_, fun j hj => ?_, fun j hj => ?_⟩
    · exact World.frozen?_alloc_at _ _ _ _ rfl
    · show ((w.drew.alloc (Obj.cells C 3)).cell? ⟨w.drew.heap.size, 0 + j, none⟩).isSome = true
      rw [World.cell?_alloc_at _ _ _ _ rfl, Nat.zero_add, Array.getElem?_eq_getElem (by omega)]; rfl
    · show (w.drew.alloc (Obj.cells C 3)).cell? ⟨w.drew.heap.size, 0 + j, none⟩ = _
      rw [World.cell?_alloc_at _ _ _ _ rfl, Nat.zero_add]; exact hCg j (by simpa using hj)
theorem wpList_append_p {ops : Array Oper} {rest : List Oper} {o : Oper} {a : Act} {Q : Exit → Act → World → Prop} (w : World) (hgd : o.guard = none) (s x : Operand)
    (ho : o.op = .call { callee := .builtin .append, args := #[s, x], argTypes := #[35, 35] }) (v xv : Value) (l us : List Int) (r : Option Nat)
    (hs : a.eval s = v) (hx : a.eval x = xv) (hown : RowO w v l r) (hsrc : Src Try.prog 1 35 xv us.length (ints us) w) (hlen : l.length + us.length ≤ 17592186044417) (hr0 : r ≠ none ∨ 0 < us.length)
    (h : ∀ v' w' g, RowO w' v' (l ++ us) (some g) → w.grownBy w' r → (some g = r ∨ g = w.heap.size) → RowO w' v l r → ((some g = r ∧ ∃ a c, v = .slice a l.length c ∧ v' = .slice a (l.length + us.length) c) ∨ g = w.heap.size) → wpList Try.prog ops Q rest (a.put o.dst v') w') : wpList Try.prog ops Q (o :: rest) a w :=
  wpList_plain hgd fun _ hK => by
    obtain ⟨v', w', g, hr, h1, h2, h3, h4, h5⟩ := run_append_p w o.type v xv l us r hown hsrc hlen hr0
    unfold Oper.wp execOp
    simp only [ho, resolve, invoke, builtin, Sem.run_bind, Sem.run_pure, Result.andThen_ok, List.map_toArray, List.map_cons, List.map_nil, hs, hx, hr]
    exact hK _ _ (h v' w' g h1 h2 h3 h4 h5)
/-- A first part of a row, as a row. -/
theorem RowO.pre {w : World} {a : Option Addr} {M c : Nat} {l : List Int} {r : Option Nat} (h : RowO w (.slice a M c) l r) (N : Nat) (hN : N ≤ l.length) (hp : 0 < l.length) : RowO w (.slice a N c) (l.take N) r := by
  rcases h with ⟨_, e, _⟩ | ⟨g, off, cap, rfl, e, hg, h1, h2, h3, h4, h5⟩
  · rw [e] at hp; simp at hp
  · simp only [Value.slice.injEq] at e
    obtain ⟨rfl, rfl, rfl⟩ := e
    have hl : (l.take N).length = N := by simp; omega
    exact .inr ⟨g, off, c, rfl, by rw [hl], hg, by omega, h2, h3, h4, fun j hj => by rw [hl] at hj; rw [h5 j (by omega), getI_take hj]⟩
end Go.Proofs.Ytelhjdplghpnbab
