import Derived.Test.YtelhjdplghpnbabSf0
import Derived.Laws.StructEq
import Derived.Deep.DeepAppendWide
/-! Rows of numbers, that came in and of the call's own. -/
namespace Go.Proofs.Ytelhjdplghpnbab
open Go.RowKit Plain
set_option linter.unusedVariables false
set_option linter.unusedSimpArgs false

def I64 (z : Int) : Prop := -9223372036854775808 ≤ z ∧ z ≤ 9223372036854775807
def ints (l : List Int) : List Value := l.map fun z => .int .i64 z
theorem ints_len (l : List Int) : (ints l).length = l.length := by simp [ints]
theorem ints_app (l k : List Int) : ints (l ++ k) = ints l ++ ints k := by simp [ints]
theorem ints_get {l : List Int} {j : Nat} (h : j < l.length) : (ints l)[j]? = some (.int .i64 (l.getD j 0)) := by simp [ints, h]
/-- v is a slice of numbers that reads as l. -/
def IntsAt (w : World) (v : Value) (l : List Int) : Prop :=
  ∃ a cap, v = .slice a l.length cap ∧ l.length ≤ cap ∧ l.length ≤ 17592186044000 ∧ (∀ z ∈ l, I64 z) ∧ (l ≠ [] → ∃ b off, a = some ⟨b, off, none⟩ ∧ ∀ j, j < l.length → w.cell? ⟨b, off + j, none⟩ = some (.int .i64 (l.getD j 0)))
theorem IntsAt.later {w w' : World} {v : Value} {l : List Int} (h : IntsAt w v l) (hb : Below w.heap.size w w') : IntsAt w' v l := by
  obtain ⟨a, cap, e, h0, h1, h2, h3⟩ := h
  refine ⟨a, cap, e, h0, h1, h2, fun hne => ?_⟩
  obtain ⟨b, off, e2, hc⟩ := h3 hne
  exact ⟨b, off, e2, fun j hj => (hb.cell (p := ⟨b, off + j, none⟩) (cell_lt (hc j hj))).trans (hc j hj)⟩
theorem getI_take {l : List Int} {n j : Nat} (h : j < n) : (l.take n).getD j 0 = l.getD j 0 := by
  simp [List.getD_eq_getElem?_getD, h]
/-- A first part of it. -/
theorem IntsAt.take {w : World} {a : Option Addr} {n cap : Nat} {l : List Int} (h : IntsAt w (.slice a n cap) l) (k : Nat) (hk : k ≤ l.length) : IntsAt w (.slice a k cap) (l.take k) := by
  obtain ⟨a', cap', e, h0, h1, h2, h3⟩ := h
  simp at e
  obtain ⟨rfl, rfl, rfl⟩ := e
  have hl : (l.take k).length = k := by simp; omega
  refine ⟨a, cap, by rw [hl], by rw [hl]; omega, by rw [hl]; omega, fun z hz => h2 z (List.mem_of_mem_take hz), fun hne => ?_⟩
  have hk0 : 0 < k := by
    rcases Nat.eq_zero_or_pos k with rfl | h
    · simp at hne
    · exact h
  obtain ⟨b, off, e2, hc⟩ := h3 (by intro e; rw [e] at hk; simp at hk; omega)
  refine ⟨b, off, e2, fun j hj => ?_⟩
  rw [hl] at hj
  rw [getI_take hj]
  exact hc j (by omega)
theorem OwnV.reads {w : World} {g n cap : Nat} {l : List Int} (h : OwnV w (.slice (some ⟨g, 0, none⟩) n cap) (ints l) (some g)) (hl : l.length ≤ 17592186044000) (hok : ∀ z ∈ l, I64 z) : IntsAt w (.slice (some ⟨g, 0, none⟩) n cap) l := by
  rcases h with ⟨h, _, _⟩ | ⟨g', cap', e, e2, hg, h1, h2, h3, h4, h5⟩
  · simp at h
  · cases e
    simp at e2
    obtain ⟨rfl, rfl⟩ := e2
    refine ⟨_, cap, by rw [ints_len], by rw [ints_len] at h1; exact h1, hl, hok, fun _ => ⟨g, 0, rfl, fun j hj => ?_⟩⟩
    rw [Nat.zero_add, h5 j (by rw [ints_len]; exact hj), ints_get hj]
theorem srcI {w : World} {v : Value} {l : List Int} (h : IntsAt w v l) : Src Try.prog 1 35 v l.length (ints l) w := by
  obtain ⟨a, cap, rfl, h0, hl, hok, hc⟩ := h
  by_cases hne : l = []
  · subst hne
    cases a with
    | none => exact Src.ofNil w Try.underlying35 cap
    | some a => exact Src.ofSlice w Try.underlying35 a 0 cap [] (by simp) (by simp) (by simp)
  · obtain ⟨b, off, rfl, hcc⟩ := hc hne
    refine Src.ofSlice w Try.underlying35 _ _ cap _ (by rw [ints_len]; omega) (fun j u hj => ?_) (fun u hu => ?_)
    · have hjl : j < l.length := by
        have := (List.getElem?_eq_some_iff.mp hj).1
        rwa [ints_len] at this
      rw [WideShapes.add_plain, hcc j hjl, ← ints_get hjl, hj]
    · simp [ints] at hu
      obtain ⟨z, _, rfl⟩ := hu
      rfl
theorem Try.infoI : (Try.prog.info? 3).map (fun i => (i.zero, i.size, i.bytes)) = some (some (.int .i64 0), 1, 8) := by kernel_rfl
/-- WHAT append DOES of numbers. -/
theorem run_append_ints (w : World) (ty : TypeId) (v x : Value) (vs us : List Value) (r : Option Nat) (hown : OwnV w v vs r) (hs : Src Try.prog 1 35 x us.length us w) (hlen : vs.length + us.length ≤ 17592186044417) (hr0 : r ≠ none ∨ 0 < us.length) :
    ∃ v' w' g, (Builtin.append_ #[35, 35] ty #[v, x]).run Try.prog w = .ok v' w' ∧ OwnV w' v' (vs ++ us) (some g) ∧ w.grownBy w' r ∧ (some g = r ∨ g = w.heap.size) := by
  obtain ⟨i, hi, hz0, hz1, hz2⟩ := info_parts Try.infoI
  have hs' : Src Try.prog i.size 35 x us.length us w := by rw [hz1]; exact hs
  have hl2 : (vs ++ us).length = vs.length + us.length := by simp
  have hzc : (Value.int .i64 0).cells.size = 1 := by rfl
  have grow : ∀ (base : Option Addr) (sCap : Nat), (Builtin.firstCells i.size vs.length (.slice base vs.length sCap)).run Try.prog w.drew = .ok vs.toArray w.drew → sCap < vs.length + us.length →
      ∃ v' w' g, (Builtin.append_ #[35, 35] ty #[.slice base vs.length sCap, x]).run Try.prog w = .ok v' w' ∧ OwnV w' v' (vs ++ us) (some g) ∧ w.grownBy w' r ∧ (some g = r ∨ g = w.heap.size) := by
    intro base sCap hold hg
    have hr := run_append_grow_src (P := Try.prog) w 35 35 ty 3 i _ Try.underlying35 hi hz0 base vs.length sCap vs hold x us.length us hs' hg (by omega) (by rw [hz2]; exact growslice_fits_wide hg (by omega))
    have hge := grownCap_ge w (vs.length + us.length) sCap 3
    have hcm := grownCap_le_maxLen w (vs.length + us.length) sCap 3 (by unfold maxLen; omega)
    refine ⟨_, _, w.heap.size, hr, ?_, ⟨rfl, rfl, rfl, by simp, fun k hk _ => heap_alloc_old w.drew _ hk⟩, .inr rfl⟩
    obtain ⟨C, hC⟩ : ∃ C, (vs ++ us).toArray ++ Builtin.zeroCells (Value.int .i64 0).cells (grownCap w (vs.length + us.length) sCap 3 - (vs.length + us.length)) = C := ⟨_, rfl⟩
    have hCs : C.size = grownCap w (vs.length + us.length) sCap 3 := by
      rw [← hC, Array.size_append, List.size_toArray, size_zeroCells, hzc, hl2]
      omega
    have hCg : ∀ j, j < vs.length + us.length → C[j]? = (vs ++ us)[j]? := fun j hj => by
      rw [← hC, Array.getElem?_append_left (by rw [List.size_toArray, hl2]; exact hj), List.getElem?_toArray]
    rw [hC]
    refine .inr ⟨w.heap.size, grownCap w (vs.length + us.length) sCap 3, rfl, by rw [hl2], by simp, by rw [hl2]; exact hge, hcm, fun j hj => ?_, fun j hj => ?_, fun j hj => ?_⟩
    · exact World.frozen?_alloc_at _ _ _ _ rfl
    · show ((w.drew.alloc (Obj.cells C 3)).cell? ⟨w.drew.heap.size, j, none⟩).isSome = true
      rw [World.cell?_alloc_at _ _ _ _ rfl, Array.getElem?_eq_getElem (by omega)]; rfl
    · rw [hl2] at hj
      show (w.drew.alloc (Obj.cells C 3)).cell? ⟨w.drew.heap.size, j, none⟩ = _
      rw [World.cell?_alloc_at _ _ _ _ rfl]; exact hCg j hj
  rcases hown with ⟨rfl, rfl, rfl⟩ | ⟨g, cap, rfl, rfl, hg, h1, h2, h3, h4, h5⟩
  · rcases hr0 with h | h
    · exact absurd rfl h
    · exact grow none 0 (by rw [List.length_nil]; exact run_firstCells_none w.drew _ _ _ _) (by simpa using h)
  · by_cases hroom : vs.length + us.length ≤ cap
    · have hr := run_append_room_src (P := Try.prog) w 35 35 ty 3 i Try.underlying35 hi g 0 vs.length cap x us.length us hs' hroom
        (fun j hj => by rw [hz1, Nat.mul_one, Nat.zero_add]; exact h4 _ (by omega))
        (fun j hj => by rw [hz1, Nat.mul_one, Nat.zero_add]; exact h3 _ (by omega))
      rw [hz1, Nat.zero_add, Nat.mul_one] at hr
      refine ⟨_, _, g, hr, .inr ⟨g, cap, rfl, by rw [hl2], ?_, by omega, h2, fun j hj => ?_, fun j hj => ?_, fun j hj => ?_⟩, grow_setCells w g _ _, .inl rfl⟩
      · rw [setCells_size]; exact hg
      · rw [World.frozen?_setCells]; exact h3 j hj
      · exact isSome_setCells g _ _ w _ (h4 j hj)
      · rw [hl2] at hj
        by_cases hj' : j < vs.length
        · rw [World.cell?_setCells_out g _ _ w _ (fun _ _ => .inl hj'), h5 j hj', List.getElem?_append_left hj']
        · have hj2 : j - vs.length < us.length := by omega
          have := World.cell?_setCells_in g us vs.length w (fun m hm => h4 _ (by omega)) (j - vs.length) hj2
          rw [show vs.length + (j - vs.length) = j by omega] at this
          rw [this, List.getElem?_append_right (by omega), List.getElem?_eq_getElem hj2]
    · refine grow _ cap ?_ (by omega)
      rw [hz1]
      refine run_firstCells_some w.drew 1 vs.length ⟨g, 0, none⟩ _ _ vs (by omega) (fun j u hj => ?_)
      have hjl : j < vs.length := (List.getElem?_eq_some_iff.mp hj).1
      rw [WideShapes.add_plain, Nat.zero_add]
      show w.cell? ⟨g, j, none⟩ = some u
      rw [h5 j hjl, hj]
theorem wpList_append_ints {ops : Array Oper} {rest : List Oper} {o : Oper} {a : Act} {Q : Exit → Act → World → Prop} (w : World) (hgd : o.guard = none) (s x : Operand)
    (ho : o.op = .call { callee := .builtin .append, args := #[s, x], argTypes := #[35, 35] }) (v xv : Value) (vs us : List Value) (r : Option Nat)
    (hs : a.eval s = v) (hx : a.eval x = xv) (hown : OwnV w v vs r) (hsrc : Src Try.prog 1 35 xv us.length us w) (hlen : vs.length + us.length ≤ 17592186044417) (hr0 : r ≠ none ∨ 0 < us.length)
    (h : ∀ v' w' g, OwnV w' v' (vs ++ us) (some g) → w.grownBy w' r → (some g = r ∨ g = w.heap.size) → wpList Try.prog ops Q rest (a.put o.dst v') w') : wpList Try.prog ops Q (o :: rest) a w :=
  wpList_plain hgd fun _ hK => by
    obtain ⟨v', w', g, hr, h1, h2, h3⟩ := run_append_ints w o.type v xv vs us r hown hsrc hlen hr0
    unfold Oper.wp execOp
    simp only [ho, resolve, invoke, builtin, Sem.run_bind, Sem.run_pure, Result.andThen_ok, List.map_toArray, List.map_cons, List.map_nil, hs, hx, hr]
    exact hK _ _ (h v' w' g h1 h2 h3)
/-- An empty slice of numbers. -/
theorem OwnV.made (w : World) : OwnV (w.alloc (.cells #[] 3)) (.slice (some ⟨w.heap.size, 0, none⟩) 0 0) [] (some w.heap.size) :=
  .inr ⟨w.heap.size, 0, rfl, rfl, by simp, by simp, by simp [maxLen], by simp, by simp, by simp⟩
theorem srcOne (w : World) (z : Int) : Src Try.prog 1 35 (.slice (some ⟨w.heap.size, 0, none⟩) 1 1) [Value.int .i64 z].length [.int .i64 z] (w.alloc (.cells #[.int .i64 z] 3)) := src_val w (.int .i64 z) rfl 35 3 3 Try.underlying35
end Go.Proofs.Ytelhjdplghpnbab
