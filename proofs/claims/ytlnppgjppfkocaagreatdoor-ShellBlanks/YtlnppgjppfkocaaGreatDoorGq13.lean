import Derived.Test.YtlnppgjppfkocaaGreatDoorGq12
import Derived.Laws.StructEq
import Derived.Deep.DeepAppendWide
import Derived.Test.YtlnppgjppfkocaaGreatDoorGq11
import Derived.Test.YtlnppgjppfkocaaGreatDoorGq05
/-! Rows of values of one cell each. -/
namespace Go.Proofs.YtlnppgjppfkocaaGreatDoor
open Go.RowKit Plain
set_option linter.unusedVariables false

def OwnV (w : World) (v : Value) (vs : List Value) (r : Option Nat) : Prop :=
  (v = .slice none 0 0 ∧ vs = [] ∧ r = none) ∨
  ∃ g cap, r = some g ∧ v = .slice (some ⟨g, 0, none⟩) vs.length cap ∧ g < w.heap.size ∧ vs.length ≤ cap ∧ cap ≤ maxLen ∧ (∀ j, j < cap → w.frozen? ⟨g, j, none⟩ = false) ∧ (∀ j, j < cap → (w.cell? ⟨g, j, none⟩).isSome = true) ∧
    ∀ j, j < vs.length → w.cell? ⟨g, j, none⟩ = vs[j]?
theorem OwnV.nil (w : World) : OwnV w (.slice none 0 0) [] none := .inl ⟨rfl, rfl, rfl⟩
theorem OwnV.of_block {w w' : World} {v : Value} {vs : List Value} {r : Option Nat} (h : OwnV w v vs r) (hs : w.heap.size ≤ w'.heap.size) (hb : ∀ g, r = some g → w'.heap[g]? = w.heap[g]?) : OwnV w' v vs r := by
  rcases h with h0 | ⟨g, cap, rfl, rfl, hg, h1, h2, h3, h4, h5⟩
  · exact .inl h0
  · have hb := hb g rfl
    refine .inr ⟨g, cap, rfl, rfl, Nat.lt_of_lt_of_le hg hs, h1, h2, fun j hj => ?_, fun j hj => ?_, fun j hj => ?_⟩
    · rw [World.frozen?_of_block (w := w) (a := ⟨g, j, none⟩) hb]; exact h3 j hj
    · rw [World.cell?_of_block (w := w) (a := ⟨g, j, none⟩) hb]; exact h4 j hj
    · rw [World.cell?_of_block (w := w) (a := ⟨g, j, none⟩) hb]; exact h5 j hj
theorem Own.of_block {w w' : World} {v : Value} {l : List Nat} {r : Option Nat} (h : Own w v l r) (hs : w.heap.size ≤ w'.heap.size) (hb : ∀ g, r = some g → w'.heap[g]? = w.heap[g]?) : Own w' v l r := by
  refine ⟨h.1, ?_⟩
  rcases h.2 with h0 | ⟨g, cap, rfl, rfl, hg, h1, h2, h3, h4, h5⟩
  · exact .inl h0
  · have hb := hb g rfl
    refine .inr ⟨g, cap, rfl, rfl, Nat.lt_of_lt_of_le hg hs, h1, h2, fun j hj => ?_, fun j hj => ?_, fun j hj => ?_⟩
    · rw [World.frozen?_of_block (w := w) (a := ⟨g, j, none⟩) hb]; exact h3 j hj
    · rw [World.cell?_of_block (w := w) (a := ⟨g, j, none⟩) hb]; exact h4 j hj
    · rw [World.cell?_of_block (w := w) (a := ⟨g, j, none⟩) hb]; exact h5 j hj
theorem OwnV.kept {w w' : World} {v : Value} {vs : List Value} {r r' : Option Nat} (h : OwnV w v vs r) (k : w.grownBy w' r') (hne : r = none ∨ r ≠ r') : OwnV w' v vs r := by
  refine h.of_block k.size (fun g e => ?_)
  subst e
  have hlt : g < w.heap.size := by
    rcases h with ⟨_, _, e⟩ | ⟨g', _, e, _, hg, _⟩
    · simp at e
    · simp at e; omega
  exact k.block g hlt (by rcases hne with h | h <;> simp_all)
theorem OwnV.lt {w : World} {v : Value} {vs : List Value} {g : Nat} (h : OwnV w v vs (some g)) : g < w.heap.size := by
  rcases h with ⟨_, _, e⟩ | ⟨g', _, e, _, hg, _⟩
  · simp at e
  · simp at e; omega
theorem OwnV.shape {w : World} {v : Value} {vs : List Value} {r : Option Nat} (h : OwnV w v vs r) : ∃ a cap, v = .slice a vs.length cap ∧ cap ≤ maxLen ∧ vs.length ≤ cap := by
  rcases h with ⟨rfl, rfl, h⟩ | ⟨g', cap, e, rfl, hg, h1, h2, _⟩
  · exact ⟨none, 0, rfl, by simp, by simp⟩
  · exact ⟨_, cap, rfl, h2, h1⟩
theorem OwnV.get {w : World} {a : Option Addr} {n c : Nat} {vs : List Value} {r : Option Nat} (h : OwnV w (.slice a n c) vs r) {j : Nat} {u : Value} (hj : vs[j]? = some u) : ∃ g, r = some g ∧ a = some ⟨g, 0, none⟩ ∧ w.cell? ⟨g, j, none⟩ = some u := by
  have hlt : j < vs.length := (List.getElem?_eq_some_iff.mp hj).1
  rcases h with ⟨_, rfl, _⟩ | ⟨g, cap, rfl, e, hg, h1, h2, h3, h4, h5⟩
  · simp at hlt
  · injection e with e1 e2 e3
    exact ⟨g, rfl, e1, by rw [h5 j hlt, hj]⟩

theorem run_append_val (w : World) (t ty e : TypeId) (i : TypeInfo) (z : Value) (ht : Tryz.prog.underlying t = some (.slice e)) (hi : Tryz.prog.info? e = some i) (hz0 : i.zero = some z) (hzc : z.cells.size = 1) (hz1 : i.size = 1) (hz2 : i.bytes ≤ 16)
    (v x u : Value) (vs : List Value) (r : Option Nat) (hown : OwnV w v vs r) (hs : Src Tryz.prog 1 t x 1 [u] w) (hlen : vs.length ≤ 4398046511104) :
    ∃ v' w' g, (Builtin.append_ #[t, t] ty #[v, x]).run Tryz.prog w = .ok v' w' ∧ OwnV w' v' (vs ++ [u]) (some g) ∧ w.grownBy w' r ∧ (some g = r ∨ g = w.heap.size) := by
  have hs' : Src Tryz.prog i.size t x 1 [u] w := by rw [hz1]; exact hs
  have hl2 : (vs ++ [u]).length = vs.length + 1 := by simp
  have grow : ∀ (base : Option Addr) (sCap : Nat), (Builtin.firstCells i.size vs.length (.slice base vs.length sCap)).run Tryz.prog w.drew = .ok vs.toArray w.drew → sCap < vs.length + 1 →
      ∃ v' w' g, (Builtin.append_ #[t, t] ty #[.slice base vs.length sCap, x]).run Tryz.prog w = .ok v' w' ∧ OwnV w' v' (vs ++ [u]) (some g) ∧ w.grownBy w' r ∧ (some g = r ∨ g = w.heap.size) := by
    intro base sCap hold hg
    have hfit : (vs.length + 1) * i.bytes ≤ 140737488355328 := Nat.le_trans (Nat.mul_le_mul_left _ hz2) (by omega)
    have hr := run_append_grow_src (P := Tryz.prog) w t t ty e i z ht hi hz0 base vs.length sCap vs hold x 1 [u] hs' hg (by omega) (growslice_fits hg hfit)
    have hge := grownCap_ge w (vs.length + 1) sCap e
    have hcm := grownCap_le_maxLen w (vs.length + 1) sCap e (by unfold maxLen; omega)
    refine ⟨_, _, w.heap.size, hr, ?_, ⟨rfl, rfl, rfl, by simp, fun k hk _ => heap_alloc_old w.drew _ hk⟩, .inr rfl⟩
    obtain ⟨C, hC⟩ : ∃ C, (vs ++ [u]).toArray ++ Builtin.zeroCells z.cells (grownCap w (vs.length + 1) sCap e - (vs.length + 1)) = C := ⟨_, rfl⟩
    have hCs : C.size = grownCap w (vs.length + 1) sCap e := by
      rw [← hC, Array.size_append, List.size_toArray, size_zeroCells, hzc, hl2]
      omega
    have hCg : ∀ j, j < vs.length + 1 → C[j]? = (vs ++ [u])[j]? := fun j hj => by
      rw [← hC, Array.getElem?_append_left (by rw [List.size_toArray, hl2]; exact hj), List.getElem?_toArray]
    rw [hC]
    refine .inr ⟨w.heap.size, grownCap w (vs.length + 1) sCap e, rfl, by rw [hl2], by simp, by rw [hl2]; exact hge, hcm, fun j hj => ?_, fun j hj => ?_, fun j hj => ?_⟩
    · exact World.frozen?_alloc_at _ _ _ _ rfl
    · show ((w.drew.alloc (Obj.cells C e)).cell? ⟨w.drew.heap.size, j, none⟩).isSome = true
      rw [World.cell?_alloc_at _ _ _ _ rfl, Array.getElem?_eq_getElem (by omega)]; rfl
    · rw [hl2] at hj
      show (w.drew.alloc (Obj.cells C e)).cell? ⟨w.drew.heap.size, j, none⟩ = _
      rw [World.cell?_alloc_at _ _ _ _ rfl]; exact hCg j hj
  rcases hown with ⟨rfl, rfl, rfl⟩ | ⟨g, cap, rfl, rfl, hg, h1, h2, h3, h4, h5⟩
  · exact grow none 0 (by rw [List.length_nil]; exact run_firstCells_none w.drew _ _ _ _) (by simp)
  · by_cases hroom : vs.length + 1 ≤ cap
    · have hr := run_append_room_src (P := Tryz.prog) w t t ty e i ht hi g 0 vs.length cap x 1 [u] hs' hroom
        (fun j hj => by rw [hz1]; simp at hj; subst hj; simpa using h4 vs.length (by omega))
        (fun j hj => by rw [hz1]; simp at hj; subst hj; simpa using h3 vs.length (by omega))
      rw [hz1, Nat.zero_add, Nat.mul_one] at hr
      refine ⟨_, _, g, hr, .inr ⟨g, cap, rfl, by rw [hl2], ?_, by omega, h2, fun j hj => ?_, fun j hj => ?_, fun j hj => ?_⟩, grow_setCells w g _ _, .inl rfl⟩
      · rw [setCells_size]; exact hg
      · rw [World.frozen?_setCells]; exact h3 j hj
      · exact isSome_setCells g _ _ w _ (h4 j hj)
      · rw [hl2] at hj
        by_cases hj' : j < vs.length
        · rw [World.cell?_setCells_out g _ _ w _ (fun _ _ => .inl hj'), h5 j hj', List.getElem?_append_left hj']
        · obtain rfl : j = vs.length := by omega
          have := World.cell?_setCells_in g [u] vs.length w (fun m hm => h4 _ (by simp at hm; omega)) 0 (by simp)
          rw [Nat.add_zero] at this
          rw [this]
          simp
    · refine grow _ cap ?_ (by omega)
      rw [hz1]
      refine run_firstCells_some w.drew 1 vs.length ⟨g, 0, none⟩ _ _ vs (by omega) (fun j u hj => ?_)
      have hjl : j < vs.length := (List.getElem?_eq_some_iff.mp hj).1
      rw [WideShapes.add_plain, Nat.zero_add]
      show w.cell? ⟨g, j, none⟩ = some u
      rw [h5 j hjl, hj]

theorem wpList_append_val {ops : Array Oper} {rest : List Oper} {o : Oper} {a : Act} {Q : Exit → Act → World → Prop} (w : World) (hgd : o.guard = none) (s x : Operand) (t e : TypeId) (i : TypeInfo) (z : Value)
    (ho : o.op = .call { callee := .builtin .append, args := #[s, x], argTypes := #[t, t] }) (ht : Tryz.prog.underlying t = some (.slice e)) (hi : Tryz.prog.info? e = some i) (hz0 : i.zero = some z) (hzc : z.cells.size = 1) (hz1 : i.size = 1) (hz2 : i.bytes ≤ 16)
    (v xv u : Value) (vs : List Value) (r : Option Nat)
    (hs : a.eval s = v) (hx : a.eval x = xv) (hown : OwnV w v vs r) (hsrc : Src Tryz.prog 1 t xv 1 [u] w) (hlen : vs.length ≤ 4398046511104)
    (h : ∀ v' w' g, OwnV w' v' (vs ++ [u]) (some g) → w.grownBy w' r → (some g = r ∨ g = w.heap.size) → wpList Tryz.prog ops Q rest (a.put o.dst v') w') : wpList Tryz.prog ops Q (o :: rest) a w :=
  wpList_plain hgd fun _ hK => by
    obtain ⟨v', w', g, hr, h1, h2, h3⟩ := run_append_val w t o.type e i z ht hi hz0 hzc hz1 hz2 v xv u vs r hown hsrc hlen
    unfold Oper.wp execOp
    simp only [ho, resolve, invoke, builtin, Sem.run_bind, Sem.run_pure, Result.andThen_ok, List.map_toArray, List.map_cons, List.map_nil, hs, hx, hr]
    exact hK _ _ (h v' w' g h1 h2 h3)
theorem src_val (w : World) (u : Value) (hu : u.oneCell' = true) (t e ty : TypeId) (ht : Tryz.prog.underlying t = some (.slice e)) : Src Tryz.prog 1 t (.slice (some ⟨w.heap.size, 0, none⟩) 1 1) 1 [u] (w.alloc (.cells #[u] ty)) :=
  Src.ofSlice _ ht _ 1 1 _ (by simp) (fun j x hj => by
    rw [WideShapes.add_plain, World.cell?_alloc_at _ _ _ _ rfl, Nat.zero_add]
    rw [← hj]; simp) (fun x hx => by rw [List.mem_singleton] at hx; subst hx; exact hu)
theorem src_val' (w : World) (b : Nat) (hb : w.heap.size = b) (u : Value) (hu : u.oneCell' = true) (t e ty : TypeId) (ht : Tryz.prog.underlying t = some (.slice e)) : Src Tryz.prog 1 t (.slice (some ⟨b, 0, none⟩) 1 1) 1 [u] (w.alloc (.cells #[u] ty)) := by
  subst hb
  exact src_val w u hu t e ty ht
end Go.Proofs.YtlnppgjppfkocaaGreatDoor

/-! Rows of numbers, that came in and of the call's own. -/
namespace Go.Proofs.YtlnppgjppfkocaaGreatDoor
open Go.RowKit Plain
set_option linter.unusedVariables false
set_option linter.unusedSimpArgs false

def I64 (z : Int) : Prop := -9223372036854775808 ≤ z ∧ z ≤ 9223372036854775807
def ints (l : List Int) : List Value := l.map fun z => .int .i64 z
theorem ints_len (l : List Int) : (ints l).length = l.length := by simp [ints]
theorem ints_app (l k : List Int) : ints (l ++ k) = ints l ++ ints k := by simp [ints]
theorem ints_get {l : List Int} {j : Nat} (h : j < l.length) : (ints l)[j]? = some (.int .i64 (l.getD j 0)) := by simp [ints, h]
/-- v is a slice of numbers that reads as l. -/
def IntsAt (w : World) (v : Value) (l : List Int) : Prop :=
  ∃ a cap, v = .slice a l.length cap ∧ l.length ≤ cap ∧ l.length ≤ 17592186044000 ∧ (∀ z ∈ l, I64 z) ∧ (l ≠ [] → ∃ b off, a = some ⟨b, off, none⟩ ∧ ∀ j, j < l.length → w.cell? ⟨b, off + j, none⟩ = some (.int .i64 (l.getD j 0)))
theorem IntsAt.later {w w' : World} {v : Value} {l : List Int} (h : IntsAt w v l) (hb : Below w.heap.size w w') : IntsAt w' v l := by
  obtain ⟨a, cap, e, h0, h1, h2, h3⟩ := h
  refine ⟨a, cap, e, h0, h1, h2, fun hne => ?_⟩
  obtain ⟨b, off, e2, hc⟩ := h3 hne
  exact ⟨b, off, e2, fun j hj => (hb.cell (p := ⟨b, off + j, none⟩) (cell_lt (hc j hj))).trans (hc j hj)⟩
theorem getI_take {l : List Int} {n j : Nat} (h : j < n) : (l.take n).getD j 0 = l.getD j 0 := by
  simp [List.getD_eq_getElem?_getD, h]
/-- A first part of it. -/
theorem IntsAt.take {w : World} {a : Option Addr} {n cap : Nat} {l : List Int} (h : IntsAt w (.slice a n cap) l) (k : Nat) (hk : k ≤ l.length) : IntsAt w (.slice a k cap) (l.take k) := by
  obtain ⟨a', cap', e, h0, h1, h2, h3⟩ := h
  simp at e
  obtain ⟨rfl, rfl, rfl⟩ := e
  have hl : (l.take k).length = k := by simp; omega
  refine ⟨a, cap, by rw [hl], by rw [hl]; omega, by rw [hl]; omega, fun z hz => h2 z (List.mem_of_mem_take hz), fun hne => ?_⟩
  have hk0 : 0 < k := by
    rcases Nat.eq_zero_or_pos k with rfl | h
    · simp at hne
    · exact h
  obtain ⟨b, off, e2, hc⟩ := h3 (by intro e; rw [e] at hk; simp at hk; omega)
  refine ⟨b, off, e2, fun j hj => ?_⟩
  rw [hl] at hj
  rw [getI_take hj]
  exact hc j (by omega)
theorem OwnV.reads {w : World} {g n cap : Nat} {l : List Int} (h : OwnV w (.slice (some ⟨g, 0, none⟩) n cap) (ints l) (some g)) (hl : l.length ≤ 17592186044000) (hok : ∀ z ∈ l, I64 z) : IntsAt w (.slice (some ⟨g, 0, none⟩) n cap) l := by
  rcases h with ⟨h, _, _⟩ | ⟨g', cap', e, e2, hg, h1, h2, h3, h4, h5⟩
  · simp at h
  · cases e
    simp at e2
    obtain ⟨rfl, rfl⟩ := e2
    refine ⟨_, cap, by rw [ints_len], by rw [ints_len] at h1; exact h1, hl, hok, fun _ => ⟨g, 0, rfl, fun j hj => ?_⟩⟩
    rw [Nat.zero_add, h5 j (by rw [ints_len]; exact hj), ints_get hj]
theorem srcI {w : World} {v : Value} {l : List Int} (h : IntsAt w v l) : Src Tryz.prog 1 26 v l.length (ints l) w := by
  obtain ⟨a, cap, rfl, h0, hl, hok, hc⟩ := h
  by_cases hne : l = []
  · subst hne
    cases a with
    | none => exact Src.ofNil w Tryz.underlying26 cap
    | some a => exact Src.ofSlice w Tryz.underlying26 a 0 cap [] (by simp) (by simp) (by simp)
  · obtain ⟨b, off, rfl, hcc⟩ := hc hne
    refine Src.ofSlice w Tryz.underlying26 _ _ cap _ (by rw [ints_len]; omega) (fun j u hj => ?_) (fun u hu => ?_)
    · have hjl : j < l.length := by
        have := (List.getElem?_eq_some_iff.mp hj).1
        rwa [ints_len] at this
      rw [WideShapes.add_plain, hcc j hjl, ← ints_get hjl, hj]
    · simp [ints] at hu
      obtain ⟨z, _, rfl⟩ := hu
      rfl
theorem Tryz.infoI : (Tryz.prog.info? 3).map (fun i => (i.zero, i.size, i.bytes)) = some (some (.int .i64 0), 1, 8) := by kernel_rfl
/-- WHAT append DOES of numbers. -/
theorem run_append_ints (w : World) (ty : TypeId) (v x : Value) (vs us : List Value) (r : Option Nat) (hown : OwnV w v vs r) (hs : Src Tryz.prog 1 26 x us.length us w) (hlen : vs.length + us.length ≤ 17592186044417) (hr0 : r ≠ none ∨ 0 < us.length) :
    ∃ v' w' g, (Builtin.append_ #[26, 26] ty #[v, x]).run Tryz.prog w = .ok v' w' ∧ OwnV w' v' (vs ++ us) (some g) ∧ w.grownBy w' r ∧ (some g = r ∨ g = w.heap.size) := by
  obtain ⟨i, hi, hz0, hz1, hz2⟩ := info_parts Tryz.infoI
  have hs' : Src Tryz.prog i.size 26 x us.length us w := by rw [hz1]; exact hs
  have hl2 : (vs ++ us).length = vs.length + us.length := by simp
  have hzc : (Value.int .i64 0).cells.size = 1 := by rfl
  have grow : ∀ (base : Option Addr) (sCap : Nat), (Builtin.firstCells i.size vs.length (.slice base vs.length sCap)).run Tryz.prog w.drew = .ok vs.toArray w.drew → sCap < vs.length + us.length →
      ∃ v' w' g, (Builtin.append_ #[26, 26] ty #[.slice base vs.length sCap, x]).run Tryz.prog w = .ok v' w' ∧ OwnV w' v' (vs ++ us) (some g) ∧ w.grownBy w' r ∧ (some g = r ∨ g = w.heap.size) := by
    intro base sCap hold hg
    have hr := run_append_grow_src (P := Tryz.prog) w 26 26 ty 3 i _ Tryz.underlying26 hi hz0 base vs.length sCap vs hold x us.length us hs' hg (by omega) (by rw [hz2]; exact growslice_fits_wide hg (by omega))
    have hge := grownCap_ge w (vs.length + us.length) sCap 3
    have hcm := grownCap_le_maxLen w (vs.length + us.length) sCap 3 (by unfold maxLen; omega)
    refine ⟨_, _, w.heap.size, hr, ?_, ⟨rfl, rfl, rfl, by simp, fun k hk _ => heap_alloc_old w.drew _ hk⟩, .inr rfl⟩
    obtain ⟨C, hC⟩ : ∃ C, (vs ++ us).toArray ++ Builtin.zeroCells (Value.int .i64 0).cells (grownCap w (vs.length + us.length) sCap 3 - (vs.length + us.length)) = C := ⟨_, rfl⟩
    have hCs : C.size = grownCap w (vs.length + us.length) sCap 3 := by
      rw [← hC, Array.size_append, List.size_toArray, size_zeroCells, hzc, hl2]
      omega
    have hCg : ∀ j, j < vs.length + us.length → C[j]? = (vs ++ us)[j]? := fun j hj => by
      rw [← hC, Array.getElem?_append_left (by rw [List.size_toArray, hl2]; exact hj), List.getElem?_toArray]
    rw [hC]
    refine .inr ⟨w.heap.size, grownCap w (vs.length + us.length) sCap 3, rfl, by rw [hl2], by simp, by rw [hl2]; exact hge, hcm, fun j hj => ?_, fun j hj => ?_, fun j hj => ?_⟩
    · exact World.frozen?_alloc_at _ _ _ _ rfl
    · show ((w.drew.alloc (Obj.cells C 3)).cell? ⟨w.drew.heap.size, j, none⟩).isSome = true
      rw [World.cell?_alloc_at _ _ _ _ rfl, Array.getElem?_eq_getElem (by omega)]; rfl
    · rw [hl2] at hj
      show (w.drew.alloc (Obj.cells C 3)).cell? ⟨w.drew.heap.size, j, none⟩ = _
      rw [World.cell?_alloc_at _ _ _ _ rfl]; exact hCg j hj
  rcases hown with ⟨rfl, rfl, rfl⟩ | ⟨g, cap, rfl, rfl, hg, h1, h2, h3, h4, h5⟩
  · rcases hr0 with h | h
    · exact absurd rfl h
    · exact grow none 0 (by rw [List.length_nil]; exact run_firstCells_none w.drew _ _ _ _) (by simpa using h)
  · by_cases hroom : vs.length + us.length ≤ cap
    · have hr := run_append_room_src (P := Tryz.prog) w 26 26 ty 3 i Tryz.underlying26 hi g 0 vs.length cap x us.length us hs' hroom
        (fun j hj => by rw [hz1, Nat.mul_one, Nat.zero_add]; exact h4 _ (by omega))
        (fun j hj => by rw [hz1, Nat.mul_one, Nat.zero_add]; exact h3 _ (by omega))
      rw [hz1, Nat.zero_add, Nat.mul_one] at hr
      refine ⟨_, _, g, hr, .inr ⟨g, cap, rfl, by rw [hl2], ?_, by omega, h2, fun j hj => ?_, fun j hj => ?_, fun j hj => ?_⟩, grow_setCells w g _ _, .inl rfl⟩
      · rw [setCells_size]; exact hg
      · rw [World.frozen?_setCells]; exact h3 j hj
      · exact isSome_setCells g _ _ w _ (h4 j hj)
      · rw [hl2] at hj
        by_cases hj' : j < vs.length
        · rw [World.cell?_setCells_out g _ _ w _ (fun _ _ => .inl hj'), h5 j hj', List.getElem?_append_left hj']
        · have hj2 : j - vs.length < us.length := by omega
          have := World.cell?_setCells_in g us vs.length w (fun m hm => h4 _ (by omega)) (j - vs.length) hj2
          rw [show vs.length + (j - vs.length) = j by omega] at this
          rw [this, List.getElem?_append_right (by omega), List.getElem?_eq_getElem hj2]
    · refine grow _ cap ?_ (by omega)
      rw [hz1]
      refine run_firstCells_some w.drew 1 vs.length ⟨g, 0, none⟩ _ _ vs (by omega) (fun j u hj => ?_)
      have hjl : j < vs.length := (List.getElem?_eq_some_iff.mp hj).1
      rw [WideShapes.add_plain, Nat.zero_add]
      show w.cell? ⟨g, j, none⟩ = some u
      rw [h5 j hjl, hj]
theorem wpList_append_ints {ops : Array Oper} {rest : List Oper} {o : Oper} {a : Act} {Q : Exit → Act → World → Prop} (w : World) (hgd : o.guard = none) (s x : Operand)
    (ho : o.op = .call { callee := .builtin .append, args := #[s, x], argTypes := #[26, 26] }) (v xv : Value) (vs us : List Value) (r : Option Nat)
    (hs : a.eval s = v) (hx : a.eval x = xv) (hown : OwnV w v vs r) (hsrc : Src Tryz.prog 1 26 xv us.length us w) (hlen : vs.length + us.length ≤ 17592186044417) (hr0 : r ≠ none ∨ 0 < us.length)
    (h : ∀ v' w' g, OwnV w' v' (vs ++ us) (some g) → w.grownBy w' r → (some g = r ∨ g = w.heap.size) → wpList Tryz.prog ops Q rest (a.put o.dst v') w') : wpList Tryz.prog ops Q (o :: rest) a w :=
  wpList_plain hgd fun _ hK => by
    obtain ⟨v', w', g, hr, h1, h2, h3⟩ := run_append_ints w o.type v xv vs us r hown hsrc hlen hr0
    unfold Oper.wp execOp
    simp only [ho, resolve, invoke, builtin, Sem.run_bind, Sem.run_pure, Result.andThen_ok, List.map_toArray, List.map_cons, List.map_nil, hs, hx, hr]
    exact hK _ _ (h v' w' g h1 h2 h3)
/-- An empty slice of numbers. -/
theorem OwnV.made (w : World) : OwnV (w.alloc (.cells #[] 3)) (.slice (some ⟨w.heap.size, 0, none⟩) 0 0) [] (some w.heap.size) :=
  .inr ⟨w.heap.size, 0, rfl, rfl, by simp, by simp, by simp [maxLen], by simp, by simp, by simp⟩
theorem srcOne (w : World) (z : Int) : Src Tryz.prog 1 26 (.slice (some ⟨w.heap.size, 0, none⟩) 1 1) [Value.int .i64 z].length [.int .i64 z] (w.alloc (.cells #[.int .i64 z] 3)) := src_val w (.int .i64 z) rfl 26 3 3 Tryz.underlying26
end Go.Proofs.YtlnppgjppfkocaaGreatDoor

/-! What the program's calls answer; the law's works, visible. -/
namespace Go.Proofs.YtlnppgjppfkocaaGreatDoor.Xs
open Go.RowKit Plain
set_option linter.unusedVariables false
set_option linter.unusedSimpArgs false

/-- What is asked of the package's variables, Tb, stays so while the memory grows. -/
def Kept (Tb : World → Prop) : Prop := ∀ u v, Tb u → Below u.heap.size u v → Tb v
/-- WHAT Print ANSWERS. -/
def PrintOk (Tb : World → Prop) : Prop := ∀ (c : Cm) (vr vp : Value) (w : World), Tb w → BysAt w vr c.raw → PksAt w vp c.picks → WfC c → SzC c →
  Calls Tryz.prog 8 #[cmV c vr vp] w fun e w' => (∃ l z, e = .returned (.tuple #[.string (ba l), .int .i64 z]) ∧ PriA c l z) ∧ Below w.heap.size w w'
/-- A command's lists in blocks of their own, from the world W on. -/
structure NewL (W w : World) (c : Cm) (vr vp : Value) : Prop where
  ex : ∃ r s, Own w vr (nats c.raw) r ∧ OwnV w vp (ints c.picks) s ∧ (∀ g, r = some g → W.heap.size ≤ g) ∧ (∀ g, s = some g → W.heap.size ≤ g) ∧ (r = none ∨ r ≠ s)
/-- WHAT Parse ANSWERS. -/
def ParseOk (Tb : World → Prop) : Prop := ∀ (line : By) (w : World), Tb w → line.length ≤ 1125899906842624 →
  Calls Tryz.prog 10 #[.string (ba line)] w fun e w' => (∃ c vr vp z, e = .returned (.tuple #[cmV c vr vp, .int .i64 z]) ∧ WfC c ∧ ParA line c z ∧ NewL w w' c vr vp) ∧ Below w.heap.size w w'

theorem own_bys {w : World} {v : Value} {x : By} {r : Option Nat} (h : Own w v (nats x) r) (hx : x.length ≤ 140737488352000) : BysAt w v x := by
  rcases h.2 with ⟨e, e2, _⟩ | ⟨g, cap, _, e, _, h1, _, _, _, h5⟩
  · have hl := congrArg List.length e2
    rw [nats_len] at hl
    have : x = [] := List.length_eq_zero_iff.1 hl
    subst this
    exact ⟨none, 0, e, Nat.le_refl _, Nat.zero_le _, fun h => absurd rfl h⟩
  · rw [nats_len] at h1 h5 e
    refine ⟨_, cap, e, h1, hx, fun _ => ⟨g, 0, rfl, fun j hj => ?_⟩⟩
    rw [Nat.zero_add, h5 j hj]
    simp [nats, List.getD_eq_getElem?_getD, hj]
theorem ownv_pks {w : World} {v : Value} {p : List Int} {r : Option Nat} (h : OwnV w v (ints p) r) (hp : p.length ≤ 17592186044000) : PksAt w v p := by
  rcases h with ⟨e, e2, _⟩ | ⟨g, cap, _, e, _, h1, _, _, _, h5⟩
  · have hl := congrArg List.length e2
    rw [ints_len] at hl
    have : p = [] := List.length_eq_zero_iff.1 hl
    subst this
    exact ⟨none, 0, e, Nat.le_refl _, Nat.zero_le _, fun h => absurd rfl h⟩
  · rw [ints_len] at h1 h5 e
    refine ⟨_, cap, e, h1, hp, fun _ => ⟨g, 0, rfl, fun j hj => ?_⟩⟩
    rw [Nat.zero_add, h5 j hj, ints_get hj]
theorem par_lens {line : By} {c : Cm} {z : Int} (h : ParA line c z) : c.raw.length ≤ 4096 ∧ c.picks.length ≤ 4096 ∧ SzC c := by
  rcases h with ⟨⟨k1, k2, k3⟩, _⟩ | ⟨_, k2, _⟩
  · have := line_raw k1
    rw [k2] at this
    refine ⟨by omega, by omega, ?_⟩
    by_cases hv : c.verb = 2
    · have := k1.say hv
      exact ⟨by have := this.topic; omega, by have := this.key; omega, by have := this.value; omega⟩
    · have := k1.req hv
      exact ⟨by rw [this]; simp [Rq.zero], by rw [this]; simp [Rq.zero], by rw [this]; simp [Rq.zero]⟩
  · subst k2
    exact ⟨by simp [Cm.zero], by simp [Cm.zero], ⟨by simp [Cm.zero, Rq.zero], by simp [Cm.zero, Rq.zero], by simp [Cm.zero, Rq.zero]⟩⟩
theorem NewL.reads {W w : World} {c : Cm} {vr vp : Value} (h : NewL W w c vr vp) {line : By} {z : Int} (hp : ParA line c z) : BysAt w vr c.raw ∧ PksAt w vp c.picks := by
  obtain ⟨r, s, h1, h2, _⟩ := h.ex
  obtain ⟨k1, k2, _⟩ := par_lens hp
  exact ⟨own_bys h1 (by omega), ownv_pks h2 (by omega)⟩

/-! ### works -/
def wkC : Cm := ⟨5, 0, Rq.zero, [], 0, [0, -1, 7]⟩
def wkL : By := [115, 116, 101, 112, 115, 32, 48, 32, 45, 49, 32, 55]
theorem wk_line : lineL wkC = wkL := by decide +kernel
theorem wk_ok : OkC wkC := (okC_iff wkC).2 (by decide +kernel)
theorem wk_is : IsLine wkC wkL := ⟨wk_ok, wk_line, by decide⟩
theorem wk_wf : WfC wkC := ⟨⟨by decide, by decide⟩, ⟨by decide, by decide⟩, ⟨by decide, by decide, ⟨by decide, by decide⟩, ⟨by decide, by decide⟩, ⟨by decide, by decide⟩, ⟨by decide, by decide⟩, ⟨by decide, by decide⟩⟩, ⟨by decide, by decide⟩, fun x hx => by
  have : x = 0 ∨ x = -1 ∨ x = 7 := by simpa [wkC] using hx
  rcases this with e | e | e <;> subst e <;> exact ⟨by decide, by decide⟩⟩
theorem wk_sz : SzC wkC := ⟨by simp [wkC, Rq.zero], by simp [wkC, Rq.zero], by simp [wkC, Rq.zero]⟩
theorem wk_pri {l : By} {z : Int} (h : PriA wkC l z) : l = wkL ∧ z = 0 := h.one (.inl ⟨wk_is, rfl⟩)
theorem wk_par {c : Cm} {z : Int} (hw : WfC c) (h : ParA wkL c z) : c = wkC ∧ z = 0 := h.one hw (.inl ⟨wk_is, rfl⟩) wk_wf
end Go.Proofs.YtlnppgjppfkocaaGreatDoor.Xs

/-! Boxes of a call's own. -/
namespace Go.Proofs.YtlnppgjppfkocaaGreatDoor.Xs
open Go.RowKit Plain
set_option linter.unusedVariables false
set_option linter.unusedSimpArgs false

/-- A box of the call's own that holds the values of l. -/
structure Bx (W u : World) (X : Nat) (l : List Value) : Prop where
  c : ∀ i, i < l.length → u.cell? ⟨X, i, none⟩ = some (l.getD i (.bool false))
  fz : ∀ i, i < l.length → u.frozen? ⟨X, i, none⟩ = false
  ge : W.heap.size ≤ X
  lt : X < u.heap.size
theorem Bx.set {W u : World} {X : Nat} {l l' : List Value} (h : Bx W u X l) {i : Nat} (hi : i < l.length) (v : Value) (e : l' = l.set i v) : Bx W (u.setCell ⟨X, i, none⟩ v) X l' := by
  subst e
  refine ⟨fun j hj => ?_, fun j hj => ?_, h.ge, ?_⟩
  · rw [List.length_set] at hj
    by_cases e : j = i
    · subst e
      rw [World.cell?_setCell_same _ _ _ (h.c j hj), List.getD_eq_getElem?_getD, List.getElem?_set_self hj]; rfl
    · rw [World.cell?_setCell_other _ _ _ _ (by simp only [ne_eq, Addr.mk.injEq]; omega), h.c j hj, List.getD_eq_getElem?_getD, List.getD_eq_getElem?_getD, List.getElem?_set_ne (by omega)]
  · rw [List.length_set] at hj
    rw [World.frozen?_setCell]; exact h.fz j hj
  · have hg : u.grownBy (u.setCell ⟨X, i, none⟩ v) (some X) := grow_setCells u X i [v]
    have := hg.size
    have := h.lt
    omega
theorem Bx.other {W u : World} {X Y : Nat} {l : List Value} (h : Bx W u X l) (hne : X ≠ Y) (i : Nat) (v : Value) : Bx W (u.setCell ⟨Y, i, none⟩ v) X l := by
  have hg : u.grownBy (u.setCell ⟨Y, i, none⟩ v) (some Y) := grow_setCells u Y i [v]
  refine ⟨fun j hj => ?_, fun j hj => ?_, h.ge, by have := hg.size; have := h.lt; omega⟩
  · rw [World.cell?_setCell_other _ _ _ _ (by simp only [ne_eq, Addr.mk.injEq]; omega)]; exact h.c j hj
  · rw [World.frozen?_setCell]; exact h.fz j hj
theorem Bx.later {W u u' : World} {X : Nat} {l : List Value} (h : Bx W u X l) (hb : Below u.heap.size u u') : Bx W u' X l :=
  ⟨fun j hj => (hb.cell (p := ⟨X, j, none⟩) h.lt).trans (h.c j hj), fun j hj => by rw [World.frozen?_of_block (w := u) (a := ⟨X, j, none⟩) (hb.block _ h.lt)]; exact h.fz j hj, h.ge, by have := hb.size; have := h.lt; omega⟩
theorem Bx.new {W u : World} (hW : W.heap.size ≤ u.heap.size) (l : List Value) (T : TypeId) : Bx W (u.alloc (.cells l.toArray T)) u.heap.size l := by
  refine ⟨fun i hi => ?_, fun i hi => ?_, hW, by simp⟩
  · rw [World.cell?_alloc_at _ _ _ _ rfl, List.getD_eq_getElem?_getD]
    simp [hi]
  · exact World.frozen?_alloc_at _ _ _ _ rfl
theorem below_set {W u : World} (hb : Below W.heap.size W u) {X : Nat} (hX : W.heap.size ≤ X) (i : Nat) (v : Value) : Below W.heap.size W (u.setCell ⟨X, i, none⟩ v) := by
  have hg : u.grownBy (u.setCell ⟨X, i, none⟩ v) (some X) := grow_setCells u X i [v]
  exact hb.trans (grow_below hg hb.size (fun g e => by cases e; exact hX))
theorem NmsAt.put {W u : World} {v : Value} {l : List By} {X : Nat} (h : NmsAt u v l) (hb : NmsAt W v l) (hW : Below W.heap.size W u) (hX : W.heap.size ≤ X) (i : Nat) (y : Value) : NmsAt (u.setCell ⟨X, i, none⟩ y) v l := hb.later (below_set hW hX i y)
end Go.Proofs.YtlnppgjppfkocaaGreatDoor.Xs

/-! Rows of texts of the call's own: what append does. -/
namespace Go.Proofs.YtlnppgjppfkocaaGreatDoor
open Go.RowKit Plain
set_option linter.unusedVariables false
set_option linter.unusedSimpArgs false

theorem Tryz.infoTx : (Tryz.prog.info? 9).map (fun i => (i.zero, i.size, i.bytes)) = some (some (.string ⟨#[]⟩), 1, 16) := by kernel_rfl
/-- WHAT append DOES of texts. -/
theorem run_append_txs (w : World) (ty : TypeId) (v x : Value) (vs us : List Value) (r : Option Nat) (hown : OwnV w v vs r) (hs : Src Tryz.prog 1 43 x us.length us w) (hlen : vs.length + us.length ≤ 8796093022400) (hr0 : r ≠ none ∨ 0 < us.length) :
    ∃ v' w' g, (Builtin.append_ #[43, 43] ty #[v, x]).run Tryz.prog w = .ok v' w' ∧ OwnV w' v' (vs ++ us) (some g) ∧ w.grownBy w' r ∧ (some g = r ∨ g = w.heap.size) := by
  obtain ⟨i, hi, hz0, hz1, hz2⟩ := info_parts Tryz.infoTx
  have hs' : Src Tryz.prog i.size 43 x us.length us w := by rw [hz1]; exact hs
  have hl2 : (vs ++ us).length = vs.length + us.length := by simp
  have hzc : (Value.string ⟨#[]⟩).cells.size = 1 := by rfl
  have grow : ∀ (base : Option Addr) (sCap : Nat), (Builtin.firstCells i.size vs.length (.slice base vs.length sCap)).run Tryz.prog w.drew = .ok vs.toArray w.drew → sCap < vs.length + us.length →
      ∃ v' w' g, (Builtin.append_ #[43, 43] ty #[.slice base vs.length sCap, x]).run Tryz.prog w = .ok v' w' ∧ OwnV w' v' (vs ++ us) (some g) ∧ w.grownBy w' r ∧ (some g = r ∨ g = w.heap.size) := by
    intro base sCap hold hg
    have hr := run_append_grow_src (P := Tryz.prog) w 43 43 ty 9 i _ Tryz.underlying43 hi hz0 base vs.length sCap vs hold x us.length us hs' hg (by omega) (by rw [hz2]; exact growslice_fits_wide hg (by omega))
    have hge := grownCap_ge w (vs.length + us.length) sCap 9
    have hcm := grownCap_le_maxLen w (vs.length + us.length) sCap 9 (by unfold maxLen; omega)
    refine ⟨_, _, w.heap.size, hr, ?_, ⟨rfl, rfl, rfl, by simp, fun k hk _ => heap_alloc_old w.drew _ hk⟩, .inr rfl⟩
    obtain ⟨C, hC⟩ : ∃ C, (vs ++ us).toArray ++ Builtin.zeroCells (Value.string ⟨#[]⟩).cells (grownCap w (vs.length + us.length) sCap 9 - (vs.length + us.length)) = C := ⟨_, rfl⟩
    have hCs : C.size = grownCap w (vs.length + us.length) sCap 9 := by
      rw [← hC, Array.size_append, List.size_toArray, size_zeroCells, hzc, hl2]
      omega
    have hCg : ∀ j, j < vs.length + us.length → C[j]? = (vs ++ us)[j]? := fun j hj => by
      rw [← hC, Array.getElem?_append_left (by rw [List.size_toArray, hl2]; exact hj), List.getElem?_toArray]
    rw [hC]
    refine .inr ⟨w.heap.size, grownCap w (vs.length + us.length) sCap 9, rfl, by rw [hl2], by simp, by rw [hl2]; exact hge, hcm, fun j hj => ?_, fun j hj => ?_, fun j hj => ?_⟩
    · exact World.frozen?_alloc_at _ _ _ _ rfl
    · show ((w.drew.alloc (Obj.cells C 9)).cell? ⟨w.drew.heap.size, j, none⟩).isSome = true
      rw [World.cell?_alloc_at _ _ _ _ rfl, Array.getElem?_eq_getElem (by omega)]; rfl
    · rw [hl2] at hj
      show (w.drew.alloc (Obj.cells C 9)).cell? ⟨w.drew.heap.size, j, none⟩ = _
      rw [World.cell?_alloc_at _ _ _ _ rfl]; exact hCg j hj
  rcases hown with ⟨rfl, rfl, rfl⟩ | ⟨g, cap, rfl, rfl, hg, h1, h2, h3, h4, h5⟩
  · rcases hr0 with h | h
    · exact absurd rfl h
    · exact grow none 0 (by rw [List.length_nil]; exact run_firstCells_none w.drew _ _ _ _) (by simpa using h)
  · by_cases hroom : vs.length + us.length ≤ cap
    · have hr := run_append_room_src (P := Tryz.prog) w 43 43 ty 9 i Tryz.underlying43 hi g 0 vs.length cap x us.length us hs' hroom
        (fun j hj => by rw [hz1, Nat.mul_one, Nat.zero_add]; exact h4 _ (by omega))
        (fun j hj => by rw [hz1, Nat.mul_one, Nat.zero_add]; exact h3 _ (by omega))
      rw [hz1, Nat.zero_add, Nat.mul_one] at hr
      refine ⟨_, _, g, hr, .inr ⟨g, cap, rfl, by rw [hl2], ?_, by omega, h2, fun j hj => ?_, fun j hj => ?_, fun j hj => ?_⟩, grow_setCells w g _ _, .inl rfl⟩
      · rw [setCells_size]; exact hg
      · rw [World.frozen?_setCells]; exact h3 j hj
      · exact isSome_setCells g _ _ w _ (h4 j hj)
      · rw [hl2] at hj
        by_cases hj' : j < vs.length
        · rw [World.cell?_setCells_out g _ _ w _ (fun _ _ => .inl hj'), h5 j hj', List.getElem?_append_left hj']
        · have hj2 : j - vs.length < us.length := by omega
          have := World.cell?_setCells_in g us vs.length w (fun m hm => h4 _ (by omega)) (j - vs.length) hj2
          rw [show vs.length + (j - vs.length) = j by omega] at this
          rw [this, List.getElem?_append_right (by omega), List.getElem?_eq_getElem hj2]
    · refine grow _ cap ?_ (by omega)
      rw [hz1]
      refine run_firstCells_some w.drew 1 vs.length ⟨g, 0, none⟩ _ _ vs (by omega) (fun j u hj => ?_)
      have hjl : j < vs.length := (List.getElem?_eq_some_iff.mp hj).1
      rw [WideShapes.add_plain, Nat.zero_add]
      show w.cell? ⟨g, j, none⟩ = some u
      rw [h5 j hjl, hj]
theorem wpList_append_txs {ops : Array Oper} {rest : List Oper} {o : Oper} {a : Act} {Q : Exit → Act → World → Prop} (w : World) (hgd : o.guard = none) (s x : Operand)
    (ho : o.op = .call { callee := .builtin .append, args := #[s, x], argTypes := #[43, 43] }) (v xv : Value) (vs us : List Value) (r : Option Nat)
    (hs : a.eval s = v) (hx : a.eval x = xv) (hown : OwnV w v vs r) (hsrc : Src Tryz.prog 1 43 xv us.length us w) (hlen : vs.length + us.length ≤ 8796093022400) (hr0 : r ≠ none ∨ 0 < us.length)
    (h : ∀ v' w' g, OwnV w' v' (vs ++ us) (some g) → w.grownBy w' r → (some g = r ∨ g = w.heap.size) → wpList Tryz.prog ops Q rest (a.put o.dst v') w') : wpList Tryz.prog ops Q (o :: rest) a w :=
  wpList_plain hgd fun _ hK => by
    obtain ⟨v', w', g, hr, h1, h2, h3⟩ := run_append_txs w o.type v xv vs us r hown hsrc hlen hr0
    unfold Oper.wp execOp
    simp only [ho, resolve, invoke, builtin, Sem.run_bind, Sem.run_pure, Result.andThen_ok, List.map_toArray, List.map_cons, List.map_nil, hs, hx, hr]
    exact hK _ _ (h v' w' g h1 h2 h3)
theorem srcTx (w : World) (s : ByteArray) : Src Tryz.prog 1 43 (.slice (some ⟨w.heap.size, 0, none⟩) 1 1) [Value.string s].length [.string s] (w.alloc (.cells #[.string s] 9)) := src_val w (.string s) rfl 43 9 9 Tryz.underlying43
end Go.Proofs.YtlnppgjppfkocaaGreatDoor
