import Derived.Test.YtbeaefokpggmpabQtf
import Derived.Test.YtbeaefokpggmpabOwn
import Derived.Deep.DeepAppendWide
/-! quota: rows of numbers of the call's own, and slices of numbers that are read. -/
namespace Go.Proofs.Ytbeaefokpggmpab
open Go.RowKit Plain
set_option linter.unusedVariables false

theorem Try.info2 : (Try.prog.info? 2).map (fun i => (i.zero, i.size, i.bytes)) = some (some (.int .i64 0), 1, 8) := by kernel_rfl
/-- v reads as l, and lies at the head of a row of bytes, in block r, that may be written. -/
def OwnL (w : World) (v : Value) (l : List Int) (r : Option Nat) : Prop :=
  (∀ c ∈ l, -9223372036854775808 ≤ c ∧ c ≤ 9223372036854775807) ∧ ((v = .slice none 0 0 ∧ l = [] ∧ r = none) ∨
    ∃ g cap, r = some g ∧ v = .slice (some ⟨g, 0, none⟩) l.length cap ∧ g < w.heap.size ∧ l.length ≤ cap ∧ cap ≤ maxLen ∧
      (∀ j, j < cap → w.frozen? ⟨g, j, none⟩ = false) ∧ (∀ j, j < cap → (w.cell? ⟨g, j, none⟩).isSome = true) ∧
      ∀ j, j < l.length → w.cell? ⟨g, j, none⟩ = some (.int .i64 (l.getD j 0)))

theorem OwnL.nil (w : World) : OwnL w (.slice none 0 0) [] none := ⟨by simp, .inl ⟨rfl, rfl, rfl⟩⟩

theorem OwnL.kept {w w' : World} {v : Value} {l : List Int} {r r' : Option Nat} (h : OwnL w v l r) (k : w.grownBy w' r') (hne : r = none ∨ r ≠ r') : OwnL w' v l r := by
  refine ⟨h.1, ?_⟩
  rcases h.2 with h0 | ⟨g, cap, rfl, rfl, hg, h1, h2, h3, h4, h5⟩
  · exact .inl h0
  · have hb : w'.heap[g]? = w.heap[g]? := k.block g hg (by rcases hne with h | h <;> simp_all)
    refine .inr ⟨g, cap, rfl, rfl, Nat.lt_of_lt_of_le hg k.size, h1, h2, fun j hj => ?_, fun j hj => ?_, fun j hj => ?_⟩
    · rw [World.frozen?_of_block (w := w) (a := ⟨g, j, none⟩) hb]; exact h3 j hj
    · rw [World.cell?_of_block (w := w) (a := ⟨g, j, none⟩) hb]; exact h4 j hj
    · rw [World.cell?_of_block (w := w) (a := ⟨g, j, none⟩) hb]; exact h5 j hj

theorem OwnL.lt {w : World} {v : Value} {l : List Int} {g : Nat} (h : OwnL w v l (some g)) : g < w.heap.size := by
  rcases h.2 with ⟨_, _, h⟩ | ⟨g', cap, e, _, hg, _⟩
  · simp at h
  · simp at e; omega

theorem OwnL.shape {w : World} {v : Value} {l : List Int} {g : Nat} (h : OwnL w v l (some g)) : ∃ cap, v = .slice (some ⟨g, 0, none⟩) l.length cap ∧ l.length ≤ cap ∧ cap ≤ maxLen := by
  rcases h.2 with ⟨_, _, h⟩ | ⟨g', cap, e, rfl, hg, h1, h2, _⟩
  · simp at h
  · simp at e; subst e; exact ⟨cap, rfl, h1, h2⟩

/-- A row of no bytes. -/
theorem OwnL.empty (w : World) (t : TypeId) : OwnL (w.alloc (.cells #[] t)) (.slice (some ⟨w.heap.size, 0, none⟩) 0 0) [] (some w.heap.size) :=
  ⟨by simp, .inr ⟨w.heap.size, 0, rfl, rfl, by simp, by simp, by simp, by simp, by simp, by simp⟩⟩

def lcells (l : List Int) : List Value := l.map fun c => Value.int .i64 c
theorem lcells_get (l : List Int) (j : Nat) (h : j < l.length) : (lcells l)[j]? = some (.int .i64 (l.getD j 0)) := by
  simp [lcells, h]
theorem lcells_len (l : List Int) : (lcells l).length = l.length := by simp [lcells]
theorem lcells_append (l k : List Int) : lcells l ++ lcells k = lcells (l ++ k) := by simp [lcells]
theorem lcells_one (l : List Int) : ∀ u ∈ lcells l, u.oneCell' = true := by
  intro u hu
  obtain ⟨x, _, rfl⟩ := List.mem_map.mp hu
  rfl
theorem lgetD_left (l k : List Int) {j : Nat} (h : j < l.length) : (l ++ k).getD j 0 = l.getD j 0 := by
  simp [List.getElem?_append_left h]
theorem lgetD_right (l k : List Int) {j : Nat} (h : l.length ≤ j) : (l ++ k).getD j 0 = k.getD (j - l.length) 0 := by
  simp [List.getElem?_append_right h]

theorem OwnL.new (w : World) (C : Array Value) (l : List Int) (cap : Nat) (t : TypeId) (hb : ∀ c ∈ l, -9223372036854775808 ≤ c ∧ c ≤ 9223372036854775807) (hcap : C.size = cap) (hle : l.length ≤ cap) (hm : cap ≤ maxLen) (hC : ∀ j, j < l.length → C[j]? = some (.int .i64 (l.getD j 0))) :
    OwnL (w.alloc (.cells C t)) (.slice (some ⟨w.heap.size, 0, none⟩) l.length cap) l (some w.heap.size) := by
  refine ⟨hb, .inr ⟨w.heap.size, cap, rfl, rfl, by simp, hle, hm, fun j hj => ?_, fun j hj => ?_, fun j hj => ?_⟩⟩
  · exact World.frozen?_alloc_at _ _ _ _ rfl
  · rw [World.cell?_alloc_at _ _ _ _ rfl, Array.getElem?_eq_getElem (by omega)]; rfl
  · rw [World.cell?_alloc_at _ _ _ _ rfl]; exact hC j hj

/-- WHAT append DOES to a row of the call's own. -/
theorem run_append_l (w : World) (t tx ty : TypeId) (ht : Try.prog.underlying t = some (.slice 2)) (v x : Value) (l k : List Int) (r : Option Nat) (hown : OwnL w v l r)
    (hk : ∀ c ∈ k, -9223372036854775808 ≤ c ∧ c ≤ 9223372036854775807) (hs : Src Try.prog 1 tx x k.length (lcells k) w) (hlen : l.length + k.length ≤ 20000000000000) :
    ∃ v' w' r', (Builtin.append_ #[t, tx] ty #[v, x]).run Try.prog w = .ok v' w' ∧ OwnL w' v' (l ++ k) r' ∧ w.grownBy w' r ∧ (r' = r ∨ r' = some w.heap.size) ∧ (k ≠ [] → r' ≠ none) := by
  obtain ⟨i, hi, hz0, hz1, hz2⟩ := info_parts Try.info2
  have hby : ∀ c ∈ l ++ k, -9223372036854775808 ≤ c ∧ c ≤ 9223372036854775807 := fun c hc => by
    rcases List.mem_append.mp hc with h | h
    · exact hown.1 c h
    · exact hk c h
  have hs' : Src Try.prog i.size tx x k.length (lcells k) w := by rw [hz1]; exact hs
  have hmax : l.length + k.length ≤ maxLen := by unfold maxLen; omega
  have grow : ∀ (base : Option Addr) (sCap : Nat), (Builtin.firstCells i.size l.length (.slice base l.length sCap)).run Try.prog w.drew = .ok (lcells l).toArray w.drew → sCap < l.length + k.length →
      ∃ v' w' r', (Builtin.append_ #[t, tx] ty #[.slice base l.length sCap, x]).run Try.prog w = .ok v' w' ∧ OwnL w' v' (l ++ k) r' ∧ w.grownBy w' r ∧ (r' = r ∨ r' = some w.heap.size) ∧ (k ≠ [] → r' ≠ none) := by
    intro base sCap hold hg
    have hr := run_append_grow_src (P := Try.prog) w t tx ty 2 i (.int .i64 0) ht hi hz0 base l.length sCap (lcells l) hold x k.length (lcells k) hs' hg (by omega) (by rw [hz2]; exact growslice_fits_wide hg (by omega))
    have hge := grownCap_ge w (l.length + k.length) sCap 2
    have hcm := grownCap_le_maxLen w (l.length + k.length) sCap 2 hmax
    refine ⟨_, _, some w.heap.size, hr, ?_, ⟨rfl, rfl, rfl, by simp, fun k hk _ => heap_alloc_old w.drew _ hk⟩, .inr rfl, by simp⟩
    have hl2 : (l ++ k).length = l.length + k.length := by simp
    have := OwnL.new w.drew ((lcells l ++ lcells k).toArray ++ Builtin.zeroCells (Value.int .i64 0).cells (grownCap w (l.length + k.length) sCap 2 - (l.length + k.length))) (l ++ k) (grownCap w (l.length + k.length) sCap 2) 2 hby
      (by rw [lcells_append, Array.size_append, List.size_toArray, lcells_len, size_zeroCells, hl2]; show _ + _ * 1 = _; omega) (by omega) hcm
      (fun j hj => by rw [lcells_append, Array.getElem?_append_left (by rw [List.size_toArray, lcells_len]; exact hj), List.getElem?_toArray]; exact lcells_get _ j hj)
    rw [hl2] at this
    exact this
  rcases hown.2 with ⟨rfl, rfl, rfl⟩ | ⟨g, cap, rfl, rfl, hg, h1, h2, h3, h4, h5⟩
  · by_cases hk0 : k = []
    · subst hk0
      refine ⟨.slice none 0 0, w, none, ?_, OwnL.nil w, ⟨rfl, rfl, rfl, Nat.le_refl _, fun _ _ _ => rfl⟩, .inl rfl, by simp⟩
      exact run_append_nothing w t tx ty 2 i ht hi none 0 0 (Nat.le_refl _) x hs'
    · have hkl : 0 < k.length := List.length_pos_iff.mpr hk0
      exact grow none 0 (by rw [List.length_nil]; exact run_firstCells_none w.drew _ _ _ _) (by simpa using hkl)
  · by_cases hroom : l.length + k.length ≤ cap
    · have hr := run_append_room_src (P := Try.prog) w t tx ty 2 i ht hi g 0 l.length cap x k.length (lcells k) hs' hroom
        (fun j hj => by rw [hz1]; rw [lcells_len] at hj; simpa using h4 (l.length + j) (by omega))
        (fun j hj => by rw [hz1]; rw [lcells_len] at hj; simpa using h3 (l.length + j) (by omega))
      rw [hz1, Nat.zero_add, Nat.mul_one] at hr
      have hl2 : (l ++ k).length = l.length + k.length := by simp
      refine ⟨_, _, some g, hr, ⟨hby, .inr ⟨g, cap, rfl, by rw [hl2], ?_, by omega, h2, fun j hj => ?_, fun j hj => ?_, fun j hj => ?_⟩⟩, ?_, .inl rfl, by simp⟩
      · rw [setCells_size]; exact hg
      · rw [World.frozen?_setCells]; exact h3 j hj
      · exact isSome_setCells g _ _ w _ (h4 j hj)
      · by_cases hj' : j < l.length
        · rw [World.cell?_setCells_out g _ _ w _ (fun _ _ => .inl hj'), h5 j hj', lgetD_left l k hj']
        · have hj2 : j - l.length < k.length := by omega
          have := World.cell?_setCells_in g (lcells k) l.length w (fun m hm => h4 _ (by rw [lcells_len] at hm; omega)) (j - l.length) (by rw [lcells_len]; exact hj2)
          rw [show l.length + (j - l.length) = j by omega] at this
          rw [this, lgetD_right l k (by omega), ← lcells_get k _ hj2]
          rw [List.getElem?_eq_getElem (by rw [lcells_len]; exact hj2)]
      · exact grow_setCells w g _ _
    · refine grow _ cap ?_ (by omega)
      rw [hz1]
      refine run_firstCells_some w.drew 1 l.length ⟨g, 0, none⟩ _ _ (lcells l) (by rw [lcells_len, Nat.mul_one]) (fun j u hj => ?_)
      have hjl : j < l.length := by
        have := (List.getElem?_eq_some_iff.mp hj).1
        rwa [lcells_len] at this
      rw [WideShapes.add_plain, Nat.zero_add]
      show w.cell? ⟨g, j, none⟩ = some u
      rw [h5 j hjl, ← lcells_get l j hjl, hj]

theorem wpList_append_l {ops : Array Oper} {rest : List Oper} {o : Oper} {a : Act} {Q : Exit → Act → World → Prop} (w : World) (hgd : o.guard = none) (s x : Operand) (t tx : TypeId)
    (ho : o.op = .call { callee := .builtin .append, args := #[s, x], argTypes := #[t, tx] }) (ht : Try.prog.underlying t = some (.slice 2)) (v xv : Value) (l k : List Int) (r : Option Nat)
    (hs : a.eval s = v) (hx : a.eval x = xv) (hown : OwnL w v l r) (hk : ∀ c ∈ k, -9223372036854775808 ≤ c ∧ c ≤ 9223372036854775807) (hsrc : Src Try.prog 1 tx xv k.length (lcells k) w) (hlen : l.length + k.length ≤ 20000000000000)
    (h : ∀ v' w' r', OwnL w' v' (l ++ k) r' → w.grownBy w' r → (r' = r ∨ r' = some w.heap.size) → (k ≠ [] → r' ≠ none) → wpList Try.prog ops Q rest (a.put o.dst v') w') : wpList Try.prog ops Q (o :: rest) a w :=
  wpList_plain hgd fun _ hK => by
    obtain ⟨v', w', r', hr, h1, h2, h3, h4⟩ := run_append_l w t tx o.type ht v xv l k r hown hk hsrc hlen
    unfold Oper.wp execOp
    simp only [ho, resolve, invoke, builtin, Sem.run_bind, Sem.run_pure, Result.andThen_ok, List.map_toArray, List.map_cons, List.map_nil, hs, hx, hr]
    exact hK _ _ (h v' w' r' h1 h2 h3 h4)

theorem OwnL.later {w w' : World} {v : Value} {l : List Int} {r : Option Nat} (h : OwnL w v l r) (k : Below w.heap.size w w') : OwnL w' v l r := by
  cases r with
  | none => exact h.kept (below_grow k none) (.inl rfl)
  | some g => exact h.kept (below_grow k none) (.inr (by simp))
theorem OwnL.shp {w : World} {v : Value} {l : List Int} {r : Option Nat} (h : OwnL w v l r) : ∃ a cap, v = .slice a l.length cap := by
  rcases h.2 with ⟨rfl, rfl, _⟩ | ⟨g, cap, _, rfl, _⟩
  · exact ⟨none, 0, rfl⟩
  · exact ⟨_, cap, rfl⟩
theorem src_l (W : World) (k : Int) : Src Try.prog 1 22 (.slice (some ⟨W.heap.size, 0, none⟩) 1 1) [k].length (lcells [k]) (W.alloc (.cells #[.int .i64 k] 2)) :=
  Src.ofSlice _ Try.underlying22 _ 1 1 _ (by simp [lcells]) (fun j u hj => by
    rw [WideShapes.add_plain, World.cell?_alloc_at _ _ _ _ rfl]
    simp only [lcells, List.map_cons, List.map_nil] at hj
    match j, hj with
    | 0, hj => simpa using hj) (lcells_one [k])
/-- v is a slice of numbers that reads as l. -/
def NumsAt (w : World) (v : Value) (l : List Int) : Prop :=
  ∃ a cap, v = .slice a l.length cap ∧ l.length ≤ cap ∧ cap ≤ maxLen ∧ (∀ c ∈ l, I64 c) ∧
    (l ≠ [] → ∃ b off, a = some ⟨b, off, none⟩ ∧ ∀ j, j < l.length → w.cell? ⟨b, off + j, none⟩ = some (.int .i64 (l.getD j 0)))
theorem NumsAt.later {w w' : World} {v : Value} {l : List Int} (h : NumsAt w v l) (hb : Below w.heap.size w w') : NumsAt w' v l := by
  obtain ⟨a, cap, rfl, h1, h2, h3, h4⟩ := h
  refine ⟨a, cap, rfl, h1, h2, h3, fun hne => ?_⟩
  obtain ⟨b, off, rfl, h5⟩ := h4 hne
  exact ⟨b, off, rfl, fun j hj => by rw [hb.cell (p := ⟨b, off + j, none⟩) (cell_lt (h5 j hj))]; exact h5 j hj⟩
theorem NumsAt.nil (w : World) : NumsAt w (.slice none 0 0) [] := ⟨none, 0, rfl, by simp, by simp, by simp, by simp⟩
theorem OwnL.nums {w : World} {v : Value} {l : List Int} {r : Option Nat} (h : OwnL w v l r) : NumsAt w v l := by
  rcases h.2 with ⟨rfl, rfl, rfl⟩ | ⟨g, cap, rfl, rfl, hg, h1, h2, h3, h4, h5⟩
  · exact NumsAt.nil w
  · exact ⟨_, cap, rfl, h1, h2, h.1, fun _ => ⟨g, 0, rfl, fun j hj => by rw [Nat.zero_add]; exact h5 j hj⟩⟩
/-- The head of a row. -/
theorem OwnL.head {w : World} {g n cap : Nat} {l k : List Int} (h : OwnL w (.slice (some ⟨g, 0, none⟩) (l ++ k).length cap) (l ++ k) (some g)) (hn : n = l.length) : NumsAt w (.slice (some ⟨g, 0, none⟩) n cap) l := by
  subst hn
  rcases h.2 with ⟨e, _⟩ | ⟨g', cap', e0, e, hg, h1, h2, h3, h4, h5⟩
  · cases e
  · simp only [Value.slice.injEq] at e
    obtain ⟨e1, -, rfl⟩ := e
    simp at e0
    subst e0
    simp only [List.length_append] at h1 h5
    refine ⟨_, cap, rfl, by omega, h2, fun c hc => h.1 c (List.mem_append_left _ hc), fun _ => ⟨g, 0, rfl, fun j hj => ?_⟩⟩
    rw [Nat.zero_add, h5 j (by omega), lgetD_left l k hj]
theorem getD_set (l : List Int) (i j : Nat) (x : Int) (hj : j < l.length) : (l.set i x).getD j 0 = if i = j then x else l.getD j 0 := by
  simp only [List.getD_eq_getElem?_getD, List.getElem?_set]
  by_cases e : i = j
  · subst e; simp [hj]
  · simp [e]
/-- A number is written. -/
theorem OwnL.set {w : World} {g n cap : Nat} {l : List Int} (h : OwnL w (.slice (some ⟨g, 0, none⟩) n cap) l (some g)) (i : Nat) (hi : i < l.length) (x : Int) (hx : I64 x) : OwnL (w.setCell ⟨g, i, none⟩ (.int .i64 x)) (.slice (some ⟨g, 0, none⟩) n cap) (l.set i x) (some g) := by
  have hn : n = l.length := by
    rcases h.2 with ⟨e, _⟩ | ⟨g', cap', e0, e, hg, h1, h2, h3, h4, h5⟩
    · cases e
    · simp only [Value.slice.injEq] at e; exact e.2.1
  refine ⟨fun c hc => ?_, ?_⟩
  · rcases List.mem_or_eq_of_mem_set hc with h1 | rfl
    · exact h.1 c h1
    · exact hx
  · rcases h.2 with ⟨e, _⟩ | ⟨g', cap', e0, e, hg, h1, h2, h3, h4, h5⟩
    · cases e
    · simp only [Value.slice.injEq] at e
      obtain ⟨e1, -, rfl⟩ := e
      simp at e0
      subst e0
      refine .inr ⟨g, cap, rfl, by simp [hn], by simpa using hg, by simpa using h1, h2, fun j hj => ?_, fun j hj => ?_, fun j hj => ?_⟩
      · rw [World.frozen?_setCell]; exact h3 j hj
      · exact isSome_setCells g [.int .i64 x] i w _ (h4 j hj)
      · have hj' : j < l.length := by simpa using hj
        by_cases e : i = j
        · subst e
          obtain ⟨u, hu⟩ := Option.isSome_iff_exists.mp (h4 i (by omega))
          rw [World.cell?_setCell_same _ _ _ hu, getD_set l i i x hj', if_pos rfl]
        · rw [World.cell?_setCell_other _ _ _ _ (by intro e2; injection e2 with _ e3; exact e e3), h5 j hj', getD_set l i j x hj', if_neg e]
theorem OwnL.cells {w : World} {g n cap : Nat} {l : List Int} (h : OwnL w (.slice (some ⟨g, 0, none⟩) n cap) l (some g)) {i : Nat} (hi : i < l.length) : w.cell? ⟨g, i, none⟩ = some (.int .i64 (l.getD i 0)) ∧ w.frozen? ⟨g, i, none⟩ = false := by
  rcases h.2 with ⟨e, _⟩ | ⟨g', cap', e0, e, hg, h1, h2, h3, h4, h5⟩
  · cases e
  · simp at e0
    subst e0
    exact ⟨h5 i hi, h3 i (by omega)⟩
end Go.Proofs.Ytbeaefokpggmpab
