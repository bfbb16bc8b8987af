import Derived.Test.YtjefbcphefckiacUh
/-! Rows of numbers of the call's own. -/
namespace Go.Proofs.Ytjefbcphefckiac
open Go.RowKit Plain
set_option linter.unusedVariables false

theorem Try.info3 : (Try.prog.info? 3).map (fun i => (i.zero, i.size, i.bytes)) = some (some (.int .i64 0), 1, 8) := by kernel_rfl
/-- v reads as l, and lies at the head of a row of bytes, in block r, that may be written. -/
def OwnK (w : World) (v : Value) (l : List Int) (r : Option Nat) : Prop :=
  (∀ c ∈ l, -9223372036854775808 ≤ c ∧ c ≤ 9223372036854775807) ∧ ((v = .slice none 0 0 ∧ l = [] ∧ r = none) ∨
    ∃ g cap, r = some g ∧ v = .slice (some ⟨g, 0, none⟩) l.length cap ∧ g < w.heap.size ∧ l.length ≤ cap ∧ cap ≤ maxLen ∧
      (∀ j, j < cap → w.frozen? ⟨g, j, none⟩ = false) ∧ (∀ j, j < cap → (w.cell? ⟨g, j, none⟩).isSome = true) ∧
      ∀ j, j < l.length → w.cell? ⟨g, j, none⟩ = some (.int .i64 (l.getD j 0)))

theorem OwnK.nil (w : World) : OwnK w (.slice none 0 0) [] none := ⟨by simp, .inl ⟨rfl, rfl, rfl⟩⟩

theorem OwnK.kept {w w' : World} {v : Value} {l : List Int} {r r' : Option Nat} (h : OwnK w v l r) (k : w.grownBy w' r') (hne : r = none ∨ r ≠ r') : OwnK w' v l r := by
  refine ⟨h.1, ?_⟩
  rcases h.2 with h0 | ⟨g, cap, rfl, rfl, hg, h1, h2, h3, h4, h5⟩
  · exact .inl h0
  · have hb : w'.heap[g]? = w.heap[g]? := k.block g hg (by rcases hne with h | h <;> simp_all)
    refine .inr ⟨g, cap, rfl, rfl, Nat.lt_of_lt_of_le hg k.size, h1, h2, fun j hj => ?_, fun j hj => ?_, fun j hj => ?_⟩
    · rw [World.frozen?_of_block (w := w) (a := ⟨g, j, none⟩) hb]; exact h3 j hj
    · rw [World.cell?_of_block (w := w) (a := ⟨g, j, none⟩) hb]; exact h4 j hj
    · rw [World.cell?_of_block (w := w) (a := ⟨g, j, none⟩) hb]; exact h5 j hj

theorem OwnK.lt {w : World} {v : Value} {l : List Int} {g : Nat} (h : OwnK w v l (some g)) : g < w.heap.size := by
  rcases h.2 with ⟨_, _, h⟩ | ⟨g', cap, e, _, hg, _⟩
  · simp at h
  · simp at e; omega

theorem OwnK.shape {w : World} {v : Value} {l : List Int} {g : Nat} (h : OwnK w v l (some g)) : ∃ cap, v = .slice (some ⟨g, 0, none⟩) l.length cap ∧ l.length ≤ cap ∧ cap ≤ maxLen := by
  rcases h.2 with ⟨_, _, h⟩ | ⟨g', cap, e, rfl, hg, h1, h2, _⟩
  · simp at h
  · simp at e; subst e; exact ⟨cap, rfl, h1, h2⟩

/-- A row of no bytes. -/
theorem OwnK.empty (w : World) (t : TypeId) : OwnK (w.alloc (.cells #[] t)) (.slice (some ⟨w.heap.size, 0, none⟩) 0 0) [] (some w.heap.size) :=
  ⟨by simp, .inr ⟨w.heap.size, 0, rfl, rfl, by simp, by simp, by simp, by simp, by simp, by simp⟩⟩

def kcells (l : List Int) : List Value := l.map fun c => Value.int .i64 c
theorem kcells_get (l : List Int) (j : Nat) (h : j < l.length) : (kcells l)[j]? = some (.int .i64 (l.getD j 0)) := by
  simp [kcells, h]
theorem kcells_len (l : List Int) : (kcells l).length = l.length := by simp [kcells]
theorem kcells_append (l k : List Int) : kcells l ++ kcells k = kcells (l ++ k) := by simp [kcells]
theorem kcells_one (l : List Int) : ∀ u ∈ kcells l, u.oneCell' = true := by
  intro u hu
  obtain ⟨x, _, rfl⟩ := List.mem_map.mp hu
  rfl
theorem kgetD_left (l k : List Int) {j : Nat} (h : j < l.length) : (l ++ k).getD j 0 = l.getD j 0 := by
  simp [List.getElem?_append_left h]
theorem kgetD_right (l k : List Int) {j : Nat} (h : l.length ≤ j) : (l ++ k).getD j 0 = k.getD (j - l.length) 0 := by
  simp [List.getElem?_append_right h]

theorem OwnK.new (w : World) (C : Array Value) (l : List Int) (cap : Nat) (t : TypeId) (hb : ∀ c ∈ l, -9223372036854775808 ≤ c ∧ c ≤ 9223372036854775807) (hcap : C.size = cap) (hle : l.length ≤ cap) (hm : cap ≤ maxLen) (hC : ∀ j, j < l.length → C[j]? = some (.int .i64 (l.getD j 0))) :
    OwnK (w.alloc (.cells C t)) (.slice (some ⟨w.heap.size, 0, none⟩) l.length cap) l (some w.heap.size) := by
  refine ⟨hb, .inr ⟨w.heap.size, cap, rfl, rfl, by simp, hle, hm, fun j hj => ?_, fun j hj => ?_, fun j hj => ?_⟩⟩
  · exact World.frozen?_alloc_at _ _ _ _ rfl
  · rw [World.cell?_alloc_at _ _ _ _ rfl, Array.getElem?_eq_getElem (by omega)]; rfl
  · rw [World.cell?_alloc_at _ _ _ _ rfl]; exact hC j hj

/-- WHAT append DOES to a row of the call's own. -/
theorem run_append_k (w : World) (t tx ty : TypeId) (ht : Try.prog.underlying t = some (.slice 3)) (v x : Value) (l k : List Int) (r : Option Nat) (hown : OwnK w v l r)
    (hk : ∀ c ∈ k, -9223372036854775808 ≤ c ∧ c ≤ 9223372036854775807) (hs : Src Try.prog 1 tx x k.length (kcells k) w) (hlen : l.length + k.length ≤ 4398046511104) :
    ∃ v' w' r', (Builtin.append_ #[t, tx] ty #[v, x]).run Try.prog w = .ok v' w' ∧ OwnK w' v' (l ++ k) r' ∧ w.grownBy w' r ∧ (r' = r ∨ r' = some w.heap.size) ∧ (k ≠ [] → r' ≠ none) := by
  obtain ⟨i, hi, hz0, hz1, hz2⟩ := info_parts Try.info3
  have hby : ∀ c ∈ l ++ k, -9223372036854775808 ≤ c ∧ c ≤ 9223372036854775807 := fun c hc => by
    rcases List.mem_append.mp hc with h | h
    · exact hown.1 c h
    · exact hk c h
  have hs' : Src Try.prog i.size tx x k.length (kcells k) w := by rw [hz1]; exact hs
  have hmax : l.length + k.length ≤ maxLen := by unfold maxLen; omega
  have grow : ∀ (base : Option Addr) (sCap : Nat), (Builtin.firstCells i.size l.length (.slice base l.length sCap)).run Try.prog w.drew = .ok (kcells l).toArray w.drew → sCap < l.length + k.length →
      ∃ v' w' r', (Builtin.append_ #[t, tx] ty #[.slice base l.length sCap, x]).run Try.prog w = .ok v' w' ∧ OwnK w' v' (l ++ k) r' ∧ w.grownBy w' r ∧ (r' = r ∨ r' = some w.heap.size) ∧ (k ≠ [] → r' ≠ none) := by
    intro base sCap hold hg
    have hr := run_append_grow_src (P := Try.prog) w t tx ty 3 i (.int .i64 0) ht hi hz0 base l.length sCap (kcells l) hold x k.length (kcells k) hs' hg (by omega) (by rw [hz2]; exact growslice_fits hg (by omega))
    have hge := grownCap_ge w (l.length + k.length) sCap 3
    have hcm := grownCap_le_maxLen w (l.length + k.length) sCap 3 hmax
    refine ⟨_, _, some w.heap.size, hr, ?_, ⟨rfl, rfl, rfl, by simp, fun k hk _ => heap_alloc_old w.drew _ hk⟩, .inr rfl, by simp⟩
    have hl2 : (l ++ k).length = l.length + k.length := by simp
    have := OwnK.new w.drew ((kcells l ++ kcells k).toArray ++ Builtin.zeroCells (Value.int .i64 0).cells (grownCap w (l.length + k.length) sCap 3 - (l.length + k.length))) (l ++ k) (grownCap w (l.length + k.length) sCap 3) 3 hby
      (by rw [kcells_append, Array.size_append, List.size_toArray, kcells_len, size_zeroCells, hl2]; show _ + _ * 1 = _; omega) (by omega) hcm
      (fun j hj => by rw [kcells_append, Array.getElem?_append_left (by rw [List.size_toArray, kcells_len]; exact hj), List.getElem?_toArray]; exact kcells_get _ j hj)
    rw [hl2] at this
    exact this
  rcases hown.2 with ⟨rfl, rfl, rfl⟩ | ⟨g, cap, rfl, rfl, hg, h1, h2, h3, h4, h5⟩
  · by_cases hk0 : k = []
    · subst hk0
      refine ⟨.slice none 0 0, w, none, ?_, OwnK.nil w, ⟨rfl, rfl, rfl, Nat.le_refl _, fun _ _ _ => rfl⟩, .inl rfl, by simp⟩
      exact run_append_nothing w t tx ty 3 i ht hi none 0 0 (Nat.le_refl _) x hs'
    · have hkl : 0 < k.length := List.length_pos_iff.mpr hk0
      exact grow none 0 (by rw [List.length_nil]; exact run_firstCells_none w.drew _ _ _ _) (by simpa using hkl)
  · by_cases hroom : l.length + k.length ≤ cap
    · have hr := run_append_room_src (P := Try.prog) w t tx ty 3 i ht hi g 0 l.length cap x k.length (kcells k) hs' hroom
        (fun j hj => by rw [hz1]; rw [kcells_len] at hj; simpa using h4 (l.length + j) (by omega))
        (fun j hj => by rw [hz1]; rw [kcells_len] at hj; simpa using h3 (l.length + j) (by omega))
      rw [hz1, Nat.zero_add, Nat.mul_one] at hr
      have hl2 : (l ++ k).length = l.length + k.length := by simp
      refine ⟨_, _, some g, hr, ⟨hby, .inr ⟨g, cap, rfl, by rw [hl2], ?_, by omega, h2, fun j hj => ?_, fun j hj => ?_, fun j hj => ?_⟩⟩, ?_, .inl rfl, by simp⟩
      · rw [setCells_size]; exact hg
      · rw [World.frozen?_setCells]; exact h3 j hj
      · exact isSome_setCells g _ _ w _ (h4 j hj)
      · by_cases hj' : j < l.length
        · rw [World.cell?_setCells_out g _ _ w _ (fun _ _ => .inl hj'), h5 j hj', kgetD_left l k hj']
        · have hj2 : j - l.length < k.length := by omega
          have := World.cell?_setCells_in g (kcells k) l.length w (fun m hm => h4 _ (by rw [kcells_len] at hm; omega)) (j - l.length) (by rw [kcells_len]; exact hj2)
          rw [show l.length + (j - l.length) = j by omega] at this
          rw [this, kgetD_right l k (by omega), ← kcells_get k _ hj2]
          rw [List.getElem?_eq_getElem (by rw [kcells_len]; exact hj2)]
      · exact grow_setCells w g _ _
    · refine grow _ cap ?_ (by omega)
      rw [hz1]
      refine run_firstCells_some w.drew 1 l.length ⟨g, 0, none⟩ _ _ (kcells l) (by rw [kcells_len, Nat.mul_one]) (fun j u hj => ?_)
      have hjl : j < l.length := by
        have := (List.getElem?_eq_some_iff.mp hj).1
        rwa [kcells_len] at this
      rw [WideShapes.add_plain, Nat.zero_add]
      show w.cell? ⟨g, j, none⟩ = some u
      rw [h5 j hjl, ← kcells_get l j hjl, hj]

theorem wpList_append_k {ops : Array Oper} {rest : List Oper} {o : Oper} {a : Act} {Q : Exit → Act → World → Prop} (w : World) (hgd : o.guard = none) (s x : Operand) (t tx : TypeId)
    (ho : o.op = .call { callee := .builtin .append, args := #[s, x], argTypes := #[t, tx] }) (ht : Try.prog.underlying t = some (.slice 3)) (v xv : Value) (l k : List Int) (r : Option Nat)
    (hs : a.eval s = v) (hx : a.eval x = xv) (hown : OwnK w v l r) (hk : ∀ c ∈ k, -9223372036854775808 ≤ c ∧ c ≤ 9223372036854775807) (hsrc : Src Try.prog 1 tx xv k.length (kcells k) w) (hlen : l.length + k.length ≤ 4398046511104)
    (h : ∀ v' w' r', OwnK w' v' (l ++ k) r' → w.grownBy w' r → (r' = r ∨ r' = some w.heap.size) → (k ≠ [] → r' ≠ none) → wpList Try.prog ops Q rest (a.put o.dst v') w') : wpList Try.prog ops Q (o :: rest) a w :=
  wpList_plain hgd fun _ hK => by
    obtain ⟨v', w', r', hr, h1, h2, h3, h4⟩ := run_append_k w t tx o.type ht v xv l k r hown hk hsrc hlen
    unfold Oper.wp execOp
    simp only [ho, resolve, invoke, builtin, Sem.run_bind, Sem.run_pure, Result.andThen_ok, List.map_toArray, List.map_cons, List.map_nil, hs, hx, hr]
    exact hK _ _ (h v' w' r' h1 h2 h3 h4)

end Go.Proofs.Ytjefbcphefckiac
