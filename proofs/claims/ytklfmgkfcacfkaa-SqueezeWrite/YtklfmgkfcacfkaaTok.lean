import Derived.Test.YtklfmgkfcacfkaaLit
namespace Go.Proofs.Ytklfmgkfcacfkaa
open Go.RowKit Plain
set_option linter.unusedVariables false
set_option linter.unusedSimpArgs false

/-- A token, as it lies in memory: a literal whose bytes lie in block g, or a match. -/
def Tk : Type := (Nat × List Nat) ⊕ (Nat × Nat)
def Tk.lit (g : Nat) (l : List Nat) : Tk := Sum.inl (g, l)
def Tk.mat (d n : Nat) : Tk := Sum.inr (d, n)
theorem Tk.elim {motive : Tk → Prop} (lit : ∀ g l, motive (Tk.lit g l)) (mat : ∀ d n, motive (Tk.mat d n)) (t : Tk) : motive t := by
  rcases t with ⟨g, l⟩ | ⟨d, n⟩
  · exact lit g l
  · exact mat d n
@[simp] theorem Tk.lit_inj (g g' : Nat) (l l' : List Nat) : Tk.lit g l = Tk.lit g' l' ↔ g = g' ∧ l = l' := by
  unfold Tk.lit
  constructor
  · intro h; have h2 := Sum.inl.inj h; simpa using h2
  · rintro ⟨rfl, rfl⟩; rfl
@[simp] theorem Tk.mat_inj (d d' n n' : Nat) : Tk.mat d n = Tk.mat d' n' ↔ d = d' ∧ n = n' := by
  unfold Tk.mat
  constructor
  · intro h; have h2 := Sum.inr.inj h; simpa using h2
  · rintro ⟨rfl, rfl⟩; rfl
@[simp] theorem Tk.lit_ne (g d n : Nat) (l : List Nat) : (Tk.lit g l = Tk.mat d n) = False := by
  simp only [eq_iff_iff, iff_false]
  intro h
  cases h
@[simp] theorem Tk.mat_ne (g d n : Nat) (l : List Nat) : (Tk.mat d n = Tk.lit g l) = False := by
  simp only [eq_iff_iff, iff_false]
  intro h
  cases h
def Tk.pick {α : Type} (f : Nat → List Nat → α) (h : Nat → Nat → α) (t : Tk) : α := Sum.elim (fun p : Nat × List Nat => f p.1 p.2) (fun p : Nat × Nat => h p.1 p.2) t

def Tk.cells (t : Tk) : List Value := t.pick (fun g l => [.slice (some ⟨g, 0, none⟩) l.length l.length, .int .i64 0, .int .i64 0]) (fun d n => [.slice none 0 0, .int .i64 d, .int .i64 n])
theorem Tk.cells_lit (g : Nat) (l : List Nat) : (Tk.lit g l).cells = [.slice (some ⟨g, 0, none⟩) l.length l.length, .int .i64 0, .int .i64 0] := rfl
theorem Tk.cells_mat (d n : Nat) : (Tk.mat d n).cells = [.slice none 0 0, .int .i64 d, .int .i64 n] := rfl
def Tk.len (t : Tk) : Nat := t.pick (fun _ l => l.length) (fun _ n => n)
theorem Tk.len_lit (g : Nat) (l : List Nat) : (Tk.lit g l).len = l.length := rfl
theorem Tk.len_mat (d n : Nat) : (Tk.mat d n).len = n := rfl
def tcells (ts : List Tk) : List Value := ts.flatMap Tk.cells

theorem Tk.cells_len (t : Tk) : t.cells.length = 3 := by cases t using Tk.elim <;> rfl
theorem Tk.cells_one (t : Tk) : ∀ u ∈ t.cells, u.oneCell' = true := by
  intro u hu
  cases t using Tk.elim <;> (simp only [Tk.cells_lit, Tk.cells_mat, List.mem_cons, List.not_mem_nil, or_false] at hu; rcases hu with rfl | rfl | rfl <;> rfl)
theorem tcells_snoc (ts : List Tk) (t : Tk) : tcells (ts ++ [t]) = tcells ts ++ t.cells := by simp [tcells]
theorem tcells_len : ∀ (ts : List Tk), (tcells ts).length = 3 * ts.length
  | [] => rfl
  | t :: ts => by
    have := tcells_len ts
    simp only [tcells] at this ⊢
    rw [List.flatMap_cons, List.length_append, this, Tk.cells_len, List.length_cons]
    omega

/-- v is a slice of tokens of the call's own, in block r. -/
def OwnT (w : World) (v : Value) (ts : List Tk) (r : Option Nat) : Prop :=
  (v = .slice none 0 0 ∧ ts = [] ∧ r = none) ∨
  ∃ g cap, r = some g ∧ v = .slice (some ⟨g, 0, none⟩) ts.length cap ∧ g < w.heap.size ∧ ts.length ≤ cap ∧ cap ≤ maxLen ∧ (∀ j, j < 3 * cap → w.frozen? ⟨g, j, none⟩ = false) ∧ (∀ j, j < 3 * cap → (w.cell? ⟨g, j, none⟩).isSome = true) ∧
    ∀ j, j < 3 * ts.length → w.cell? ⟨g, j, none⟩ = (tcells ts)[j]?

theorem OwnT.kept {w w' : World} {v : Value} {ts : List Tk} {r r' : Option Nat} (h : OwnT w v ts r) (k : w.grownBy w' r') (hne : r = none ∨ r ≠ r') : OwnT w' v ts r := by
  rcases h with h0 | ⟨g, cap, rfl, rfl, hg, h1, h2, h3, h4, h5⟩
  · exact .inl h0
  · have hb : w'.heap[g]? = w.heap[g]? := k.block g hg (by rcases hne with h | h <;> simp_all)
    refine .inr ⟨g, cap, rfl, rfl, Nat.lt_of_lt_of_le hg k.size, h1, h2, fun j hj => ?_, fun j hj => ?_, fun j hj => ?_⟩
    · rw [World.frozen?_of_block (w := w) (a := ⟨g, j, none⟩) hb]; exact h3 j hj
    · rw [World.cell?_of_block (w := w) (a := ⟨g, j, none⟩) hb]; exact h4 j hj
    · rw [World.cell?_of_block (w := w) (a := ⟨g, j, none⟩) hb]; exact h5 j hj

theorem OwnT.lt {w : World} {v : Value} {ts : List Tk} {g : Nat} (h : OwnT w v ts (some g)) : g < w.heap.size := by
  rcases h with ⟨_, _, h⟩ | ⟨g', cap, e, _, hg, _⟩
  · simp at h
  · simp at e; omega

theorem OwnT.shape {w : World} {v : Value} {ts : List Tk} {r : Option Nat} (h : OwnT w v ts r) : ∃ a cap, v = .slice a ts.length cap ∧ cap ≤ maxLen ∧ ts.length ≤ cap := by
  rcases h with ⟨rfl, rfl, h⟩ | ⟨g', cap, e, rfl, hg, h1, h2, _⟩
  · exact ⟨none, 0, rfl, by simp, by simp⟩
  · exact ⟨_, cap, rfl, h2, h1⟩

theorem zcells3 : (Value.agg #[.slice none 0 0, .int .i64 0, .int .i64 0]).cells.size = 3 := by rfl

/-- WHAT append DOES of one token. -/
theorem run_append_tok (w : World) (ty : TypeId) (v x : Value) (ts : List Tk) (t : Tk) (r : Option Nat) (hown : OwnT w v ts r) (hs : Src Try.prog 3 23 x 1 t.cells w) (hlen : ts.length ≤ 8192) :
    ∃ v' w' g, (Builtin.append_ #[23, 23] ty #[v, x]).run Try.prog w = .ok v' w' ∧ OwnT w' v' (ts ++ [t]) (some g) ∧ w.grownBy w' r ∧ (some g = r ∨ g = w.heap.size) := by
  obtain ⟨i, hi, hz0, hz1, hz2⟩ := info_parts Try.info28
  have hs' : Src Try.prog i.size 23 x 1 t.cells w := by rw [hz1]; exact hs
  have hl2 : (ts ++ [t]).length = ts.length + 1 := by simp
  have grow : ∀ (base : Option Addr) (sCap : Nat), (Builtin.firstCells i.size ts.length (.slice base ts.length sCap)).run Try.prog w.drew = .ok (tcells ts).toArray w.drew → sCap < ts.length + 1 →
      ∃ v' w' g, (Builtin.append_ #[23, 23] ty #[.slice base ts.length sCap, x]).run Try.prog w = .ok v' w' ∧ OwnT w' v' (ts ++ [t]) (some g) ∧ w.grownBy w' r ∧ (some g = r ∨ g = w.heap.size) := by
    intro base sCap hold hg
    have hr := run_append_grow_src (P := Try.prog) w 23 23 ty 28 i _ Try.underlying23 hi hz0 base ts.length sCap (tcells ts) hold x 1 t.cells hs' hg (by omega) (by rw [hz2]; exact growslice_fits hg (by omega))
    have hge := grownCap_ge w (ts.length + 1) sCap 28
    have hcm := grownCap_le_maxLen w (ts.length + 1) sCap 28 (by unfold maxLen; omega)
    refine ⟨_, _, w.heap.size, hr, ?_, ⟨rfl, rfl, rfl, by simp, fun k hk _ => heap_alloc_old w.drew _ hk⟩, .inr rfl⟩
    obtain ⟨C, hC⟩ : ∃ C, (tcells ts ++ t.cells).toArray ++ Builtin.zeroCells (Value.agg #[.slice none 0 0, .int .i64 0, .int .i64 0]).cells (grownCap w (ts.length + 1) sCap 28 - (ts.length + 1)) = C := ⟨_, rfl⟩
    have hCs : C.size = 3 * grownCap w (ts.length + 1) sCap 28 := by
      rw [← hC, Array.size_append, List.size_toArray, size_zeroCells, zcells3, List.length_append, tcells_len, Tk.cells_len]
      omega
    have hCg : ∀ j, j < 3 * (ts.length + 1) → C[j]? = (tcells (ts ++ [t]))[j]? := fun j hj => by
      rw [← hC, Array.getElem?_append_left (by rw [List.size_toArray, List.length_append, tcells_len, Tk.cells_len]; omega), List.getElem?_toArray, tcells_snoc]
    rw [hC]
    refine .inr ⟨w.heap.size, grownCap w (ts.length + 1) sCap 28, rfl, by rw [hl2], by simp, by rw [hl2]; exact hge, hcm, fun j hj => ?_, fun j hj => ?_, fun j hj => ?_⟩
    · exact World.frozen?_alloc_at _ _ _ _ rfl
    · show ((w.drew.alloc (Obj.cells C 28)).cell? ⟨w.drew.heap.size, j, none⟩).isSome = true
      rw [World.cell?_alloc_at _ _ _ _ rfl, Array.getElem?_eq_getElem (by omega)]; rfl
    · rw [hl2] at hj
      show (w.drew.alloc (Obj.cells C 28)).cell? ⟨w.drew.heap.size, j, none⟩ = _
      rw [World.cell?_alloc_at _ _ _ _ rfl]; exact hCg j hj
  rcases hown with ⟨rfl, rfl, rfl⟩ | ⟨g, cap, rfl, rfl, hg, h1, h2, h3, h4, h5⟩
  · exact grow none 0 (by rw [List.length_nil]; exact run_firstCells_none w.drew _ _ _ _) (by simp)
  · by_cases hroom : ts.length + 1 ≤ cap
    · have hr := run_append_room_src (P := Try.prog) w 23 23 ty 28 i Try.underlying23 hi g 0 ts.length cap x 1 t.cells hs' hroom
        (fun j hj => by rw [hz1]; rw [Tk.cells_len] at hj; exact h4 _ (by omega))
        (fun j hj => by rw [hz1]; rw [Tk.cells_len] at hj; exact h3 _ (by omega))
      rw [hz1, Nat.zero_add] at hr
      refine ⟨_, _, g, hr, .inr ⟨g, cap, rfl, by rw [hl2], ?_, by omega, h2, fun j hj => ?_, fun j hj => ?_, fun j hj => ?_⟩, grow_setCells w g _ _, .inl rfl⟩
      · rw [setCells_size]; exact hg
      · rw [World.frozen?_setCells]; exact h3 j hj
      · exact isSome_setCells g _ _ w _ (h4 j hj)
      · rw [hl2] at hj
        by_cases hj' : j < 3 * ts.length
        · rw [World.cell?_setCells_out g _ _ w _ (fun _ _ => .inl (by show j < ts.length * 3; omega)), h5 j hj', tcells_snoc, List.getElem?_append_left (by rw [tcells_len]; exact hj')]
        · have hj2 : j - 3 * ts.length < t.cells.length := by rw [Tk.cells_len]; omega
          have := World.cell?_setCells_in g t.cells (ts.length * 3) w (fun m hm => h4 _ (by rw [Tk.cells_len] at hm; omega)) (j - 3 * ts.length) hj2
          rw [show ts.length * 3 + (j - 3 * ts.length) = j by omega] at this
          rw [this, tcells_snoc, List.getElem?_append_right (by rw [tcells_len]; omega), tcells_len, List.getElem?_eq_getElem hj2]
    · refine grow _ cap ?_ (by omega)
      rw [hz1]
      refine run_firstCells_some w.drew 3 ts.length ⟨g, 0, none⟩ _ _ (tcells ts) (by rw [tcells_len]; omega) (fun j u hj => ?_)
      have hjl : j < 3 * ts.length := by
        have := (List.getElem?_eq_some_iff.mp hj).1
        rwa [tcells_len] at this
      rw [WideShapes.add_plain, Nat.zero_add]
      show w.cell? ⟨g, j, none⟩ = some u
      rw [h5 j hjl, hj]

theorem wpList_append_tok {ops : Array Oper} {rest : List Oper} {o : Oper} {a : Act} {Q : Exit → Act → World → Prop} (w : World) (hgd : o.guard = none) (s x : Operand)
    (ho : o.op = .call { callee := .builtin .append, args := #[s, x], argTypes := #[23, 23] }) (v xv : Value) (ts : List Tk) (t : Tk) (r : Option Nat)
    (hs : a.eval s = v) (hx : a.eval x = xv) (hown : OwnT w v ts r) (hsrc : Src Try.prog 3 23 xv 1 t.cells w) (hlen : ts.length ≤ 8192)
    (h : ∀ v' w' g, OwnT w' v' (ts ++ [t]) (some g) → w.grownBy w' r → (some g = r ∨ g = w.heap.size) → wpList Try.prog ops Q rest (a.put o.dst v') w') : wpList Try.prog ops Q (o :: rest) a w :=
  wpList_plain hgd fun _ hK => by
    obtain ⟨v', w', g, hr, h1, h2, h3⟩ := run_append_tok w o.type v xv ts t r hown hsrc hlen
    unfold Oper.wp execOp
    simp only [ho, resolve, invoke, builtin, Sem.run_bind, Sem.run_pure, Result.andThen_ok, List.map_toArray, List.map_cons, List.map_nil, hs, hx, hr]
    exact hK _ _ (h v' w' g h1 h2 h3)

/-- One token in a new block of its own. -/
theorem src_tok (w : World) (t : Tk) (c0 c1 c2 : Value) (hc : t.cells = [c0, c1, c2]) (ty : TypeId) : Src Try.prog 3 23 (.slice (some ⟨w.heap.size, 0, none⟩) 1 1) 1 t.cells (w.alloc (.cells #[c0, c1, c2] ty)) :=
  Src.ofSlice _ Try.underlying23 _ 1 1 _ (by rw [Tk.cells_len]) (fun j u hj => by
    rw [hc] at hj
    rw [WideShapes.add_plain, World.cell?_alloc_at _ _ _ _ rfl, Nat.zero_add]
    rw [← hj]; simp) (Tk.cells_one t)
end Go.Proofs.Ytklfmgkfcacfkaa
