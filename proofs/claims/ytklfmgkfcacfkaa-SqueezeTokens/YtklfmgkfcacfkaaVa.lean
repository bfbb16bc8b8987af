import Derived.Test.YtklfmgkfcacfkaaNe
import Derived.Test.YtklfmgkfcacfkaaSt
/-! Worlds in which only some blocks have turned; rows that are full. -/
namespace Go.Proofs.Ytklfmgkfcacfkaa
open Go.RowKit Plain
set_option linter.unusedVariables false
set_option linter.unusedSimpArgs false

/-- Of the blocks that were there only those of S have turned. -/
structure Chg (S : Nat → Prop) (w w' : World) : Prop where
  os : w'.os = w.os
  tape : w'.tape = w.tape
  output : w'.output = w.output
  size : w.heap.size ≤ w'.heap.size
  block : ∀ k, k < w.heap.size → ¬ S k → w'.heap[k]? = w.heap[k]?
theorem Chg.refl (S : Nat → Prop) (w : World) : Chg S w w := ⟨rfl, rfl, rfl, Nat.le_refl _, fun _ _ _ => rfl⟩
theorem Chg.grown {S : Nat → Prop} {a b c : World} {r : Option Nat} (h : Chg S a b) (k : b.grownBy c r) (hr : ∀ g, r = some g → S g ∨ a.heap.size ≤ g) : Chg S a c :=
  ⟨k.os.trans h.os, k.tape.trans h.tape, k.output.trans h.output, Nat.le_trans h.size k.size, fun i hi hs => by
    rw [k.block i (Nat.lt_of_lt_of_le hi h.size) (fun e => by
      rcases hr i e.symm with h1 | h1
      · exact hs h1
      · omega)]
    exact h.block i hi hs⟩
theorem Chg.drew {S : Nat → Prop} {a b : World} (h : Chg S a b) (n : Nat) : Chg S a (b.drewN n) := h.grown (grow_drewN (below_grow (Below.refl _ _) none) n) (by simp)
theorem Chg.below {S : Nat → Prop} {w w' : World} {B : Nat} (h : Chg S w w') (hB : B ≤ w.heap.size) (hS : ∀ k, S k → B ≤ k) : Below B w w' :=
  ⟨h.os, h.tape, h.output, h.size, fun k hk => h.block k (by omega) (fun hs => by have := hS k hs; omega)⟩
theorem Own.chg {S : Nat → Prop} {w w' : World} {v : Value} {l : List Nat} {r : Option Nat} (h : Own w v l r) (k : Chg S w w') (hne : ∀ g, r = some g → ¬ S g) : Own w' v l r := by
  refine ⟨h.1, ?_⟩
  rcases h.2 with h0 | ⟨g, cap, rfl, rfl, hg, h1, h2, h3, h4, h5⟩
  · exact .inl h0
  · have hb : w'.heap[g]? = w.heap[g]? := k.block g hg (hne g rfl)
    refine .inr ⟨g, cap, rfl, rfl, Nat.lt_of_lt_of_le hg k.size, h1, h2, fun j hj => ?_, fun j hj => ?_, fun j hj => ?_⟩
    · rw [World.frozen?_of_block (w := w) (a := ⟨g, j, none⟩) hb]; exact h3 j hj
    · rw [World.cell?_of_block (w := w) (a := ⟨g, j, none⟩) hb]; exact h4 j hj
    · rw [World.cell?_of_block (w := w) (a := ⟨g, j, none⟩) hb]; exact h5 j hj
theorem OwnT.chg {S : Nat → Prop} {w w' : World} {v : Value} {ts : List Tk} {r : Option Nat} (h : OwnT w v ts r) (k : Chg S w w') (hne : ∀ g, r = some g → ¬ S g) : OwnT w' v ts r := by
  rcases h with h0 | ⟨g, cap, rfl, rfl, hg, h1, h2, h3, h4, h5⟩
  · exact .inl h0
  · have hb : w'.heap[g]? = w.heap[g]? := k.block g hg (hne g rfl)
    refine .inr ⟨g, cap, rfl, rfl, Nat.lt_of_lt_of_le hg k.size, h1, h2, fun j hj => ?_, fun j hj => ?_, fun j hj => ?_⟩
    · rw [World.frozen?_of_block (w := w) (a := ⟨g, j, none⟩) hb]; exact h3 j hj
    · rw [World.cell?_of_block (w := w) (a := ⟨g, j, none⟩) hb]; exact h4 j hj
    · rw [World.cell?_of_block (w := w) (a := ⟨g, j, none⟩) hb]; exact h5 j hj
theorem TRow.chg {S : Nat → Prop} {base : Nat} {w w' : World} {v : Value} {ts : List Tk} {r : Option Nat} (h : TRow base w v ts r) (k : Chg S w w') (hne : ∀ g, base ≤ g → ¬ S g) : TRow base w' v ts r :=
  ⟨h.own.chg k (fun g e => hne g (h.rb g e)), h.rb, fun g l hm => by
    obtain ⟨h1, h2, h3, h4⟩ := h.lits g l hm
    exact ⟨h1, h2, h3, h4.chg k (fun x e => by simp at e; subst e; exact hne _ h2)⟩, h.apart⟩
theorem TRow.ne {base : Nat} {w : World} {v : Value} {ts : List Tk} {r : Option Nat} (h : TRow base w v ts r) {i j g g' : Nat} {l l' : List Nat} (hi : ts[i]? = some (Tk.lit g l)) (hj : ts[j]? = some (Tk.lit g' l')) (hij : i ≠ j) : g ≠ g' := by
  obtain ⟨hi1, hi2⟩ := List.getElem?_eq_some_iff.mp hi
  obtain ⟨hj1, hj2⟩ := List.getElem?_eq_some_iff.mp hj
  have hp := List.pairwise_iff_getElem.mp h.apart
  rcases Nat.lt_or_ge i j with hlt | hge
  · exact hp i j hi1 hj1 hlt g l g' l' hi2 hj2
  · exact (hp j i hj1 hi1 (by omega) g' l' g l hj2 hi2).symm

/-- What append does to a row without room. -/
theorem run_append_full (w : World) (t tx ty : TypeId) (ht : Try.prog.underlying t = some (.slice 5)) (g n : Nat) (x : Value) (l k : List Nat) (hown : Own w (.slice (some ⟨g, 0, none⟩) n n) l (some g)) (hn : l.length = n)
    (hk : ∀ c ∈ k, c < 256) (hk0 : k ≠ []) (hs : Src Try.prog 1 tx x k.length (cellsOf k) w) (hlen : l.length + k.length ≤ 140737488355328) :
    ∃ v' w', (Builtin.append_ #[t, tx] ty #[.slice (some ⟨g, 0, none⟩) n n, x]).run Try.prog w = .ok v' w' ∧ Own w' v' (l ++ k) (some w.heap.size) ∧ w.grownBy w' none := by
  subst hn
  obtain ⟨i, hi, hz0, hz1, hz2⟩ := info_parts Try.info5
  have hby : ∀ c ∈ l ++ k, c < 256 := fun c hc => by
    rcases List.mem_append.mp hc with h | h
    · exact hown.1 c h
    · exact hk c h
  have hs' : Src Try.prog i.size tx x k.length (cellsOf k) w := by rw [hz1]; exact hs
  have hmax : l.length + k.length ≤ maxLen := by unfold maxLen; omega
  have hkl : 0 < k.length := List.length_pos_iff.mpr hk0
  have hcells : ∀ j, j < l.length → w.cell? ⟨g, j, none⟩ = some (.int .u8 ((l.getD j 0 : Nat) : Int)) := by
    rcases hown.2 with ⟨e, _⟩ | ⟨g', cap, e, e2, hg, h1, h2, h3, h4, h5⟩
    · simp at e
    · simp at e; subst e; exact h5
  have hold : (Builtin.firstCells i.size l.length (.slice (some ⟨g, 0, none⟩) l.length l.length)).run Try.prog w.drew = .ok (cellsOf l).toArray w.drew := by
    rw [hz1]
    refine run_firstCells_some w.drew 1 l.length ⟨g, 0, none⟩ _ _ (cellsOf l) (by rw [cellsOf_len, Nat.mul_one]) (fun j u hj => ?_)
    have hjl : j < l.length := by
      have := (List.getElem?_eq_some_iff.mp hj).1
      rwa [cellsOf_len] at this
    rw [WideShapes.add_plain, Nat.zero_add]
    show w.cell? ⟨g, j, none⟩ = some u
    rw [hcells j hjl, ← cellsOf_get l j hjl, hj]
  have hg : l.length < l.length + k.length := by omega
  have hr := run_append_grow_src (P := Try.prog) w t tx ty 5 i (.int .u8 0) ht hi hz0 (some ⟨g, 0, none⟩) l.length l.length (cellsOf l) hold x k.length (cellsOf k) hs' hg (by omega) (by rw [hz2]; exact growslice_fits hg (by omega))
  have hge := grownCap_ge w (l.length + k.length) l.length 5
  have hcm := grownCap_le_maxLen w (l.length + k.length) l.length 5 hmax
  refine ⟨_, _, hr, ?_, ⟨rfl, rfl, rfl, by simp, fun k hk _ => heap_alloc_old w.drew _ hk⟩⟩
  have hl2 : (l ++ k).length = l.length + k.length := by simp
  have := Own.new w.drew ((cellsOf l ++ cellsOf k).toArray ++ Builtin.zeroCells (Value.int .u8 0).cells (grownCap w (l.length + k.length) l.length 5 - (l.length + k.length))) (l ++ k) (grownCap w (l.length + k.length) l.length 5) 5 hby
    (by rw [cellsOf_append, Array.size_append, List.size_toArray, cellsOf_len, size_zeroCells, hl2]; show _ + _ * 1 = _; omega) (by omega) hcm
    (fun j hj => by rw [cellsOf_append, Array.getElem?_append_left (by rw [List.size_toArray, cellsOf_len]; exact hj), List.getElem?_toArray]; exact cellsOf_get _ j hj)
  rw [hl2] at this
  exact this
theorem wpList_append_full {ops : Array Oper} {rest : List Oper} {o : Oper} {a : Act} {Q : Exit → Act → World → Prop} (w : World) (hgd : o.guard = none) (s x : Operand) (t tx : TypeId)
    (ho : o.op = .call { callee := .builtin .append, args := #[s, x], argTypes := #[t, tx] }) (ht : Try.prog.underlying t = some (.slice 5)) (g n : Nat) (xv : Value) (l k : List Nat)
    (hs : a.eval s = .slice (some ⟨g, 0, none⟩) n n) (hx : a.eval x = xv) (hown : Own w (.slice (some ⟨g, 0, none⟩) n n) l (some g)) (hn : l.length = n) (hk : ∀ c ∈ k, c < 256) (hk0 : k ≠ []) (hsrc : Src Try.prog 1 tx xv k.length (cellsOf k) w) (hlen : l.length + k.length ≤ 140737488355328)
    (h : ∀ v' w', Own w' v' (l ++ k) (some w.heap.size) → w.grownBy w' none → wpList Try.prog ops Q rest (a.put o.dst v') w') : wpList Try.prog ops Q (o :: rest) a w :=
  wpList_plain hgd fun _ hK => by
    obtain ⟨v', w', hr, h1, h2⟩ := run_append_full w t tx o.type ht g n xv l k hown hn hk hk0 hsrc hlen
    unfold Oper.wp execOp
    simp only [ho, resolve, invoke, builtin, Sem.run_bind, Sem.run_pure, Result.andThen_ok, List.map_toArray, List.map_cons, List.map_nil, hs, hx, hr]
    exact hK _ _ (h v' w' h1 h2)

/-- A row of tokens, whose literals' bytes may have turned. -/
structure Apt (w wr : World) (v : Value) (ts : List Tk) (r : Option Nat) (f : Nat → List Nat) : Prop where
  own : OwnT wr v ts r
  lits : ∀ j g l, ts[j]? = some (Tk.lit g l) → Own wr (.slice (some ⟨g, 0, none⟩) l.length l.length) (f j) (some g) ∧ (f j).length = l.length
  chg : Chg (fun g => ∃ l, Tk.lit g l ∈ ts) w wr
def litAt (ts : List Tk) (j : Nat) : List Nat := (ts[j]?.map (Tk.pick (fun _ l => l) (fun _ _ => []))).getD []
theorem Apt.start {base : Nat} {w : World} {v : Value} {ts : List Tk} {r : Option Nat} (h : TRow base w v ts r) : Apt w w v ts r (litAt ts) := by
  refine ⟨h.own, fun j g l e => ?_, Chg.refl _ _⟩
  have hl : litAt ts j = l := by unfold litAt; rw [e]; rfl
  rw [hl]
  exact ⟨(h.lits g l (List.mem_of_getElem? e)).2.2.2, rfl⟩
theorem Apt.later {w wr w2 : World} {v : Value} {ts : List Tk} {r : Option Nat} {f : Nat → List Nat} (h : Apt w wr v ts r f) (k : Below wr.heap.size wr w2) : Apt w w2 v ts r f :=
  ⟨h.own.kept (below_grow k none) (by cases r <;> simp), fun j g l e => ⟨(h.lits j g l e).1.later k, (h.lits j g l e).2⟩, h.chg.grown (below_grow k none) (by simp)⟩
theorem Apt.set {base : Nat} {w wr : World} {v : Value} {ts : List Tk} {r : Option Nat} {f : Nat → List Nat} {i g k c : Nat} {l : List Nat} (h : Apt w wr v ts r f) (hT : TRow base w v ts r) (hi : ts[i]? = some (Tk.lit g l)) (hk : k < l.length) (hc : c < 256) :
    Apt w (wr.setCell ⟨g, k, none⟩ (.int .u8 (c : Int))) v ts r (fun j => if j = i then (f i).set k c else f j) := by
  have hm : Tk.lit g l ∈ ts := List.mem_of_getElem? hi
  have hg : wr.grownBy (wr.setCell ⟨g, k, none⟩ (.int .u8 (c : Int))) (some g) := grow_setCells wr g k [.int .u8 (c : Int)]
  refine ⟨h.own.kept hg (.inr (hT.lits g l hm).2.2.1), fun j g' l' e => ?_, h.chg.grown hg (fun x e => .inl (by simp at e; subst e; exact ⟨l, hm⟩))⟩
  by_cases hj : j = i
  · subst hj
    rw [hi] at e
    simp at e
    obtain ⟨rfl, rfl⟩ := e
    obtain ⟨h1, h2⟩ := h.lits j g l hi
    simp only [if_true]
    exact ⟨h1.set k c (by omega) hc, by rw [List.length_set]; exact h2⟩
  · obtain ⟨h1, h2⟩ := h.lits j g' l' e
    simp only [hj, if_false]
    exact ⟨h1.kept hg (.inr (by have := hT.ne hi e (Ne.symm hj); simp; exact this.symm)), h2⟩
/-- The slice of a token's bytes. -/
theorem Apt.cell {w wr : World} {a : Option Addr} {n cap : Nat} {ts : List Tk} {r : Option Nat} {f : Nat → List Nat} (h : Apt w wr (.slice a n cap) ts r f) {i : Nat} (hi : i < ts.length) :
    ∃ gr a6 n6, a = some ⟨gr, 0, none⟩ ∧ wr.cell? ⟨gr, i * 3, none⟩ = some (.slice a6 n6 n6) ∧ (ts[i].len ≤ 4096 → n6 ≤ 4096) ∧
      ((a6 = none ∧ n6 = 0 ∧ ∃ d m, ts[i]? = some (Tk.mat d m)) ∨ ∃ g l, a6 = some ⟨g, 0, none⟩ ∧ n6 = l.length ∧ ts[i]? = some (Tk.lit g l)) := by
  rcases h.own with ⟨_, h0, _⟩ | ⟨g, cap', _, e, hg, _, _, _, _, hc⟩
  · subst h0; simp at hi
  · simp only [Value.slice.injEq] at e
    have e0 := hc (3 * i + 0) (by omega)
    rw [tcells_get ts i hi _ (by omega)] at e0
    have hge : ts[i]? = some ts[i] := List.getElem?_eq_getElem hi
    rw [Nat.add_zero, Nat.mul_comm] at e0
    cases het : ts[i] using Tk.elim with
    | lit g' l' =>
      rw [het] at e0 hge
      exact ⟨g, _, _, e.1, e0, fun hx => hx, .inr ⟨g', l', rfl, rfl, hge⟩⟩
    | mat d m =>
      rw [het] at e0 hge
      exact ⟨g, _, _, e.1, e0, fun _ => by omega, .inl ⟨rfl, rfl, d, m, hge⟩⟩
end Go.Proofs.Ytklfmgkfcacfkaa
