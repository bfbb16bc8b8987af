import Derived.Test.YthfnbcicpcbgjaaKod
/-! keydir: two lists that are got together, each in a box. -/
namespace Go.Proofs.Ythfnbcicpcbgjaa
open Go.RowKit Go.Shelf Plain
set_option linter.unusedVariables false
set_option linter.unusedSimpArgs false

/-- Behind the world u there are two boxes, with a list of its own in each. -/
structure Bx2 (u x : World) (xs ys : List Ke) (v1 : Value) (r1 : Option Nat) (v2 : Value) (r2 : Option Nat) : Prop where
  bel : Below u.heap.size u x
  siz : u.heap.size + 2 ≤ x.heap.size
  c1 : x.cell? ⟨u.heap.size, 0, none⟩ = some v1
  f1 : x.frozen? ⟨u.heap.size, 0, none⟩ = false
  c2 : x.cell? ⟨u.heap.size + 1, 0, none⟩ = some v2
  f2 : x.frozen? ⟨u.heap.size + 1, 0, none⟩ = false
  o1 : OwnKr x v1 (xs.map Ke.r) r1
  o2 : OwnKr x v2 (ys.map Ke.r) r2
  g1 : ∀ g, r1 = some g → u.heap.size + 2 ≤ g
  g2 : ∀ g, r2 = some g → u.heap.size + 2 ≤ g
  ne : ∀ g, r1 = some g → r2 ≠ some g
theorem Bx2.new (u : World) : Bx2 u ((u.alloc (.cells #[.slice none 0 0] 24)).alloc (.cells #[.slice none 0 0] 24)) [] [] (.slice none 0 0) none (.slice none 0 0) none := by
  have e1 : (u.alloc (.cells #[.slice none 0 0] 24)).heap.size = u.heap.size + 1 := by simp
  have k1 : (u.alloc (.cells #[.slice none 0 0] 24)).cell? ⟨u.heap.size, 0, none⟩ = some (.slice none 0 0) := World.cell?_alloc_at _ _ _ _ rfl
  have k2 : (u.alloc (.cells #[.slice none 0 0] 24)).frozen? ⟨u.heap.size, 0, none⟩ = false := World.frozen?_alloc_at _ _ _ _ rfl
  refine ⟨((Below.refl _ _).alloc (Nat.le_refl _) _).alloc (by simp) _, by simp, ?_, ?_, ?_, ?_, OwnKr.nil _, OwnKr.nil _, fun g e => (by cases e), fun g e => (by cases e), fun g e => (by cases e)⟩
  · exact cell_kept k1 (World.grownBy_alloc _ _ none) (fun r e => by cases e)
  · exact (frozen_kept k1 (World.grownBy_alloc _ _ none) (fun r e => by cases e)).trans k2
  · rw [← e1]; exact World.cell?_alloc_at _ _ _ _ rfl
  · rw [← e1]; exact World.frozen?_alloc_at _ _ _ _ rfl
theorem Bx2.later {u x x' : World} {xs ys : List Ke} {v1 v2 : Value} {r1 r2 : Option Nat} (h : Bx2 u x xs ys v1 r1 v2 r2) (hb : Below x.heap.size x x') : Bx2 u x' xs ys v1 r1 v2 r2 :=
  ⟨h.bel.trans (hb.mono h.bel.size), Nat.le_trans h.siz hb.size, (hb.cell (p := ⟨u.heap.size, 0, none⟩) (cell_lt h.c1)).trans h.c1, (hb.frozen (p := ⟨u.heap.size, 0, none⟩) (cell_lt h.c1)).trans h.f1, (hb.cell (p := ⟨u.heap.size + 1, 0, none⟩) (cell_lt h.c2)).trans h.c2, (hb.frozen (p := ⟨u.heap.size + 1, 0, none⟩) (cell_lt h.c2)).trans h.f2, h.o1.later hb, h.o2.later hb, h.g1, h.g2, h.ne⟩
theorem Bx2.app1 {u x y : World} {xs ys : List Ke} {v1 v2 v' : Value} {r1 r2 : Option Nat} {g : Nat} {k : Ke} (h : Bx2 u x xs ys v1 r1 v2 r2) (ho : OwnKr y v' (xs.map Ke.r ++ [k.r]) (some g)) (hg : x.grownBy y r1) (hr : some g = r1 ∨ g = x.heap.size) :
    y.cell? ⟨u.heap.size, 0, none⟩ = some v1 ∧ y.frozen? ⟨u.heap.size, 0, none⟩ = false ∧ Bx2 u (y.setCell ⟨u.heap.size, 0, none⟩ v') (xs ++ [k]) ys v' (some g) v2 r2 := by
  have hsz := h.siz
  have hgs := hg.size
  have hgl : u.heap.size + 2 ≤ g := by
    rcases hr with e | e
    · exact h.g1 g e.symm
    · omega
  have hblk : ∀ j, j < u.heap.size + 2 → y.heap[j]? = x.heap[j]? := fun j hj => hg.block j (by omega) (fun e => by have := h.g1 j e.symm; omega)
  have c1 : y.cell? ⟨u.heap.size, 0, none⟩ = some v1 := (World.cell?_of_block (w := x) (a := ⟨u.heap.size, 0, none⟩) (hblk _ (by show _ < _; simp only []; omega))).trans h.c1
  have f1 : y.frozen? ⟨u.heap.size, 0, none⟩ = false := (World.frozen?_of_block (w := x) (a := ⟨u.heap.size, 0, none⟩) (hblk _ (by show _ < _; simp only []; omega))).trans h.f1
  have c2 : y.cell? ⟨u.heap.size + 1, 0, none⟩ = some v2 := (World.cell?_of_block (w := x) (a := ⟨u.heap.size + 1, 0, none⟩) (hblk _ (by show _ < _; simp only []; omega))).trans h.c2
  have f2 : y.frozen? ⟨u.heap.size + 1, 0, none⟩ = false := (World.frozen?_of_block (w := x) (a := ⟨u.heap.size + 1, 0, none⟩) (hblk _ (by show _ < _; simp only []; omega))).trans h.f2
  have gS := grow_setC y u.heap.size 0 v'
  have hnr : ∀ g', r2 = some g' → r2 ≠ r1 := fun g' e e2 => h.ne g' (by rw [← e2]; exact e) e
  have o2 : OwnKr y v2 (ys.map Ke.r) r2 := by
    cases r2 with
    | none => exact h.o2.kept hg (.inl rfl)
    | some g' => exact h.o2.kept hg (.inr (hnr g' rfl))
  refine ⟨c1, f1, ?_, ?_, World.cell?_setCell_same' _ _ _ (by rw [c1]; rfl), by rw [World.frozen?_setCell]; exact f1, ?_, by rw [World.frozen?_setCell]; exact f2, ?_, ?_, fun g' e => (by cases e; exact hgl), h.g2, ?_⟩
  · exact ((h.bel.grown hg h.bel.size (fun k e => by have := h.g1 k e; omega)).setCell (p := ⟨u.heap.size, 0, none⟩) (Nat.le_refl _) _)
  · exact Nat.le_trans (by omega) gS.size
  · exact (World.cell?_of_block (w := y) (a := ⟨u.heap.size + 1, 0, none⟩) (gS.block (u.heap.size + 1) (by omega) (fun e => by simp at e))).trans c2
  · rw [List.map_append]
    exact ho.kept gS (.inr (fun e => by cases e; omega))
  · cases r2 with
    | none => exact o2.kept gS (.inl rfl)
    | some g' => exact o2.kept gS (.inr (fun e => by cases e; have := h.g2 _ rfl; omega))
  · intro g' e e2
    cases e
    rcases hr with e3 | e3
    · exact h.ne g e3.symm e2
    · rw [e2] at o2
      have h2 := h.o2
      rw [e2] at h2
      have := h2.lt
      omega
theorem Bx2.app2 {u x y : World} {xs ys : List Ke} {v1 v2 v' : Value} {r1 r2 : Option Nat} {g : Nat} {k : Ke} (h : Bx2 u x xs ys v1 r1 v2 r2) (ho : OwnKr y v' (ys.map Ke.r ++ [k.r]) (some g)) (hg : x.grownBy y r2) (hr : some g = r2 ∨ g = x.heap.size) :
    y.cell? ⟨u.heap.size + 1, 0, none⟩ = some v2 ∧ y.frozen? ⟨u.heap.size + 1, 0, none⟩ = false ∧ Bx2 u (y.setCell ⟨u.heap.size + 1, 0, none⟩ v') xs (ys ++ [k]) v1 r1 v' (some g) := by
  have hsz := h.siz
  have hgs := hg.size
  have hgl : u.heap.size + 2 ≤ g := by
    rcases hr with e | e
    · exact h.g2 g e.symm
    · omega
  have hblk : ∀ j, j < u.heap.size + 2 → y.heap[j]? = x.heap[j]? := fun j hj => hg.block j (by omega) (fun e => by have := h.g2 j e.symm; omega)
  have c1 : y.cell? ⟨u.heap.size, 0, none⟩ = some v1 := (World.cell?_of_block (w := x) (a := ⟨u.heap.size, 0, none⟩) (hblk _ (by show _ < _; simp only []; omega))).trans h.c1
  have f1 : y.frozen? ⟨u.heap.size, 0, none⟩ = false := (World.frozen?_of_block (w := x) (a := ⟨u.heap.size, 0, none⟩) (hblk _ (by show _ < _; simp only []; omega))).trans h.f1
  have c2 : y.cell? ⟨u.heap.size + 1, 0, none⟩ = some v2 := (World.cell?_of_block (w := x) (a := ⟨u.heap.size + 1, 0, none⟩) (hblk _ (by show _ < _; simp only []; omega))).trans h.c2
  have f2 : y.frozen? ⟨u.heap.size + 1, 0, none⟩ = false := (World.frozen?_of_block (w := x) (a := ⟨u.heap.size + 1, 0, none⟩) (hblk _ (by show _ < _; simp only []; omega))).trans h.f2
  have gS := grow_setC y (u.heap.size + 1) 0 v'
  have hnr : ∀ g', r1 = some g' → r1 ≠ r2 := fun g' e e2 => h.ne g' e (by rw [← e2]; exact e)
  have o1 : OwnKr y v1 (xs.map Ke.r) r1 := by
    cases r1 with
    | none => exact h.o1.kept hg (.inl rfl)
    | some g' => exact h.o1.kept hg (.inr (hnr g' rfl))
  refine ⟨c2, f2, ?_, ?_, ?_, by rw [World.frozen?_setCell]; exact f1, World.cell?_setCell_same' _ _ _ (by rw [c2]; rfl), by rw [World.frozen?_setCell]; exact f2, ?_, ?_, h.g1, fun g' e => (by cases e; exact hgl), ?_⟩
  · exact ((h.bel.grown hg h.bel.size (fun k e => by have := h.g2 k e; omega)).setCell (p := ⟨u.heap.size + 1, 0, none⟩) (by show u.heap.size ≤ u.heap.size + 1; omega) _)
  · exact Nat.le_trans (by omega) gS.size
  · exact (World.cell?_of_block (w := y) (a := ⟨u.heap.size, 0, none⟩) (gS.block u.heap.size (by omega) (fun e => by simp at e))).trans c1
  · cases r1 with
    | none => exact o1.kept gS (.inl rfl)
    | some g' => exact o1.kept gS (.inr (fun e => by cases e; have := h.g1 _ rfl; omega))
  · rw [List.map_append]
    exact ho.kept gS (.inr (fun e => by cases e; omega))
  · intro g' e e2
    cases e2
    rcases hr with e3 | e3
    · exact h.ne g e e3.symm
    · have h1 := h.o1
      rw [e] at h1
      have := h1.lt
      omega
theorem step_append_kr {ops : Array Oper} {o : Oper} {a : Act} {w : World} {K : Act → World → Prop} {Q : Exit → Act → World → Prop} {E : Prop}
    (hg : o.guard = none) (s x : Operand) (hop : o.op = Op.call { callee := Callee.builtin Builtin.append, args := #[s, x], argTypes := #[24, 24] }) (v xv : Value) (ts ks : List Kr) (r : Option Nat)
    (hs : a.eval s = v) (hx : a.eval x = xv) (hown : OwnKr w v ts r) (hsrc : Src Try.prog 7 24 xv ks.length (kcells ks) w) (hlen : ts.length + ks.length ≤ 2199023255552) (hr0 : r ≠ none ∨ 0 < ks.length)
    (hK : ∀ v' w' g, OwnKr w' v' (ts ++ ks) (some g) → w.grownBy w' r → (some g = r ∨ g = w.heap.size) → K (a.put o.dst v') w') :
    if Region.wanted o (yielded ops a.tmps) = true then Oper.wp Try.prog o a w K Q else E := by
  have hw : Region.wanted o (yielded ops a.tmps) = true := by simp [Region.wanted, hg]
  rw [if_pos hw]
  obtain ⟨v', w', g, hrun, h1, h2, h3⟩ := run_append_k w o.type v xv ts ks r hown hsrc hlen hr0
  unfold Oper.wp
  simp [execOp, hop, resolve, invoke, builtin, hs, hx, hrun, Result.andThen]
  exact hK v' w' g h1 h2 h3
theorem takeK {l : List Ke} {m : Nat} (h : m < l.length) : l.take (m + 1) = l.take m ++ [l.getD m Ke.zero] := by
  rw [List.take_add_one, List.getD_eq_getElem?_getD, List.getElem?_eq_getElem h]
  simp
theorem beg_eq {p key : ByteArray} {e : En} (h : p.size ≤ key.size) : ((key.extract 0 p.size).toList == p.toList) = begB p ⟨key, e⟩ := by
  unfold begB
  have e1 : (key.extract 0 p.size).toList = key.data.toList.take p.size := by
    rw [ByteArray.toList_eq]
    simp [ByteArray.data_extract]
  have e2 : p.toList = p.data.toList := ByteArray.toList_eq p
  rw [e1, e2]
  have hl : p.size = p.data.toList.length := rfl
  have hl2 : key.size = key.data.toList.length := rfl
  have hp := pre_take (p := p.data.toList) (a := key.data.toList)
  by_cases h2 : key.data.toList.take p.size = p.data.toList
  · have h3 : p.data.toList <+: key.data.toList := hp.mpr ⟨by omega, by rw [← hl]; exact h2⟩
    rw [decide_eq_true h3, h2]
    simp
  · have h3 : ¬ p.data.toList <+: key.data.toList := fun h4 => h2 (by rw [hl]; exact (hp.mp h4).2)
    rw [decide_eq_false h3]
    simpa using h2
theorem beg_short {p key : ByteArray} {e : En} (h : key.size < p.size) : begB p ⟨key, e⟩ = false := by
  unfold begB
  refine decide_eq_false fun h1 => ?_
  have h2 := h1.length_le
  have hl : p.size = p.data.toList.length := rfl
  have hl2 : key.size = key.data.toList.length := rfl
  simp only at h2
  omega
end Go.Proofs.Ythfnbcicpcbgjaa
