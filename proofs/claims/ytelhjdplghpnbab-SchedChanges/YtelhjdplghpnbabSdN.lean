import Derived.Test.YtelhjdplghpnbabSdM
/-! The document's Copied. -/
namespace Go.Proofs.Ytelhjdplghpnbab
open Go.RowKit Plain
set_option linter.unusedVariables false
set_option linter.unusedSimpArgs false

/-- The boxes of a function that copies turns: the parameter's, the copy's, the answer's. -/
structure CpB (u : World) (base B C R : Nat) (tv cv : Value) (z : Int) (f : Bool) : Prop where
  b0 : u.cell? ⟨B, 0, none⟩ = some tv
  b1 : u.cell? ⟨B, 1, none⟩ = some (.int .i64 z)
  b2 : u.cell? ⟨B, 2, none⟩ = some (.bool f)
  c0 : u.cell? ⟨C, 0, none⟩ = some cv
  c1 : u.cell? ⟨C, 1, none⟩ = some (.int .i64 z)
  c2 : u.cell? ⟨C, 2, none⟩ = some (.bool f)
  cf : ∀ i, i < 3 → u.frozen? ⟨C, i, none⟩ = false
  r : ∀ i, i < 3 → (u.cell? ⟨R, i, none⟩).isSome = true ∧ u.frozen? ⟨R, i, none⟩ = false
  lt : B < base ∧ C < base ∧ R < base
  ne : B ≠ C ∧ R ≠ C ∧ B ≠ R
  bs : base ≤ u.heap.size
theorem CpB.blocks {u u' : World} {base B C R : Nat} {tv cv : Value} {z : Int} {f : Bool} (h : CpB u base B C R tv cv z f) (hb : ∀ g, g < base → u'.heap[g]? = u.heap[g]?) (hs : u.heap.size ≤ u'.heap.size) : CpB u' base B C R tv cv z f := by
  have cc : ∀ g j, g < base → u'.cell? ⟨g, j, none⟩ = u.cell? ⟨g, j, none⟩ := fun g j hg => World.cell?_of_block (w := u) (a := ⟨g, j, none⟩) (hb g hg)
  have ff : ∀ g j, g < base → u'.frozen? ⟨g, j, none⟩ = u.frozen? ⟨g, j, none⟩ := fun g j hg => World.frozen?_of_block (w := u) (a := ⟨g, j, none⟩) (hb g hg)
  obtain ⟨l1, l2, l3⟩ := h.lt
  exact ⟨by rw [cc _ _ l1]; exact h.b0, by rw [cc _ _ l1]; exact h.b1, by rw [cc _ _ l1]; exact h.b2, by rw [cc _ _ l2]; exact h.c0, by rw [cc _ _ l2]; exact h.c1, by rw [cc _ _ l2]; exact h.c2, fun i hi => by rw [ff _ _ l2]; exact h.cf i hi, fun i hi => by rw [cc _ _ l3, ff _ _ l3]; exact h.r i hi, h.lt, h.ne, Nat.le_trans h.bs hs⟩
theorem CpB.grown {u u' : World} {base B C R : Nat} {tv cv : Value} {z : Int} {f : Bool} {r : Option Nat} (h : CpB u base B C R tv cv z f) (k : u.grownBy u' r) (hr : ∀ g, r = some g → base ≤ g) : CpB u' base B C R tv cv z f := by
  have hs := h.bs
  refine h.blocks (fun g hg => k.block g (by omega) (fun e => ?_)) k.size
  have := hr g (by first | exact e | exact e.symm)
  omega
theorem CpB.later {u u' : World} {base B C R : Nat} {tv cv : Value} {z : Int} {f : Bool} (h : CpB u base B C R tv cv z f) (k : Below u.heap.size u u') : CpB u' base B C R tv cv z f := h.grown (below_grow k none) (by simp)
theorem CpB.store {u : World} {base B C R : Nat} {tv cv : Value} {z : Int} {f : Bool} (h : CpB u base B C R tv cv z f) (x : Value) : CpB (u.setCell ⟨C, 0, none⟩ x) base B C R tv x z f := by
  obtain ⟨n1, n2, n3⟩ := h.ne
  have ot : ∀ g j, g ≠ C ∨ j ≠ 0 → (u.setCell ⟨C, 0, none⟩ x).cell? ⟨g, j, none⟩ = u.cell? ⟨g, j, none⟩ := fun g j e => World.cell?_setCell_other _ _ _ _ (by simp only [ne_eq, Addr.mk.injEq]; omega)
  refine ⟨by rw [ot _ _ (.inl n1)]; exact h.b0, by rw [ot _ _ (.inl n1)]; exact h.b1, by rw [ot _ _ (.inl n1)]; exact h.b2, World.cell?_setCell_same _ _ _ h.c0, by rw [ot _ _ (.inr (by omega))]; exact h.c1, by rw [ot _ _ (.inr (by omega))]; exact h.c2, fun i hi => by rw [World.frozen?_setCell]; exact h.cf i hi, fun i hi => by rw [ot _ _ (.inl n2), World.frozen?_setCell]; exact h.r i hi, h.lt, h.ne, ?_⟩
  exact Nat.le_trans h.bs (grow_setT u C 0 x).size
/-- What Copied answers: all in memory behind w. -/
def CopP (t : Tr) (w : World) (e : Ending) (w' : World) : Prop := ∃ a N c vs r rs, e = .returned (.agg #[.slice a N c, .int .i64 t.at', .bool t.fresh]) ∧ QMem w.heap.size w' (.slice a N c) vs r (t.qs.map (·.costs)) rs ∧ vs.length = t.qs.length ∧ (∀ j, j < t.qs.length → (vs.getD j Qv.zero).id = (t.q j).id ∧ (vs.getD j Qv.zero).quantum = (t.q j).quantum ∧ (vs.getD j Qv.zero).deficit = (t.q j).deficit ∧ (vs.getD j Qv.zero).sl.2.1 = (t.q j).costs.length) ∧ Below w.heap.size w w'
/-- Within the loop. -/
structure CpL (w u : World) (base B C R i : Nat) (tv cv : Value) (l : List Qu) (z : Int) (f : Bool) (vs : List Qv) (r : Option Nat) (rs : List (Option Nat)) : Prop where
  box : CpB u base B C R tv cv z f
  mem : QMem base u cv vs r ((l.take i).map (·.costs)) rs
  len : vs.length = i
  same : ∀ j, j < i → (vs.getD j Qv.zero).id = (l.getD j Qu.zero).id ∧ (vs.getD j Qv.zero).quantum = (l.getD j Qu.zero).quantum ∧ (vs.getD j Qv.zero).deficit = (l.getD j Qu.zero).deficit ∧ (vs.getD j Qv.zero).sl.2.1 = (l.getD j Qu.zero).costs.length
  below : Below w.heap.size w u
theorem vcells_one (ts : List Qv) : ∀ u ∈ vcells ts, u.oneCell' = true := by
  intro u hu
  simp [vcells, Qv.cells] at hu
  obtain ⟨q, _, h⟩ := hu
  rcases h with rfl | rfl | rfl | rfl <;> rfl
theorem src_q (w : World) (b : Nat) (hb : w.heap.size = b) (x : Qv) : Src Try.prog 4 22 (.slice (some ⟨b, 0, none⟩) 1 1) [x].length (vcells [x]) (w.alloc (.cells #[.int .i64 x.id, .int .i64 x.quantum, .int .i64 x.deficit, .slice x.sl.1 x.sl.2.1 x.sl.2.2] 37)) := by
  subst hb
  exact Src.ofSlice _ Try.underlying22 _ 1 1 _ (by rfl) (fun j u hj => by
    rw [WideShapes.add_plain, World.cell?_alloc_at _ _ _ _ rfl, Nat.zero_add, ← hj]
    simp [vcells, Qv.cells]) (vcells_one _)
/-- A round of the loop, told behind its steps. -/
theorem CpL.more {w u : World} {base B C R i : Nat} {tv cv : Value} {l : List Qu} {z : Int} {f : Bool} {vs : List Qv} {r : Option Nat} {rs : List (Option Nat)} (h : CpL w u base B C R i tv cv l z f vs r rs) (hw : w.heap.size ≤ B ∧ w.heap.size ≤ C ∧ w.heap.size ≤ R) (hi : i < l.length)
    {u1 u2 : World} {x : Qv} {rc : Option Nat} {v' : Value} {g : Nat} (k1 : u.grownBy u1 none) (hs1 : u.heap.size ≤ u1.heap.size) (hc : RowO u1 (.slice x.sl.1 (l.getD i Qu.zero).costs.length x.sl.2.2) (l.getD i Qu.zero).costs rc) (hrc : ∀ g, rc = some g → u.heap.size ≤ g)
    (hx : x.id = (l.getD i Qu.zero).id ∧ x.quantum = (l.getD i Qu.zero).quantum ∧ x.deficit = (l.getD i Qu.zero).deficit ∧ x.sl.2.1 = (l.getD i Qu.zero).costs.length)
    (ho : OwnQv u2 v' (vs ++ [x]) (some g)) (hg : u1.grownBy u2 r) (hr : some g = r ∨ g = u1.heap.size) (hb1 : Below w.heap.size w u1) : CpL w (u2.setCell ⟨C, 0, none⟩ v') base B C R (i + 1) tv v' l z f (vs ++ [x]) (some g) (rs ++ [rc]) := by
  have hbs := h.box.bs
  have hfl : (l.take i).length = i := by simp; omega
  obtain ⟨l1, l2⟩ := h.mem.lts
  have hm1 := h.mem.blocks k1
  have hb2 : CpB u2 base B C R tv cv z f := (h.box.grown k1 (by simp)).grown hg h.mem.new
  have hlen : ((l.take i).map (·.costs)).length = vs.length := by rw [List.length_map, hfl, h.len]
  have hm2 : QMem base u2 v' (vs ++ [x]) (some g) ((l.take i).map (·.costs) ++ [(l.getD i Qu.zero).costs]) (rs ++ [rc]) := hm1.push hlen hc (fun g' e => by
    have := hrc g' e
    refine ⟨by omega, fun e2 => ?_, fun j hj e2 => ?_⟩
    · have := l1 g' e2; omega
    · have := l2 j hj g' e2; omega) ho hg hr (by omega)
  have he : (l.take i).map (·.costs) ++ [(l.getD i Qu.zero).costs] = (l.take (i + 1)).map (·.costs) := by
    rw [List.take_succ_eq_append_getElem hi, List.map_append]
    simp [List.getD_eq_getElem?_getD, hi]
  rw [he] at hm2
  have kC : u2.grownBy (u2.setCell ⟨C, 0, none⟩ v') (some C) := grow_setT u2 C 0 v'
  have hCb : C < base := h.box.lt.2.1
  refine ⟨hb2.store v', hm2.kept kC (fun g' e => ?_) (fun j hj g' e => ?_), by simp [h.len], fun j hj => ?_, ?_⟩
  · have := hm2.new g' e; simp; omega
  · have := hm2.newc j hj g' e; simp; omega
  · rw [getD_snoc]
    by_cases hj1 : j < i
    · rw [if_pos (by rw [h.len]; exact hj1)]; exact h.same j hj1
    · have e : j = i := by omega
      rw [if_neg (by rw [h.len]; exact hj1), if_pos (by rw [h.len]; exact e), e]; exact hx
  · have hb3 : Below w.heap.size w u2 := hb1.grown hg hb1.size (fun g' e => by have := h.mem.new g' e; have := h.box.lt; omega)
    exact hb3.grown kC hb3.size (fun g' e => by simp at e; omega)
/-- The answer is stored. -/
theorem CpB.answer {u : World} {base B C R : Nat} {tv cv : Value} {z : Int} {f : Bool} (h : CpB u base B C R tv cv z f) (x0 x1 x2 : Value) :
    (((u.setCell ⟨R, 0, none⟩ x0).setCell ⟨R, 1, none⟩ x1).setCell ⟨R, 2, none⟩ x2).cell? ⟨R, 0, none⟩ = some x0 ∧
    (((u.setCell ⟨R, 0, none⟩ x0).setCell ⟨R, 1, none⟩ x1).setCell ⟨R, 2, none⟩ x2).cell? ⟨R, 1, none⟩ = some x1 ∧
    (((u.setCell ⟨R, 0, none⟩ x0).setCell ⟨R, 1, none⟩ x1).setCell ⟨R, 2, none⟩ x2).cell? ⟨R, 2, none⟩ = some x2 ∧
    u.grownBy (((u.setCell ⟨R, 0, none⟩ x0).setCell ⟨R, 1, none⟩ x1).setCell ⟨R, 2, none⟩ x2) (some R) := by
  have ot : ∀ (x : World) (i j : Nat) (v : Value), i ≠ j → (x.setCell ⟨R, i, none⟩ v).cell? ⟨R, j, none⟩ = x.cell? ⟨R, j, none⟩ := fun x i j v e => World.cell?_setCell_other _ _ _ _ (by simp only [ne_eq, Addr.mk.injEq]; omega)
  obtain ⟨v0, r0⟩ := Option.isSome_iff_exists.mp (h.r 0 (by omega)).1
  obtain ⟨v1, r1⟩ := Option.isSome_iff_exists.mp (h.r 1 (by omega)).1
  obtain ⟨v2, r2⟩ := Option.isSome_iff_exists.mp (h.r 2 (by omega)).1
  refine ⟨?_, ?_, ?_, ?_⟩
  · rw [ot _ 2 0 _ (by omega), ot _ 1 0 _ (by omega), World.cell?_setCell_same _ _ _ r0]
  · rw [ot _ 2 1 _ (by omega), World.cell?_setCell_same (h := by rw [ot _ 0 1 _ (by omega)]; exact r1)]
  · rw [World.cell?_setCell_same (h := by rw [ot _ 1 2 _ (by omega), ot _ 0 2 _ (by omega)]; exact r2)]
  · exact grow_setCells u R 0 [x0, x1, x2]
/-- What one round makes, ahead of the queue's own append. -/
structure CpQ (wr w4 w5 w6 : World) (D g4 : Nat) (cs : List Int) (a4 : Option Addr) (c4 : Nat) : Prop where
  row : RowO w6 (.slice a4 cs.length c4) cs (some g4)
  new : wr.heap.size ≤ g4
  below5 : Below wr.heap.size wr w5
  below6 : Below wr.heap.size wr w6
theorem CpQ.of {wr wa wb w4 : World} {x : Obj} {g4 : Nat} {cs : List Int} {a4 : Option Addr} {c4 : Nat} (ha : wr.alloc x = wa) (hb : wa.alloc (.cells #[] 3) = wb) (ho : OwnV w4 (.slice a4 cs.length c4) (ints cs) (some g4)) (hg : wb.grownBy w4 (some wa.heap.size)) (hr : some g4 = some wa.heap.size ∨ g4 = wb.heap.size) (y : Value) (o : Obj) : CpQ wr w4 (w4.setCell ⟨wr.heap.size, 3, none⟩ y) ((w4.setCell ⟨wr.heap.size, 3, none⟩ y).alloc o) wr.heap.size g4 cs a4 c4 := by
  have sa : wa.heap.size = wr.heap.size + 1 := by rw [← ha]; simp
  have sb : wb.heap.size = wr.heap.size + 1 + 1 := by rw [← hb]; simp [sa]
  have ba : Below wr.heap.size wr wa := by rw [← ha]; exact (Below.refl _ _).alloc (Nat.le_refl _) _
  have bb : Below wr.heap.size wr wb := by rw [← hb]; exact ba.alloc (by omega) _
  have b4 : Below wr.heap.size wr w4 := bb.grown hg bb.size (fun g e => by simp at e; omega)
  have k5 := grow_setT w4 wr.heap.size 3 y
  have b5 : Below wr.heap.size wr (w4.setCell ⟨wr.heap.size, 3, none⟩ y) := b4.grown k5 b4.size (fun g e => by simp at e; omega)
  have hg4 : wr.heap.size + 1 ≤ g4 := by
    rcases hr with e | e
    · simp at e; omega
    · omega
  have r5 : RowO (w4.setCell ⟨wr.heap.size, 3, none⟩ y) (.slice a4 cs.length c4) cs (some g4) := (RowO.of_own ho).kept k5 (fun g e e2 => by simp at e e2; omega)
  exact ⟨r5.later ((Below.refl _ _).alloc (Nat.le_refl _) _), by omega, b5, b5.alloc b5.size _⟩
set_option maxHeartbeats 4000000 in
set_option maxRecDepth 100000 in
theorem rcopiedOf (t : Tr) (v : Value) (w : World) (h : TrAt w v t) : Calls Try.prog 18 #[turV v t] w (CopP t w) := by
  obtain ⟨l, z, f⟩ := t
  obtain ⟨hrow, hz1, hz2⟩ := h
  simp only at hrow hz1 hz2
  obtain ⟨a, cap, rfl, hl⟩ := hrow.shape
  have HROW := Hid.mkT hrow
  clear hrow
  unfold turV
  simp only
  obtain ⟨w1, hw1⟩ : ∃ w1, w.alloc (.cells #[.slice a l.length cap, .int .i64 z, .bool f] 24) = w1 := ⟨_, rfl⟩
  obtain ⟨w2, hw2⟩ : ∃ w2, w1.alloc (.cells #[.slice none 0 0, .int .i64 0, .bool false] 24) = w2 := ⟨_, rfl⟩
  obtain ⟨w3, hw3⟩ : ∃ w3, w2.alloc (.cells #[.slice none 0 0, .int .i64 z, .bool f] 24) = w3 := ⟨_, rfl⟩
  obtain ⟨B, hB⟩ : ∃ B, w.heap.size = B := ⟨_, rfl⟩
  have s1 : w1.heap.size = B + 1 := by rw [← hw1, ← hB]; simp
  have s2 : w2.heap.size = B + 1 + 1 := by rw [← hw2]; simp [s1]
  have s3 : w3.heap.size = B + 1 + 1 + 1 := by rw [← hw3]; simp [s2]
  have x1 : w1.heap[B]? = some (.cells #[.slice a l.length cap, .int .i64 z, .bool f] 24) := by rw [← hw1, ← hB]; show (w.heap.push _)[w.heap.size]? = _; simp
  have e1 : Below w.heap.size w w1 := by rw [← hw1]; exact (Below.refl _ _).alloc (Nat.le_refl _) _
  have e2 : Below w1.heap.size w1 w2 := by rw [← hw2]; exact (Below.refl _ _).alloc (Nat.le_refl _) _
  have e3 : Below w2.heap.size w2 w3 := by rw [← hw3]; exact (Below.refl _ _).alloc (Nat.le_refl _) _
  have x2 : w2.heap[B + 1]? = some (.cells #[.slice none 0 0, .int .i64 0, .bool false] 24) := by rw [← hw2, ← s1]; show (w1.heap.push _)[w1.heap.size]? = _; simp
  have x3 : w3.heap[B + 1 + 1]? = some (.cells #[.slice none 0 0, .int .i64 z, .bool f] 24) := by rw [← hw3, ← s2]; show (w2.heap.push _)[w2.heap.size]? = _; simp
  have y2 := (e3.block (B + 1) (by omega)).trans x2
  have y1 := (e3.block B (by omega)).trans ((e2.block B (by omega)).trans x1)
  have HL0 : Hid (CpL w w3 (B + 1 + 1 + 1) B (B + 1 + 1) (B + 1) 0 (.slice a l.length cap) (.slice none 0 0) l z f [] none []) := by
    refine ⟨⟨?_, ?_, ?_, ?_, ?_, ?_, ?_, ?_, by omega, by omega, by omega⟩, by simpa using QMem.nil _ w3, rfl, fun j hj => by omega, below_of e1 (below_of e2 e3)⟩
    · simp [World.cell?, y1]
    · simp [World.cell?, y1]
    · simp [World.cell?, y1]
    · simp [World.cell?, x3]
    · simp [World.cell?, x3]
    · simp [World.cell?, x3]
    · intro i hi; simp [World.frozen?, x3]
    · intro i hi
      refine ⟨?_, by simp [World.frozen?, y2]⟩
      have : i = 0 ∨ i = 1 ∨ i = 2 := by omega
      rcases this with rfl | rfl | rfl <;> simp [World.cell?, y2]
  have HB3 : Hid (Below w.heap.size w w3) := below_of e1 (below_of e2 e3)
  have y3 := (e2.block B (by omega)).trans x1
  have m1 : w2.cell? ⟨B, 1, none⟩ = some (.int .i64 z) := by simp [World.cell?, y3]
  have m2 : w2.cell? ⟨B, 2, none⟩ = some (.bool f) := by simp [World.cell?, y3]
  clear x1 x2 x3 y1 y2 y3 e1 e2 e3
  go_enter Try.func18, Try.ntmps18
  go_wp2
  clear m1 m2
  go_loopw [4] (fun i u => ∃ k : Nat, k ≤ l.length ∧ i = .int .i64 k ∧ Hid (∃ cv vs r rs, CpL w u (B + 1 + 1 + 1) B (B + 1 + 1) (B + 1) k (.slice a l.length cap) cv l z f vs r rs)) (fun i _ => l.length - (intOf i).toNat)
  case atStart => exact ⟨0, by omega, rfl, _, _, _, _, HL0.out⟩
  case round =>
    obtain ⟨k, hk, rfl, HV⟩ := hrel
    obtain ⟨cv, vs, r, rs, hv⟩ := HV.out
    have HL := Hid.mkT hv
    have m0 := hv.box.b0
    have m1 := hv.box.b1
    have m2 := hv.box.b2
    have c0 := hv.box.c0
    have c1 := hv.box.c1
    have c2 := hv.box.c2
    clear hv HV
    by_cases hlt : k < l.length
    · obtain ⟨b, off, ca, cc, rfl, hcu, hi1, hi2, hi3⟩ := HROW.out.at hlt
      have HCU := Hid.mkT hcu
      clear hcu
      obtain ⟨⟨q0, q1, q2, q3⟩, hin⟩ := HCU.out wr HL.out.below
      simp only at q0 q1 q2 q3
      have hki : (k : Int) < (l.length : Int) := by omega
      have hcm := hin.most
      obtain ⟨x, hx⟩ : ∃ x, l.getD k Qu.zero = x := ⟨_, rfl⟩
      have HX := Hid.mkT hx
      rw [hx] at q0 q1 q2 q3 hin HCU hcm hi1 hi2 hi3
      clear hx
      obtain ⟨xi, xq, xd, cs⟩ := x
      simp only at q0 q1 q2 q3 hin HCU hcm hi1 hi2 hi3
      obtain ⟨N, hN⟩ : ∃ N, cs.length = N := ⟨_, rfl⟩
      have HN := Hid.mkT hN
      rw [hN] at q3 hin HCU hcm
      clear hN
      obtain ⟨wa, hwa⟩ : ∃ wa, wr.alloc (.cells #[.int .i64 xi, .int .i64 xq, .int .i64 xd, .slice ca N cc] 37) = wa := ⟨_, rfl⟩
      obtain ⟨wb, hwb⟩ : ∃ wb, wa.alloc (.cells #[] 3) = wb := ⟨_, rfl⟩
      obtain ⟨D, hD⟩ : ∃ D, wr.heap.size = D := ⟨_, rfl⟩
      have sa : wa.heap.size = D + 1 := by rw [← hwa, ← hD]; simp
      have sb : wb.heap.size = D + 1 + 1 := by rw [← hwb]; simp [sa]
      have ba : Below wr.heap.size wr wa := by rw [← hwa]; exact (Below.refl _ _).alloc (Nat.le_refl _) _
      have bb : Below wr.heap.size wr wb := by rw [← hwb]; exact ba.alloc (by omega) _
      obtain ⟨qb1, qb2⟩ := queBox wr xi xq xd (.slice ca N cc)
      rw [hwa] at qb1 qb2
      rw [hD] at qb2
      obtain ⟨⟨-, -, -, q3b⟩, hinb⟩ := HCU.out wb (below_of HL.out.below bb)
      simp only at q3b
      have m0b := (HL.out.box.later bb).b0
      have HSRC := Hid.mkT (srcI hinb)
      have HOM : Hid (OwnV wb (.slice (some ⟨D + 1, 0, none⟩) 0 0) [] (some (D + 1))) := by have := OwnV.made wa; rw [hwb, sa] at this; exact this
      have bab : Below wa.heap.size wa wb := by rw [← hwb]; exact (Below.refl _ _).alloc (Nat.le_refl _) _
      have HQ2 : Hid (∀ u, Below wa.heap.size wa u → u.cell? ⟨D, 0, none⟩ = some (.int .i64 xi) ∧ u.cell? ⟨D, 1, none⟩ = some (.int .i64 xq) ∧ u.cell? ⟨D, 2, none⟩ = some (.int .i64 xd) ∧ u.cell? ⟨D, 3, none⟩ = some (.slice ca N cc)) := qb2
      have hfa : wa.frozen? ⟨D, 3, none⟩ = false := by rw [← hwa]; exact World.frozen?_alloc_at _ _ _ _ hD.symm
      have HBAB := Hid.mkT bab
      clear qb1 qb2 hin hinb ba bab
      go_wp2_with (at_builtin; refine wpList_append_ints _ rfl _ _ rfl _ _ [] (ints cs) (some (D + 1)) rfl rfl ?hOwn ?hSrc ?hLen (.inl (by simp)) ?_)
      case hOwn => exact HOM.out
      case hSrc => rw [ints_len]; exact HSRC.out
      case hLen => rw [ints_len, HN.out]; simp; omega
      intro v4 w4 g4 ho4 hg4 hr4
      obtain ⟨a4, c4, e4, hc4, -⟩ := ho4.shape
      rw [ints_len, HN.out] at e4
      subst e4
      have HQ := fun (y : Value) (o : Obj) => CpQ.of (x := .cells #[.int .i64 xi, .int .i64 xq, .int .i64 xd, .slice ca N cc] 37) hwa hwb (cs := cs) (a4 := a4) (c4 := c4) (g4 := g4) (w4 := w4) (by rw [HN.out]; exact ho4) (by rw [sa]; exact hg4) (by rw [sa, sb]; rcases hr4 with e | e; exact .inl (by rw [e]); exact .inr e) y o
      have HQQ := Hid.mkT HQ
      clear HQ
      rw [hD] at HQQ
      -- the queue's box behind the append
      have hblk : w4.heap[D]? = wb.heap[D]? := hg4.block D (by omega) (by simp)
      obtain ⟨d0, d1, d2, d3⟩ := HQ2.out wb HBAB.out
      have dd : ∀ j, w4.cell? ⟨D, j, none⟩ = wb.cell? ⟨D, j, none⟩ := fun j => World.cell?_of_block (w := wb) (a := ⟨D, j, none⟩) hblk
      rw [← dd] at d0 d1 d2 d3
      have d3f : w4.frozen? ⟨D, 3, none⟩ = false := by
        rw [World.frozen?_of_block (w := wb) (a := ⟨D, 3, none⟩) hblk, World.frozen?_of_block (w := wa) (a := ⟨D, 3, none⟩) (HBAB.out.block D (by omega))]
        exact hfa
      obtain ⟨w5, hw5⟩ : ∃ w5, w4.setCell ⟨D, 3, none⟩ (.slice a4 N c4) = w5 := ⟨_, rfl⟩
      have f0 : w5.cell? ⟨D, 0, none⟩ = some (.int .i64 xi) := by rw [← hw5, World.cell?_setCell_other _ _ _ _ (by simp)]; exact d0
      have f1 : w5.cell? ⟨D, 1, none⟩ = some (.int .i64 xq) := by rw [← hw5, World.cell?_setCell_other _ _ _ _ (by simp)]; exact d1
      have f2 : w5.cell? ⟨D, 2, none⟩ = some (.int .i64 xd) := by rw [← hw5, World.cell?_setCell_other _ _ _ _ (by simp)]; exact d2
      have f3 : w5.cell? ⟨D, 3, none⟩ = some (.slice a4 N c4) := by rw [← hw5]; exact World.cell?_setCell_same _ _ _ d3
      obtain ⟨G, hG⟩ : ∃ G, w5.heap.size = G := ⟨_, rfl⟩
      have HQ5 := Hid.mkT (HQQ.out (.slice a4 N c4) (.cells #[.int .i64 xi, .int .i64 xq, .int .i64 xd, .slice a4 N c4] 37))
      rw [hw5] at HQ5
      obtain ⟨w6, hw6⟩ : ∃ w6, w5.alloc (.cells #[.int .i64 xi, .int .i64 xq, .int .i64 xd, .slice a4 N c4] 37) = w6 := ⟨_, rfl⟩
      rw [hw6] at HQ5
      have c05 := (HL.out.box.later HQ5.out.below5).c0
      have c06 := (HL.out.box.later HQ5.out.below6).c0
      have HSR : Hid (Src Try.prog 4 22 (.slice (some ⟨G, 0, none⟩) 1 1) [(⟨xi, xq, xd, (a4, N, c4)⟩ : Qv)].length (vcells [⟨xi, xq, xd, (a4, N, c4)⟩]) w6) := by have := src_q w5 G hG ⟨xi, xq, xd, (a4, N, c4)⟩; simp only at this; rw [hw6] at this; exact this
      have HOV : Hid (OwnQv w6 cv vs r) := (HL.out.mem.later HQ5.out.below6).row
      have HVL : Hid (vs.length = k) := HL.out.len
      clear ho4 hg4 hr4 hblk dd d0 d1 d2 HQ2 HBAB hfa HOM HSRC q3b m0b HQQ
      go_wp2_with (at_builtin; refine wpList_append_v _ rfl _ _ rfl _ _ vs [⟨xi, xq, xd, (a4, N, c4)⟩] r rfl rfl ?hOwn ?hSrc ?hLen (.inr (Nat.succ_pos _)) ?_)
      case hOwn => exact HOV.out
      case hSrc => exact HSR.out
      case hLen => rw [HVL.out]; simp; omega
      intro v7 w7 g7 ho7 hg7 hr7
      obtain ⟨a7, c7, e7, -, -⟩ := ho7.shape
      subst e7
      have hbx7 := (HL.out.box.later HQ5.out.below6).grown hg7 HL.out.mem.new
      have c07 := hbx7.c0
      have cf7 := hbx7.cf 0 (by omega)
      have HNX : Hid (∃ vs' r' rs', CpL w (w7.setCell ⟨B + 1 + 1, 0, none⟩ (.slice a7 (vs ++ [(⟨xi, xq, xd, (a4, N, c4)⟩ : Qv)]).length c7)) (B + 1 + 1 + 1) B (B + 1 + 1) (B + 1) (k + 1) (.slice (some ⟨b, off, none⟩) l.length cap) (.slice a7 (vs ++ [(⟨xi, xq, xd, (a4, N, c4)⟩ : Qv)]).length c7) l z f vs' r' rs') := ⟨_, _, _, HL.out.more (by omega) hlt (u1 := w6) (x := ⟨xi, xq, xd, (a4, N, c4)⟩) (rc := some g4) (below_grow HQ5.out.below6 none) HQ5.out.below6.size (by rw [HX.out]; exact HQ5.out.row) (fun g e => by simp at e; rw [← e]; exact HQ5.out.new) (by rw [HX.out]; exact ⟨rfl, rfl, rfl, HN.out.symm⟩) ho7 hg7 hr7 (below_of HL.out.below HQ5.out.below6)⟩
      clear ho7 hg7 hr7 hbx7 HL HQ5 HSR HOV HVL
      generalize (vs ++ [(⟨xi, xq, xd, (a4, N, c4)⟩ : Qv)]).length = NN at *
      go_wp2
      go_roundw
      case rel =>
        obtain ⟨vs', r', rs', h'⟩ := HNX.out
        exact ⟨k + 1, by omega, by go_num, _, vs', r', rs', h'⟩
      case measure => simp only [intOf]; omega
    · have hkn : l.length = k := by omega
      obtain ⟨cvA, cvC, hcv⟩ : ∃ aa cc, cv = .slice aa k cc := by
        obtain ⟨aa, cc, e, -, -⟩ := HL.out.mem.row.shape
        rw [HL.out.len] at e
        exact ⟨aa, cc, e⟩
      subst hcv
      obtain ⟨⟨r0s, r0f⟩, ⟨r1s, r1f⟩, ⟨r2s, r2f⟩⟩ := And.intro (HL.out.box.r 0 (by omega)) (And.intro (HL.out.box.r 1 (by omega)) (HL.out.box.r 2 (by omega)))
      obtain ⟨y0, r0c⟩ := Option.isSome_iff_exists.mp r0s
      obtain ⟨y1, r1c⟩ := Option.isSome_iff_exists.mp r1s
      obtain ⟨y2, r2c⟩ := Option.isSome_iff_exists.mp r2s
      obtain ⟨U, hU⟩ : ∃ U, ((wr.setCell ⟨B + 1, 0, none⟩ (.slice cvA k cvC)).setCell ⟨B + 1, 1, none⟩ (.int .i64 z)).setCell ⟨B + 1, 2, none⟩ (.bool f) = U := ⟨_, rfl⟩
      obtain ⟨z0, z1, z2, zg⟩ := HL.out.box.answer (.slice cvA k cvC) (.int .i64 z) (.bool f)
      rw [hU] at z0 z1 z2 zg
      have HF : Hid (CopP ⟨l, z, f⟩ w (.returned (.agg #[.slice cvA k cvC, .int .i64 z, .bool f])) U) := by
        have h := HL.out
        have hRb : B + 1 < B + 1 + 1 + 1 := by omega
        have hm := h.mem.kept zg (fun g e => by have := h.mem.new g e; simp; omega) (fun j hj g e => by have := h.mem.newc j hj g e; simp; omega)
        rw [← hkn, List.take_length] at hm
        refine ⟨cvA, k, cvC, vs, r, rs, rfl, ⟨by rw [← hkn]; exact hm.row, hm.len, hm.le, hm.cost, fun g e => by have := hm.new g e; omega, fun j hj g e => by have := hm.newc j hj g e; omega, hm.ap, hm.apc⟩, by rw [h.len]; exact hkn.symm, fun j hj => h.same j (by rw [← hkn]; exact hj), ?_⟩
        exact h.below.grown zg h.below.size (fun g e => by simp at e; omega)
      clear r0s r1s r2s zg HL
      go_wp2
      refine bodyPost_ret (v := .agg #[.slice cvA k cvC, .int .i64 z, .bool f]) ?hres rfl ?_
      case hres =>
        rw [results_cell1 rfl]
        go_simp
      exact HF.out
end Go.Proofs.Ytelhjdplghpnbab
