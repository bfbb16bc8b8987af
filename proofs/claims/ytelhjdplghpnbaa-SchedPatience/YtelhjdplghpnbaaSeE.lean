import Derived.Test.YtelhjdplghpnbaaSdF
import Derived.Test.YtelhjdplghpnbaaSdI
import Derived.Test.YtelhjdplghpnbaaSdT
import Derived.Deep.RegionHeld3
/-! The law on patience: its walk. -/
namespace Go.Proofs.Ytelhjdplghpnbaa
open Go.RowKit Plain
set_option linter.unusedVariables false
set_option linter.unusedSimpArgs false

/-- A box of four numbers. -/
structure Q4 (u : World) (C : Nat) (F : Nat → Int) : Prop where
  c : ∀ i, i < 4 → u.cell? ⟨C, i, none⟩ = some (.int .i64 (F i))
  fz : ∀ i, i < 4 → u.frozen? ⟨C, i, none⟩ = false
  lt : C < u.heap.size
theorem Q4.block {u u' : World} {C : Nat} {F : Nat → Int} (h : Q4 u C F) (e : u'.heap[C]? = u.heap[C]?) (hs : u.heap.size ≤ u'.heap.size) : Q4 u' C F :=
  ⟨fun i hi => by rw [World.cell?_of_block (w := u) (a := ⟨C, i, none⟩) e]; exact h.c i hi, fun i hi => by rw [World.frozen?_of_block (w := u) (a := ⟨C, i, none⟩) e]; exact h.fz i hi, Nat.lt_of_lt_of_le h.lt hs⟩
theorem Q4.later {u u' : World} {C : Nat} {F : Nat → Int} (h : Q4 u C F) (k : Below u.heap.size u u') : Q4 u' C F := h.block (k.block C h.lt) k.size
theorem Q4.new (w : World) (ty : TypeId) (f0 f1 f2 f3 : Int) : Q4 (w.alloc (.cells #[.int .i64 f0, .int .i64 f1, .int .i64 f2, .int .i64 f3] ty)) w.heap.size (pick4 f0 f1 f2 f3) := by
  refine ⟨fun i hi => ?_, fun i hi => World.frozen?_alloc_at _ _ _ _ rfl, by simp⟩
  rw [World.cell?_alloc_at _ _ _ _ rfl]
  rcases (by omega : i = 0 ∨ i = 1 ∨ i = 2 ∨ i = 3) with rfl | rfl | rfl | rfl <;> rfl
/-- All four are written over. -/
theorem Q4.put4 {u : World} {C : Nat} {F : Nat → Int} (h : Q4 u C F) (f0 f1 f2 f3 : Int) : Q4 ((((u.setCell ⟨C, 0, none⟩ (.int .i64 f0)).setCell ⟨C, 1, none⟩ (.int .i64 f1)).setCell ⟨C, 2, none⟩ (.int .i64 f2)).setCell ⟨C, 3, none⟩ (.int .i64 f3)) C (pick4 f0 f1 f2 f3) ∧ u.grownBy ((((u.setCell ⟨C, 0, none⟩ (.int .i64 f0)).setCell ⟨C, 1, none⟩ (.int .i64 f1)).setCell ⟨C, 2, none⟩ (.int .i64 f2)).setCell ⟨C, 3, none⟩ (.int .i64 f3)) (some C) := by
  have kk : u.grownBy ((((u.setCell ⟨C, 0, none⟩ (.int .i64 f0)).setCell ⟨C, 1, none⟩ (.int .i64 f1)).setCell ⟨C, 2, none⟩ (.int .i64 f2)).setCell ⟨C, 3, none⟩ (.int .i64 f3)) (some C) := grow_setCells u C 0 [.int .i64 f0, .int .i64 f1, .int .i64 f2, .int .i64 f3]
  have ot : ∀ (x : World) (i j : Nat) (v : Value), i ≠ j → (x.setCell ⟨C, i, none⟩ v).cell? ⟨C, j, none⟩ = x.cell? ⟨C, j, none⟩ := fun x i j v e => World.cell?_setCell_other _ _ _ _ (by simp only [ne_eq, Addr.mk.injEq]; omega)
  have hs := kk.size
  have hl := h.lt
  refine ⟨⟨fun i hi => ?_, fun i hi => ?_, by omega⟩, kk⟩
  · rcases (by omega : i = 0 ∨ i = 1 ∨ i = 2 ∨ i = 3) with rfl | rfl | rfl | rfl
    · rw [ot _ 3 0 _ (by omega), ot _ 2 0 _ (by omega), ot _ 1 0 _ (by omega), World.cell?_setCell_same _ _ _ (h.c 0 (by omega))]; rfl
    · rw [ot _ 3 1 _ (by omega), ot _ 2 1 _ (by omega), World.cell?_setCell_same (h := by rw [ot _ 0 1 _ (by omega)]; exact h.c 1 (by omega))]; rfl
    · rw [ot _ 3 2 _ (by omega), World.cell?_setCell_same (h := by rw [ot _ 1 2 _ (by omega), ot _ 0 2 _ (by omega)]; exact h.c 2 (by omega))]; rfl
    · rw [World.cell?_setCell_same (h := by rw [ot _ 2 3 _ (by omega), ot _ 1 3 _ (by omega), ot _ 0 3 _ (by omega)]; exact h.c 3 (by omega))]; rfl
  · rw [World.frozen?_setCell, World.frozen?_setCell, World.frozen?_setCell, World.frozen?_setCell]; exact h.fz i hi
/-- One is written over. -/
theorem Q4.set {u : World} {C : Nat} {F : Nat → Int} (h : Q4 u C F) {i : Nat} (hi : i < 4) (z : Int) : Q4 (u.setCell ⟨C, i, none⟩ (.int .i64 z)) C (fun j => if j = i then z else F j) ∧ u.grownBy (u.setCell ⟨C, i, none⟩ (.int .i64 z)) (some C) := by
  have kk : u.grownBy (u.setCell ⟨C, i, none⟩ (.int .i64 z)) (some C) := grow_setCells u C i [.int .i64 z]
  have hs := kk.size
  have hl := h.lt
  refine ⟨⟨fun j hj => ?_, fun j hj => by rw [World.frozen?_setCell]; exact h.fz j hj, by omega⟩, kk⟩
  by_cases e : j = i
  · subst e; rw [World.cell?_setCell_same _ _ _ (h.c j hj)]; simp
  · rw [World.cell?_setCell_other _ _ _ _ (by simp only [ne_eq, Addr.mk.injEq]; omega), h.c j hj]; simp [e]
/-- A box of four truths. -/
structure B4x (u : World) (E : Nat) (b : Nat → Bool) : Prop where
  c : ∀ i, i < 4 → u.cell? ⟨E, i, none⟩ = some (.bool (b i))
  lt : E < u.heap.size
theorem B4x.block {u u' : World} {E : Nat} {b : Nat → Bool} (h : B4x u E b) (e : u'.heap[E]? = u.heap[E]?) (hs : u.heap.size ≤ u'.heap.size) : B4x u' E b :=
  ⟨fun i hi => by rw [World.cell?_of_block (w := u) (a := ⟨E, i, none⟩) e]; exact h.c i hi, Nat.lt_of_lt_of_le h.lt hs⟩
theorem B4x.later {u u' : World} {E : Nat} {b : Nat → Bool} (h : B4x u E b) (k : Below u.heap.size u u') : B4x u' E b := h.block (k.block E h.lt) k.size
theorem B4x.new (w : World) (ty : TypeId) (b : Nat → Bool) : B4x (w.alloc (.cells #[.bool (b 0), .bool (b 1), .bool (b 2), .bool (b 3)] ty)) w.heap.size b := by
  refine ⟨fun i hi => ?_, by simp⟩
  rw [World.cell?_alloc_at _ _ _ _ rfl]
  rcases (by omega : i = 0 ∨ i = 1 ∨ i = 2 ∨ i = 3) with rfl | rfl | rfl | rfl <;> rfl
/-- The law's two boxes: the waits that the program told, and those that the law counts. -/
structure PaS (W u : World) (C D : Nat) (F G : Nat → Int) : Prop where
  c : Q4 u C F
  d : Q4 u D G
  below : Below W.heap.size W u
  ge : W.heap.size ≤ C ∧ W.heap.size ≤ D
  ne : C ≠ D
theorem PaS.later {W u u' : World} {C D : Nat} {F G : Nat → Int} (h : PaS W u C D F G) (k : Below u.heap.size u u') : PaS W u' C D F G := ⟨h.c.later k, h.d.later k, below_of h.below k, h.ge, h.ne⟩
/-- Rows of four truths that came in. -/
def WrkAt (w : World) (v : Value) (n : Nat) (b : Nat → Nat → Bool) : Prop := ∃ a cap, v = .slice a n cap ∧ n ≤ 2305843009213693951 ∧ (n ≠ 0 → ∃ g off, a = some ⟨g, off, none⟩ ∧ ∀ j, j < n → ∀ i, i < 4 → w.cell? ⟨g, off + j * 4 + i, none⟩ = some (.bool (b j i)))
/-- What Class tells, as the law asks for it. -/
structure ClsR (F : Nat → Int) (b : Nat → Bool) (pick : Int) (F' : Nat → Int) (k : Int) : Prop where
  pat : Pat F'
  some_ : anyL b 4 = true → 0 ≤ k ∧ k < 4 ∧ b k.toNat = true
  none_ : anyL b 4 = false → k = -1
  early : anyL b 4 = true → (∀ i, i < 4 → F i < 13) → b (pick % 4).toNat = true → k = pick % 4
  next : ∀ i, i < 4 → F' i = if b i = true ∧ (i : Int) ≠ k then F i + 1 else 0
theorem clsR {F : Nat → Int} (h : Pat F) (b : Nat → Bool) (pick : Int) : ClsR F b pick (classL F b pick).1 (classL F b pick).2 := by
  have hcl : ∀ i, i < 4 → clampW (F i) = F i := fun i hi => h.clamp hi
  cases ha : anyL b 4 with
  | false =>
    have e : classL F b pick = (fun _ => 0, -1) := by unfold classL; rw [if_neg (by simp [ha])]
    rw [e]
    refine ⟨Pat.zero, fun e => absurd (ha.symm.trans e) (by simp), fun _ => rfl, fun e => absurd (ha.symm.trans e) (by simp), fun i hi => ?_⟩
    have hb : b i = false := by
      rw [anyL_is] at ha
      simp only [Bool.or_eq_false_iff] at ha
      rcases (by omega : i = 0 ∨ i = 1 ∨ i = 2 ∨ i = 3) with rfl | rfl | rfl | rfl
      · exact ha.1.1.1
      · exact ha.1.1.2
      · exact ha.1.2
      · exact ha.2
    rw [if_neg (by rw [hb]; simp)]
  | true =>
    have e : classL F b pick = (waitL (fun i => clampW (F i)) b (pickL (fun i => clampW (F i)) b pick), (pickL (fun i => clampW (F i)) b pick : Int)) := by unfold classL; rw [if_pos ha]
    obtain ⟨p1, p2, p3, p4⟩ := pickL_is (fun i => clampW (F i)) b pick ha
    rw [e]
    generalize pickL (fun i => clampW (F i)) b pick = k at *
    have hw : ∀ i, i < 4 → waitL (fun i => clampW (F i)) b k i = waitL F b k i := fun i hi => by unfold waitL; simp only [hcl i hi]
    have hpat : Pat (waitL F b k) := h.step p1 (by
      rcases p4 with p4 | ⟨p4, p5⟩
      · exact .inl (fun i hi hb => by have := p4 i hi hb; rw [hcl i hi] at this; exact this)
      · refine .inr ⟨by rw [hcl k p1] at p4; exact p4, fun i hi hb => ?_⟩
        have := p5 i hi hb
        rw [hcl i hi, hcl k p1] at this
        exact this)
    have hpat2 : Pat (waitL (fun i => clampW (F i)) b k) := by
      obtain ⟨a1, a2, a3, a4, a5⟩ := hpat
      refine ⟨fun i hi => by rw [hw i hi]; exact a1 i hi, fun i hi => by rw [hw i hi]; exact a2 i hi, fun i j hij hj => by rw [hw i (by omega), hw j hj]; exact a3 i j hij hj, fun i j l hij hjl hl => by rw [hw i (by omega), hw j (by omega), hw l hl]; exact a4 i j l hij hjl hl, by rw [hw 0 (by omega), hw 1 (by omega), hw 2 (by omega), hw 3 (by omega)]; exact a5⟩
    refine ⟨hpat2, fun _ => ⟨by simp only; omega, by simp only; omega, by simp only [Int.toNat_natCast]; exact p2⟩, (fun e => absurd (ha.symm.trans e) (by simp)), fun _ h1 h2 => ?_, fun i hi => ?_⟩
    · have := p3 (fun i hi _ => by rw [hcl i hi]; exact h1 i hi) h2
      rw [this]
      have := Int.emod_nonneg pick (show (4 : Int) ≠ 0 by omega)
      simp only
      omega
    · simp only
      rw [hw i hi]
      unfold waitL
      by_cases e1 : i = k
      · rw [if_pos (.inl e1), if_neg (by rintro ⟨-, x⟩; exact x (by rw [e1]))]
      · cases hb : b i with
        | true => rw [if_neg (by rintro (x | x); exact e1 x; cases x), if_pos ⟨rfl, fun x => e1 (by omega)⟩]
        | false => rw [if_pos (.inr rfl), if_neg (by simp)]
/-- Is none of the first n overdue? -/
def earlyL (F : Nat → Int) : Nat → Bool
  | 0 => true
  | n + 1 => earlyL F n && decide (F n < 13)
theorem early_is {F : Nat → Int} (h : earlyL F 4 = true) : ∀ i, i < 4 → F i < 13 := by
  simp only [earlyL, Bool.and_eq_true, decide_eq_true_eq, true_and] at h
  intro i hi
  rcases (by omega : i = 0 ∨ i = 1 ∨ i = 2 ∨ i = 3) with rfl | rfl | rfl | rfl <;> omega
/-- All of a round's boxes, while the law counts. -/
structure P4 (W u : World) (C D E N : Nat) (F F' G : Nat → Int) (b : Nat → Bool) (i : Nat) : Prop where
  s : PaS W u C D F G
  e : B4x u E b
  n : Q4 u N F'
  lo : ∀ j, j < i → G j = F' j
  hi : ∀ j, i ≤ j → j < 4 → G j = F j
  ne : N ≠ C ∧ N ≠ D ∧ E ≠ C ∧ E ≠ D
  gn : W.heap.size ≤ N
theorem P4.set {W u : World} {C D E N : Nat} {F F' G : Nat → Int} {b : Nat → Bool} {i : Nat} (h : P4 W u C D E N F F' G b i) (hi : i < 4) (z : Int) (hz : F' i = z) : P4 W (u.setCell ⟨D, i, none⟩ (.int .i64 z)) C D E N F F' (fun j => if j = i then z else G j) b (i + 1) := by
  obtain ⟨q, k⟩ := h.s.d.set hi z
  obtain ⟨n1, n2, n3, n4⟩ := h.ne
  have hs := k.size
  refine ⟨⟨h.s.c.block (k.block C h.s.c.lt (by have := h.s.ne; simp; omega)) hs, q, h.s.below.grown k h.s.below.size (fun g e => by have := h.s.ge; simp at e; omega), h.s.ge, h.s.ne⟩, h.e.block (k.block E h.e.lt (by simp; omega)) hs, h.n.block (k.block N h.n.lt (by simp; omega)) hs, fun j hj => ?_, fun j hj hj4 => ?_, h.ne, h.gn⟩
  · by_cases e : j = i
    · rw [if_pos e, e, hz]
    · rw [if_neg e]; exact h.lo j (by omega)
  · rw [if_neg (by omega)]; exact h.hi j (by omega) hj4
/-- What the program told is taken over. -/
theorem P4.over {W u : World} {C D E N : Nat} {F F' G : Nat → Int} {b : Nat → Bool} (h : P4 W u C D E N F F' G b 4) : PaS W ((((u.setCell ⟨C, 0, none⟩ (.int .i64 (F' 0))).setCell ⟨C, 1, none⟩ (.int .i64 (F' 1))).setCell ⟨C, 2, none⟩ (.int .i64 (F' 2))).setCell ⟨C, 3, none⟩ (.int .i64 (F' 3))) C D F' F' := by
  obtain ⟨q, k⟩ := h.s.c.put4 (F' 0) (F' 1) (F' 2) (F' 3)
  have hs := k.size
  have hne := h.s.ne
  have qd := h.s.d.block (k.block D h.s.d.lt (by simp; omega)) hs
  refine ⟨⟨fun i hi => ?_, q.fz, q.lt⟩, ⟨fun i hi => ?_, qd.fz, qd.lt⟩, h.s.below.grown k h.s.below.size (fun g e => by have := h.s.ge; simp at e; omega), h.s.ge, h.s.ne⟩
  · rw [q.c i hi]
    rcases (by omega : i = 0 ∨ i = 1 ∨ i = 2 ∨ i = 3) with rfl | rfl | rfl | rfl <;> rfl
  · rw [qd.c i hi, h.lo i (by omega)]
theorem box4_ahead {w w2 : World} (h : Below (w.alloc (.cells #[.int .i64 0, .int .i64 0, .int .i64 0, .int .i64 0] 26)).drew.heap.size (w.alloc (.cells #[.int .i64 0, .int .i64 0, .int .i64 0, .int .i64 0] 26)).drew w2) : Q4 w2 w.heap.size (pick4 0 0 0 0) ∧ Below w.heap.size w w2 := by
  have hb : Below (w.alloc (.cells #[.int .i64 0, .int .i64 0, .int .i64 0, .int .i64 0] 26)).heap.size (w.alloc (.cells #[.int .i64 0, .int .i64 0, .int .i64 0, .int .i64 0] 26)) w2 := (Below.drew (Below.refl _ _)).trans h
  exact ⟨(Q4.new w 26 0 0 0 0).later hb, below_of ((Below.refl _ _).alloc (Nat.le_refl _) _) hb⟩
set_option maxHeartbeats 16000000 in
set_option maxRecDepth 1000000 in
theorem patWalk (hpc : ClassOk) (v1 v2 : Value) (n1 : Nat) (bs : Nat → Nat → Bool) (l : List Int) (w : World) (h1 : WrkAt w v1 n1 bs) (h2 : IntsAt w v2 l) : Calls Try.prog 3 #[v1, v2] w fun e w' => e = .returned (.bool true) ∧ Below w.heap.size w w' := by
  obtain ⟨a, cap, rfl, hn1, hcw⟩ := h1
  have HI := Hid.mkT h2
  obtain ⟨a2, cap2, rfl, -, hl2, -, -⟩ := h2
  have HCW := Hid.mkT hcw
  have HQ : Hid (∀ (F : Nat → Int) (b : Nat → Bool) (pick : Int) u, I64 pick → Pat F → Calls Try.prog 9 #[.agg #[.int .i64 (F 0), .int .i64 (F 1), .int .i64 (F 2), .int .i64 (F 3)], .agg #[.bool (b 0), .bool (b 1), .bool (b 2), .bool (b 3)], .int .i64 pick] u fun e w' => ∃ f0 f1 f2 f3 k, e = .returned (.tuple #[.agg #[.int .i64 f0, .int .i64 f1, .int .i64 f2, .int .i64 f3], .int .i64 k]) ∧ ClsR F b pick (pick4 f0 f1 f2 f3) k ∧ Below u.heap.size u w') := fun F b pick u hp hF => by
    refine (hpc F b pick u hp (fun i hi => ⟨by have := hF.lo i hi; omega, by have := hF.one i hi; omega⟩)).mono ?_
    rintro e w' ⟨rfl, hb⟩
    have hc := clsR hF b pick
    refine ⟨(classL F b pick).1 0, (classL F b pick).1 1, (classL F b pick).1 2, (classL F b pick).1 3, _, rfl, ?_, hb⟩
    have e : ∀ i, i < 4 → pick4 ((classL F b pick).1 0) ((classL F b pick).1 1) ((classL F b pick).1 2) ((classL F b pick).1 3) i = (classL F b pick).1 i := fun i hi => by
      rcases (by omega : i = 0 ∨ i = 1 ∨ i = 2 ∨ i = 3) with rfl | rfl | rfl | rfl <;> rfl
    obtain ⟨q1, q2, q3, q4, q5⟩ := hc
    refine ⟨?_, q2, q3, q4, fun i hi => by rw [e i hi]; exact q5 i hi⟩
    obtain ⟨a1, a2, a3, a4, a5⟩ := q1
    exact ⟨fun i hi => by rw [e i hi]; exact a1 i hi, fun i hi => by rw [e i hi]; exact a2 i hi, fun i j hij hj => by rw [e i (by omega), e j hj]; exact a3 i j hij hj, fun i j l hij hjl hl => by rw [e i (by omega), e j (by omega), e l hl]; exact a4 i j l hij hjl hl, by rw [e 0 (by omega), e 1 (by omega), e 2 (by omega), e 3 (by omega)]; exact a5⟩
  have HZ : Hid (∀ u, Calls Try.prog 9 #[.agg #[.int .i64 0, .int .i64 0, .int .i64 0, .int .i64 0], .agg #[.bool false, .bool false, .bool true, .bool false], .int .i64 0] u fun e w' => ∃ f0 f1 f2 f3, e = .returned (.tuple #[.agg #[.int .i64 f0, .int .i64 f1, .int .i64 f2, .int .i64 f3], .int .i64 2]) ∧ Below u.heap.size u w') := fun u => by
    refine (hpc (fun _ => 0) (pick4 false false true false) 0 u ⟨by omega, by omega⟩ (fun i hi => ⟨by omega, by omega⟩)).mono ?_
    rintro e w' ⟨rfl, hb⟩
    exact ⟨_, _, _, _, rfl, hb⟩
  clear hpc hcw
  obtain ⟨w1, hw1⟩ : ∃ w1, w.alloc (.cells #[.int .i64 0, .int .i64 0, .int .i64 0, .int .i64 0] 26) = w1 := ⟨_, rfl⟩
  obtain ⟨w2, hw2⟩ : ∃ w2, w1.alloc (.cells #[.int .i64 0, .int .i64 0, .int .i64 0, .int .i64 0] 24) = w2 := ⟨_, rfl⟩
  obtain ⟨C, hC⟩ : ∃ C, w.heap.size = C := ⟨_, rfl⟩
  obtain ⟨D, hD⟩ : ∃ D, w1.heap.size = D := ⟨_, rfl⟩
  have HP0 : Hid (PaS w w2 C D (fun _ => 0) (fun _ => 0)) := by
    have q1 := Q4.new w 26 0 0 0 0
    have q2 := Q4.new w1 24 0 0 0 0
    rw [hw1, hC] at q1
    rw [hw2, hD] at q2
    have e : pick4 (0 : Int) 0 0 0 = fun _ => 0 := by funext i; unfold pick4; split <;> (try rfl); split <;> (try rfl); split <;> rfl
    rw [e] at q1 q2
    have b1 : Below w.heap.size w w1 := by rw [← hw1]; exact (Below.refl _ _).alloc (Nat.le_refl _) _
    have b2 : Below w1.heap.size w1 w2 := by rw [← hw2]; exact (Below.refl _ _).alloc (Nat.le_refl _) _
    have := q1.lt
    exact ⟨q1.later b2, q2, below_of b1 b2, ⟨by omega, by have := b1.size; omega⟩, by omega⟩
  have hl2i : l.length ≤ 17592186044000 := hl2
  go_enter Try.func3, Try.ntmps3
  go_wp2
  go_loopw [7] (fun s7 u => ∃ (n : Nat) (F : Nat → Int), n ≤ l.length ∧ s7 = .int .i64 n ∧ Hid (PaS w u C D F F) ∧ Hid (Pat F)) (fun s7 _ => l.length - (intOf s7).toNat)
  case atStart => exact ⟨0, _, by omega, rfl, HP0.out, Pat.zero⟩
  case round =>
    obtain ⟨n, F, hn, rfl, HP, HPat⟩ := hrel
    by_cases hlt : n < n1 ∧ n < l.length
    case neg =>
      by_cases hlt1 : n < n1
      · have hlt1' : (n : Int) < (n1 : Int) := by omega
        have hlt2' : ¬ (n : Int) < (l.length : Int) := by omega
        clear hlt
        have HF0 := Hid.mkT HP.out.below
        obtain ⟨w3, hw3⟩ : ∃ w3, wr.alloc (.cells #[.bool false, .bool false, .bool true, .bool false] 27) = w3 := ⟨_, rfl⟩
        obtain ⟨E, hE⟩ : ∃ E, wr.heap.size = E := ⟨_, rfl⟩
        have hB3 := B4x.new wr 27 (pick4 false false true false)
        have hbb : Below wr.heap.size wr w3 := by rw [← hw3]; exact (Below.refl _ _).alloc (Nat.le_refl _) _
        have hB3' : B4x w3 E (pick4 false false true false) := by rw [← hw3, ← hE]; exact hB3
        have e0 := hB3'.c 0 (by omega)
        have e1 := hB3'.c 1 (by omega)
        have e2 := hB3'.c 2 (by omega)
        have e3 := hB3'.c 3 (by omega)
        simp only [pick4] at e0 e1 e2 e3
        have HB3 := Hid.mkT (below_of HP.out.below hbb)
        clear hB3 hB3' hbb
        go_wp2_with fail
        refine (HZ.out _).mono ?_
        rintro e w4 ⟨f0, f1, f2, f3, rfl, hb4⟩
        have HF := Hid.mkT (below_of HB3.out hb4)
        have HF2 : Hid (∀ x, Below w.heap.size w (w4.alloc x)) := fun x => HF.out.alloc HF.out.size _
        clear hb4 e0 e1 e2 e3
        go_wp2
        go_ret
        exact ⟨by first | rfl | simp, by first | exact HF2.out _ | (rw [← hC]; exact HF2.out _)⟩
      · have hlt1' : ¬ (n : Int) < (n1 : Int) := by omega
        clear hlt
        have HF0 := Hid.mkT HP.out.below
        obtain ⟨w3, hw3⟩ : ∃ w3, wr.alloc (.cells #[.bool false, .bool false, .bool true, .bool false] 27) = w3 := ⟨_, rfl⟩
        obtain ⟨E, hE⟩ : ∃ E, wr.heap.size = E := ⟨_, rfl⟩
        have hB3 := B4x.new wr 27 (pick4 false false true false)
        have hbb : Below wr.heap.size wr w3 := by rw [← hw3]; exact (Below.refl _ _).alloc (Nat.le_refl _) _
        have hB3' : B4x w3 E (pick4 false false true false) := by rw [← hw3, ← hE]; exact hB3
        have e0 := hB3'.c 0 (by omega)
        have e1 := hB3'.c 1 (by omega)
        have e2 := hB3'.c 2 (by omega)
        have e3 := hB3'.c 3 (by omega)
        simp only [pick4] at e0 e1 e2 e3
        have HB3 := Hid.mkT (below_of HP.out.below hbb)
        clear hB3 hB3' hbb
        go_wp2_with fail
        refine (HZ.out _).mono ?_
        rintro e w4 ⟨f0, f1, f2, f3, rfl, hb4⟩
        have HF := Hid.mkT (below_of HB3.out hb4)
        have HF2 : Hid (∀ x, Below w.heap.size w (w4.alloc x)) := fun x => HF.out.alloc HF.out.size _
        clear hb4 e0 e1 e2 e3
        go_wp2
        go_ret
        exact ⟨by first | rfl | simp, by first | exact HF2.out _ | (rw [← hC]; exact HF2.out _)⟩
    obtain ⟨hlt1, hlt2⟩ := hlt
    have hlt1' : (n : Int) < (n1 : Int) := by omega
    have hlt2' : (n : Int) < (l.length : Int) := by omega
    obtain ⟨wg, wo, rfl, hwc⟩ := HCW.out (by omega)
    obtain ⟨ig, io, rfl, hic0, hii⟩ := HI.out.cell (i := n) hlt2
    have hic := (HP.out.below.cell (p := ⟨ig, io + n, none⟩) (cell_lt hic0)).trans hic0
    have HICW0 := Hid.mkT hic0
    clear hic0
    have hpick := hii
    have hbel := HP.out.below
    have wc : ∀ i, i < 4 → wr.cell? ⟨wg, wo + n * 4 + i, none⟩ = some (.bool (bs n i)) := fun i hi => (hbel.cell (p := ⟨wg, wo + n * 4 + i, none⟩) (cell_lt (hwc n hlt1 i hi))).trans (hwc n hlt1 i hi)
    have wc0 := wc 0 (by omega)
    have wc1 := wc 1 (by omega)
    have wc2 := wc 2 (by omega)
    have wc3 := wc 3 (by omega)
    simp only [Nat.add_zero] at wc0
    generalize bs n = b at *
    obtain ⟨pk, hpk⟩ : ∃ pk, l.getD n 0 = pk := ⟨_, rfl⟩
    rw [hpk] at hic hpick HICW0
    clear hpk wc hwc hii
    obtain ⟨w5, hw5⟩ : ∃ w5, wr.alloc (.cells #[.bool (b 0), .bool (b 1), .bool (b 2), .bool (b 3)] 27) = w5 := ⟨_, rfl⟩
    obtain ⟨E, hE⟩ : ∃ E, wr.heap.size = E := ⟨_, rfl⟩
    have HB5 : Hid (Below wr.heap.size wr w5) := by rw [← hw5]; exact (Below.refl _ _).alloc (Nat.le_refl _) _
    have HX5 : Hid (B4x w5 E b) := by have := B4x.new wr 27 b; rw [hw5, hE] at this; exact this
    have HP5 := Hid.mkT (HP.out.later HB5.out)
    have HIC : Hid (∀ u, Below w5.heap.size w5 u → u.cell? ⟨ig, io + n, none⟩ = some (.int .i64 pk)) := fun u hu => by
      have hb := below_of HB5.out hu
      exact (hb.cell (p := ⟨ig, io + n, none⟩) (cell_lt hic)).trans hic
    have c0 := HP5.out.c.c 0 (by omega)
    have c1 := HP5.out.c.c 1 (by omega)
    have c2 := HP5.out.c.c 2 (by omega)
    have c3 := HP5.out.c.c 3 (by omega)
    have e0 := HX5.out.c 0 (by omega)
    have e1 := HX5.out.c 1 (by omega)
    have e2 := HX5.out.c 2 (by omega)
    have e3 := HX5.out.c 3 (by omega)
    have i0 := HIC.out w5 (Below.refl _ _)
    have hPF := HPat
    clear hbel
    have hCl := HP5.out.c.lt
    have hDl := HP5.out.d.lt
    have hEl := HX5.out.lt
    have hIl := cell_lt i0
    simp only at hIl
    have hn1' : ¬ w5.heap.size = C := by omega
    have hn2' : ¬ w5.heap.size = E := by omega
    have hn3' : ¬ w5.heap.size = ig := by omega
    have hn4' : ¬ C = w5.heap.size := by omega
    have hn5' : ¬ E = w5.heap.size := by omega
    have hn6' : ¬ ig = w5.heap.size := by omega
    have HPA := HPat
    have HEN : Hid (E ≠ C ∧ E ≠ D) := ⟨by have := HP.out.c.lt; omega, by have := HP.out.d.lt; omega⟩
    have HICW : Hid (w.cell? ⟨ig, io + n, none⟩ = some (.int .i64 pk)) := HICW0.out
    go_wp2_with fail
    go_region_held3 (fun u => u.cell? ⟨C, 0, none⟩ = some (.int .i64 (F 0)) ∧ u.cell? ⟨C, 1, none⟩ = some (.int .i64 (F 1)) ∧ u.cell? ⟨C, 2, none⟩ = some (.int .i64 (F 2)) ∧ u.cell? ⟨C, 3, none⟩ = some (.int .i64 (F 3)) ∧ u.cell? ⟨E, 0, none⟩ = some (.bool (b 0)) ∧ u.cell? ⟨E, 1, none⟩ = some (.bool (b 1)) ∧ u.cell? ⟨E, 2, none⟩ = some (.bool (b 2)) ∧ u.cell? ⟨E, 3, none⟩ = some (.bool (b 3)) ∧ u.cell? ⟨ig, io + n, none⟩ = some (.int .i64 pk)) (go_keep) (first
      | (go_at_call 9
         refine (HQ.out F b pk _ hpick HPA.out).mono ?_
         rintro e w6 ⟨f0, f1, f2, f3, k, rfl, hR, hb6⟩
         first
         | (have hq : Below w5.drew.heap.size w5.drew w6 := hb6
            have HP2 : Hid (Below w5.heap.size w5 w6) := (Below.drew (Below.refl _ _)).trans hq
            clear hq)
         | (have hq := box4_ahead hb6
            have HP2 : Hid (Below w5.heap.size w5 w6) := hq.2
            have q0 := hq.1.c 0 (by omega)
            have q1 := hq.1.c 1 (by omega)
            have q2 := hq.1.c 2 (by omega)
            have q3 := hq.1.c 3 (by omega)
            simp only [pick4] at q0 q1 q2 q3
            have g0 := hq.1.fz 0 (by omega)
            have g1 := hq.1.fz 1 (by omega)
            have g2 := hq.1.fz 2 (by omega)
            have g3 := hq.1.fz 3 (by omega)
            have HQ2 : Hid (Q4 w6 w5.heap.size (pick4 0 0 0 0)) := hq.1
            clear hq)
         have HR := Hid.mkT hR
         have HP6 := Hid.mkT (HP5.out.later HP2.out)
         have HX6 := Hid.mkT (HX5.out.later HP2.out)
         have y0 := HP6.out.c.c 0 (by omega)
         have y1 := HP6.out.c.c 1 (by omega)
         have y2 := HP6.out.c.c 2 (by omega)
         have y3 := HP6.out.c.c 3 (by omega)
         have x0 := HX6.out.c 0 (by omega)
         have x1 := HX6.out.c 1 (by omega)
         have x2 := HX6.out.c 2 (by omega)
         have x3 := HX6.out.c 3 (by omega)
         have z0 := HIC.out w6 HP2.out
         have hl1 : C < w6.heap.size := HP6.out.c.lt
         have hl2 : E < w6.heap.size := HX6.out.lt
         have hl3 : ig < w6.heap.size := cell_lt z0
         have hl4 : ¬ w6.heap.size = C := by omega
         have hl5 : ¬ w6.heap.size = E := by omega
         have hl6 : ¬ w6.heap.size = ig := by omega
         have hl7 : ¬ C = w6.heap.size := by omega
         have hl8 : ¬ E = w6.heap.size := by omega
         have hl9 : ¬ ig = w6.heap.size := by omega
         clear hR hb6))
    · have HP4 : Hid (∃ v, w6.alloc (.cells #[.int .i64 f0, .int .i64 f1, .int .i64 f2, .int .i64 f3] 26) = v ∧ P4 w v C D E w6.heap.size F (pick4 f0 f1 f2 f3) F b 0) := by
        have hb : Below w6.heap.size w6 (w6.alloc (.cells #[.int .i64 f0, .int .i64 f1, .int .i64 f2, .int .i64 f3] 26)) := (Below.refl _ _).alloc (Nat.le_refl _) _
        have hq := Q4.new w6 26 f0 f1 f2 f3
        have h5 := HP6.out.c.lt
        have h6 := HP6.out.d.lt
        have h7 := HX6.out.lt
        exact ⟨_, rfl, HP6.out.later hb, HX6.out.later hb, hq, fun j hj => by omega, fun j _ _ => rfl, ⟨by omega, by omega, HEN.out.1, HEN.out.2⟩, HP6.out.below.size⟩
      obtain ⟨w7, hw7, hp4⟩ := HP4.out
      rw [hw7]
      have HPX := Hid.mkT hp4
      clear hp4 HP4
      generalize w6.heap.size = N at *
      have HIC7 : Hid (w7.cell? ⟨ig, io + n, none⟩ = some (.int .i64 pk)) := (HPX.out.s.below.cell (p := ⟨ig, io + n, none⟩) (cell_lt HICW.out)).trans HICW.out
      clear c0 c1 c2 c3 e0 e1 e2 e3 i0 hCl hDl hEl hIl hn1' hn2' hn3' hn4' hn5' hn6' y0 y1 y2 y3 x0 x1 x2 x3 z0 hl1 hl2 hl3 hl4 hl5 hl6 hl7 hl8 hl9 wc0 wc1 wc2 wc3 HP2 HP5 HP6 HX5 HX6 HB5
      have HR2 : Hid (ClsR F b pk (pick4 f0 f1 f2 f3) k) := HR.out
      go_wp2
      go_loopw [11, 12] (fun s11 s12 u => ∃ i : Nat, i ≤ 4 ∧ s11 = .bool (anyL b i) ∧ s12 = .int .i64 i ∧ u = w7) (fun _ s12 _ => 4 - (intOf s12).toNat)
      case atStart => exact ⟨0, by omega, rfl, rfl, rfl⟩
      case round =>
        obtain ⟨i, hi, rfl, rfl, hu⟩ := hrel
        replace hu := hu.symm
        subst hu
        by_cases hi4 : i < 4
        · have hi4' : (i : Int) < 4 := by omega
          have x0 := HPX.out.e.c i hi4
          have hstep : anyL b (i + 1) = (anyL b i || b i) := rfl
          have HST := Hid.mkT hstep
          clear hstep
          generalize anyL b i = A0 at *
          generalize b i = B0 at *
          cases A0 with
          | true =>
            go_wp2
            go_roundw
            case rel => exact ⟨i + 1, by omega, by rw [HST.out]; rfl, by go_num, by first | rfl | trivial⟩
            case measure => simp only [intOf]; omega
          | false =>
            go_wp2
            go_roundw
            case rel => exact ⟨i + 1, by omega, by rw [HST.out]; simp, by go_num, by first | rfl | trivial⟩
            case measure => simp only [intOf]; omega
        · obtain rfl : i = 4 := by omega
          have HSOME := Hid.mkT HR2.out.some_
          have HNONE := Hid.mkT HR2.out.none_
          have HEARLY := Hid.mkT HR2.out.early
          have HNEXT := Hid.mkT HR2.out.next
          have HPAT' := Hid.mkT HR2.out.pat
          clear HR2 HR
          obtain ⟨P, hP⟩ : ∃ P : Nat, pk % 4 = (P : Int) := ⟨(pk % 4).toNat, by have := Int.emod_nonneg pk (show (4 : Int) ≠ 0 by omega); omega⟩
          have hP4 : P < 4 := by have := Int.emod_lt_of_pos pk (show (0 : Int) < 4 by omega); omega
          have htm := emod4 pk
          rw [hP] at htm HEARLY
          simp only [Int.toNat_natCast] at HEARLY
          obtain ⟨r1, hr1⟩ : ∃ r1, pk.tmod 4 = r1 := ⟨_, rfl⟩
          have hr2 : -4 < r1 ∧ r1 < 4 := by rw [← hr1]; exact ⟨Int.lt_tmod_of_pos pk (by omega), Int.tmod_lt_of_pos pk (by omega)⟩
          rw [hr1] at htm
          have hP4' : (P : Int) < 4 := by omega
          have pkc := HIC7.out
          have xP := HPX.out.e.c P hP4
          clear hP
          generalize hA : anyL b 4 = A at *
          clear hA
          cases A with
          | false =>
            have hk := HNONE.out rfl
            subst hk
            go_wp2
            go_loopw [14, 15] (fun s14 s15 u => ∃ i : Nat, i ≤ 4 ∧ s14 = .bool (earlyL F i) ∧ s15 = .int .i64 i ∧ u = w7) (fun _ s15 _ => 4 - (intOf s15).toNat)
            case atStart => exact ⟨0, by omega, rfl, rfl, rfl⟩
            case round =>
              obtain ⟨i, hi, rfl, rfl, hu⟩ := hrel
              replace hu := hu.symm
              subst hu
              by_cases hi4 : i < 4
              · have hi4' : (i : Int) < 4 := by omega
                have x0 := HPX.out.s.d.c i hi4
                have HST : Hid (earlyL F (i + 1) = (earlyL F i && decide (F i < 13))) := rfl
                generalize earlyL F i = A0 at *
                generalize F i = z at *
                cases A0 with
                | true =>
                  go_wp2
                  go_roundw
                  case rel => exact ⟨i + 1, by omega, by rw [HST.out]; simp, by go_num, by first | rfl | trivial⟩
                  case measure => simp only [intOf]; omega
                | false =>
                  go_wp2
                  go_roundw
                  case rel => exact ⟨i + 1, by omega, by rw [HST.out]; rfl, by go_num, by first | rfl | trivial⟩
                  case measure => simp only [intOf]; omega
              · obtain rfl : i = 4 := by omega
                have HEA : Hid (earlyL F 4 = true → ∀ i, i < 4 → F i < 13) := early_is
                generalize earlyL F 4 = EA at *
                cases EA with
                | false =>
                  go_wp2
                  go_loopw [16] (fun s16 u => ∃ (i : Nat) (G : Nat → Int), i ≤ 4 ∧ s16 = .int .i64 i ∧ Hid (P4 w u C D E N F (pick4 f0 f1 f2 f3) G b i)) (fun s16 _ => 4 - (intOf s16).toNat)
                  case atStart => exact ⟨0, F, by omega, rfl, HPX.out⟩
                  case round =>
                    obtain ⟨i, G, hi, rfl, HG⟩ := hrel
                    by_cases hi4 : i < 4
                    · have hi4' : (i : Int) < 4 := by omega
                      have x0 := HG.out.e.c i hi4
                      have y0 := HG.out.s.d.c i hi4
                      have yf := HG.out.s.d.fz i hi4
                      have hGi := HG.out.hi i (Nat.le_refl _) hi4
                      rw [hGi] at y0
                      have hnx := HNEXT.out i hi4
                      have hFb : 0 ≤ F i ∧ F i ≤ 16 := ⟨HPat.out.lo i hi4, HPat.out.one i hi4⟩
                      have hFc : pick4 f0 f1 f2 f3 i ≤ 16 := HPAT'.out.one i hi4
                      have HSET := Hid.mkT (fun z => HG.out.set hi4 z)
                      clear hGi
                      generalize F i = z at *
                      generalize b i = B0 at *
                      cases B0 with
                      | false =>
                        rw [if_neg (by simp)] at hnx
                        have HG2 := Hid.mkT (HSET.out 0 hnx)
                        have y1 := HG2.out.s.d.c i hi4
                        simp only [if_true] at y1
                        clear hnx hFc HSET
                        go_wp2
                        go_roundw
                        case rel => exact ⟨i + 1, _, by omega, by go_num, HG2.out⟩
                        case measure => simp only [intOf]; omega
                      | true =>
                        by_cases hik : (i : Int) = -1
                        · rw [if_neg (by rintro ⟨-, x⟩; exact x hik)] at hnx
                          have hik' : ((i : Int) != -1) = false := by rw [hik]; simp
                          have HG2 := Hid.mkT (HSET.out 0 hnx)
                          have y1 := HG2.out.s.d.c i hi4
                          simp only [if_true] at y1
                          clear hnx hFc HSET hik
                          go_wp2
                          go_roundw
                          case rel => exact ⟨i + 1, _, by omega, by go_num, HG2.out⟩
                          case measure => simp only [intOf]; omega
                        · rw [if_pos ⟨rfl, hik⟩] at hnx
                          have hik' : ((i : Int) != -1) = true := bne_iff_ne.mpr hik
                          have hz16 : ¬ 16 < z + 1 := by omega
                          have HG2 := Hid.mkT (HSET.out (z + 1) hnx)
                          have y1 := HG2.out.s.d.c i hi4
                          simp only [if_true] at y1
                          clear hnx hFc HSET hik
                          go_wp2
                          go_roundw
                          case rel => exact ⟨i + 1, _, by omega, by go_num, HG2.out⟩
                          case measure => simp only [intOf]; omega
                    · obtain rfl : i = 4 := by omega
                      have HOV := Hid.mkT HG.out.over
                      have u0 := HG.out.n.c 0 (by omega)
                      have u1 := HG.out.n.c 1 (by omega)
                      have u2 := HG.out.n.c 2 (by omega)
                      have u3 := HG.out.n.c 3 (by omega)
                      have v0 := HG.out.s.c.c 0 (by omega)
                      have v1 := HG.out.s.c.c 1 (by omega)
                      have v2 := HG.out.s.c.c 2 (by omega)
                      have v3 := HG.out.s.c.c 3 (by omega)
                      have k0 := HG.out.s.c.fz 0 (by omega)
                      have k1 := HG.out.s.c.fz 1 (by omega)
                      have k2 := HG.out.s.c.fz 2 (by omega)
                      have k3 := HG.out.s.c.fz 3 (by omega)
                      have HN1 : Hid (n + 1 ≤ l.length) := hlt2
                      generalize hF0 : pick4 f0 f1 f2 f3 0 = g0 at *
                      generalize hF1 : pick4 f0 f1 f2 f3 1 = g1 at *
                      generalize hF2 : pick4 f0 f1 f2 f3 2 = g2 at *
                      generalize hF3 : pick4 f0 f1 f2 f3 3 = g3 at *
                      clear hF0 hF1 hF2 hF3
                      go_wp2
                      go_roundw
                      case rel => exact ⟨n + 1, pick4 f0 f1 f2 f3, HN1.out, by go_num, HOV.out, HPAT'.out⟩
                      case measure => simp only [intOf]; omega
                | true =>
                  go_wp2
                  go_loopw [16] (fun s16 u => ∃ (i : Nat) (G : Nat → Int), i ≤ 4 ∧ s16 = .int .i64 i ∧ Hid (P4 w u C D E N F (pick4 f0 f1 f2 f3) G b i)) (fun s16 _ => 4 - (intOf s16).toNat)
                  case atStart => exact ⟨0, F, by omega, rfl, HPX.out⟩
                  case round =>
                    obtain ⟨i, G, hi, rfl, HG⟩ := hrel
                    by_cases hi4 : i < 4
                    · have hi4' : (i : Int) < 4 := by omega
                      have x0 := HG.out.e.c i hi4
                      have y0 := HG.out.s.d.c i hi4
                      have yf := HG.out.s.d.fz i hi4
                      have hGi := HG.out.hi i (Nat.le_refl _) hi4
                      rw [hGi] at y0
                      have hnx := HNEXT.out i hi4
                      have hFb : 0 ≤ F i ∧ F i ≤ 16 := ⟨HPat.out.lo i hi4, HPat.out.one i hi4⟩
                      have hFc : pick4 f0 f1 f2 f3 i ≤ 16 := HPAT'.out.one i hi4
                      have HSET := Hid.mkT (fun z => HG.out.set hi4 z)
                      clear hGi
                      generalize F i = z at *
                      generalize b i = B0 at *
                      cases B0 with
                      | false =>
                        rw [if_neg (by simp)] at hnx
                        have HG2 := Hid.mkT (HSET.out 0 hnx)
                        have y1 := HG2.out.s.d.c i hi4
                        simp only [if_true] at y1
                        clear hnx hFc HSET
                        go_wp2
                        go_roundw
                        case rel => exact ⟨i + 1, _, by omega, by go_num, HG2.out⟩
                        case measure => simp only [intOf]; omega
                      | true =>
                        by_cases hik : (i : Int) = -1
                        · rw [if_neg (by rintro ⟨-, x⟩; exact x hik)] at hnx
                          have hik' : ((i : Int) != -1) = false := by rw [hik]; simp
                          have HG2 := Hid.mkT (HSET.out 0 hnx)
                          have y1 := HG2.out.s.d.c i hi4
                          simp only [if_true] at y1
                          clear hnx hFc HSET hik
                          go_wp2
                          go_roundw
                          case rel => exact ⟨i + 1, _, by omega, by go_num, HG2.out⟩
                          case measure => simp only [intOf]; omega
                        · rw [if_pos ⟨rfl, hik⟩] at hnx
                          have hik' : ((i : Int) != -1) = true := bne_iff_ne.mpr hik
                          have hz16 : ¬ 16 < z + 1 := by omega
                          have HG2 := Hid.mkT (HSET.out (z + 1) hnx)
                          have y1 := HG2.out.s.d.c i hi4
                          simp only [if_true] at y1
                          clear hnx hFc HSET hik
                          go_wp2
                          go_roundw
                          case rel => exact ⟨i + 1, _, by omega, by go_num, HG2.out⟩
                          case measure => simp only [intOf]; omega
                    · obtain rfl : i = 4 := by omega
                      have HOV := Hid.mkT HG.out.over
                      have u0 := HG.out.n.c 0 (by omega)
                      have u1 := HG.out.n.c 1 (by omega)
                      have u2 := HG.out.n.c 2 (by omega)
                      have u3 := HG.out.n.c 3 (by omega)
                      have v0 := HG.out.s.c.c 0 (by omega)
                      have v1 := HG.out.s.c.c 1 (by omega)
                      have v2 := HG.out.s.c.c 2 (by omega)
                      have v3 := HG.out.s.c.c 3 (by omega)
                      have k0 := HG.out.s.c.fz 0 (by omega)
                      have k1 := HG.out.s.c.fz 1 (by omega)
                      have k2 := HG.out.s.c.fz 2 (by omega)
                      have k3 := HG.out.s.c.fz 3 (by omega)
                      have HN1 : Hid (n + 1 ≤ l.length) := hlt2
                      generalize hF0 : pick4 f0 f1 f2 f3 0 = g0 at *
                      generalize hF1 : pick4 f0 f1 f2 f3 1 = g1 at *
                      generalize hF2 : pick4 f0 f1 f2 f3 2 = g2 at *
                      generalize hF3 : pick4 f0 f1 f2 f3 3 = g3 at *
                      clear hF0 hF1 hF2 hF3
                      go_wp2
                      go_roundw
                      case rel => exact ⟨n + 1, pick4 f0 f1 f2 f3, HN1.out, by go_num, HOV.out, HPAT'.out⟩
                      case measure => simp only [intOf]; omega
          | true =>
            obtain ⟨hk0, hk4, hbk⟩ := HSOME.out rfl
            obtain ⟨K, rfl⟩ : ∃ K : Nat, k = (K : Int) := ⟨k.toNat, by omega⟩
            simp only [Int.toNat_natCast] at hbk
            have xK := HPX.out.e.c K (by omega)
            rw [hbk] at xK
            have hk4' : (K : Int) < 4 := hk4
            go_wp2
            go_loopw [14, 15] (fun s14 s15 u => ∃ i : Nat, i ≤ 4 ∧ s14 = .bool (earlyL F i) ∧ s15 = .int .i64 i ∧ u = w7) (fun _ s15 _ => 4 - (intOf s15).toNat)
            case atStart => exact ⟨0, by omega, rfl, rfl, rfl⟩
            case round =>
              obtain ⟨i, hi, rfl, rfl, hu⟩ := hrel
              replace hu := hu.symm
              subst hu
              by_cases hi4 : i < 4
              · have hi4' : (i : Int) < 4 := by omega
                have x0 := HPX.out.s.d.c i hi4
                have HST : Hid (earlyL F (i + 1) = (earlyL F i && decide (F i < 13))) := rfl
                generalize earlyL F i = A0 at *
                generalize F i = z at *
                cases A0 with
                | true =>
                  go_wp2
                  go_roundw
                  case rel => exact ⟨i + 1, by omega, by rw [HST.out]; simp, by go_num, by first | rfl | trivial⟩
                  case measure => simp only [intOf]; omega
                | false =>
                  go_wp2
                  go_roundw
                  case rel => exact ⟨i + 1, by omega, by rw [HST.out]; rfl, by go_num, by first | rfl | trivial⟩
                  case measure => simp only [intOf]; omega
              · obtain rfl : i = 4 := by omega
                have HEA : Hid (earlyL F 4 = true → ∀ i, i < 4 → F i < 13) := early_is
                generalize earlyL F 4 = EA at *
                cases EA with
                | false =>
                  go_wp2
                  go_loopw [16] (fun s16 u => ∃ (i : Nat) (G : Nat → Int), i ≤ 4 ∧ s16 = .int .i64 i ∧ Hid (P4 w u C D E N F (pick4 f0 f1 f2 f3) G b i)) (fun s16 _ => 4 - (intOf s16).toNat)
                  case atStart => exact ⟨0, F, by omega, rfl, HPX.out⟩
                  case round =>
                    obtain ⟨i, G, hi, rfl, HG⟩ := hrel
                    by_cases hi4 : i < 4
                    · have hi4' : (i : Int) < 4 := by omega
                      have x0 := HG.out.e.c i hi4
                      have y0 := HG.out.s.d.c i hi4
                      have yf := HG.out.s.d.fz i hi4
                      have hGi := HG.out.hi i (Nat.le_refl _) hi4
                      rw [hGi] at y0
                      have hnx := HNEXT.out i hi4
                      have hFb : 0 ≤ F i ∧ F i ≤ 16 := ⟨HPat.out.lo i hi4, HPat.out.one i hi4⟩
                      have hFc : pick4 f0 f1 f2 f3 i ≤ 16 := HPAT'.out.one i hi4
                      have HSET := Hid.mkT (fun z => HG.out.set hi4 z)
                      clear hGi
                      generalize F i = z at *
                      generalize b i = B0 at *
                      cases B0 with
                      | false =>
                        rw [if_neg (by simp)] at hnx
                        have HG2 := Hid.mkT (HSET.out 0 hnx)
                        have y1 := HG2.out.s.d.c i hi4
                        simp only [if_true] at y1
                        clear hnx hFc HSET
                        go_wp2
                        go_roundw
                        case rel => exact ⟨i + 1, _, by omega, by go_num, HG2.out⟩
                        case measure => simp only [intOf]; omega
                      | true =>
                        by_cases hik : (i : Int) = (K : Int)
                        · rw [if_neg (by rintro ⟨-, x⟩; exact x hik)] at hnx
                          have hik' : ((i : Int) != (K : Int)) = false := by rw [hik]; simp
                          have HG2 := Hid.mkT (HSET.out 0 hnx)
                          have y1 := HG2.out.s.d.c i hi4
                          simp only [if_true] at y1
                          clear hnx hFc HSET hik
                          go_wp2
                          go_roundw
                          case rel => exact ⟨i + 1, _, by omega, by go_num, HG2.out⟩
                          case measure => simp only [intOf]; omega
                        · rw [if_pos ⟨rfl, hik⟩] at hnx
                          have hik' : ((i : Int) != (K : Int)) = true := bne_iff_ne.mpr hik
                          have hz16 : ¬ 16 < z + 1 := by omega
                          have HG2 := Hid.mkT (HSET.out (z + 1) hnx)
                          have y1 := HG2.out.s.d.c i hi4
                          simp only [if_true] at y1
                          clear hnx hFc HSET hik
                          go_wp2
                          go_roundw
                          case rel => exact ⟨i + 1, _, by omega, by go_num, HG2.out⟩
                          case measure => simp only [intOf]; omega
                    · obtain rfl : i = 4 := by omega
                      have HOV := Hid.mkT HG.out.over
                      have u0 := HG.out.n.c 0 (by omega)
                      have u1 := HG.out.n.c 1 (by omega)
                      have u2 := HG.out.n.c 2 (by omega)
                      have u3 := HG.out.n.c 3 (by omega)
                      have v0 := HG.out.s.c.c 0 (by omega)
                      have v1 := HG.out.s.c.c 1 (by omega)
                      have v2 := HG.out.s.c.c 2 (by omega)
                      have v3 := HG.out.s.c.c 3 (by omega)
                      have k0 := HG.out.s.c.fz 0 (by omega)
                      have k1 := HG.out.s.c.fz 1 (by omega)
                      have k2 := HG.out.s.c.fz 2 (by omega)
                      have k3 := HG.out.s.c.fz 3 (by omega)
                      have HN1 : Hid (n + 1 ≤ l.length) := hlt2
                      generalize hF0 : pick4 f0 f1 f2 f3 0 = g0 at *
                      generalize hF1 : pick4 f0 f1 f2 f3 1 = g1 at *
                      generalize hF2 : pick4 f0 f1 f2 f3 2 = g2 at *
                      generalize hF3 : pick4 f0 f1 f2 f3 3 = g3 at *
                      clear hF0 hF1 hF2 hF3
                      go_wp2
                      go_roundw
                      case rel => exact ⟨n + 1, pick4 f0 f1 f2 f3, HN1.out, by go_num, HOV.out, HPAT'.out⟩
                      case measure => simp only [intOf]; omega
                | true =>
                  have HE2 := Hid.mkT (HEARLY.out (by first | rfl | trivial) (HEA.out (by first | rfl | trivial)))
                  generalize hbP : b P = BP at *
                  clear hbP
                  cases BP with
                  | false =>
                    go_wp2
                    go_loopw [16] (fun s16 u => ∃ (i : Nat) (G : Nat → Int), i ≤ 4 ∧ s16 = .int .i64 i ∧ Hid (P4 w u C D E N F (pick4 f0 f1 f2 f3) G b i)) (fun s16 _ => 4 - (intOf s16).toNat)
                    case atStart => exact ⟨0, F, by omega, rfl, HPX.out⟩
                    case round =>
                      obtain ⟨i, G, hi, rfl, HG⟩ := hrel
                      by_cases hi4 : i < 4
                      · have hi4' : (i : Int) < 4 := by omega
                        have x0 := HG.out.e.c i hi4
                        have y0 := HG.out.s.d.c i hi4
                        have yf := HG.out.s.d.fz i hi4
                        have hGi := HG.out.hi i (Nat.le_refl _) hi4
                        rw [hGi] at y0
                        have hnx := HNEXT.out i hi4
                        have hFb : 0 ≤ F i ∧ F i ≤ 16 := ⟨HPat.out.lo i hi4, HPat.out.one i hi4⟩
                        have hFc : pick4 f0 f1 f2 f3 i ≤ 16 := HPAT'.out.one i hi4
                        have HSET := Hid.mkT (fun z => HG.out.set hi4 z)
                        clear hGi
                        generalize F i = z at *
                        generalize b i = B0 at *
                        cases B0 with
                        | false =>
                          rw [if_neg (by simp)] at hnx
                          have HG2 := Hid.mkT (HSET.out 0 hnx)
                          have y1 := HG2.out.s.d.c i hi4
                          simp only [if_true] at y1
                          clear hnx hFc HSET
                          go_wp2
                          go_roundw
                          case rel => exact ⟨i + 1, _, by omega, by go_num, HG2.out⟩
                          case measure => simp only [intOf]; omega
                        | true =>
                          by_cases hik : (i : Int) = (K : Int)
                          · rw [if_neg (by rintro ⟨-, x⟩; exact x hik)] at hnx
                            have hik' : ((i : Int) != (K : Int)) = false := by rw [hik]; simp
                            have HG2 := Hid.mkT (HSET.out 0 hnx)
                            have y1 := HG2.out.s.d.c i hi4
                            simp only [if_true] at y1
                            clear hnx hFc HSET hik
                            go_wp2
                            go_roundw
                            case rel => exact ⟨i + 1, _, by omega, by go_num, HG2.out⟩
                            case measure => simp only [intOf]; omega
                          · rw [if_pos ⟨rfl, hik⟩] at hnx
                            have hik' : ((i : Int) != (K : Int)) = true := bne_iff_ne.mpr hik
                            have hz16 : ¬ 16 < z + 1 := by omega
                            have HG2 := Hid.mkT (HSET.out (z + 1) hnx)
                            have y1 := HG2.out.s.d.c i hi4
                            simp only [if_true] at y1
                            clear hnx hFc HSET hik
                            go_wp2
                            go_roundw
                            case rel => exact ⟨i + 1, _, by omega, by go_num, HG2.out⟩
                            case measure => simp only [intOf]; omega
                      · obtain rfl : i = 4 := by omega
                        have HOV := Hid.mkT HG.out.over
                        have u0 := HG.out.n.c 0 (by omega)
                        have u1 := HG.out.n.c 1 (by omega)
                        have u2 := HG.out.n.c 2 (by omega)
                        have u3 := HG.out.n.c 3 (by omega)
                        have v0 := HG.out.s.c.c 0 (by omega)
                        have v1 := HG.out.s.c.c 1 (by omega)
                        have v2 := HG.out.s.c.c 2 (by omega)
                        have v3 := HG.out.s.c.c 3 (by omega)
                        have k0 := HG.out.s.c.fz 0 (by omega)
                        have k1 := HG.out.s.c.fz 1 (by omega)
                        have k2 := HG.out.s.c.fz 2 (by omega)
                        have k3 := HG.out.s.c.fz 3 (by omega)
                        have HN1 : Hid (n + 1 ≤ l.length) := hlt2
                        generalize hF0 : pick4 f0 f1 f2 f3 0 = g0 at *
                        generalize hF1 : pick4 f0 f1 f2 f3 1 = g1 at *
                        generalize hF2 : pick4 f0 f1 f2 f3 2 = g2 at *
                        generalize hF3 : pick4 f0 f1 f2 f3 3 = g3 at *
                        clear hF0 hF1 hF2 hF3
                        go_wp2
                        go_roundw
                        case rel => exact ⟨n + 1, pick4 f0 f1 f2 f3, HN1.out, by go_num, HOV.out, HPAT'.out⟩
                        case measure => simp only [intOf]; omega
                  | true =>
                    have hKP : ((K : Int) != (P : Int)) = false := by rw [HE2.out (by first | rfl | trivial)]; simp
                    go_wp2
                    go_loopw [16] (fun s16 u => ∃ (i : Nat) (G : Nat → Int), i ≤ 4 ∧ s16 = .int .i64 i ∧ Hid (P4 w u C D E N F (pick4 f0 f1 f2 f3) G b i)) (fun s16 _ => 4 - (intOf s16).toNat)
                    case atStart => exact ⟨0, F, by omega, rfl, HPX.out⟩
                    case round =>
                      obtain ⟨i, G, hi, rfl, HG⟩ := hrel
                      by_cases hi4 : i < 4
                      · have hi4' : (i : Int) < 4 := by omega
                        have x0 := HG.out.e.c i hi4
                        have y0 := HG.out.s.d.c i hi4
                        have yf := HG.out.s.d.fz i hi4
                        have hGi := HG.out.hi i (Nat.le_refl _) hi4
                        rw [hGi] at y0
                        have hnx := HNEXT.out i hi4
                        have hFb : 0 ≤ F i ∧ F i ≤ 16 := ⟨HPat.out.lo i hi4, HPat.out.one i hi4⟩
                        have hFc : pick4 f0 f1 f2 f3 i ≤ 16 := HPAT'.out.one i hi4
                        have HSET := Hid.mkT (fun z => HG.out.set hi4 z)
                        clear hGi
                        generalize F i = z at *
                        generalize b i = B0 at *
                        cases B0 with
                        | false =>
                          rw [if_neg (by simp)] at hnx
                          have HG2 := Hid.mkT (HSET.out 0 hnx)
                          have y1 := HG2.out.s.d.c i hi4
                          simp only [if_true] at y1
                          clear hnx hFc HSET
                          go_wp2
                          go_roundw
                          case rel => exact ⟨i + 1, _, by omega, by go_num, HG2.out⟩
                          case measure => simp only [intOf]; omega
                        | true =>
                          by_cases hik : (i : Int) = (K : Int)
                          · rw [if_neg (by rintro ⟨-, x⟩; exact x hik)] at hnx
                            have hik' : ((i : Int) != (K : Int)) = false := by rw [hik]; simp
                            have HG2 := Hid.mkT (HSET.out 0 hnx)
                            have y1 := HG2.out.s.d.c i hi4
                            simp only [if_true] at y1
                            clear hnx hFc HSET hik
                            go_wp2
                            go_roundw
                            case rel => exact ⟨i + 1, _, by omega, by go_num, HG2.out⟩
                            case measure => simp only [intOf]; omega
                          · rw [if_pos ⟨rfl, hik⟩] at hnx
                            have hik' : ((i : Int) != (K : Int)) = true := bne_iff_ne.mpr hik
                            have hz16 : ¬ 16 < z + 1 := by omega
                            have HG2 := Hid.mkT (HSET.out (z + 1) hnx)
                            have y1 := HG2.out.s.d.c i hi4
                            simp only [if_true] at y1
                            clear hnx hFc HSET hik
                            go_wp2
                            go_roundw
                            case rel => exact ⟨i + 1, _, by omega, by go_num, HG2.out⟩
                            case measure => simp only [intOf]; omega
                      · obtain rfl : i = 4 := by omega
                        have HOV := Hid.mkT HG.out.over
                        have u0 := HG.out.n.c 0 (by omega)
                        have u1 := HG.out.n.c 1 (by omega)
                        have u2 := HG.out.n.c 2 (by omega)
                        have u3 := HG.out.n.c 3 (by omega)
                        have v0 := HG.out.s.c.c 0 (by omega)
                        have v1 := HG.out.s.c.c 1 (by omega)
                        have v2 := HG.out.s.c.c 2 (by omega)
                        have v3 := HG.out.s.c.c 3 (by omega)
                        have k0 := HG.out.s.c.fz 0 (by omega)
                        have k1 := HG.out.s.c.fz 1 (by omega)
                        have k2 := HG.out.s.c.fz 2 (by omega)
                        have k3 := HG.out.s.c.fz 3 (by omega)
                        have HN1 : Hid (n + 1 ≤ l.length) := hlt2
                        generalize hF0 : pick4 f0 f1 f2 f3 0 = g0 at *
                        generalize hF1 : pick4 f0 f1 f2 f3 1 = g1 at *
                        generalize hF2 : pick4 f0 f1 f2 f3 2 = g2 at *
                        generalize hF3 : pick4 f0 f1 f2 f3 3 = g3 at *
                        clear hF0 hF1 hF2 hF3
                        go_wp2
                        go_roundw
                        case rel => exact ⟨n + 1, pick4 f0 f1 f2 f3, HN1.out, by go_num, HOV.out, HPAT'.out⟩
                        case measure => simp only [intOf]; omega
    · have HP4 : Hid (∃ v, (((w6.setCell ⟨w5.heap.size, 0, none⟩ (.int .i64 f0)).setCell ⟨w5.heap.size, 1, none⟩ (.int .i64 f1)).setCell ⟨w5.heap.size, 2, none⟩ (.int .i64 f2)).setCell ⟨w5.heap.size, 3, none⟩ (.int .i64 f3) = v ∧ P4 w v C D E w5.heap.size F (pick4 f0 f1 f2 f3) F b 0) := by
        obtain ⟨hq, kk⟩ := HQ2.out.put4 f0 f1 f2 f3
        have h5 := HP5.out.c.lt
        have h6 := HP5.out.d.lt
        have h7 := HX5.out.lt
        have hs := kk.size
        have hge := HP5.out.below.size
        refine ⟨_, rfl, ⟨HP6.out.c.block (kk.block C HP6.out.c.lt (by simp; omega)) hs, HP6.out.d.block (kk.block D HP6.out.d.lt (by simp; omega)) hs, HP6.out.below.grown kk HP6.out.below.size (fun g e => by simp at e; omega), HP6.out.ge, HP6.out.ne⟩, HX6.out.block (kk.block E HX6.out.lt (by simp; omega)) hs, hq, fun j hj => by omega, fun j _ _ => rfl, ⟨by omega, by omega, HEN.out.1, HEN.out.2⟩, hge⟩
      obtain ⟨w7, hw7, hp4⟩ := HP4.out
      rw [hw7]
      have HPX := Hid.mkT hp4
      clear hp4 HP4
      generalize w5.heap.size = N at *
      have HIC7 : Hid (w7.cell? ⟨ig, io + n, none⟩ = some (.int .i64 pk)) := (HPX.out.s.below.cell (p := ⟨ig, io + n, none⟩) (cell_lt HICW.out)).trans HICW.out
      clear c0 c1 c2 c3 e0 e1 e2 e3 i0 hCl hDl hEl hIl hn1' hn2' hn3' hn4' hn5' hn6' y0 y1 y2 y3 x0 x1 x2 x3 z0 hl1 hl2 hl3 hl4 hl5 hl6 hl7 hl8 hl9 wc0 wc1 wc2 wc3 HP2 HP5 HP6 HX5 HX6 HB5 HQ2 q0 q1 q2 q3 g0 g1 g2 g3
      have HR2 : Hid (ClsR F b pk (pick4 f0 f1 f2 f3) k) := HR.out
      go_wp2
      go_loopw [11, 12] (fun s11 s12 u => ∃ i : Nat, i ≤ 4 ∧ s11 = .bool (anyL b i) ∧ s12 = .int .i64 i ∧ u = w7) (fun _ s12 _ => 4 - (intOf s12).toNat)
      case atStart => exact ⟨0, by omega, rfl, rfl, rfl⟩
      case round =>
        obtain ⟨i, hi, rfl, rfl, hu⟩ := hrel
        replace hu := hu.symm
        subst hu
        by_cases hi4 : i < 4
        · have hi4' : (i : Int) < 4 := by omega
          have x0 := HPX.out.e.c i hi4
          have hstep : anyL b (i + 1) = (anyL b i || b i) := rfl
          have HST := Hid.mkT hstep
          clear hstep
          generalize anyL b i = A0 at *
          generalize b i = B0 at *
          cases A0 with
          | true =>
            go_wp2
            go_roundw
            case rel => exact ⟨i + 1, by omega, by rw [HST.out]; rfl, by go_num, by first | rfl | trivial⟩
            case measure => simp only [intOf]; omega
          | false =>
            go_wp2
            go_roundw
            case rel => exact ⟨i + 1, by omega, by rw [HST.out]; simp, by go_num, by first | rfl | trivial⟩
            case measure => simp only [intOf]; omega
        · obtain rfl : i = 4 := by omega
          have HSOME := Hid.mkT HR2.out.some_
          have HNONE := Hid.mkT HR2.out.none_
          have HEARLY := Hid.mkT HR2.out.early
          have HNEXT := Hid.mkT HR2.out.next
          have HPAT' := Hid.mkT HR2.out.pat
          clear HR2 HR
          obtain ⟨P, hP⟩ : ∃ P : Nat, pk % 4 = (P : Int) := ⟨(pk % 4).toNat, by have := Int.emod_nonneg pk (show (4 : Int) ≠ 0 by omega); omega⟩
          have hP4 : P < 4 := by have := Int.emod_lt_of_pos pk (show (0 : Int) < 4 by omega); omega
          have htm := emod4 pk
          rw [hP] at htm HEARLY
          simp only [Int.toNat_natCast] at HEARLY
          obtain ⟨r1, hr1⟩ : ∃ r1, pk.tmod 4 = r1 := ⟨_, rfl⟩
          have hr2 : -4 < r1 ∧ r1 < 4 := by rw [← hr1]; exact ⟨Int.lt_tmod_of_pos pk (by omega), Int.tmod_lt_of_pos pk (by omega)⟩
          rw [hr1] at htm
          have hP4' : (P : Int) < 4 := by omega
          have pkc := HIC7.out
          have xP := HPX.out.e.c P hP4
          clear hP
          generalize hA : anyL b 4 = A at *
          clear hA
          cases A with
          | false =>
            have hk := HNONE.out rfl
            subst hk
            go_wp2
            go_loopw [14, 15] (fun s14 s15 u => ∃ i : Nat, i ≤ 4 ∧ s14 = .bool (earlyL F i) ∧ s15 = .int .i64 i ∧ u = w7) (fun _ s15 _ => 4 - (intOf s15).toNat)
            case atStart => exact ⟨0, by omega, rfl, rfl, rfl⟩
            case round =>
              obtain ⟨i, hi, rfl, rfl, hu⟩ := hrel
              replace hu := hu.symm
              subst hu
              by_cases hi4 : i < 4
              · have hi4' : (i : Int) < 4 := by omega
                have x0 := HPX.out.s.d.c i hi4
                have HST : Hid (earlyL F (i + 1) = (earlyL F i && decide (F i < 13))) := rfl
                generalize earlyL F i = A0 at *
                generalize F i = z at *
                cases A0 with
                | true =>
                  go_wp2
                  go_roundw
                  case rel => exact ⟨i + 1, by omega, by rw [HST.out]; simp, by go_num, by first | rfl | trivial⟩
                  case measure => simp only [intOf]; omega
                | false =>
                  go_wp2
                  go_roundw
                  case rel => exact ⟨i + 1, by omega, by rw [HST.out]; rfl, by go_num, by first | rfl | trivial⟩
                  case measure => simp only [intOf]; omega
              · obtain rfl : i = 4 := by omega
                have HEA : Hid (earlyL F 4 = true → ∀ i, i < 4 → F i < 13) := early_is
                generalize earlyL F 4 = EA at *
                cases EA with
                | false =>
                  go_wp2
                  go_loopw [16] (fun s16 u => ∃ (i : Nat) (G : Nat → Int), i ≤ 4 ∧ s16 = .int .i64 i ∧ Hid (P4 w u C D E N F (pick4 f0 f1 f2 f3) G b i)) (fun s16 _ => 4 - (intOf s16).toNat)
                  case atStart => exact ⟨0, F, by omega, rfl, HPX.out⟩
                  case round =>
                    obtain ⟨i, G, hi, rfl, HG⟩ := hrel
                    by_cases hi4 : i < 4
                    · have hi4' : (i : Int) < 4 := by omega
                      have x0 := HG.out.e.c i hi4
                      have y0 := HG.out.s.d.c i hi4
                      have yf := HG.out.s.d.fz i hi4
                      have hGi := HG.out.hi i (Nat.le_refl _) hi4
                      rw [hGi] at y0
                      have hnx := HNEXT.out i hi4
                      have hFb : 0 ≤ F i ∧ F i ≤ 16 := ⟨HPat.out.lo i hi4, HPat.out.one i hi4⟩
                      have hFc : pick4 f0 f1 f2 f3 i ≤ 16 := HPAT'.out.one i hi4
                      have HSET := Hid.mkT (fun z => HG.out.set hi4 z)
                      clear hGi
                      generalize F i = z at *
                      generalize b i = B0 at *
                      cases B0 with
                      | false =>
                        rw [if_neg (by simp)] at hnx
                        have HG2 := Hid.mkT (HSET.out 0 hnx)
                        have y1 := HG2.out.s.d.c i hi4
                        simp only [if_true] at y1
                        clear hnx hFc HSET
                        go_wp2
                        go_roundw
                        case rel => exact ⟨i + 1, _, by omega, by go_num, HG2.out⟩
                        case measure => simp only [intOf]; omega
                      | true =>
                        by_cases hik : (i : Int) = -1
                        · rw [if_neg (by rintro ⟨-, x⟩; exact x hik)] at hnx
                          have hik' : ((i : Int) != -1) = false := by rw [hik]; simp
                          have HG2 := Hid.mkT (HSET.out 0 hnx)
                          have y1 := HG2.out.s.d.c i hi4
                          simp only [if_true] at y1
                          clear hnx hFc HSET hik
                          go_wp2
                          go_roundw
                          case rel => exact ⟨i + 1, _, by omega, by go_num, HG2.out⟩
                          case measure => simp only [intOf]; omega
                        · rw [if_pos ⟨rfl, hik⟩] at hnx
                          have hik' : ((i : Int) != -1) = true := bne_iff_ne.mpr hik
                          have hz16 : ¬ 16 < z + 1 := by omega
                          have HG2 := Hid.mkT (HSET.out (z + 1) hnx)
                          have y1 := HG2.out.s.d.c i hi4
                          simp only [if_true] at y1
                          clear hnx hFc HSET hik
                          go_wp2
                          go_roundw
                          case rel => exact ⟨i + 1, _, by omega, by go_num, HG2.out⟩
                          case measure => simp only [intOf]; omega
                    · obtain rfl : i = 4 := by omega
                      have HOV := Hid.mkT HG.out.over
                      have u0 := HG.out.n.c 0 (by omega)
                      have u1 := HG.out.n.c 1 (by omega)
                      have u2 := HG.out.n.c 2 (by omega)
                      have u3 := HG.out.n.c 3 (by omega)
                      have v0 := HG.out.s.c.c 0 (by omega)
                      have v1 := HG.out.s.c.c 1 (by omega)
                      have v2 := HG.out.s.c.c 2 (by omega)
                      have v3 := HG.out.s.c.c 3 (by omega)
                      have k0 := HG.out.s.c.fz 0 (by omega)
                      have k1 := HG.out.s.c.fz 1 (by omega)
                      have k2 := HG.out.s.c.fz 2 (by omega)
                      have k3 := HG.out.s.c.fz 3 (by omega)
                      have HN1 : Hid (n + 1 ≤ l.length) := hlt2
                      generalize hF0 : pick4 f0 f1 f2 f3 0 = g0 at *
                      generalize hF1 : pick4 f0 f1 f2 f3 1 = g1 at *
                      generalize hF2 : pick4 f0 f1 f2 f3 2 = g2 at *
                      generalize hF3 : pick4 f0 f1 f2 f3 3 = g3 at *
                      clear hF0 hF1 hF2 hF3
                      go_wp2
                      go_roundw
                      case rel => exact ⟨n + 1, pick4 f0 f1 f2 f3, HN1.out, by go_num, HOV.out, HPAT'.out⟩
                      case measure => simp only [intOf]; omega
                | true =>
                  go_wp2
                  go_loopw [16] (fun s16 u => ∃ (i : Nat) (G : Nat → Int), i ≤ 4 ∧ s16 = .int .i64 i ∧ Hid (P4 w u C D E N F (pick4 f0 f1 f2 f3) G b i)) (fun s16 _ => 4 - (intOf s16).toNat)
                  case atStart => exact ⟨0, F, by omega, rfl, HPX.out⟩
                  case round =>
                    obtain ⟨i, G, hi, rfl, HG⟩ := hrel
                    by_cases hi4 : i < 4
                    · have hi4' : (i : Int) < 4 := by omega
                      have x0 := HG.out.e.c i hi4
                      have y0 := HG.out.s.d.c i hi4
                      have yf := HG.out.s.d.fz i hi4
                      have hGi := HG.out.hi i (Nat.le_refl _) hi4
                      rw [hGi] at y0
                      have hnx := HNEXT.out i hi4
                      have hFb : 0 ≤ F i ∧ F i ≤ 16 := ⟨HPat.out.lo i hi4, HPat.out.one i hi4⟩
                      have hFc : pick4 f0 f1 f2 f3 i ≤ 16 := HPAT'.out.one i hi4
                      have HSET := Hid.mkT (fun z => HG.out.set hi4 z)
                      clear hGi
                      generalize F i = z at *
                      generalize b i = B0 at *
                      cases B0 with
                      | false =>
                        rw [if_neg (by simp)] at hnx
                        have HG2 := Hid.mkT (HSET.out 0 hnx)
                        have y1 := HG2.out.s.d.c i hi4
                        simp only [if_true] at y1
                        clear hnx hFc HSET
                        go_wp2
                        go_roundw
                        case rel => exact ⟨i + 1, _, by omega, by go_num, HG2.out⟩
                        case measure => simp only [intOf]; omega
                      | true =>
                        by_cases hik : (i : Int) = -1
                        · rw [if_neg (by rintro ⟨-, x⟩; exact x hik)] at hnx
                          have hik' : ((i : Int) != -1) = false := by rw [hik]; simp
                          have HG2 := Hid.mkT (HSET.out 0 hnx)
                          have y1 := HG2.out.s.d.c i hi4
                          simp only [if_true] at y1
                          clear hnx hFc HSET hik
                          go_wp2
                          go_roundw
                          case rel => exact ⟨i + 1, _, by omega, by go_num, HG2.out⟩
                          case measure => simp only [intOf]; omega
                        · rw [if_pos ⟨rfl, hik⟩] at hnx
                          have hik' : ((i : Int) != -1) = true := bne_iff_ne.mpr hik
                          have hz16 : ¬ 16 < z + 1 := by omega
                          have HG2 := Hid.mkT (HSET.out (z + 1) hnx)
                          have y1 := HG2.out.s.d.c i hi4
                          simp only [if_true] at y1
                          clear hnx hFc HSET hik
                          go_wp2
                          go_roundw
                          case rel => exact ⟨i + 1, _, by omega, by go_num, HG2.out⟩
                          case measure => simp only [intOf]; omega
                    · obtain rfl : i = 4 := by omega
                      have HOV := Hid.mkT HG.out.over
                      have u0 := HG.out.n.c 0 (by omega)
                      have u1 := HG.out.n.c 1 (by omega)
                      have u2 := HG.out.n.c 2 (by omega)
                      have u3 := HG.out.n.c 3 (by omega)
                      have v0 := HG.out.s.c.c 0 (by omega)
                      have v1 := HG.out.s.c.c 1 (by omega)
                      have v2 := HG.out.s.c.c 2 (by omega)
                      have v3 := HG.out.s.c.c 3 (by omega)
                      have k0 := HG.out.s.c.fz 0 (by omega)
                      have k1 := HG.out.s.c.fz 1 (by omega)
                      have k2 := HG.out.s.c.fz 2 (by omega)
                      have k3 := HG.out.s.c.fz 3 (by omega)
                      have HN1 : Hid (n + 1 ≤ l.length) := hlt2
                      generalize hF0 : pick4 f0 f1 f2 f3 0 = g0 at *
                      generalize hF1 : pick4 f0 f1 f2 f3 1 = g1 at *
                      generalize hF2 : pick4 f0 f1 f2 f3 2 = g2 at *
                      generalize hF3 : pick4 f0 f1 f2 f3 3 = g3 at *
                      clear hF0 hF1 hF2 hF3
                      go_wp2
                      go_roundw
                      case rel => exact ⟨n + 1, pick4 f0 f1 f2 f3, HN1.out, by go_num, HOV.out, HPAT'.out⟩
                      case measure => simp only [intOf]; omega
          | true =>
            obtain ⟨hk0, hk4, hbk⟩ := HSOME.out rfl
            obtain ⟨K, rfl⟩ : ∃ K : Nat, k = (K : Int) := ⟨k.toNat, by omega⟩
            simp only [Int.toNat_natCast] at hbk
            have xK := HPX.out.e.c K (by omega)
            rw [hbk] at xK
            have hk4' : (K : Int) < 4 := hk4
            go_wp2
            go_loopw [14, 15] (fun s14 s15 u => ∃ i : Nat, i ≤ 4 ∧ s14 = .bool (earlyL F i) ∧ s15 = .int .i64 i ∧ u = w7) (fun _ s15 _ => 4 - (intOf s15).toNat)
            case atStart => exact ⟨0, by omega, rfl, rfl, rfl⟩
            case round =>
              obtain ⟨i, hi, rfl, rfl, hu⟩ := hrel
              replace hu := hu.symm
              subst hu
              by_cases hi4 : i < 4
              · have hi4' : (i : Int) < 4 := by omega
                have x0 := HPX.out.s.d.c i hi4
                have HST : Hid (earlyL F (i + 1) = (earlyL F i && decide (F i < 13))) := rfl
                generalize earlyL F i = A0 at *
                generalize F i = z at *
                cases A0 with
                | true =>
                  go_wp2
                  go_roundw
                  case rel => exact ⟨i + 1, by omega, by rw [HST.out]; simp, by go_num, by first | rfl | trivial⟩
                  case measure => simp only [intOf]; omega
                | false =>
                  go_wp2
                  go_roundw
                  case rel => exact ⟨i + 1, by omega, by rw [HST.out]; rfl, by go_num, by first | rfl | trivial⟩
                  case measure => simp only [intOf]; omega
              · obtain rfl : i = 4 := by omega
                have HEA : Hid (earlyL F 4 = true → ∀ i, i < 4 → F i < 13) := early_is
                generalize earlyL F 4 = EA at *
                cases EA with
                | false =>
                  go_wp2
                  go_loopw [16] (fun s16 u => ∃ (i : Nat) (G : Nat → Int), i ≤ 4 ∧ s16 = .int .i64 i ∧ Hid (P4 w u C D E N F (pick4 f0 f1 f2 f3) G b i)) (fun s16 _ => 4 - (intOf s16).toNat)
                  case atStart => exact ⟨0, F, by omega, rfl, HPX.out⟩
                  case round =>
                    obtain ⟨i, G, hi, rfl, HG⟩ := hrel
                    by_cases hi4 : i < 4
                    · have hi4' : (i : Int) < 4 := by omega
                      have x0 := HG.out.e.c i hi4
                      have y0 := HG.out.s.d.c i hi4
                      have yf := HG.out.s.d.fz i hi4
                      have hGi := HG.out.hi i (Nat.le_refl _) hi4
                      rw [hGi] at y0
                      have hnx := HNEXT.out i hi4
                      have hFb : 0 ≤ F i ∧ F i ≤ 16 := ⟨HPat.out.lo i hi4, HPat.out.one i hi4⟩
                      have hFc : pick4 f0 f1 f2 f3 i ≤ 16 := HPAT'.out.one i hi4
                      have HSET := Hid.mkT (fun z => HG.out.set hi4 z)
                      clear hGi
                      generalize F i = z at *
                      generalize b i = B0 at *
                      cases B0 with
                      | false =>
                        rw [if_neg (by simp)] at hnx
                        have HG2 := Hid.mkT (HSET.out 0 hnx)
                        have y1 := HG2.out.s.d.c i hi4
                        simp only [if_true] at y1
                        clear hnx hFc HSET
                        go_wp2
                        go_roundw
                        case rel => exact ⟨i + 1, _, by omega, by go_num, HG2.out⟩
                        case measure => simp only [intOf]; omega
                      | true =>
                        by_cases hik : (i : Int) = (K : Int)
                        · rw [if_neg (by rintro ⟨-, x⟩; exact x hik)] at hnx
                          have hik' : ((i : Int) != (K : Int)) = false := by rw [hik]; simp
                          have HG2 := Hid.mkT (HSET.out 0 hnx)
                          have y1 := HG2.out.s.d.c i hi4
                          simp only [if_true] at y1
                          clear hnx hFc HSET hik
                          go_wp2
                          go_roundw
                          case rel => exact ⟨i + 1, _, by omega, by go_num, HG2.out⟩
                          case measure => simp only [intOf]; omega
                        · rw [if_pos ⟨rfl, hik⟩] at hnx
                          have hik' : ((i : Int) != (K : Int)) = true := bne_iff_ne.mpr hik
                          have hz16 : ¬ 16 < z + 1 := by omega
                          have HG2 := Hid.mkT (HSET.out (z + 1) hnx)
                          have y1 := HG2.out.s.d.c i hi4
                          simp only [if_true] at y1
                          clear hnx hFc HSET hik
                          go_wp2
                          go_roundw
                          case rel => exact ⟨i + 1, _, by omega, by go_num, HG2.out⟩
                          case measure => simp only [intOf]; omega
                    · obtain rfl : i = 4 := by omega
                      have HOV := Hid.mkT HG.out.over
                      have u0 := HG.out.n.c 0 (by omega)
                      have u1 := HG.out.n.c 1 (by omega)
                      have u2 := HG.out.n.c 2 (by omega)
                      have u3 := HG.out.n.c 3 (by omega)
                      have v0 := HG.out.s.c.c 0 (by omega)
                      have v1 := HG.out.s.c.c 1 (by omega)
                      have v2 := HG.out.s.c.c 2 (by omega)
                      have v3 := HG.out.s.c.c 3 (by omega)
                      have k0 := HG.out.s.c.fz 0 (by omega)
                      have k1 := HG.out.s.c.fz 1 (by omega)
                      have k2 := HG.out.s.c.fz 2 (by omega)
                      have k3 := HG.out.s.c.fz 3 (by omega)
                      have HN1 : Hid (n + 1 ≤ l.length) := hlt2
                      generalize hF0 : pick4 f0 f1 f2 f3 0 = g0 at *
                      generalize hF1 : pick4 f0 f1 f2 f3 1 = g1 at *
                      generalize hF2 : pick4 f0 f1 f2 f3 2 = g2 at *
                      generalize hF3 : pick4 f0 f1 f2 f3 3 = g3 at *
                      clear hF0 hF1 hF2 hF3
                      go_wp2
                      go_roundw
                      case rel => exact ⟨n + 1, pick4 f0 f1 f2 f3, HN1.out, by go_num, HOV.out, HPAT'.out⟩
                      case measure => simp only [intOf]; omega
                | true =>
                  have HE2 := Hid.mkT (HEARLY.out (by first | rfl | trivial) (HEA.out (by first | rfl | trivial)))
                  generalize hbP : b P = BP at *
                  clear hbP
                  cases BP with
                  | false =>
                    go_wp2
                    go_loopw [16] (fun s16 u => ∃ (i : Nat) (G : Nat → Int), i ≤ 4 ∧ s16 = .int .i64 i ∧ Hid (P4 w u C D E N F (pick4 f0 f1 f2 f3) G b i)) (fun s16 _ => 4 - (intOf s16).toNat)
                    case atStart => exact ⟨0, F, by omega, rfl, HPX.out⟩
                    case round =>
                      obtain ⟨i, G, hi, rfl, HG⟩ := hrel
                      by_cases hi4 : i < 4
                      · have hi4' : (i : Int) < 4 := by omega
                        have x0 := HG.out.e.c i hi4
                        have y0 := HG.out.s.d.c i hi4
                        have yf := HG.out.s.d.fz i hi4
                        have hGi := HG.out.hi i (Nat.le_refl _) hi4
                        rw [hGi] at y0
                        have hnx := HNEXT.out i hi4
                        have hFb : 0 ≤ F i ∧ F i ≤ 16 := ⟨HPat.out.lo i hi4, HPat.out.one i hi4⟩
                        have hFc : pick4 f0 f1 f2 f3 i ≤ 16 := HPAT'.out.one i hi4
                        have HSET := Hid.mkT (fun z => HG.out.set hi4 z)
                        clear hGi
                        generalize F i = z at *
                        generalize b i = B0 at *
                        cases B0 with
                        | false =>
                          rw [if_neg (by simp)] at hnx
                          have HG2 := Hid.mkT (HSET.out 0 hnx)
                          have y1 := HG2.out.s.d.c i hi4
                          simp only [if_true] at y1
                          clear hnx hFc HSET
                          go_wp2
                          go_roundw
                          case rel => exact ⟨i + 1, _, by omega, by go_num, HG2.out⟩
                          case measure => simp only [intOf]; omega
                        | true =>
                          by_cases hik : (i : Int) = (K : Int)
                          · rw [if_neg (by rintro ⟨-, x⟩; exact x hik)] at hnx
                            have hik' : ((i : Int) != (K : Int)) = false := by rw [hik]; simp
                            have HG2 := Hid.mkT (HSET.out 0 hnx)
                            have y1 := HG2.out.s.d.c i hi4
                            simp only [if_true] at y1
                            clear hnx hFc HSET hik
                            go_wp2
                            go_roundw
                            case rel => exact ⟨i + 1, _, by omega, by go_num, HG2.out⟩
                            case measure => simp only [intOf]; omega
                          · rw [if_pos ⟨rfl, hik⟩] at hnx
                            have hik' : ((i : Int) != (K : Int)) = true := bne_iff_ne.mpr hik
                            have hz16 : ¬ 16 < z + 1 := by omega
                            have HG2 := Hid.mkT (HSET.out (z + 1) hnx)
                            have y1 := HG2.out.s.d.c i hi4
                            simp only [if_true] at y1
                            clear hnx hFc HSET hik
                            go_wp2
                            go_roundw
                            case rel => exact ⟨i + 1, _, by omega, by go_num, HG2.out⟩
                            case measure => simp only [intOf]; omega
                      · obtain rfl : i = 4 := by omega
                        have HOV := Hid.mkT HG.out.over
                        have u0 := HG.out.n.c 0 (by omega)
                        have u1 := HG.out.n.c 1 (by omega)
                        have u2 := HG.out.n.c 2 (by omega)
                        have u3 := HG.out.n.c 3 (by omega)
                        have v0 := HG.out.s.c.c 0 (by omega)
                        have v1 := HG.out.s.c.c 1 (by omega)
                        have v2 := HG.out.s.c.c 2 (by omega)
                        have v3 := HG.out.s.c.c 3 (by omega)
                        have k0 := HG.out.s.c.fz 0 (by omega)
                        have k1 := HG.out.s.c.fz 1 (by omega)
                        have k2 := HG.out.s.c.fz 2 (by omega)
                        have k3 := HG.out.s.c.fz 3 (by omega)
                        have HN1 : Hid (n + 1 ≤ l.length) := hlt2
                        generalize hF0 : pick4 f0 f1 f2 f3 0 = g0 at *
                        generalize hF1 : pick4 f0 f1 f2 f3 1 = g1 at *
                        generalize hF2 : pick4 f0 f1 f2 f3 2 = g2 at *
                        generalize hF3 : pick4 f0 f1 f2 f3 3 = g3 at *
                        clear hF0 hF1 hF2 hF3
                        go_wp2
                        go_roundw
                        case rel => exact ⟨n + 1, pick4 f0 f1 f2 f3, HN1.out, by go_num, HOV.out, HPAT'.out⟩
                        case measure => simp only [intOf]; omega
                  | true =>
                    have hKP : ((K : Int) != (P : Int)) = false := by rw [HE2.out (by first | rfl | trivial)]; simp
                    go_wp2
                    go_loopw [16] (fun s16 u => ∃ (i : Nat) (G : Nat → Int), i ≤ 4 ∧ s16 = .int .i64 i ∧ Hid (P4 w u C D E N F (pick4 f0 f1 f2 f3) G b i)) (fun s16 _ => 4 - (intOf s16).toNat)
                    case atStart => exact ⟨0, F, by omega, rfl, HPX.out⟩
                    case round =>
                      obtain ⟨i, G, hi, rfl, HG⟩ := hrel
                      by_cases hi4 : i < 4
                      · have hi4' : (i : Int) < 4 := by omega
                        have x0 := HG.out.e.c i hi4
                        have y0 := HG.out.s.d.c i hi4
                        have yf := HG.out.s.d.fz i hi4
                        have hGi := HG.out.hi i (Nat.le_refl _) hi4
                        rw [hGi] at y0
                        have hnx := HNEXT.out i hi4
                        have hFb : 0 ≤ F i ∧ F i ≤ 16 := ⟨HPat.out.lo i hi4, HPat.out.one i hi4⟩
                        have hFc : pick4 f0 f1 f2 f3 i ≤ 16 := HPAT'.out.one i hi4
                        have HSET := Hid.mkT (fun z => HG.out.set hi4 z)
                        clear hGi
                        generalize F i = z at *
                        generalize b i = B0 at *
                        cases B0 with
                        | false =>
                          rw [if_neg (by simp)] at hnx
                          have HG2 := Hid.mkT (HSET.out 0 hnx)
                          have y1 := HG2.out.s.d.c i hi4
                          simp only [if_true] at y1
                          clear hnx hFc HSET
                          go_wp2
                          go_roundw
                          case rel => exact ⟨i + 1, _, by omega, by go_num, HG2.out⟩
                          case measure => simp only [intOf]; omega
                        | true =>
                          by_cases hik : (i : Int) = (K : Int)
                          · rw [if_neg (by rintro ⟨-, x⟩; exact x hik)] at hnx
                            have hik' : ((i : Int) != (K : Int)) = false := by rw [hik]; simp
                            have HG2 := Hid.mkT (HSET.out 0 hnx)
                            have y1 := HG2.out.s.d.c i hi4
                            simp only [if_true] at y1
                            clear hnx hFc HSET hik
                            go_wp2
                            go_roundw
                            case rel => exact ⟨i + 1, _, by omega, by go_num, HG2.out⟩
                            case measure => simp only [intOf]; omega
                          · rw [if_pos ⟨rfl, hik⟩] at hnx
                            have hik' : ((i : Int) != (K : Int)) = true := bne_iff_ne.mpr hik
                            have hz16 : ¬ 16 < z + 1 := by omega
                            have HG2 := Hid.mkT (HSET.out (z + 1) hnx)
                            have y1 := HG2.out.s.d.c i hi4
                            simp only [if_true] at y1
                            clear hnx hFc HSET hik
                            go_wp2
                            go_roundw
                            case rel => exact ⟨i + 1, _, by omega, by go_num, HG2.out⟩
                            case measure => simp only [intOf]; omega
                      · obtain rfl : i = 4 := by omega
                        have HOV := Hid.mkT HG.out.over
                        have u0 := HG.out.n.c 0 (by omega)
                        have u1 := HG.out.n.c 1 (by omega)
                        have u2 := HG.out.n.c 2 (by omega)
                        have u3 := HG.out.n.c 3 (by omega)
                        have v0 := HG.out.s.c.c 0 (by omega)
                        have v1 := HG.out.s.c.c 1 (by omega)
                        have v2 := HG.out.s.c.c 2 (by omega)
                        have v3 := HG.out.s.c.c 3 (by omega)
                        have k0 := HG.out.s.c.fz 0 (by omega)
                        have k1 := HG.out.s.c.fz 1 (by omega)
                        have k2 := HG.out.s.c.fz 2 (by omega)
                        have k3 := HG.out.s.c.fz 3 (by omega)
                        have HN1 : Hid (n + 1 ≤ l.length) := hlt2
                        generalize hF0 : pick4 f0 f1 f2 f3 0 = g0 at *
                        generalize hF1 : pick4 f0 f1 f2 f3 1 = g1 at *
                        generalize hF2 : pick4 f0 f1 f2 f3 2 = g2 at *
                        generalize hF3 : pick4 f0 f1 f2 f3 3 = g3 at *
                        clear hF0 hF1 hF2 hF3
                        go_wp2
                        go_roundw
                        case rel => exact ⟨n + 1, pick4 f0 f1 f2 f3, HN1.out, by go_num, HOV.out, HPAT'.out⟩
                        case measure => simp only [intOf]; omega
end Go.Proofs.Ytelhjdplghpnbaa
