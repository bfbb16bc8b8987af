import Derived.Test.YtlnppgjppfkocaaDoorXsT
import Derived.Test.YtlnppgjppfkocaaDoorXsS
import Derived.Test.YtlnppgjppfkocaaDoorYLayS
import Derived.Lib.LaidTab
import Derived.Lib.ItoaMem
import Derived.Lib.AppendIntMem
/-! The program's writer: parts of a line that are gathered. -/
namespace Go.Proofs.YtlnppgjppfkocaaDoor.Xs
open Go.RowKit Plain
set_option linter.unusedVariables false
set_option linter.unusedSimpArgs false

/-- strconv's table, as laid. -/
def Tab (w : World) : Prop := Lib.TabIs Tryd.prog w "internal/strconv.uint64pow10" .u64 Lib.pow10Tab
theorem Tab.later {w w' : World} (h : Tab w) (hb : Below w.heap.size w w') : Tab w' := Lib.tabBelow_of_tabIs h w' hb
theorem Tab.on {W w : World} (h : Tab W) (hb : Below W.heap.size W w) : Tab w := h.later hb

/-- The blocks of P stay as they are. -/
def Kp (P : Nat → Prop) (w w' : World) : Prop := ∀ b, P b → w'.heap[b]? = w.heap[b]?
theorem Kp.refl (P : Nat → Prop) (w : World) : Kp P w w := fun _ _ => rfl
theorem Kp.trans {P : Nat → Prop} {a b c : World} (h : Kp P a b) (k : Kp P b c) : Kp P a c := fun x hx => (k x hx).trans (h x hx)
theorem Kp.weak {P Q : Nat → Prop} {w w' : World} (h : Kp P w w') (hq : ∀ b, Q b → P b) : Kp Q w w' := fun x hx => h x (hq x hx)
theorem Kp.cell {P : Nat → Prop} {w w' : World} (h : Kp P w w') {b o : Nat} (hb : P b) : w'.cell? ⟨b, o, none⟩ = w.cell? ⟨b, o, none⟩ := World.cell?_of_block (w := w) (a := ⟨b, o, none⟩) (h b hb)
theorem Kp.below {P : Nat → Prop} {w w' : World} (hb : Below w.heap.size w w') (pb : ∀ b, P b → b < w.heap.size) : Kp P w w' := fun x hx => hb.block x (pb x hx)
/-- At g lies a writer with the parts l; all of it was made since the world W; it owns no block of P. -/
structure Wr (P : Nat → Prop) (W w : World) (g : Nat) (l : List By) : Prop where
  ex : ∃ v r, w.cell? ⟨g, 0, none⟩ = some v ∧ w.frozen? ⟨g, 0, none⟩ = false ∧ OwnV w v (strs l) r ∧ (∀ x, r = some x → W.heap.size ≤ x ∧ ¬ P x) ∧ r ≠ some g
  ge : W.heap.size ≤ g
  np : ¬ P g
  bel : Below W.heap.size W w
  pb : ∀ b, P b → b < w.heap.size
theorem Wr.lt {P : Nat → Prop} {W w : World} {g : Nat} {l : List By} (h : Wr P W w g l) : g < w.heap.size := by
  obtain ⟨v, r, h1, _⟩ := h.ex
  exact cell_lt h1
theorem Wr.later {P : Nat → Prop} {W w w' : World} {g : Nat} {l : List By} (h : Wr P W w g l) (hb : Below w.heap.size w w') : Wr P W w' g l := by
  obtain ⟨v, r, h1, h2, h3, h4, h5⟩ := h.ex
  exact ⟨⟨v, r, (hb.cell (cell_lt h1)).trans h1, (hb.frozen (cell_lt h1)).trans h2, ownV_later h3 hb, h4, h5⟩, h.ge, h.np, below_on h.bel hb, fun b k => Nat.lt_of_lt_of_le (h.pb b k) hb.size⟩
theorem Wr.kp {P : Nat → Prop} {W w w' : World} {g : Nat} {l : List By} (h : Wr P W w g l) (hb : Below w.heap.size w w') : Kp P w w' := Kp.below hb h.pb
theorem Wr.weak {P Q : Nat → Prop} {W w : World} {g : Nat} {l : List By} (h : Wr P W w g l) (hq : ∀ b, Q b → P b) : Wr Q W w g l := by
  obtain ⟨v, r, h1, h2, h3, h4, h5⟩ := h.ex
  exact ⟨⟨v, r, h1, h2, h3, fun x e => ⟨(h4 x e).1, fun k => (h4 x e).2 (hq x k)⟩, h5⟩, h.ge, fun k => h.np (hq g k), h.bel, fun b k => h.pb b (hq b k)⟩
/-- A new block is none of the writer's. -/
theorem Wr.guard {P : Nat → Prop} {W w w' : World} {g : Nat} {l : List By} (h : Wr P W w g l) (hb : Below w.heap.size w w') {X : Nat} (h1 : w.heap.size ≤ X) (h2 : X < w'.heap.size) : Wr (fun b => P b ∨ b = X) W w' g l := by
  have hg := h.lt
  obtain ⟨v, r, k1, k2, k3, k4, k5⟩ := h.ex
  refine ⟨⟨v, r, (hb.cell (cell_lt k1)).trans k1, (hb.frozen (cell_lt k1)).trans k2, ownV_later k3 hb, fun x e => ⟨(k4 x e).1, ?_⟩, k5⟩, h.ge, ?_, below_on h.bel hb, ?_⟩
  · rintro (k | k)
    · exact (k4 x e).2 k
    · subst e
      have := k3.lt
      omega
  · rintro (k | k)
    · exact h.np k
    · omega
  · rintro b (k | k)
    · exact Nat.lt_of_lt_of_le (h.pb b k) hb.size
    · omega
theorem Wr.drew {P : Nat → Prop} {W w : World} {g : Nat} {l : List By} (h : Wr P W w g l) : Wr P W w.drew g l := h.later (Below.refl _ w).drew
/-- One part more. -/
theorem Wr.put {P : Nat → Prop} {W w w1 w' : World} {g g' : Nat} {l : List By} {s : By} {v v' : Value} {r : Option Nat} (h : Wr P W w g l) (hb : Below w.heap.size w w1) (h1 : w.cell? ⟨g, 0, none⟩ = some v) (h2 : w.frozen? ⟨g, 0, none⟩ = false) (h4 : ∀ x, r = some x → W.heap.size ≤ x ∧ ¬ P x) (h5 : r ≠ some g)
    (ho : OwnV w' v' (strs l ++ [.string (ba s)]) (some g')) (hg : w1.grownBy w' r) (hr : some g' = r ∨ g' = w1.heap.size) : (w'.cell? ⟨g, 0, none⟩ = some v ∧ w'.frozen? ⟨g, 0, none⟩ = false) ∧ Wr P W (w'.setCell ⟨g, 0, none⟩ v') g (l ++ [s]) ∧ Kp P w (w'.setCell ⟨g, 0, none⟩ v') := by
  have hge := h.ge
  have hW := h.bel
  have hgl : g < w.heap.size := cell_lt h1
  have hne : g' ≠ g := by
    rcases hr with e | e
    · intro e2; rw [e2] at e; exact h5 e.symm
    · have := hb.size; omega
  have k0 : Below W.heap.size W w' := (hW.trans (hb.mono hW.size)).grown hg (Nat.le_trans hW.size hb.size) (fun k e => (h4 k e).1)
  have c1 : w1.cell? ⟨g, 0, none⟩ = some v := (hb.cell hgl).trans h1
  have c2 : w1.frozen? ⟨g, 0, none⟩ = false := (hb.frozen hgl).trans h2
  have c3 : w'.heap[g]? = w1.heap[g]? := hg.block g (Nat.lt_of_lt_of_le hgl hb.size) (by first | exact h5 | exact (fun e => h5 e.symm))
  have c4 : w'.cell? ⟨g, 0, none⟩ = some v := (World.cell?_of_block (w := w1) c3).trans c1
  have c5 : w'.frozen? ⟨g, 0, none⟩ = false := (World.frozen?_of_block (w := w1) c3).trans c2
  have hpg' : ¬ P g' := fun k => by
    rcases hr with e | e
    · exact (h4 _ e.symm).2 k
    · have := h.pb _ k; have := hb.size; omega
  have hsz := (grow_setCells w' g 0 [v']).size
  have hgs := hg.size
  have hbs := hb.size
  refine ⟨⟨c4, c5⟩, ⟨⟨v', some g', ?_, ?_, ?_, ?_, ?_⟩, hge, h.np, k0.setCell hge v', fun b k => ?_⟩, fun b k => ?_⟩
  · exact World.cell?_setCell_same _ _ _ c4
  · rw [World.frozen?_setCell]; exact c5
  · rw [strs_app]
    exact ho.of_block (grow_setCells w' g 0 [v']).size (fun x e => Below.heap_setCell w' ⟨g, 0, none⟩ v' x (by cases e; exact hne))
  · intro x hx
    cases hx
    refine ⟨?_, hpg'⟩
    rcases hr with e | e
    · exact (h4 _ e.symm).1
    · have := hb.size; have := hW.size; omega
  · intro e; cases e; exact hne rfl
  · exact Nat.lt_of_lt_of_le (h.pb b k) (Nat.le_trans hbs (Nat.le_trans hgs hsz))
  · have hbg : b ≠ g := fun e => h.np (e ▸ k)
    have hbr : r ≠ some b := fun e => (h4 b e).2 k
    exact (Below.heap_setCell w' ⟨g, 0, none⟩ v' b hbg).trans ((hg.block b (Nat.lt_of_lt_of_le (h.pb b k) hbs) (by first | exact hbr | exact (fun e => hbr e.symm))).trans (hb.block b (h.pb b k)))
set_option maxHeartbeats 4000000 in
set_option maxRecDepth 100000 in
theorem wordOf (s : By) (P : Nat → Prop) (W w : World) (g : Nat) (l : List By) (h : Wr P W w g l) (hl : l.length ≤ 8796093022000) :
    Calls Tryd.prog 7 #[.pointer (some ⟨g, 0, none⟩), .string (ba s)] w fun e w' => e = .returned (.tuple #[]) ∧ Wr P W w' g (l ++ [s]) ∧ Kp P w w' := by
  obtain ⟨v, r, h1, h2, h3, h4, h5⟩ := h.ex
  have hb1 : Below w.heap.size w (w.alloc (.cells #[.string (ba s)] 9)) := (Below.refl _ w).alloc (Nat.le_refl _) _
  go_enter Tryd.func7, Tryd.ntmps7
  go_wp2_with (at_builtin; refine wpList_append_txs (w.alloc (.cells #[.string (ba s)] 9)) rfl _ _ rfl v _ (strs l) [.string (ba s)] r rfl rfl ?hOwn ?hSrc ?hLen ?hR ?_)
  case hOwn => exact ownV_later h3 hb1
  case hSrc => exact srcTx w (ba s)
  case hLen => rw [strs_len]; simp; omega
  case hR => exact .inr (by simp)
  intro v' w' g' ho hg hr
  have hr' : some g' = r ∨ g' = (w.alloc (.cells #[.string (ba s)] 9)).heap.size := by
    rcases hr with e | e
    · exact .inl e
    · right; rw [e]; simp
  clear hr
  obtain ⟨⟨k1, k2⟩, k3⟩ := Wr.put (s := s) h hb1 h1 h2 h4 h5 ho hg hr'
  obtain ⟨a3, c3, rfl, _, _⟩ := ho.shape
  clear ho hg hr'
  go_wp2
  go_end0
  exact ⟨rfl, by simpa using k3⟩
end Go.Proofs.YtlnppgjppfkocaaDoor.Xs
