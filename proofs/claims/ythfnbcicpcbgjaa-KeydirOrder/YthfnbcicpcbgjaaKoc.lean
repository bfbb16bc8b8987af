import Derived.Test.YthfnbcicpcbgjaaKob
import Derived.RangeFuncNested
/-! keydir: Prefix, which goes through All and hands each key on; a loop over such an iterator. -/
namespace Go.Proofs.Ythfnbcicpcbgjaa
open Go.RowKit Go.Shelf Plain
attribute [local go_sem] Oper.semAt_some
set_option linter.unusedVariables false
set_option linter.unusedSimpArgs false

/-- What a round keeps: all below n₀; and all from n₁ on. -/
structure KpW (n₀ n₁ : Nat) (A B : World) : Prop where
  low : Below n₀ A B
  high : ∀ k, n₁ ≤ k → k < A.heap.size → B.heap[k]? = A.heap[k]?
theorem KpW.trans {n₀ n₁ : Nat} {A B C : World} (h : KpW n₀ n₁ A B) (k : KpW n₀ n₁ B C) : KpW n₀ n₁ A C :=
  ⟨h.low.trans k.low, fun j h1 h2 => (k.high j h1 (by
    have e := h.high j h1 h2
    rw [Array.getElem?_eq_getElem h2] at e
    exact (Array.getElem?_eq_some_iff.1 e).1)).trans (h.high j h1 h2)⟩
theorem KpW.put {n₀ n₁ : Nat} (W : World) {l : Nat} (o : Obj) (h0 : n₀ ≤ l) (h1 : l < n₁) (hl : l < W.heap.size) : KpW n₀ n₁ W (W.putObj l o) :=
  ⟨(Below.refl n₀ W).grown (grownBy_putObj' W l o) (by omega) (fun k e => by cases e; exact h0), fun k hk _ => World.putObj_heap_other (by omega)⟩
theorem KpW.grown {n₀ n₁ : Nat} {W W' : World} {row : Option Nat} (hg : W.grownBy W' row) (hs : n₀ ≤ W.heap.size) (hr : ∀ k, row = some k → n₀ ≤ k ∧ k < n₁) : KpW n₀ n₁ W W' :=
  ⟨(Below.refl n₀ W).grown hg hs (fun k e => (hr k e).1), fun k hk hl => hg.block k hl (fun e => by have := (hr k e.symm).2; omega)⟩

/-- What a round keeps that ends the loop: all from n₁ on. -/
structure KpH (n₁ : Nat) (A B : World) : Prop where
  size : A.heap.size ≤ B.heap.size
  high : ∀ k, n₁ ≤ k → k < A.heap.size → B.heap[k]? = A.heap[k]?
theorem KpW.h {n₀ n₁ : Nat} {A B : World} (h : KpW n₀ n₁ A B) : KpH n₁ A B := ⟨h.low.size, h.high⟩
theorem KpH.trans {n₁ : Nat} {A B C : World} (h : KpH n₁ A B) (k : KpH n₁ B C) : KpH n₁ A C :=
  ⟨Nat.le_trans h.size k.size, fun j h1 h2 => (k.high j h1 (Nat.lt_of_lt_of_le h2 h.size)).trans (h.high j h1 h2)⟩
theorem KpH.put {n₁ : Nat} (W : World) {l : Nat} (o : Obj) (h1 : l < n₁) : KpH n₁ W (W.putObj l o) :=
  ⟨(grownBy_putObj' W l o).size, fun k hk _ => World.putObj_heap_other (by omega)⟩
theorem KpH.grown {n₁ : Nat} {W W' : World} {row : Option Nat} (hg : W.grownBy W' row) (hr : ∀ k, row = some k → k < n₁) : KpH n₁ W W' :=
  ⟨hg.size, fun k hk hl => hg.block k hl (fun e => by have := hr k e.symm; omega)⟩

/-- An iterator that gives the keys L, to rounds of which each keeps all that lay below n₀ and all that was made since the iterator was called. -/
def SeqOwn (n₀ n gf : Nat) (lb : Array Value) (L : List Ke) (w : World) : Prop :=
  ∀ (l : Nat) (J Jx : List Ke → World → Prop) (W : World), Below w.heap.size w W → OwnFrom W.heap.size J → OwnFrom W.heap.size Jx →
    (∀ pre x W1, J pre W1 → YieldAt Fence.wide (n - 1) Try.prog l (kencs x) W1 fun e W' => (e = .returned (.bool true) ∧ KpW n₀ W.heap.size W1 W' ∧ J (pre ++ [x]) W') ∨ (e = .returned (.bool false) ∧ KpH W.heap.size W1 W' ∧ Jx (pre ++ [x]) W')) →
    J [] W → CallsIn Fence.wide n Try.prog gf (#[.func (.yield l) #[] #[]] ++ lb) W fun e W' => (∃ v, e = .returned v) ∧ (J L W' ∨ ∃ pre, pre <+: L ∧ Jx pre W')

/-- How a round is left. -/
def postOwn (n₀ B : Nat) (I Ix : List Ke → World → Prop) (xs : List Ke) (W : World) : Exit → Act → World → Prop
  | .normal, _, W' => KeepsFrom B W W' ∧ KpW n₀ (B + 2) W W' ∧ I xs W'
  | .ret, _, W' => KeepsFrom B W W' ∧ KpH (B + 2) W W' ∧ Ix xs W'
  | _, _, _ => False

theorem own_alloc2 {I : List Ke → World → Prop} {B : Nat} (hI : OwnFrom B I) {s : List Ke} {w : World} (h : I s w) (o o' : Obj) : I s ((w.alloc o).alloc o') := hI.alloc _ (hI.alloc _ h)

/-- A loop over such an iterator, whose rounds never end it before its time. -/
theorem rangeOwn {n n₀ : Nat} {g : Operand} {ps : Array Tmp} {assign body : Code} {Q : Exit → Act → World → Prop} {a : Act} {w : World} {gf : Nat} {lb : Array Value} {L : List Ke}
    (hg : a.eval g = .func (.func gf) #[] lb) (eg : ∀ args w, (callFunc gf args).run Try.prog w = .ok (.enter gf args) w) (hn₀ : n₀ ≤ w.heap.size) (hseq : SeqOwn n₀ (n - 1) gf lb L w) (hps : ps.size = 2)
    (I Ix : List Ke → World → Prop) (hI : OwnFrom w.heap.size I) (hIx : OwnFrom w.heap.size Ix) (h0 : I [] w) (Ax : Ke → Act → World → Prop) (hAx : ∀ x a', OwnFrom w.heap.size (fun (_ : Unit) W => Ax x a' W))
    (hassign : ∀ (l : Nat) (pre : List Ke) (x : Ke) (W : World) (K : Act → World → Prop), w.heap.size + 2 ≤ W.heap.size → I pre W → (∀ a' W', KeepsFrom w.heap.size W W' → KpW n₀ (w.heap.size + 2) W W' → I pre W' → Ax x a' W' → K a' W') →
      assign.wpIn (Fence.wide.inRound l) (n - 1 - 1) Try.prog (Exit.then K (fun _ _ _ => False)) { tmps := (ps.zip (kencs x)).foldl (fun t (p, v) => t.setIfInBounds p v) a.tmps, defers := [] } W)
    (hbody : ∀ (l : Nat) (pre : List Ke) (x : Ke) (a' : Act) (W : World), w.heap.size + 2 ≤ W.heap.size → I pre W → Ax x a' W → body.wpIn (Fence.wide.inRound l) (n - 1 - 1) Try.prog (postOwn n₀ w.heap.size I Ix (pre ++ [x]) W) a' W)
    (hdone : ∀ (D : Nat) (W : World), w.heap.size ≤ D → I L W → W.heap[D]? = some (.deferred (some [])) → Q .normal { a with defers := { target := .collected D, args := #[] } :: a.defers } W)
    (hstop : ∀ (pre : List Ke) (W : World), pre <+: L → Ix pre W → False) : (Code.rangeFunc g ps assign body).wpIn Fence.wide n Try.prog Q a w := by
  refine wpIn_rangeFunc fun fn hfn => ?_
  obtain ⟨mk, hmk⟩ : ∃ mk : LoopState → Option Code → Obj, mk = fun st pe => .loop { state := st, pending := pe, fn, tmps := a.tmps, params := ps, assign, body, defers := w.heap.size } := ⟨_, rfl⟩
  have hmc : ∀ st pe, (mk st pe).isCells = false := fun st pe => by rw [hmk]; rfl
  obtain ⟨w1, hw1⟩ : ∃ w1, (w.alloc (.deferred (some []))).alloc (mk .ready none) = w1 := ⟨_, rfl⟩
  have hs1 : w1.heap.size = w.heap.size + 2 := by rw [← hw1]; simp
  have hr1 : w1.heap[w.heap.size + 1]? = some (mk .ready none) := by
    rw [← hw1]
    have := World.alloc_heap_new (w.alloc (.deferred (some []))) (mk .ready none)
    rwa [World.size_alloc] at this
  have hd1 : w1.heap[w.heap.size]? = some (.deferred (some [])) := by
    rw [← hw1]
    exact (Below.heap_alloc _ _ _ (by simp)).trans (World.alloc_heap_new w _)
  have hb1 : Below w.heap.size w w1 := by rw [← hw1]; exact ((Below.refl _ _).alloc (Nat.le_refl _) _).alloc (by simp) _
  have hI1 : I [] w1 := by rw [← hw1]; exact own_alloc2 hI h0 _ _
  have hkeep : ∀ {A B : World} {row : Option Nat} {k : Nat} {o : Obj}, A.grownBy B row → (∀ r, row = some r → w1.heap.size ≤ r ∧ ∃ o : Obj, A.heap[r]? = some o ∧ o.isCells = false) → k < w1.heap.size → A.heap[k]? = some o → B.heap[k]? = some o := fun hgr hrow hk ho =>
    (hgr.block _ (Array.getElem?_eq_some_iff.1 ho).1 (fun e => by have := (hrow _ e.symm).1; omega)).trans ho
  have hup : ∀ {row : Option Nat} {A : World}, (∀ r, row = some r → w1.heap.size ≤ r ∧ ∃ o : Obj, A.heap[r]? = some o ∧ o.isCells = false) → ∀ r, row = some r → w.heap.size ≤ r ∧ ∃ o : Obj, A.heap[r]? = some o ∧ o.isCells = false := fun hrow r e => ⟨by have := (hrow r e).1; omega, (hrow r e).2⟩
  refine ⟨w.heap.size + 1, [{ target := .collected w.heap.size, args := #[] }], w1, { target := .fn (.func gf) lb, args := #[.func (.yield (w.heap.size + 1)) #[] #[]] }, w1, gf, #[.func (.yield (w.heap.size + 1)) #[] #[]] ++ lb, w1, ?_, ?_, ?_, ?_, ?_, ?_⟩
  · have := run_enterLoop_outer (P := Try.prog) (w := w) fn a.tmps ps assign body
    rw [← hw1, hmk]
    exact this
  · simp only [resolve, hg]
    simp [go_sem]
  · exact fun f' _ => trivial
  · simp [invoke, go_sem, eg]
  · exact fun h => by cases h
  · refine (hseq (w.heap.size + 1) (fun pre W => I pre W ∧ W.heap[w.heap.size + 1]? = some (mk .ready none) ∧ W.heap[w.heap.size]? = some (.deferred (some [])))
      (fun pre W => Ix pre W) w1 hb1 (fun s A B row hs hgr hrow => ⟨hI s A B row hs.1 hgr (hup hrow), hkeep hgr hrow (by omega) hs.2.1, hkeep hgr hrow (by omega) hs.2.2⟩) (fun s A B row hs hgr hrow => hIx s A B row hs hgr (hup hrow)) ?_ ⟨hI1, hr1, hd1⟩).mono ?_
    · rintro pre x W ⟨hi, hr, hd⟩
      have hlt : w.heap.size + 1 < W.heap.size := (Array.getElem?_eq_some_iff.1 hr).1
      have hy : (Instr.yield (w.heap.size + 1) (kencs x)).run Try.prog W = .ok (.round (w.heap.size + 1) fn ((ps.zip (kencs x)).foldl (fun t (p, v) => t.setIfInBounds p v) a.tmps) assign body) W := by
        rw [hmk] at hr
        exact run_yield hr (by rw [hps]; rfl)
      refine ⟨fn, _, assign, body, hy, roundIn_of_wpIn hfn (hassign _ pre x W _ (by omega) hi ?_)⟩
      clear hy
      intro a' Wa hka hpa hia hax
      have hra : Wa.heap[w.heap.size + 1]? = some (mk .ready none) := hka.same _ _ (by omega) hr (hmc _ _)
      have hda := hka.same _ _ (Nat.le_refl _) hd rfl
      have hla : w.heap.size + 1 < Wa.heap.size := (Array.getElem?_eq_some_iff.1 hra).1
      obtain ⟨Wb, hWb⟩ : ∃ Wb, Wa.putObj (w.heap.size + 1) (mk .busy none) = Wb := ⟨_, rfl⟩
      have hrb : Wb.heap[w.heap.size + 1]? = some (mk .busy none) := by rw [← hWb]; exact World.putObj_heap_same hla
      have hdb : Wb.heap[w.heap.size]? = some (.deferred (some [])) := by rw [← hWb]; exact (World.putObj_heap_other (by omega)).trans hda
      have hpb : KpW n₀ (w.heap.size + 2) Wa Wb := by rw [← hWb]; exact KpW.put Wa _ (by omega) (by omega) hla
      have hib : I pre Wb := by rw [← hWb]; exact hI.putObj _ hia (by omega) hra (hmc _ _)
      have hxb : Ax x a' Wb := by rw [← hWb]; exact (hAx x a').putObj (s := ()) _ hax (by omega) hra (hmc _ _)
      have hbe : (Instr.beginRound (w.heap.size + 1)).run Try.prog Wa = .ok () Wb := by
        rw [hmk] at hra
        have := run_beginRound (P := Try.prog) hra rfl
        rw [this, ← hWb, hmk]
      refine ⟨Wb, hbe, wpIn_mono (hbody _ pre x a' Wb (by have := (Array.getElem?_eq_some_iff.1 hrb).1; omega) hib hxb) ?_⟩
      have hfin : ∀ (jump : Option Code) (Wc : World), KeepsFrom w.heap.size Wb Wc → ∃ We, (Instr.endRound (w.heap.size + 1) jump).run Try.prog Wc = .ok (.bool jump.isNone) We ∧ We = Wc.putObj (w.heap.size + 1) (mk (if jump.isNone then .ready else .done) jump) ∧ Wc.heap[w.heap.size + 1]? = some (mk .busy none) ∧ We.heap[w.heap.size + 1]? = some (mk (if jump.isNone then .ready else .done) jump) ∧ We.heap[w.heap.size]? = some (.deferred (some [])) := fun jump Wc hkc => by
        have hrc := hkc.same _ _ (by omega) hrb (hmc _ _)
        have hdc := hkc.same _ _ (Nat.le_refl _) hdb rfl
        have hlc := (Array.getElem?_eq_some_iff.1 hrc).1
        refine ⟨_, ?_, rfl, hrc, World.putObj_heap_same hlc, (World.putObj_heap_other (by omega)).trans hdc⟩
        have hrc' := hrc
        rw [hmk] at hrc'
        rw [run_endRound (P := Try.prog) jump hrc', hmk]
      rintro e a3 Wc hp
      cases e with
      | normal =>
        obtain ⟨hkc, hpc, hic⟩ := hp
        obtain ⟨We, he, rfl, hrc, hre, hde⟩ := hfin none Wc hkc
        have hpe : KpW n₀ w1.heap.size W (Wc.putObj (w.heap.size + 1) (mk (if (none : Option Code).isNone then .ready else .done) none)) := by
          rw [hs1]
          exact hpa.trans (hpb.trans (hpc.trans (KpW.put Wc _ (by omega) (by omega) (Array.getElem?_eq_some_iff.1 hrc).1)))
        exact ⟨_, _, he, .inl ⟨rfl, hpe, hI.putObj _ hic (by omega) hrc (hmc _ _), hre, hde⟩⟩
      | ret =>
        obtain ⟨hkc, hpc, hic⟩ := hp
        obtain ⟨We, he, rfl, hrc, hre, hde⟩ := hfin (some .ret) Wc hkc
        have hpe : KpH w1.heap.size W (Wc.putObj (w.heap.size + 1) (mk (if (some Code.ret).isNone then .ready else .done) (some .ret))) := by
          rw [hs1]
          exact hpa.h.trans (hpb.h.trans (hpc.trans (KpH.put Wc _ (by omega))))
        exact ⟨_, _, he, .inr ⟨rfl, hpe, hIx.putObj _ hic (by omega) hrc (hmc _ _)⟩⟩
      | exit id => exact hp.elim
      | goto t => exact hp.elim
      | panic ch => exact hp.elim
      | outgrown => exact hp.elim
    · rintro e W2 ⟨⟨v, rfl⟩, (⟨hi, hr, hd⟩ | ⟨pre, hpre, hx⟩)⟩
      · refine ⟨none, W2.putObj (w.heap.size + 1) (mk .exhausted none), ?_, hdone _ _ (Nat.le_refl _) (hI.putObj _ hi (by omega) hr (hmc _ _)) ((World.putObj_heap_other (by omega)).trans hd)⟩
        rw [hmk] at hr
        rw [run_endLoop (P := Try.prog) hr (by simp), hmk]
      · exact (hstop pre W2 hpre hx).elim
/-- The same, where the frame of a round is told by the entry's block. -/
theorem rangeOwnF (F : Ke → Nat → Act) {n n₀ : Nat} {g : Operand} {ps : Array Tmp} {assign body : Code} {Q : Exit → Act → World → Prop} {a : Act} {w : World} {gf : Nat} {lb : Array Value} {L : List Ke}
    (hg : a.eval g = .func (.func gf) #[] lb) (eg : ∀ args w, (callFunc gf args).run Try.prog w = .ok (.enter gf args) w) (hn₀ : n₀ ≤ w.heap.size) (hseq : SeqOwn n₀ (n - 1) gf lb L w) (hps : ps.size = 2)
    (I Ix : List Ke → World → Prop) (hI : OwnFrom w.heap.size I) (hIx : OwnFrom w.heap.size Ix) (h0 : I [] w)
    (hassign : ∀ (l : Nat) (x : Ke) (W : World) (K : Act → World → Prop), (∀ a', a' = F x W.heap.size → K a' (W.alloc (.cells #[.int .i64 x.e.seg, .int .i64 x.e.pos, .int .i64 x.e.size, .int .i64 x.e.off, .int .i64 x.e.time, .bool x.e.tomb] 26))) →
      assign.wpIn (Fence.wide.inRound l) (n - 1 - 1) Try.prog (Exit.then K (fun _ _ _ => False)) { tmps := (ps.zip (kencs x)).foldl (fun t (p, v) => t.setIfInBounds p v) a.tmps, defers := [] } W)
    (hbody : ∀ (l : Nat) (pre : List Ke) (x : Ke) (Bx : Nat) (W : World), w.heap.size + 2 ≤ W.heap.size → I pre W → EnAt W Bx x.e → body.wpIn (Fence.wide.inRound l) (n - 1 - 1) Try.prog (postOwn n₀ w.heap.size I Ix (pre ++ [x]) W) (F x Bx) W)
    (hdone : ∀ (D : Nat) (W : World), w.heap.size ≤ D → I L W → W.heap[D]? = some (.deferred (some [])) → Q .normal { a with defers := { target := .collected D, args := #[] } :: a.defers } W)
    (hstop : ∀ (pre : List Ke) (W : World), pre <+: L → Ix pre W → False) : (Code.rangeFunc g ps assign body).wpIn Fence.wide n Try.prog Q a w := by
  refine rangeOwn hg eg hn₀ hseq hps I Ix hI hIx h0 (fun x a' V => ∃ Bx, EnAt V Bx x.e ∧ a' = F x Bx)
    (fun x a' s A A' row ⟨Bx, ⟨k0, k1, k2, k3, k4, k5⟩, h2⟩ hg hr => ⟨Bx, ⟨cell_kept k0 hg (fun k e => (hr k e).2), cell_kept k1 hg (fun k e => (hr k e).2), cell_kept k2 hg (fun k e => (hr k e).2), cell_kept k3 hg (fun k e => (hr k e).2), cell_kept k4 hg (fun k e => (hr k e).2), cell_kept k5 hg (fun k e => (hr k e).2)⟩, h2⟩) ?_ ?_ hdone hstop
  · intro l pre x W K hsz hi hK
    refine hassign l x W K fun a' ha => hK _ _ ((KeepsOthers.alloc _ _).from _) (KpW.grown (World.grownBy_alloc W _ none) (by omega) (fun k e => by cases e)) (hI.alloc _ hi) ⟨W.heap.size, EnAt.new W x.e, ha⟩
  · rintro l pre x a' W hsz hi ⟨Bx, hen, rfl⟩
    exact hbody l pre x Bx W hsz hi hen
/-- .. and of a loop over All. -/
theorem rangeAllF (F : Ke → Nat → Act) {n n₀ : Nat} {g : Operand} {ps : Array Tmp} {assign body : Code} {Q : Exit → Act → World → Prop} {a : Act} {w : World} {gf : Nat} {lb : Array Value} {L : List Ke} (h1 : 1 ≤ n)
    (hg : a.eval g = .func (.func gf) #[] lb) (eg : ∀ args w, (callFunc gf args).run Try.prog w = .ok (.enter gf args) w) (hn₀ : n₀ ≤ w.heap.size)
    (hseq : SeqStopsK Fence.wide (n - 1) Try.prog gf lb kencs (Below n₀) (fun ys => ys = L) (fun pre => pre <+: L) L.length w) (hps : ∀ x, (kencs x).size = ps.size)
    (I Ix : List Ke → World → Prop) (hI : OwnFrom w.heap.size I) (hIx : OwnFrom w.heap.size Ix) (h0 : I [] w)
    (hassign : ∀ (l : Nat) (x : Ke) (W : World) (K : Act → World → Prop), (∀ a', a' = F x W.heap.size → K a' (W.alloc (.cells #[.int .i64 x.e.seg, .int .i64 x.e.pos, .int .i64 x.e.size, .int .i64 x.e.off, .int .i64 x.e.time, .bool x.e.tomb] 26))) →
      assign.wpIn (Fence.wide.inRound l) (n - 1 - 1) Try.prog (Exit.then K (fun _ _ _ => False)) { tmps := (ps.zip (kencs x)).foldl (fun t (p, v) => t.setIfInBounds p v) a.tmps, defers := [] } W)
    (hbody : ∀ (l : Nat) (pre : List Ke) (x : Ke) (Bx : Nat) (W : World), I pre W → n₀ ≤ W.heap.size → EnAt W Bx x.e → body.wpIn (Fence.wide.inRound l) (n - 1 - 1) Try.prog (ownPostG w.heap.size (Below n₀) I (fun c xs W => c = .ret ∧ Ix xs W) (pre ++ [x]) W) (F x Bx) W)
    (hsz : ∀ s W, I s W → n₀ ≤ W.heap.size)
    (hdone : ∀ (D : Nat) (W : World), w.heap.size ≤ D → I L W → W.heap[D]? = some (.deferred (some [])) → Q .normal { a with defers := { target := .collected D, args := #[] } :: a.defers } W)
    (hstop : ∀ (pre : List Ke) (W : World), pre <+: L → Ix pre W → False) : (Code.rangeFunc g ps assign body).wpIn Fence.wide n Try.prog Q a w := by
  refine wpIn_rangeFunc_ownH rfl h1 hg trivial eg hseq belowK_t (belowK_b hn₀) (Below.refl _ _) hps I (fun c xs W => c = .ret ∧ Ix xs W) hI (fun c s A A' row h hg hr => ⟨h.1, hIx s A A' row h.2 hg hr⟩) h0 (fun x a' V => ∃ Bx, EnAt V Bx x.e ∧ a' = F x Bx)
    (fun x a' s A A' row ⟨Bx, ⟨k0, k1, k2, k3, k4, k5⟩, h2⟩ hg hr => ⟨Bx, ⟨cell_kept k0 hg (fun k e => (hr k e).2), cell_kept k1 hg (fun k e => (hr k e).2), cell_kept k2 hg (fun k e => (hr k e).2), cell_kept k3 hg (fun k e => (hr k e).2), cell_kept k4 hg (fun k e => (hr k e).2), cell_kept k5 hg (fun k e => (hr k e).2)⟩, h2⟩) ?_ ?_ ?_ ?_
  · intro l pre x W K hi hK
    refine hassign l x W K fun a' ha => hK _ _ ((KeepsOthers.alloc _ _).from _) ((Below.refl _ W).alloc (hsz _ _ hi) _) (hI.alloc _ hi) ⟨W.heap.size, EnAt.new W x.e, ha⟩
  · rintro l pre x a' W - - hi ⟨Bx, hen, rfl⟩ -
    exact hbody l pre x Bx W hi (hsz _ _ hi) hen
  · rintro D xs W hD rfl hi hK
    exact hdone D W hD hi hK
  · rintro D c pre W hD hpre ⟨rfl, hx⟩ hK
    exact (hstop pre W hpre hx).elim
end Go.Proofs.Ythfnbcicpcbgjaa
