import Derived.Test.YtjhbaplnkigifaaQk12
import Derived.RangeFuncNested
/-! keydir: Prefix, which goes through All and hands each key on; a loop over such an iterator. -/
namespace Go.Proofs.Ytjhbaplnkigifaa
open Go.RowKit Go.Shelf Plain
attribute [local go_sem] Oper.semAt_some
set_option linter.unusedVariables false
set_option linter.unusedSimpArgs false

/-- What a round keeps: all below n₀; and all from n₁ on. -/
structure KpW (n₀ n₁ : Nat) (A B : World) : Prop where
  low : Below n₀ A B
  high : ∀ k, n₁ ≤ k → k < A.heap.size → B.heap[k]? = A.heap[k]?
theorem KpW.trans {n₀ n₁ : Nat} {A B C : World} (h : KpW n₀ n₁ A B) (k : KpW n₀ n₁ B C) : KpW n₀ n₁ A C :=
  ⟨h.low.trans k.low, fun j h1 h2 => (k.high j h1 (by
    have e := h.high j h1 h2
    rw [Array.getElem?_eq_getElem h2] at e
    exact (Array.getElem?_eq_some_iff.1 e).1)).trans (h.high j h1 h2)⟩
theorem KpW.put {n₀ n₁ : Nat} (W : World) {l : Nat} (o : Obj) (h0 : n₀ ≤ l) (h1 : l < n₁) (hl : l < W.heap.size) : KpW n₀ n₁ W (W.putObj l o) :=
  ⟨(Below.refl n₀ W).grown (grownBy_putObj' W l o) (by omega) (fun k e => by cases e; exact h0), fun k hk _ => World.putObj_heap_other (by omega)⟩
theorem KpW.grown {n₀ n₁ : Nat} {W W' : World} {row : Option Nat} (hg : W.grownBy W' row) (hs : n₀ ≤ W.heap.size) (hr : ∀ k, row = some k → n₀ ≤ k ∧ k < n₁) : KpW n₀ n₁ W W' :=
  ⟨(Below.refl n₀ W).grown hg hs (fun k e => (hr k e).1), fun k hk hl => hg.block k hl (fun e => by have := (hr k e.symm).2; omega)⟩

/-- What a round keeps that ends the loop: all from n₁ on. -/
structure KpH (n₁ : Nat) (A B : World) : Prop where
  size : A.heap.size ≤ B.heap.size
  high : ∀ k, n₁ ≤ k → k < A.heap.size → B.heap[k]? = A.heap[k]?
theorem KpW.h {n₀ n₁ : Nat} {A B : World} (h : KpW n₀ n₁ A B) : KpH n₁ A B := ⟨h.low.size, h.high⟩
theorem KpH.trans {n₁ : Nat} {A B C : World} (h : KpH n₁ A B) (k : KpH n₁ B C) : KpH n₁ A C :=
  ⟨Nat.le_trans h.size k.size, fun j h1 h2 => (k.high j h1 (Nat.lt_of_lt_of_le h2 h.size)).trans (h.high j h1 h2)⟩
theorem KpH.put {n₁ : Nat} (W : World) {l : Nat} (o : Obj) (h1 : l < n₁) : KpH n₁ W (W.putObj l o) :=
  ⟨(grownBy_putObj' W l o).size, fun k hk _ => World.putObj_heap_other (by omega)⟩
theorem KpH.grown {n₁ : Nat} {W W' : World} {row : Option Nat} (hg : W.grownBy W' row) (hr : ∀ k, row = some k → k < n₁) : KpH n₁ W W' :=
  ⟨hg.size, fun k hk hl => hg.block k hl (fun e => by have := hr k e.symm; omega)⟩

/-- An iterator that gives the keys L, to rounds of which each keeps all that lay below n₀ and all that was made since the iterator was called. -/
def SeqOwn (n₀ n gf : Nat) (lb : Array Value) (L : List Ke) (w : World) : Prop :=
  ∀ (l : Nat) (J Jx : List Ke → World → Prop) (W : World), Below w.heap.size w W → OwnFrom W.heap.size J → OwnFrom W.heap.size Jx →
    (∀ pre x W1, J pre W1 → YieldAt Fence.wide (n - 1) Try.prog l (kencs x) W1 fun e W' => (e = .returned (.bool true) ∧ KpW n₀ W.heap.size W1 W' ∧ J (pre ++ [x]) W') ∨ (e = .returned (.bool false) ∧ KpH W.heap.size W1 W' ∧ Jx (pre ++ [x]) W')) →
    J [] W → CallsIn Fence.wide n Try.prog gf (#[.func (.yield l) #[] #[]] ++ lb) W fun e W' => (∃ v, e = .returned v) ∧ (J L W' ∨ ∃ pre, pre <+: L ∧ Jx pre W')

/-- How a round is left. -/
def postOwn (n₀ B : Nat) (I Ix : List Ke → World → Prop) (xs : List Ke) (W : World) : Exit → Act → World → Prop
  | .normal, _, W' => KeepsFrom B W W' ∧ KpW n₀ (B + 2) W W' ∧ I xs W'
  | .ret, _, W' => KeepsFrom B W W' ∧ KpH (B + 2) W W' ∧ Ix xs W'
  | _, _, _ => False

theorem own_alloc2 {I : List Ke → World → Prop} {B : Nat} (hI : OwnFrom B I) {s : List Ke} {w : World} (h : I s w) (o o' : Obj) : I s ((w.alloc o).alloc o') := hI.alloc _ (hI.alloc _ h)

/-- A loop over such an iterator, whose rounds never end it before its time. -/
theorem rangeOwn {n n₀ : Nat} {g : Operand} {ps : Array Tmp} {assign body : Code} {Q : Exit → Act → World → Prop} {a : Act} {w : World} {gf : Nat} {lb : Array Value} {L : List Ke}
    (hg : a.eval g = .func (.func gf) #[] lb) (eg : ∀ args w, (callFunc gf args).run Try.prog w = .ok (.enter gf args) w) (hn₀ : n₀ ≤ w.heap.size) (hseq : SeqOwn n₀ (n - 1) gf lb L w) (hps : ps.size = 2)
    (I Ix : List Ke → World → Prop) (hI : OwnFrom w.heap.size I) (hIx : OwnFrom w.heap.size Ix) (h0 : I [] w) (Ax : Ke → Act → World → Prop) (hAx : ∀ x a', OwnFrom w.heap.size (fun (_ : Unit) W => Ax x a' W))
    (hassign : ∀ (l : Nat) (pre : List Ke) (x : Ke) (W : World) (K : Act → World → Prop), w.heap.size + 2 ≤ W.heap.size → I pre W → (∀ a' W', KeepsFrom w.heap.size W W' → KpW n₀ (w.heap.size + 2) W W' → I pre W' → Ax x a' W' → K a' W') →
      assign.wpIn (Fence.wide.inRound l) (n - 1 - 1) Try.prog (Exit.then K (fun _ _ _ => False)) { tmps := (ps.zip (kencs x)).foldl (fun t (p, v) => t.setIfInBounds p v) a.tmps, defers := [] } W)
    (hbody : ∀ (l : Nat) (pre : List Ke) (x : Ke) (a' : Act) (W : World), w.heap.size + 2 ≤ W.heap.size → I pre W → Ax x a' W → body.wpIn (Fence.wide.inRound l) (n - 1 - 1) Try.prog (postOwn n₀ w.heap.size I Ix (pre ++ [x]) W) a' W)
    (hdone : ∀ (D : Nat) (W : World), w.heap.size ≤ D → I L W → W.heap[D]? = some (.deferred (some [])) → Q .normal { a with defers := { target := .collected D, args := #[] } :: a.defers } W)
    (hstop : ∀ (pre : List Ke) (W : World), pre <+: L → Ix pre W → False) : (Code.rangeFunc g ps assign body).wpIn Fence.wide n Try.prog Q a w := by
  refine wpIn_rangeFunc fun fn hfn => ?_
  obtain ⟨mk, hmk⟩ : ∃ mk : LoopState → Option Code → Obj, mk = fun st pe => .loop { state := st, pending := pe, fn, tmps := a.tmps, params := ps, assign, body, defers := w.heap.size } := ⟨_, rfl⟩
  have hmc : ∀ st pe, (mk st pe).isCells = false := fun st pe => by rw [hmk]; rfl
  obtain ⟨w1, hw1⟩ : ∃ w1, (w.alloc (.deferred (some []))).alloc (mk .ready none) = w1 := ⟨_, rfl⟩
  have hs1 : w1.heap.size = w.heap.size + 2 := by rw [← hw1]; simp
  have hr1 : w1.heap[w.heap.size + 1]? = some (mk .ready none) := by
    rw [← hw1]
    have := World.alloc_heap_new (w.alloc (.deferred (some []))) (mk .ready none)
    rwa [World.size_alloc] at this
  have hd1 : w1.heap[w.heap.size]? = some (.deferred (some [])) := by
    rw [← hw1]
    exact (Below.heap_alloc _ _ _ (by simp)).trans (World.alloc_heap_new w _)
  have hb1 : Below w.heap.size w w1 := by rw [← hw1]; exact ((Below.refl _ _).alloc (Nat.le_refl _) _).alloc (by simp) _
  have hI1 : I [] w1 := by rw [← hw1]; exact own_alloc2 hI h0 _ _
  have hkeep : ∀ {A B : World} {row : Option Nat} {k : Nat} {o : Obj}, A.grownBy B row → (∀ r, row = some r → w1.heap.size ≤ r ∧ ∃ o : Obj, A.heap[r]? = some o ∧ o.isCells = false) → k < w1.heap.size → A.heap[k]? = some o → B.heap[k]? = some o := fun hgr hrow hk ho =>
    (hgr.block _ (Array.getElem?_eq_some_iff.1 ho).1 (fun e => by have := (hrow _ e.symm).1; omega)).trans ho
  have hup : ∀ {row : Option Nat} {A : World}, (∀ r, row = some r → w1.heap.size ≤ r ∧ ∃ o : Obj, A.heap[r]? = some o ∧ o.isCells = false) → ∀ r, row = some r → w.heap.size ≤ r ∧ ∃ o : Obj, A.heap[r]? = some o ∧ o.isCells = false := fun hrow r e => ⟨by have := (hrow r e).1; omega, (hrow r e).2⟩
  refine ⟨w.heap.size + 1, [{ target := .collected w.heap.size, args := #[] }], w1, { target := .fn (.func gf) lb, args := #[.func (.yield (w.heap.size + 1)) #[] #[]] }, w1, gf, #[.func (.yield (w.heap.size + 1)) #[] #[]] ++ lb, w1, ?_, ?_, ?_, ?_, ?_, ?_⟩
  · have := run_enterLoop_outer (P := Try.prog) (w := w) fn a.tmps ps assign body
    rw [← hw1, hmk]
    exact this
  · simp only [resolve, hg]
    simp [go_sem]
  · exact fun f' _ => trivial
  · simp [invoke, go_sem, eg]
  · exact fun h => by cases h
  · refine (hseq (w.heap.size + 1) (fun pre W => I pre W ∧ W.heap[w.heap.size + 1]? = some (mk .ready none) ∧ W.heap[w.heap.size]? = some (.deferred (some [])))
      (fun pre W => Ix pre W) w1 hb1 (fun s A B row hs hgr hrow => ⟨hI s A B row hs.1 hgr (hup hrow), hkeep hgr hrow (by omega) hs.2.1, hkeep hgr hrow (by omega) hs.2.2⟩) (fun s A B row hs hgr hrow => hIx s A B row hs hgr (hup hrow)) ?_ ⟨hI1, hr1, hd1⟩).mono ?_
    · rintro pre x W ⟨hi, hr, hd⟩
      have hlt : w.heap.size + 1 < W.heap.size := (Array.getElem?_eq_some_iff.1 hr).1
      have hy : (Instr.yield (w.heap.size + 1) (kencs x)).run Try.prog W = .ok (.round (w.heap.size + 1) fn ((ps.zip (kencs x)).foldl (fun t (p, v) => t.setIfInBounds p v) a.tmps) assign body) W := by
        rw [hmk] at hr
        exact run_yield hr (by rw [hps]; rfl)
      refine ⟨fn, _, assign, body, hy, roundIn_of_wpIn hfn (hassign _ pre x W _ (by omega) hi ?_)⟩
      clear hy
      intro a' Wa hka hpa hia hax
      have hra : Wa.heap[w.heap.size + 1]? = some (mk .ready none) := hka.same _ _ (by omega) hr (hmc _ _)
      have hda := hka.same _ _ (Nat.le_refl _) hd rfl
      have hla : w.heap.size + 1 < Wa.heap.size := (Array.getElem?_eq_some_iff.1 hra).1
      obtain ⟨Wb, hWb⟩ : ∃ Wb, Wa.putObj (w.heap.size + 1) (mk .busy none) = Wb := ⟨_, rfl⟩
      have hrb : Wb.heap[w.heap.size + 1]? = some (mk .busy none) := by rw [← hWb]; exact World.putObj_heap_same hla
      have hdb : Wb.heap[w.heap.size]? = some (.deferred (some [])) := by rw [← hWb]; exact (World.putObj_heap_other (by omega)).trans hda
      have hpb : KpW n₀ (w.heap.size + 2) Wa Wb := by rw [← hWb]; exact KpW.put Wa _ (by omega) (by omega) hla
      have hib : I pre Wb := by rw [← hWb]; exact hI.putObj _ hia (by omega) hra (hmc _ _)
      have hxb : Ax x a' Wb := by rw [← hWb]; exact (hAx x a').putObj (s := ()) _ hax (by omega) hra (hmc _ _)
      have hbe : (Instr.beginRound (w.heap.size + 1)).run Try.prog Wa = .ok () Wb := by
        rw [hmk] at hra
        have := run_beginRound (P := Try.prog) hra rfl
        rw [this, ← hWb, hmk]
      refine ⟨Wb, hbe, wpIn_mono (hbody _ pre x a' Wb (by have := (Array.getElem?_eq_some_iff.1 hrb).1; omega) hib hxb) ?_⟩
      have hfin : ∀ (jump : Option Code) (Wc : World), KeepsFrom w.heap.size Wb Wc → ∃ We, (Instr.endRound (w.heap.size + 1) jump).run Try.prog Wc = .ok (.bool jump.isNone) We ∧ We = Wc.putObj (w.heap.size + 1) (mk (if jump.isNone then .ready else .done) jump) ∧ Wc.heap[w.heap.size + 1]? = some (mk .busy none) ∧ We.heap[w.heap.size + 1]? = some (mk (if jump.isNone then .ready else .done) jump) ∧ We.heap[w.heap.size]? = some (.deferred (some [])) := fun jump Wc hkc => by
        have hrc := hkc.same _ _ (by omega) hrb (hmc _ _)
        have hdc := hkc.same _ _ (Nat.le_refl _) hdb rfl
        have hlc := (Array.getElem?_eq_some_iff.1 hrc).1
        refine ⟨_, ?_, rfl, hrc, World.putObj_heap_same hlc, (World.putObj_heap_other (by omega)).trans hdc⟩
        have hrc' := hrc
        rw [hmk] at hrc'
        rw [run_endRound (P := Try.prog) jump hrc', hmk]
      rintro e a3 Wc hp
      cases e with
      | normal =>
        obtain ⟨hkc, hpc, hic⟩ := hp
        obtain ⟨We, he, rfl, hrc, hre, hde⟩ := hfin none Wc hkc
        have hpe : KpW n₀ w1.heap.size W (Wc.putObj (w.heap.size + 1) (mk (if (none : Option Code).isNone then .ready else .done) none)) := by
          rw [hs1]
          exact hpa.trans (hpb.trans (hpc.trans (KpW.put Wc _ (by omega) (by omega) (Array.getElem?_eq_some_iff.1 hrc).1)))
        exact ⟨_, _, he, .inl ⟨rfl, hpe, hI.putObj _ hic (by omega) hrc (hmc _ _), hre, hde⟩⟩
      | ret =>
        obtain ⟨hkc, hpc, hic⟩ := hp
        obtain ⟨We, he, rfl, hrc, hre, hde⟩ := hfin (some .ret) Wc hkc
        have hpe : KpH w1.heap.size W (Wc.putObj (w.heap.size + 1) (mk (if (some Code.ret).isNone then .ready else .done) (some .ret))) := by
          rw [hs1]
          exact hpa.h.trans (hpb.h.trans (hpc.trans (KpH.put Wc _ (by omega))))
        exact ⟨_, _, he, .inr ⟨rfl, hpe, hIx.putObj _ hic (by omega) hrc (hmc _ _)⟩⟩
      | exit id => exact hp.elim
      | goto t => exact hp.elim
      | panic ch => exact hp.elim
      | outgrown => exact hp.elim
    · rintro e W2 ⟨⟨v, rfl⟩, (⟨hi, hr, hd⟩ | ⟨pre, hpre, hx⟩)⟩
      · refine ⟨none, W2.putObj (w.heap.size + 1) (mk .exhausted none), ?_, hdone _ _ (Nat.le_refl _) (hI.putObj _ hi (by omega) hr (hmc _ _)) ((World.putObj_heap_other (by omega)).trans hd)⟩
        rw [hmk] at hr
        rw [run_endLoop (P := Try.prog) hr (by simp), hmk]
      · exact (hstop pre W2 hpre hx).elim
/-- The same, where the frame of a round is told by the entry's block. -/
theorem rangeOwnF (F : Ke → Nat → Act) {n n₀ : Nat} {g : Operand} {ps : Array Tmp} {assign body : Code} {Q : Exit → Act → World → Prop} {a : Act} {w : World} {gf : Nat} {lb : Array Value} {L : List Ke}
    (hg : a.eval g = .func (.func gf) #[] lb) (eg : ∀ args w, (callFunc gf args).run Try.prog w = .ok (.enter gf args) w) (hn₀ : n₀ ≤ w.heap.size) (hseq : SeqOwn n₀ (n - 1) gf lb L w) (hps : ps.size = 2)
    (I Ix : List Ke → World → Prop) (hI : OwnFrom w.heap.size I) (hIx : OwnFrom w.heap.size Ix) (h0 : I [] w)
    (hassign : ∀ (l : Nat) (x : Ke) (W : World) (K : Act → World → Prop), (∀ a', a' = F x W.heap.size → K a' (W.alloc (.cells #[.int .i64 x.e.seg, .int .i64 x.e.pos, .int .i64 x.e.size, .int .i64 x.e.off, .int .i64 x.e.time, .bool x.e.tomb] 38))) →
      assign.wpIn (Fence.wide.inRound l) (n - 1 - 1) Try.prog (Exit.then K (fun _ _ _ => False)) { tmps := (ps.zip (kencs x)).foldl (fun t (p, v) => t.setIfInBounds p v) a.tmps, defers := [] } W)
    (hbody : ∀ (l : Nat) (pre : List Ke) (x : Ke) (Bx : Nat) (W : World), w.heap.size + 2 ≤ W.heap.size → I pre W → EnAt W Bx x.e → body.wpIn (Fence.wide.inRound l) (n - 1 - 1) Try.prog (postOwn n₀ w.heap.size I Ix (pre ++ [x]) W) (F x Bx) W)
    (hdone : ∀ (D : Nat) (W : World), w.heap.size ≤ D → I L W → W.heap[D]? = some (.deferred (some [])) → Q .normal { a with defers := { target := .collected D, args := #[] } :: a.defers } W)
    (hstop : ∀ (pre : List Ke) (W : World), pre <+: L → Ix pre W → False) : (Code.rangeFunc g ps assign body).wpIn Fence.wide n Try.prog Q a w := by
  refine rangeOwn hg eg hn₀ hseq hps I Ix hI hIx h0 (fun x a' V => ∃ Bx, EnAt V Bx x.e ∧ a' = F x Bx)
    (fun x a' s A A' row ⟨Bx, ⟨k0, k1, k2, k3, k4, k5⟩, h2⟩ hg hr => ⟨Bx, ⟨cell_kept k0 hg (fun k e => (hr k e).2), cell_kept k1 hg (fun k e => (hr k e).2), cell_kept k2 hg (fun k e => (hr k e).2), cell_kept k3 hg (fun k e => (hr k e).2), cell_kept k4 hg (fun k e => (hr k e).2), cell_kept k5 hg (fun k e => (hr k e).2)⟩, h2⟩) ?_ ?_ hdone hstop
  · intro l pre x W K hsz hi hK
    refine hassign l x W K fun a' ha => hK _ _ ((KeepsOthers.alloc _ _).from _) (KpW.grown (World.grownBy_alloc W _ none) (by omega) (fun k e => by cases e)) (hI.alloc _ hi) ⟨W.heap.size, EnAt.new W x.e, ha⟩
  · rintro l pre x a' W hsz hi ⟨Bx, hen, rfl⟩
    exact hbody l pre x Bx W hsz hi hen
/-- .. and of a loop over All. -/
theorem rangeAllF (F : Ke → Nat → Act) {n n₀ : Nat} {g : Operand} {ps : Array Tmp} {assign body : Code} {Q : Exit → Act → World → Prop} {a : Act} {w : World} {gf : Nat} {lb : Array Value} {L : List Ke} (h1 : 1 ≤ n)
    (hg : a.eval g = .func (.func gf) #[] lb) (eg : ∀ args w, (callFunc gf args).run Try.prog w = .ok (.enter gf args) w) (hn₀ : n₀ ≤ w.heap.size)
    (hseq : SeqStopsK Fence.wide (n - 1) Try.prog gf lb kencs (Below n₀) (fun ys => ys = L) (fun pre => pre <+: L) L.length w) (hps : ∀ x, (kencs x).size = ps.size)
    (I Ix : List Ke → World → Prop) (hI : OwnFrom w.heap.size I) (hIx : OwnFrom w.heap.size Ix) (h0 : I [] w)
    (hassign : ∀ (l : Nat) (x : Ke) (W : World) (K : Act → World → Prop), (∀ a', a' = F x W.heap.size → K a' (W.alloc (.cells #[.int .i64 x.e.seg, .int .i64 x.e.pos, .int .i64 x.e.size, .int .i64 x.e.off, .int .i64 x.e.time, .bool x.e.tomb] 38))) →
      assign.wpIn (Fence.wide.inRound l) (n - 1 - 1) Try.prog (Exit.then K (fun _ _ _ => False)) { tmps := (ps.zip (kencs x)).foldl (fun t (p, v) => t.setIfInBounds p v) a.tmps, defers := [] } W)
    (hbody : ∀ (l : Nat) (pre : List Ke) (x : Ke) (Bx : Nat) (W : World), I pre W → n₀ ≤ W.heap.size → EnAt W Bx x.e → body.wpIn (Fence.wide.inRound l) (n - 1 - 1) Try.prog (ownPostG w.heap.size (Below n₀) I (fun c xs W => c = .ret ∧ Ix xs W) (pre ++ [x]) W) (F x Bx) W)
    (hsz : ∀ s W, I s W → n₀ ≤ W.heap.size)
    (hdone : ∀ (D : Nat) (W : World), w.heap.size ≤ D → I L W → W.heap[D]? = some (.deferred (some [])) → Q .normal { a with defers := { target := .collected D, args := #[] } :: a.defers } W)
    (hstop : ∀ (pre : List Ke) (W : World), pre <+: L → Ix pre W → False) : (Code.rangeFunc g ps assign body).wpIn Fence.wide n Try.prog Q a w := by
  refine wpIn_rangeFunc_ownH rfl h1 hg trivial eg hseq belowK_t (belowK_b hn₀) (Below.refl _ _) hps I (fun c xs W => c = .ret ∧ Ix xs W) hI (fun c s A A' row h hg hr => ⟨h.1, hIx s A A' row h.2 hg hr⟩) h0 (fun x a' V => ∃ Bx, EnAt V Bx x.e ∧ a' = F x Bx)
    (fun x a' s A A' row ⟨Bx, ⟨k0, k1, k2, k3, k4, k5⟩, h2⟩ hg hr => ⟨Bx, ⟨cell_kept k0 hg (fun k e => (hr k e).2), cell_kept k1 hg (fun k e => (hr k e).2), cell_kept k2 hg (fun k e => (hr k e).2), cell_kept k3 hg (fun k e => (hr k e).2), cell_kept k4 hg (fun k e => (hr k e).2), cell_kept k5 hg (fun k e => (hr k e).2)⟩, h2⟩) ?_ ?_ ?_ ?_
  · intro l pre x W K hi hK
    refine hassign l x W K fun a' ha => hK _ _ ((KeepsOthers.alloc _ _).from _) ((Below.refl _ W).alloc (hsz _ _ hi) _) (hI.alloc _ hi) ⟨W.heap.size, EnAt.new W x.e, ha⟩
  · rintro l pre x a' W - - hi ⟨Bx, hen, rfl⟩ -
    exact hbody l pre x Bx W hi (hsz _ _ hi) hen
  · rintro D xs W hD rfl hi hK
    exact hdone D W hD hi hK
  · rintro D c pre W hD hpre ⟨rfl, hx⟩ hK
    exact (hstop pre W hpre hx).elim
end Go.Proofs.Ytjhbaplnkigifaa

/-! keydir: Prefix. -/
namespace Go.Proofs.Ytjhbaplnkigifaa
open Go.RowKit Go.Shelf Plain
attribute [local go_sem] Oper.semAt_some
set_option linter.unusedVariables false
set_option linter.unusedSimpArgs false

theorem yieldIn {m m' : Nat} {l l' : Nat} {args : Array Value} {W : World} {R : Ending → World → Prop} (h : YieldAt Fence.wide m Try.prog l args W R) : YieldAt (Fence.wide.inRound l') m' Try.prog l args W R := by
  obtain ⟨fn, tmps, assign, body, hy, hR⟩ := yieldAny rfl m' h
  exact ⟨fn, tmps, assign, body, hy, hR⟩

set_option maxRecDepth 100000 in
set_option maxHeartbeats 8000000 in
theorem prefix1In {da q : Option Addr} (n n₀ d B l : Nat) (hn : 1 ≤ n) (p : ByteArray) (hp : p.size ≤ maxLen) (ks : List Ke) (J Jx : List Ke → World → Prop) (W : World) (hJ : OwnFrom W.heap.size J) (hJx : OwnFrom W.heap.size Jx)
    (hY : ∀ pre x W1, J pre W1 → YieldAt Fence.wide (n - 1) Try.prog l (kencs x) W1 fun e W' => (e = .returned (.bool true) ∧ KpW n₀ W.heap.size W1 W' ∧ J (pre ++ [x]) W') ∨ (e = .returned (.bool false) ∧ KpH W.heap.size W1 W' ∧ Jx (pre ++ [x]) W'))
    (hn₀ : n₀ ≤ W.heap.size) (hcd : W.cell? ⟨B, 0, none⟩ = some (.pointer da)) (hcp : W.cell? ⟨B + 1, 0, none⟩ = some (.string p)) (hTop : ∀ u, Below n₀ W u → Calls Try.prog 43 #[.pointer da] u fun e w' => e = .returned (.pointer q) ∧ w' = u) (hT : TreeAt (fun g => g < n₀) W d q ks) (hs : Srt ks) (h0 : J [] W) :
    CallsIn Fence.wide n Try.prog 58 #[.func (.yield l) #[] #[], .pointer (some ⟨B + 1, 0, none⟩), .pointer (some ⟨B, 0, none⟩)] W fun e W' => (∃ v, e = .returned v) ∧ (J (rngL p (aftS p) ks) W' ∨ ∃ pre, pre <+: rngL p (aftS p) ks ∧ Jx pre W') := by
  have hdd : ∀ k : Nat, (Fence.wide.depth.isSome = true → 1 ≤ k) := fun k h => by cases h
  obtain ⟨W0, hw0⟩ : ∃ W0, W.alloc (.cells #[.func (.yield l) #[] #[]] 89) = W0 := ⟨_, rfl⟩
  have hb0 : Below W.heap.size W W0 := by rw [← hw0]; exact (Below.refl _ _).alloc (Nat.le_refl _) _
  have hs0 : W0.heap.size = W.heap.size + 1 := by rw [← hw0]; simp
  have hcd0 := (hb0.cell (p := ⟨B, 0, none⟩) (cell_lt hcd)).trans hcd
  have hcp0 := (hb0.cell (p := ⟨B + 1, 0, none⟩) (cell_lt hcp)).trans hcp
  have hcy0 : W0.cell? ⟨W.heap.size, 0, none⟩ = some (.func (.yield l) #[] #[]) := by rw [← hw0]; exact World.cell?_alloc_at _ _ _ _ rfl
  have HA : Hid (CallsIn Fence.wide (n - 1) Try.prog 59 #[.string p] W0 fun e w' => e = .returned (.tuple #[.string (aftS p), .bool (aftB p)]) ∧ Below W0.heap.size W0 w') := callsIn_wide.2 (afterOf p W0 hp)
  refine callsIn_of_wp_marks Try.func58 rfl trivial ?_ rfl
  simp only [Try.ntmps58, List.size_toArray, List.length_cons, List.length_nil, Nat.reduceAdd, Nat.reduceSub, Array.replicate_succ, Array.replicate_zero, List.push_toArray, List.append_toArray, List.nil_append, List.cons_append]
  gi_wp2_with fail
  refine ⟨trivial, HA.out.mono ?_⟩
  rintro e W1 ⟨rfl, hb1⟩
  have hs01 := hb1.size
  have hcd1 := (hb1.cell (p := ⟨B, 0, none⟩) (cell_lt hcd0)).trans hcd0
  have hcp1 := (hb1.cell (p := ⟨B + 1, 0, none⟩) (cell_lt hcp0)).trans hcp0
  have hcy1 := (hb1.cell (p := ⟨W.heap.size, 0, none⟩) (cell_lt hcy0)).trans hcy0
  have hbW1 : Below W.heap.size W W1 := hb0.trans (hb1.mono hb0.size)
  clear HA
  obtain ⟨W2, hw2⟩ : ∃ W2, ((W1.alloc (.cells #[.pointer da] 23)).alloc (.cells #[.string p] 9)).alloc (.cells #[.string (aftS p)] 9) = W2 := ⟨_, rfl⟩
  have HAL : Hid (CallsIn Fence.wide (n - 1) Try.prog 49 #[.pointer da, .string p, .string (aftS p)] W1 fun e w' => e = .returned (.func (.func 56) #[] #[.pointer (some ⟨W1.heap.size, 0, none⟩), .pointer (some ⟨W1.heap.size + 1, 0, none⟩), .pointer (some ⟨W1.heap.size + 2, 0, none⟩)]) ∧ w' = W2) := by
    have h := allIn (n - 1) da p (aftS p) W1
    rw [hw2] at h
    exact h
  have hs2 : W2.heap.size = W1.heap.size + 3 := by rw [← hw2]; simp
  have hb2 : Below W1.heap.size W1 W2 := by rw [← hw2]; exact (((Below.refl _ _).alloc (Nat.le_refl _) _).alloc (by simp) _).alloc (by simp; omega) _
  have hbW2 : Below W.heap.size W W2 := hbW1.trans (hb2.mono hbW1.size)
  have hcy2 := (hb2.cell (p := ⟨W.heap.size, 0, none⟩) (cell_lt hcy1)).trans hcy1
  have hcap : CapAt W2 W1.heap.size (.pointer da) p (aftS p) := by
    rw [← hw2]
    have e1 : (W1.alloc (.cells #[.pointer da] 23)).heap.size = W1.heap.size + 1 := by simp
    have e2 : ((W1.alloc (.cells #[.pointer da] 23)).alloc (.cells #[.string p] 9)).heap.size = W1.heap.size + 2 := by simp
    have k1 : (W1.alloc (.cells #[.pointer da] 23)).cell? ⟨W1.heap.size, 0, none⟩ = some (.pointer da) := World.cell?_alloc_at _ _ _ _ rfl
    have k2 : ((W1.alloc (.cells #[.pointer da] 23)).alloc (.cells #[.string p] 9)).cell? ⟨W1.heap.size + 1, 0, none⟩ = some (.string p) := by rw [← e1]; exact World.cell?_alloc_at _ _ _ _ rfl
    refine ⟨?_, ?_, ?_⟩
    · exact cell_kept (cell_kept k1 (World.grownBy_alloc _ _ none) (fun r e => by cases e)) (World.grownBy_alloc _ _ none) (fun r e => by cases e)
    · exact cell_kept k2 (World.grownBy_alloc _ _ none) (fun r e => by cases e)
    · rw [← e2]; exact World.cell?_alloc_at _ _ _ _ rfl
  have hseq := allStops da (n - 1) q p (aftS p) hp (Nat.le_trans (aftS_len p) hp) n₀ W1.heap.size d ks W2 (by omega) (by omega) hcap (fun u hu => hTop u ((hbW2.mono hn₀).trans (hu.mono (by omega)))) (hT.kept fun g hg hg0 => hbW2.block g hg) hs
  have hJ2 : J [] W2 := hJ [] W W2 none h0 (below_grow hbW2 none) (fun r e => by cases e)
  gi_wp2_with fail
  refine ⟨trivial, HAL.out.mono ?_⟩
  rintro e wk ⟨rfl, hwk⟩
  obtain rfl := hwk.symm
  gi_wp2_with fail
  refine wpIn_rangeFunc_ownH rfl hn (gf := 56) (lb := #[.pointer (some ⟨W1.heap.size, 0, none⟩), .pointer (some ⟨W1.heap.size + 1, 0, none⟩), .pointer (some ⟨W1.heap.size + 2, 0, none⟩)]) rfl trivial (enters_of Try.func56 (by kernel_rfl) rfl) hseq belowK_t (belowK_b (by omega)) (Below.refl _ _) (fun _ => rfl)
    (fun pre u => J pre u ∧ u.cell? ⟨W.heap.size, 0, none⟩ = some (.func (.yield l) #[] #[]) ∧ W2.heap.size ≤ u.heap.size) (fun c xs u => c = .ret ∧ Jx xs u)
    (fun s A A' row h1 hg hr => ⟨hJ s A A' row h1.1 hg (fun k e => ⟨by have := (hr k e).1; omega, (hr k e).2⟩), cell_kept h1.2.1 hg (fun k e => (hr k e).2), Nat.le_trans h1.2.2 hg.size⟩)
    (fun c s A A' row h1 hg hr => ⟨h1.1, hJx s A A' row h1.2 hg (fun k e => ⟨by have := (hr k e).1; omega, (hr k e).2⟩)⟩)
    ⟨hJ2, hcy2, Nat.le_refl _⟩ (fun x a' V => ∃ Bx, EnAt V Bx x.e ∧ a' = { tmps := #[.func (.yield l) #[] #[], .pointer (some ⟨B + 1, 0, none⟩), .pointer (some ⟨B, 0, none⟩), .pointer (some ⟨W.heap.size, 0, none⟩), .string (aftS p), .bool (aftB p), .string x.key, .pointer (some ⟨Bx, 0, none⟩), .tuple #[.string (aftS p), .bool (aftB p)], .string p, .tuple #[.string (aftS p), .bool (aftB p)], .string (aftS p), .bool (aftB p), .pointer da, .string p, .string (aftS p), .func (.func 56) #[] #[.pointer (some ⟨W1.heap.size, 0, none⟩), .pointer (some ⟨W1.heap.size + 1, 0, none⟩), .pointer (some ⟨W1.heap.size + 2, 0, none⟩)], .string x.key, x.e.v, undef, undef, undef, undef, undef], defers := [] })
    (fun x a' s A A' row ⟨Bx, ⟨k0, k1, k2, k3, k4, k5⟩, h2⟩ hg hr => ⟨Bx, ⟨cell_kept k0 hg (fun k e => (hr k e).2), cell_kept k1 hg (fun k e => (hr k e).2), cell_kept k2 hg (fun k e => (hr k e).2), cell_kept k3 hg (fun k e => (hr k e).2), cell_kept k4 hg (fun k e => (hr k e).2), cell_kept k5 hg (fun k e => (hr k e).2)⟩, h2⟩)
    ?assign ?body ?done ?stop
  case assign =>
    intro l' pre x V K hI hK
    gi_wp2
    refine hK _ _ ((KeepsOthers.alloc _ _).from _) ((Below.refl _ V).alloc (by have := hI.2.2; omega) _) ⟨hJ.alloc _ hI.1, cell_kept hI.2.1 (World.grownBy_alloc _ _ none) (fun r e => by cases e), by have := hI.2.2; simp; omega⟩ ⟨V.heap.size, EnAt.new V x.e, ?_⟩
    rfl
  case body =>
    rintro l' pre x a' V hl0 hrc ⟨hj, hcy, hsz⟩ ⟨Bx, hen, rfl⟩ hN
    obtain ⟨k0, k1, k2, k3, k4, k5⟩ := hen
    obtain ⟨fn, tmps, assign, body, hy, hR⟩ := yieldIn (l' := l') (m' := n - 1 - 1 - 1) (hY pre x V hj)
    gi_wp2
    refine ⟨hdd _, hR.mono ?_⟩
    rintro e V3 (⟨rfl, hk3, hj3⟩ | ⟨rfl, hk3, hj3⟩)
    · have hKF : KeepsFrom W2.heap.size V V3 := ⟨hk3.low.size, fun k o hk ho _ => (hk3.high k (by omega) (Array.getElem?_eq_some_iff.1 ho).1).trans ho⟩
      have hcy3 : V3.cell? ⟨W.heap.size, 0, none⟩ = some (.func (.yield l) #[] #[]) := (World.cell?_of_block (w := V) (a := ⟨W.heap.size, 0, none⟩) (hk3.high _ (Nat.le_refl _) (cell_lt hcy))).trans hcy
      have HE : Hid (KeepsFrom W2.heap.size V V3 ∧ Below n₀ V V3 ∧ J (pre ++ [x]) V3 ∧ V3.cell? ⟨W.heap.size, 0, none⟩ = some (.func (.yield l) #[] #[]) ∧ W2.heap.size ≤ V3.heap.size) := ⟨hKF, hk3.low, hj3, hcy3, Nat.le_trans hsz hk3.low.size⟩
      clear hKF hk3 hj3
      gi_wp2
      exact HE.out
    · have hKF : KeepsFrom W2.heap.size V V3 := ⟨hk3.size, fun k o hk ho _ => (hk3.high k (by omega) (Array.getElem?_eq_some_iff.1 ho).1).trans ho⟩
      have HE : Hid (KeepsFrom W2.heap.size V V3 ∧ Jx (pre ++ [x]) V3) := ⟨hKF, hj3⟩
      clear hKF hk3 hj3
      gi_wp2
      exact ⟨HE.out.1, rfl, HE.out.2⟩
  case done =>
    rintro D ys V hD rfl ⟨hj, -, -⟩ hK
    gi_wp2
    refine ⟨by simp, .inl ⟨_, _, rfl, run_takeDeferred hK, ?_⟩⟩
    exact ⟨_, results_none rfl _ _ _, ⟨_, rfl⟩, .inl (hJ.putObj _ hj (by omega) hK rfl)⟩
  case stop =>
    rintro D c pre V hD hpre ⟨rfl, hj⟩ hK
    gi_wp2
    refine ⟨by simp, .inl ⟨_, _, rfl, run_takeDeferred hK, ?_⟩⟩
    exact ⟨_, results_none rfl _ _ _, ⟨_, rfl⟩, .inr ⟨pre, hpre, hJx.putObj _ hj (by omega) hK rfl⟩⟩
/-- Prefix is an iterator that gives the keys that begin so. -/
theorem prefixOwn {da q : Option Addr} (n n₀ d B : Nat) (hn : 1 ≤ n) (p : ByteArray) (hp : p.size ≤ maxLen) (ks : List Ke) (w : World) (hn₀ : n₀ ≤ w.heap.size) (hcd : w.cell? ⟨B, 0, none⟩ = some (.pointer da)) (hcp : w.cell? ⟨B + 1, 0, none⟩ = some (.string p))
    (hTop : ∀ u, Below n₀ w u → Calls Try.prog 43 #[.pointer da] u fun e w' => e = .returned (.pointer q) ∧ w' = u) (hT : TreeAt (fun g => g < n₀) w d q ks) (hs : Srt ks) :
    SeqOwn n₀ n 58 #[.pointer (some ⟨B + 1, 0, none⟩), .pointer (some ⟨B, 0, none⟩)] (rngL p (aftS p) ks) w := fun l J Jx W hW hJ hJx hY h0 =>
  prefix1In n n₀ d B l hn p hp ks J Jx W hJ hJx hY (Nat.le_trans hn₀ hW.size) ((hW.cell (p := ⟨B, 0, none⟩) (cell_lt hcd)).trans hcd) ((hW.cell (p := ⟨B + 1, 0, none⟩) (cell_lt hcp)).trans hcp) (fun u hu => hTop u ((hW.mono hn₀).trans hu)) (hT.later hW) hs h0
end Go.Proofs.Ytjhbaplnkigifaa

/-! keydir: two lists that are got together, each in a box. -/
namespace Go.Proofs.Ytjhbaplnkigifaa
open Go.RowKit Go.Shelf Plain
set_option linter.unusedVariables false
set_option linter.unusedSimpArgs false

/-- Behind the world u there are two boxes, with a list of its own in each. -/
structure Bx2 (u x : World) (xs ys : List Ke) (v1 : Value) (r1 : Option Nat) (v2 : Value) (r2 : Option Nat) : Prop where
  bel : Below u.heap.size u x
  siz : u.heap.size + 2 ≤ x.heap.size
  c1 : x.cell? ⟨u.heap.size, 0, none⟩ = some v1
  f1 : x.frozen? ⟨u.heap.size, 0, none⟩ = false
  c2 : x.cell? ⟨u.heap.size + 1, 0, none⟩ = some v2
  f2 : x.frozen? ⟨u.heap.size + 1, 0, none⟩ = false
  o1 : OwnKr x v1 (xs.map Ke.r) r1
  o2 : OwnKr x v2 (ys.map Ke.r) r2
  g1 : ∀ g, r1 = some g → u.heap.size + 2 ≤ g
  g2 : ∀ g, r2 = some g → u.heap.size + 2 ≤ g
  ne : ∀ g, r1 = some g → r2 ≠ some g
theorem Bx2.new (u : World) : Bx2 u ((u.alloc (.cells #[.slice none 0 0] 43)).alloc (.cells #[.slice none 0 0] 43)) [] [] (.slice none 0 0) none (.slice none 0 0) none := by
  have e1 : (u.alloc (.cells #[.slice none 0 0] 43)).heap.size = u.heap.size + 1 := by simp
  have k1 : (u.alloc (.cells #[.slice none 0 0] 43)).cell? ⟨u.heap.size, 0, none⟩ = some (.slice none 0 0) := World.cell?_alloc_at _ _ _ _ rfl
  have k2 : (u.alloc (.cells #[.slice none 0 0] 43)).frozen? ⟨u.heap.size, 0, none⟩ = false := World.frozen?_alloc_at _ _ _ _ rfl
  refine ⟨((Below.refl _ _).alloc (Nat.le_refl _) _).alloc (by simp) _, by simp, ?_, ?_, ?_, ?_, OwnKr.nil _, OwnKr.nil _, fun g e => (by cases e), fun g e => (by cases e), fun g e => (by cases e)⟩
  · exact cell_kept k1 (World.grownBy_alloc _ _ none) (fun r e => by cases e)
  · exact (frozen_kept k1 (World.grownBy_alloc _ _ none) (fun r e => by cases e)).trans k2
  · rw [← e1]; exact World.cell?_alloc_at _ _ _ _ rfl
  · rw [← e1]; exact World.frozen?_alloc_at _ _ _ _ rfl
theorem Bx2.later {u x x' : World} {xs ys : List Ke} {v1 v2 : Value} {r1 r2 : Option Nat} (h : Bx2 u x xs ys v1 r1 v2 r2) (hb : Below x.heap.size x x') : Bx2 u x' xs ys v1 r1 v2 r2 :=
  ⟨h.bel.trans (hb.mono h.bel.size), Nat.le_trans h.siz hb.size, (hb.cell (p := ⟨u.heap.size, 0, none⟩) (cell_lt h.c1)).trans h.c1, (hb.frozen (p := ⟨u.heap.size, 0, none⟩) (cell_lt h.c1)).trans h.f1, (hb.cell (p := ⟨u.heap.size + 1, 0, none⟩) (cell_lt h.c2)).trans h.c2, (hb.frozen (p := ⟨u.heap.size + 1, 0, none⟩) (cell_lt h.c2)).trans h.f2, h.o1.later hb, h.o2.later hb, h.g1, h.g2, h.ne⟩
theorem Bx2.app1 {u x y : World} {xs ys : List Ke} {v1 v2 v' : Value} {r1 r2 : Option Nat} {g : Nat} {k : Ke} (h : Bx2 u x xs ys v1 r1 v2 r2) (ho : OwnKr y v' (xs.map Ke.r ++ [k.r]) (some g)) (hg : x.grownBy y r1) (hr : some g = r1 ∨ g = x.heap.size) :
    y.cell? ⟨u.heap.size, 0, none⟩ = some v1 ∧ y.frozen? ⟨u.heap.size, 0, none⟩ = false ∧ Bx2 u (y.setCell ⟨u.heap.size, 0, none⟩ v') (xs ++ [k]) ys v' (some g) v2 r2 := by
  have hsz := h.siz
  have hgs := hg.size
  have hgl : u.heap.size + 2 ≤ g := by
    rcases hr with e | e
    · exact h.g1 g e.symm
    · omega
  have hblk : ∀ j, j < u.heap.size + 2 → y.heap[j]? = x.heap[j]? := fun j hj => hg.block j (by omega) (fun e => by have := h.g1 j e.symm; omega)
  have c1 : y.cell? ⟨u.heap.size, 0, none⟩ = some v1 := (World.cell?_of_block (w := x) (a := ⟨u.heap.size, 0, none⟩) (hblk _ (by show _ < _; simp only []; omega))).trans h.c1
  have f1 : y.frozen? ⟨u.heap.size, 0, none⟩ = false := (World.frozen?_of_block (w := x) (a := ⟨u.heap.size, 0, none⟩) (hblk _ (by show _ < _; simp only []; omega))).trans h.f1
  have c2 : y.cell? ⟨u.heap.size + 1, 0, none⟩ = some v2 := (World.cell?_of_block (w := x) (a := ⟨u.heap.size + 1, 0, none⟩) (hblk _ (by show _ < _; simp only []; omega))).trans h.c2
  have f2 : y.frozen? ⟨u.heap.size + 1, 0, none⟩ = false := (World.frozen?_of_block (w := x) (a := ⟨u.heap.size + 1, 0, none⟩) (hblk _ (by show _ < _; simp only []; omega))).trans h.f2
  have gS := grow_setC y u.heap.size 0 v'
  have hnr : ∀ g', r2 = some g' → r2 ≠ r1 := fun g' e e2 => h.ne g' (by rw [← e2]; exact e) e
  have o2 : OwnKr y v2 (ys.map Ke.r) r2 := by
    cases r2 with
    | none => exact h.o2.kept hg (.inl rfl)
    | some g' => exact h.o2.kept hg (.inr (hnr g' rfl))
  refine ⟨c1, f1, ?_, ?_, World.cell?_setCell_same' _ _ _ (by rw [c1]; rfl), by rw [World.frozen?_setCell]; exact f1, ?_, by rw [World.frozen?_setCell]; exact f2, ?_, ?_, fun g' e => (by cases e; exact hgl), h.g2, ?_⟩
  · exact ((h.bel.grown hg h.bel.size (fun k e => by have := h.g1 k e; omega)).setCell (p := ⟨u.heap.size, 0, none⟩) (Nat.le_refl _) _)
  · exact Nat.le_trans (by omega) gS.size
  · exact (World.cell?_of_block (w := y) (a := ⟨u.heap.size + 1, 0, none⟩) (gS.block (u.heap.size + 1) (by omega) (fun e => by simp at e))).trans c2
  · rw [List.map_append]
    exact ho.kept gS (.inr (fun e => by cases e; omega))
  · cases r2 with
    | none => exact o2.kept gS (.inl rfl)
    | some g' => exact o2.kept gS (.inr (fun e => by cases e; have := h.g2 _ rfl; omega))
  · intro g' e e2
    cases e
    rcases hr with e3 | e3
    · exact h.ne g e3.symm e2
    · rw [e2] at o2
      have h2 := h.o2
      rw [e2] at h2
      have := h2.lt
      omega
theorem Bx2.app2 {u x y : World} {xs ys : List Ke} {v1 v2 v' : Value} {r1 r2 : Option Nat} {g : Nat} {k : Ke} (h : Bx2 u x xs ys v1 r1 v2 r2) (ho : OwnKr y v' (ys.map Ke.r ++ [k.r]) (some g)) (hg : x.grownBy y r2) (hr : some g = r2 ∨ g = x.heap.size) :
    y.cell? ⟨u.heap.size + 1, 0, none⟩ = some v2 ∧ y.frozen? ⟨u.heap.size + 1, 0, none⟩ = false ∧ Bx2 u (y.setCell ⟨u.heap.size + 1, 0, none⟩ v') xs (ys ++ [k]) v1 r1 v' (some g) := by
  have hsz := h.siz
  have hgs := hg.size
  have hgl : u.heap.size + 2 ≤ g := by
    rcases hr with e | e
    · exact h.g2 g e.symm
    · omega
  have hblk : ∀ j, j < u.heap.size + 2 → y.heap[j]? = x.heap[j]? := fun j hj => hg.block j (by omega) (fun e => by have := h.g2 j e.symm; omega)
  have c1 : y.cell? ⟨u.heap.size, 0, none⟩ = some v1 := (World.cell?_of_block (w := x) (a := ⟨u.heap.size, 0, none⟩) (hblk _ (by show _ < _; simp only []; omega))).trans h.c1
  have f1 : y.frozen? ⟨u.heap.size, 0, none⟩ = false := (World.frozen?_of_block (w := x) (a := ⟨u.heap.size, 0, none⟩) (hblk _ (by show _ < _; simp only []; omega))).trans h.f1
  have c2 : y.cell? ⟨u.heap.size + 1, 0, none⟩ = some v2 := (World.cell?_of_block (w := x) (a := ⟨u.heap.size + 1, 0, none⟩) (hblk _ (by show _ < _; simp only []; omega))).trans h.c2
  have f2 : y.frozen? ⟨u.heap.size + 1, 0, none⟩ = false := (World.frozen?_of_block (w := x) (a := ⟨u.heap.size + 1, 0, none⟩) (hblk _ (by show _ < _; simp only []; omega))).trans h.f2
  have gS := grow_setC y (u.heap.size + 1) 0 v'
  have hnr : ∀ g', r1 = some g' → r1 ≠ r2 := fun g' e e2 => h.ne g' e (by rw [← e2]; exact e)
  have o1 : OwnKr y v1 (xs.map Ke.r) r1 := by
    cases r1 with
    | none => exact h.o1.kept hg (.inl rfl)
    | some g' => exact h.o1.kept hg (.inr (hnr g' rfl))
  refine ⟨c2, f2, ?_, ?_, ?_, by rw [World.frozen?_setCell]; exact f1, World.cell?_setCell_same' _ _ _ (by rw [c2]; rfl), by rw [World.frozen?_setCell]; exact f2, ?_, ?_, h.g1, fun g' e => (by cases e; exact hgl), ?_⟩
  · exact ((h.bel.grown hg h.bel.size (fun k e => by have := h.g2 k e; omega)).setCell (p := ⟨u.heap.size + 1, 0, none⟩) (by show u.heap.size ≤ u.heap.size + 1; omega) _)
  · exact Nat.le_trans (by omega) gS.size
  · exact (World.cell?_of_block (w := y) (a := ⟨u.heap.size, 0, none⟩) (gS.block u.heap.size (by omega) (fun e => by simp at e))).trans c1
  · cases r1 with
    | none => exact o1.kept gS (.inl rfl)
    | some g' => exact o1.kept gS (.inr (fun e => by cases e; have := h.g1 _ rfl; omega))
  · rw [List.map_append]
    exact ho.kept gS (.inr (fun e => by cases e; omega))
  · intro g' e e2
    cases e2
    rcases hr with e3 | e3
    · exact h.ne g e e3.symm
    · have h1 := h.o1
      rw [e] at h1
      have := h1.lt
      omega
theorem step_append_kr {ops : Array Oper} {o : Oper} {a : Act} {w : World} {K : Act → World → Prop} {Q : Exit → Act → World → Prop} {E : Prop}
    (hg : o.guard = none) (s x : Operand) (hop : o.op = Op.call { callee := Callee.builtin Builtin.append, args := #[s, x], argTypes := #[43, 43] }) (v xv : Value) (ts ks : List Kr) (r : Option Nat)
    (hs : a.eval s = v) (hx : a.eval x = xv) (hown : OwnKr w v ts r) (hsrc : Src Try.prog 7 43 xv ks.length (kcells ks) w) (hlen : ts.length + ks.length ≤ 2199023255552) (hr0 : r ≠ none ∨ 0 < ks.length)
    (hK : ∀ v' w' g, OwnKr w' v' (ts ++ ks) (some g) → w.grownBy w' r → (some g = r ∨ g = w.heap.size) → K (a.put o.dst v') w') :
    if Region.wanted o (yielded ops a.tmps) = true then Oper.wp Try.prog o a w K Q else E := by
  have hw : Region.wanted o (yielded ops a.tmps) = true := by simp [Region.wanted, hg]
  rw [if_pos hw]
  obtain ⟨v', w', g, hrun, h1, h2, h3⟩ := run_append_k w o.type v xv ts ks r hown hsrc hlen hr0
  unfold Oper.wp
  simp [execOp, hop, resolve, invoke, builtin, hs, hx, hrun, Result.andThen]
  exact hK v' w' g h1 h2 h3
theorem takeK {l : List Ke} {m : Nat} (h : m < l.length) : l.take (m + 1) = l.take m ++ [l.getD m Ke.zero] := by
  rw [List.take_add_one, List.getD_eq_getElem?_getD, List.getElem?_eq_getElem h]
  simp
theorem beg_eq {p key : ByteArray} {e : En} (h : p.size ≤ key.size) : ((key.extract 0 p.size).toList == p.toList) = begB p ⟨key, e⟩ := by
  unfold begB
  have e1 : (key.extract 0 p.size).toList = key.data.toList.take p.size := by
    rw [ByteArray.toList_eq]
    simp [ByteArray.data_extract]
  have e2 : p.toList = p.data.toList := ByteArray.toList_eq p
  rw [e1, e2]
  have hl : p.size = p.data.toList.length := rfl
  have hl2 : key.size = key.data.toList.length := rfl
  have hp := pre_take (p := p.data.toList) (a := key.data.toList)
  by_cases h2 : key.data.toList.take p.size = p.data.toList
  · have h3 : p.data.toList <+: key.data.toList := hp.mpr ⟨by omega, by rw [← hl]; exact h2⟩
    rw [decide_eq_true h3, h2]
    simp
  · have h3 : ¬ p.data.toList <+: key.data.toList := fun h4 => h2 (by rw [hl]; exact (hp.mp h4).2)
    rw [decide_eq_false h3]
    simpa using h2
theorem beg_short {p key : ByteArray} {e : En} (h : key.size < p.size) : begB p ⟨key, e⟩ = false := by
  unfold begB
  refine decide_eq_false fun h1 => ?_
  have h2 := h1.length_le
  have hl : p.size = p.data.toList.length := rfl
  have hl2 : key.size = key.data.toList.length := rfl
  simp only at h2
  omega
end Go.Proofs.Ytjhbaplnkigifaa
