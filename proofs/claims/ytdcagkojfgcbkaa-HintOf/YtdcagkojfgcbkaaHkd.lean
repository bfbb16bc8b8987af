import Derived.Test.YtdcagkojfgcbkaaHkc
import Derived.Deep.RegionLaw
import Derived.Deep.RegionWith
/-! hint: entryOf, and Of. -/
namespace Go.Proofs.Ytdcagkojfgcbkaa
open Go.RowKit Plain Go.WideMaps Go.Maps
set_option linter.unusedVariables false
set_option linter.unusedSimpArgs false

def Pl.entry (x : Pl) : He := ⟨x.key, x.o, x.t, x.k == 2, x.pos, x.len⟩
theorem Pl.Ok.entry {x : Pl} (h : x.Ok) : x.entry.Ok := ⟨h.key, h.o, h.t, trivial, h.pos, h.len⟩
theorem hres11 : Try.f11.results = #[.cell 2 28] := by kernel_rfl
set_option maxHeartbeats 1000000 in
set_option maxRecDepth 100000 in
theorem entryOfOf (x : Pl) (w : World) : Calls Try.prog 11 #[x.agg] w fun e w' => e = .returned x.entry.agg ∧ Below w.heap.size w w' := by
  obtain ⟨xk, xo, xt, xp, xq, xkey, xval, xpos, xlen⟩ := x
  show Calls Try.prog 11 _ w fun e w' => e = .returned (.agg #[.string xkey, .int .i64 xo, .int .i64 xt, .bool (xk == 2), .int .i64 xpos, .int .i64 xlen]) ∧ Below w.heap.size w w'
  go_enter Try.func11, Try.ntmps11
  go_wp2
  refine bodyPost_ret (v := .agg #[.string xkey, .int .i64 xo, .int .i64 xt, .bool (xk == 2), .int .i64 xpos, .int .i64 xlen]) ?_ rfl ⟨rfl, ?_⟩
  · simp only [results, hres11]
    go_simp
  · exact ((Below.refl _ _).alloc (Nat.le_refl _) _).alloc (by simp) _
/-- The call of entryOf, as one step of a region that draws. -/
theorem step_entry {ops : Array Oper} {o : Oper} {a : Act} {w : World} {K : Act → World → Prop} {Q : Exit → Act → World → Prop} {E : Prop}
    (hg : o.guard = none) (n : Nat) (hop : o.op = .call { callee := .value (.func 11), args := #[.tmp n], argTypes := #[32] }) (xv : Value) (hx : a.tmps[n]?.getD undef = xv)
    (h : Calls Try.prog 11 #[xv] w fun e w' => ∃ v, e = .returned v ∧ K (a.put o.dst v) w') :
    if Region.wanted o (yielded ops a.tmps) = true then Oper.wp Try.prog o a w K Q else E := by
  have hw : Region.wanted o (yielded ops a.tmps) = true := by simp [Region.wanted, hg]
  rw [if_pos hw]
  unfold Oper.wp
  simp [execOp, hop, resolve, invoke, hx, Result.andThen, go_sem, Try.func11]
  refine h.mono ?_
  rintro e w' ⟨v, rfl, hk⟩
  exact hk
theorem step_append_he {ops : Array Oper} {o : Oper} {a : Act} {w : World} {K : Act → World → Prop} {Q : Exit → Act → World → Prop} {E : Prop}
    (hg : o.guard = none) (s x : Operand) (hop : o.op = .call { callee := .builtin .append, args := #[s, x], argTypes := #[23, 23] }) (v xv : Value) (ts : List He) (ks : List He) (r : Option Nat)
    (hs : a.eval s = v) (hx : a.eval x = xv) (hown : OwnHe w v ts r) (hsrc : Src Try.prog 6 23 xv ks.length (ecells ks) w) (hlen : ts.length + ks.length ≤ 2199023255552) (hr0 : r ≠ none ∨ 0 < ks.length)
    (hK : ∀ v' w' g, OwnHe w' v' (ts ++ ks) (some g) → w.grownBy w' r → (some g = r ∨ g = w.heap.size) → K (a.put o.dst v') w') :
    if Region.wanted o (yielded ops a.tmps) = true then Oper.wp Try.prog o a w K Q else E := by
  have hw : Region.wanted o (yielded ops a.tmps) = true := by simp [Region.wanted, hg]
  rw [if_pos hw]
  obtain ⟨v', w', g, hrun, h1, h2, h3⟩ := run_append_e w o.type v xv ts ks r hown hsrc hlen hr0
  unfold Oper.wp
  simp [execOp, hop, resolve, invoke, builtin, hs, hx, hrun, Result.andThen]
  exact hK v' w' g h1 h2 h3
theorem src_he (W : World) (b : Nat) (hb : W.heap.size = b) (x : He) : Src Try.prog 6 23 (.slice (some ⟨b, 0, none⟩) 1 1) [x].length (ecells [x]) (W.alloc (.cells #[.string x.key, .int .i64 x.off, .int .i64 x.time, .bool x.dead, .int .i64 x.pos, .int .i64 x.len] 28)) := by
  subst hb
  exact Src.ofSlice _ Try.underlying23 _ 1 1 _ (by rfl) (fun j u hj => by
    rw [WideShapes.add_plain, World.cell?_alloc_at _ _ _ _ rfl, Nat.zero_add]
    rw [← hj]; simp [ecells, He.cells]) (fun u hu => by
    simp [ecells, He.cells] at hu
    rcases hu with rfl | rfl | rfl | rfl | rfl | rfl <;> rfl)
/-- A hint in memory. -/
structure Hb (w : World) (b : Nat) (s z : Int) (v : Value) : Prop where
  c0 : w.cell? ⟨b, 0, none⟩ = some (.int .i64 s)
  c1 : w.cell? ⟨b, 1, none⟩ = some (.int .i64 z)
  c2 : w.cell? ⟨b, 2, none⟩ = some v
  soft : ∀ j, w.frozen? ⟨b, j, none⟩ = false
theorem soft_alloc (w : World) (cs : Array Value) (t : TypeId) (j : Nat) : (w.alloc (.cells cs t)).frozen? ⟨w.heap.size, j, none⟩ = false := World.frozen?_alloc_at _ _ _ _ rfl
theorem Hb.new (w : World) (s z : Int) (v : Value) : Hb (w.alloc (.cells #[.int .i64 s, .int .i64 z, v] 25)) w.heap.size s z v :=
  ⟨by rw [World.cell?_alloc_at _ _ _ _ rfl]; rfl, by rw [World.cell?_alloc_at _ _ _ _ rfl]; rfl, by rw [World.cell?_alloc_at _ _ _ _ rfl]; rfl, soft_alloc w _ _⟩
theorem Hb.block {w w' : World} {b : Nat} {s z : Int} {v : Value} (h : Hb w b s z v) (e : w'.heap[b]? = w.heap[b]?) : Hb w' b s z v := by
  have hc : ∀ j, w'.cell? ⟨b, j, none⟩ = w.cell? ⟨b, j, none⟩ := fun j => World.cell?_of_block (w := w) (a := ⟨b, j, none⟩) e
  exact ⟨by rw [hc]; exact h.c0, by rw [hc]; exact h.c1, by rw [hc]; exact h.c2, fun j => by rw [World.frozen?_of_block (w := w) (a := ⟨b, j, none⟩) e]; exact h.soft j⟩
theorem Hb.lt {w : World} {b : Nat} {s z : Int} {v : Value} (h : Hb w b s z v) : b < w.heap.size := cell_lt h.c0
theorem Hb.set {w : World} {b : Nat} {s z : Int} {v : Value} (h : Hb w b s z v) (u : Value) : Hb (w.setCell ⟨b, 2, none⟩ u) b s z u := by
  have ne : ∀ {i : Nat}, 2 ≠ i → (⟨b, 2, none⟩ : Addr) ≠ ⟨b, i, none⟩ := fun hij e => hij (congrArg Addr.off e)
  refine ⟨(World.cell?_setCell_other _ _ _ _ (ne (by omega))).trans h.c0, (World.cell?_setCell_other _ _ _ _ (ne (by omega))).trans h.c1, World.cell?_setCell_same _ _ _ h.c2, fun j => ?_⟩
  rw [World.frozen?_setCell]; exact h.soft j
/-- Of world w all has stayed but block Z. -/
structure ButZ (Z : Nat) (w w' : World) : Prop where
  os : w'.os = w.os
  tape : w'.tape = w.tape
  output : w'.output = w.output
  size : w.heap.size ≤ w'.heap.size
  block : ∀ x, x < w.heap.size → x ≠ Z → w'.heap[x]? = w.heap[x]?
theorem ButZ.refl (Z : Nat) (w : World) : ButZ Z w w := ⟨rfl, rfl, rfl, Nat.le_refl _, fun _ _ _ => rfl⟩
/-- Behind some of the entries. -/
structure OfI (w3 : World) (Z : Nat) (s z : Int) (es : List He) (wx : World) : Prop where
  but : ButZ Z w3 wx
  hb : ∃ a n c r, Hb wx Z s z (.slice a n c) ∧ OwnHe wx (.slice a n c) es r ∧ ∀ g, r = some g → w3.heap.size ≤ g
end Go.Proofs.Ytdcagkojfgcbkaa
