import Derived.Test.YtelhjdplghpnbabSyF
import Derived.Lib.AppendZerosOnto
import Derived.Laws.IdiomCopy
import Derived.Deep.RegionLaw
/-! The program's slices.Insert of queues. -/
namespace Go.Proofs.Ytelhjdplghpnbab
open Go.RowKit Plain
set_option linter.unusedVariables false
set_option linter.unusedSimpArgs false

/-- copy of queues, by cells: all is read ahead of what is written. -/
theorem run_copy_q (w : World) (ty : TypeId) (b o dLen dCap : Nat) (a : Addr) (sLen sCap : Nat) (cs : List Value) (hn : cs.length = Nat.min sLen dLen * 4)
    (hsrc : ∀ j v, cs[j]? = some v → w.cell? (a.add j) = some v) (hc : ∀ j, j < cs.length → (w.cell? ⟨b, o + j, none⟩).isSome = true) (hf : ∀ j, j < cs.length → w.frozen? ⟨b, o + j, none⟩ = false) (h1 : ∀ v ∈ cs, v.oneCell' = true) :
    ∃ v', (Builtin.copy_ #[22, 22] ty #[.slice (some ⟨b, o, none⟩) dLen dCap, .slice (some a) sLen sCap]).run Try.prog w = .ok v' (w.setCells b o cs) := by
  have hl := run_loadCells_list (P := Try.prog) w a cs hsrc
  have hst := run_storeCells_cells (P := Try.prog) b o cs 0 w (by simpa using hc) (by simpa using hf) h1
  obtain ⟨i, hi, hz0, hz1, hz2⟩ := info_parts Try.info37
  exact ⟨_, by simp [Builtin.copy_, run_underlying Try.underlying22, Builtin.lenOf, Builtin.firstCells, sizeOf, typeInfo, hi, hz1, ← hn, hl, hst]; rfl⟩
theorem wp_copy_q (w : World) {o : Oper} {a : Act} {K : Act → World → Prop} {Q : Exit → Act → World → Prop} (d s : Operand) (t t' : TypeId)
    (ho : o.op = .call { callee := .builtin .copy, args := #[d, s], argTypes := #[t, t'] }) (v u : Value) (hd : a.eval d = v) (hs : a.eval s = u) {v' : Value} {w' : World}
    (hr : (Builtin.copy_ #[t, t'] o.type #[v, u]).run Try.prog w = .ok v' w') (h : K (a.put o.dst v') w') : o.wp Try.prog a w K Q := by
  unfold Oper.wp execOp
  simp only [ho, resolve, invoke, builtin, Sem.run_bind, Sem.run_pure, Result.andThen_ok, List.map_toArray, List.map_cons, List.map_nil, hd, hs, hr]
  exact h
theorem wpList_copy_q (w : World) {ops : Array Oper} {rest : List Oper} {o : Oper} {a : Act} {Q : Exit → Act → World → Prop} (hgd : o.guard = none) (d s : Operand) (t t' : TypeId)
    (ho : o.op = .call { callee := .builtin .copy, args := #[d, s], argTypes := #[t, t'] }) (v u : Value) (hd : a.eval d = v) (hs : a.eval s = u) {v' : Value} {w' : World}
    (hr : (Builtin.copy_ #[t, t'] o.type #[v, u]).run Try.prog w = .ok v' w') (h : wpList Try.prog ops Q rest (a.put o.dst v') w') : wpList Try.prog ops Q (o :: rest) a w :=
  wpList_plain hgd fun _ hK => wp_copy_q w d s t t' ho v u hd hs hr (hK _ _ h)
theorem step_copy_q {ops : Array Oper} {o : Oper} {a : Act} {w : World} {K : Act → World → Prop} {Q : Exit → Act → World → Prop} {E : Prop}
    (hg : o.guard = none) (d x : Operand) (dT sT : TypeId) (hop : o.op = Op.call { callee := Callee.builtin Builtin.copy, args := #[d, x], argTypes := #[dT, sT] })
    (v u : Value) (hd : a.eval d = v) (hx : a.eval x = u) {v' : Value} {w' : World} (hr : (Builtin.copy_ #[dT, sT] o.type #[v, u]).run Try.prog w = .ok v' w') (hK : K (a.put o.dst v') w') :
    if Region.wanted o (yielded ops a.tmps) = true then Oper.wp Try.prog o a w K Q else E := by
  have hw : Region.wanted o (yielded ops a.tmps) = true := by simp [Region.wanted, hg]
  rw [if_pos hw]
  unfold Oper.wp
  simp [execOp, hop, resolve, invoke, builtin, hd, hx, hr, Result.andThen]
  exact hK
theorem cells_oneq (ts : List Qv) : ∀ v ∈ vcells ts, v.oneCell' = true := vcells_one ts
/-- The row that an insertion without room makes. -/
structure InsW (w W1 W2 W3 : World) (g n i G : Nat) (vs : List Qv) (x : Qv) (gx : Nat) : Prop where
  app : ∀ ty, (Builtin.append_ #[22, 3] ty #[.slice (some ⟨g, 0, none⟩) i n, .int .i64 ((n : Int) + 1 - i)]).run Try.prog w = .ok (.slice (some ⟨w.heap.size, 0, none⟩) (n + 1) G) W1
  cpA : ∀ ty, ∃ v', (Builtin.copy_ #[22, 22] ty #[.slice (some ⟨w.heap.size, i * 4, none⟩) (n + 1 - i) (G - i), .slice (some ⟨gx, 0, none⟩) 1 1]).run Try.prog W1 = .ok v' W2
  cpB : ∀ ty, ∃ v', (Builtin.copy_ #[22, 22] ty #[.slice (some ⟨w.heap.size, (i + 1) * 4, none⟩) (n + 1 - (i + 1)) (G - (i + 1)), .slice (some ⟨g, i * 4, none⟩) (n - i) (n - i)]).run Try.prog W2.drew = .ok v' W3
  own : OwnQv W3 (.slice (some ⟨w.heap.size, 0, none⟩) (n + 1) G) (vs.take i ++ x :: vs.drop i) (some w.heap.size)
  below : Below w.heap.size w W3
  cap : n + 1 ≤ G ∧ G ≤ maxLen
theorem insW {w : World} {g n i : Nat} {vs : List Qv} {x : Qv} {gx : Nat} (h : OwnQv w (.slice (some ⟨g, 0, none⟩) n n) vs (some g)) (hn : vs.length = n) (hi : i < n) (hb : n ≤ 32) (hx : ∀ j v, x.cells[j]? = some v → w.cell? ⟨gx, j, none⟩ = some v) : ∃ W1 W2 W3 G, InsW w W1 W2 W3 g n i G vs x gx := by
  obtain ⟨i0, hi0, hz0, hz1, hz2⟩ := info_parts Try.info37
  have hlt := h.lt
  have hgx : gx < w.heap.size := cell_lt (hx 0 _ rfl)
  have hcell : ∀ j, j < 4 * n → w.cell? ⟨g, j, none⟩ = (vcells vs)[j]? := by
    rcases h with ⟨_, _, e⟩ | ⟨g', cap, e, e2, _, _, _, _, _, h5⟩
    · simp at e
    · simp only [Option.some.injEq] at e
      subst e
      rw [hn] at h5
      exact h5
  have hvl : (vcells vs).length = 4 * n := by rw [vcells_len, hn]
  have htl : (vcells (vs.take i)).length = i * 4 := by rw [vcells_len]; simp; omega
  have hdl : (vcells (vs.drop i)).length = (n - i) * 4 := by rw [vcells_len]; simp; omega
  have hspl : vcells vs = vcells (vs.take i) ++ vcells (vs.drop i) := by rw [← vcells_app, List.take_append_drop]
  have htk : ∀ j v, (vcells (vs.take i))[j]? = some v → w.cell? ⟨g, j, none⟩ = some v := fun j v hj => by
    have hjl : j < i * 4 := by rw [← htl]; exact (List.getElem?_eq_some_iff.mp hj).1
    rw [hcell j (by omega), hspl, List.getElem?_append_left (by omega)]
    exact hj
  have hdk : ∀ j v, (vcells (vs.drop i))[j]? = some v → w.cell? ⟨g, i * 4 + j, none⟩ = some v := fun j v hj => by
    have hjl : j < (n - i) * 4 := by rw [← hdl]; exact (List.getElem?_eq_some_iff.mp hj).1
    rw [hcell (i * 4 + j) (by omega), hspl, List.getElem?_append_right (by omega), htl, show i * 4 + j - i * 4 = j by omega]
    exact hj
  obtain ⟨G, hG⟩ : ∃ G, G = grownCap w (n + 1) n 37 := ⟨_, rfl⟩
  have hG1 : n + 1 ≤ G := by rw [hG]; exact grownCap_ge w _ _ _
  have hG2 : G ≤ maxLen := by rw [hG]; exact grownCap_le_maxLen w _ _ _ (by unfold maxLen; omega)
  obtain ⟨ROW, hROW⟩ : ∃ ROW : Array Value, ROW = (vcells (vs.take i)).toArray ++ Builtin.zeroCells Qv.zero.agg.cells (n + 1 - i) ++ Builtin.zeroCells Qv.zero.agg.cells (G - (n + 1)) := ⟨_, rfl⟩
  have hzs : ∀ k, (Builtin.zeroCells Qv.zero.agg.cells k).size = k * 4 := fun k => by simp [Builtin.zeroCells, show Qv.zero.agg.cells.size = 4 from rfl]
  have hRs : ROW.size = G * 4 := by
    rw [hROW]
    simp only [Array.size_append, hzs, List.size_toArray, htl]
    omega
  obtain ⟨W1, hW1⟩ : ∃ W1, W1 = w.drew.alloc (.cells ROW 37) := ⟨_, rfl⟩
  have happ : ∀ ty, (Builtin.append_ #[22, 3] ty #[.slice (some ⟨g, 0, none⟩) i n, .int .i64 ((n : Int) + 1 - i)]).run Try.prog w = .ok (.slice (some ⟨w.heap.size, 0, none⟩) (n + 1) G) W1 := fun ty => by
    have hold : (Builtin.firstCells i0.size i (.slice (some ⟨g, 0, none⟩) i n)).run Try.prog w.drew = .ok (vcells (vs.take i)).toArray w.drew := by
      rw [hz1]
      exact run_firstCells_some w.drew 4 i ⟨g, 0, none⟩ i n (vcells (vs.take i)) htl (fun j v hj => by
        rw [WideShapes.add_plain, Nat.zero_add]
        exact htk j v hj)
    have hh := Lib.run_append_grow_zeros (P := Try.prog) w 22 3 ty 37 i0 _ .i64 .i64 Try.underlying22 Try.underlying3 hi0 hz0 (some ⟨g, 0, none⟩) i n (vcells (vs.take i)) hold (n + 1 - i) (by omega) (by omega) (by omega) (by omega) (by rw [hz2]; omega) (by rw [hz2, show i + (n + 1 - i) = n + 1 by omega]; exact growslice_fits (by omega) (by omega))
    rw [show i + (n + 1 - i) = n + 1 by omega, ← hG, ← hROW, ← hW1] at hh
    rw [show ((n : Int) + 1 - i) = ((n + 1 - i : Nat) : Int) by omega]
    exact hh
  obtain ⟨N, hN⟩ : ∃ N, w.heap.size = N := ⟨_, rfl⟩
  have hc1 : ∀ j, W1.cell? ⟨N, j, none⟩ = ROW[j]? := fun j => by rw [hW1]; exact World.cell?_alloc_at (w := w.drew) ROW _ N j (by rw [← hN]; rfl)
  have hf1 : ∀ j, W1.frozen? ⟨N, j, none⟩ = false := fun j => by rw [hW1]; exact World.frozen?_alloc_at (w := w.drew) ROW _ N j (by rw [← hN]; rfl)
  have hb1 : Below w.heap.size w W1 := by
    rw [hW1]
    exact (Below.drew (Below.refl _ w)).alloc (Nat.le_refl _) _
  have hs1 : W1.heap.size = N + 1 := by rw [hW1, ← hN]; show (w.heap.push _).size = _; simp
  have hi1 : ∀ j, j < G * 4 → (W1.cell? ⟨N, j, none⟩).isSome = true := fun j hj => by rw [hc1, Array.getElem?_eq_getElem (by omega)]; rfl
  obtain ⟨W2, hW2⟩ : ∃ W2, W1.setCells N (i * 4) x.cells = W2 := ⟨_, rfl⟩
  have hg2 : W1.grownBy W2 (some N) := by rw [← hW2]; exact grow_setCells W1 N (i * 4) x.cells
  obtain ⟨W3, hW3⟩ : ∃ W3, W2.drew.setCells N ((i + 1) * 4) (vcells (vs.drop i)) = W3 := ⟨_, rfl⟩
  have hg3 : W2.drew.grownBy W3 (some N) := by rw [← hW3]; exact grow_setCells W2.drew N _ _
  have hb2 : Below w.heap.size w W2 := hb1.grown hg2 hb1.size (fun g' e => by simp at e; omega)
  have hb2d : Below w.heap.size w W2.drew := Below.drew hb2
  have hb3 : Below w.heap.size w W3 := hb2d.grown hg3 hb2d.size (fun g' e => by simp at e; omega)
  have hi2 : ∀ j, j < G * 4 → (W2.cell? ⟨N, j, none⟩).isSome = true := fun j hj => by rw [← hW2]; exact Go.Proofs.Ytelhjdplghpnbab.isSome_setCells N _ _ W1 _ (hi1 j hj)
  have hf2 : ∀ j, W2.frozen? ⟨N, j, none⟩ = false := fun j => by rw [← hW2, World.frozen?_setCells]; exact hf1 j
  have hcpA : ∀ ty, ∃ v', (Builtin.copy_ #[22, 22] ty #[.slice (some ⟨N, i * 4, none⟩) (n + 1 - i) (G - i), .slice (some ⟨gx, 0, none⟩) 1 1]).run Try.prog W1 = .ok v' W2 := fun ty => by
    rw [← hW2]
    refine run_copy_q W1 ty N (i * 4) (n + 1 - i) (G - i) ⟨gx, 0, none⟩ 1 1 x.cells ?_ ?_ ?_ (fun j hj => hf1 _) ?_
    · have e : Nat.min 1 (n + 1 - i) = 1 := Nat.min_eq_left (by omega)
      rw [e]; rfl
    · intro j v hj
      rw [WideShapes.add_plain, Nat.zero_add, hb1.cell (p := ⟨gx, j, none⟩) hgx]
      exact hx j v hj
    · intro j hj
      have hj4 : j < 4 := hj
      exact hi1 _ (by omega)
    · intro v hv
      exact vcells_one [x] v (by simp [vcells]; exact hv)
  have hcpB : ∀ ty, ∃ v', (Builtin.copy_ #[22, 22] ty #[.slice (some ⟨N, (i + 1) * 4, none⟩) (n + 1 - (i + 1)) (G - (i + 1)), .slice (some ⟨g, i * 4, none⟩) (n - i) (n - i)]).run Try.prog W2.drew = .ok v' W3 := fun ty => by
    rw [← hW3]
    refine run_copy_q W2.drew ty N ((i + 1) * 4) (n + 1 - (i + 1)) (G - (i + 1)) ⟨g, i * 4, none⟩ (n - i) (n - i) (vcells (vs.drop i)) ?_ ?_ ?_ (fun j hj => hf2 _) (vcells_one _)
    · have e : Nat.min (n - i) (n + 1 - (i + 1)) = n - i := Nat.min_eq_left (by omega)
      rw [e]; exact hdl
    · intro j v hj
      rw [WideShapes.add_plain, hb2d.cell (p := ⟨g, i * 4 + j, none⟩) hlt]
      exact hdk j v hj
    · intro j hj
      rw [hdl] at hj
      exact hi2 _ (by omega)
  have hi3 : ∀ j, j < G * 4 → (W3.cell? ⟨N, j, none⟩).isSome = true := fun j hj => by rw [← hW3]; exact Go.Proofs.Ytelhjdplghpnbab.isSome_setCells N _ _ W2.drew _ (hi2 j hj)
  have hlen : (vs.take i ++ x :: vs.drop i).length = n + 1 := by simp; omega
  have hown : OwnQv W3 (.slice (some ⟨N, 0, none⟩) (n + 1) G) (vs.take i ++ x :: vs.drop i) (some N) := by
    refine .inr ⟨N, G, rfl, by rw [hlen], ?_, by rw [hlen]; exact hG1, hG2, fun j hj => ?_, fun j hj => hi3 j (by omega), fun j hj => ?_⟩
    · have := hg2.size
      have := hg3.size
      have e : W2.drew.heap.size = W2.heap.size := rfl
      omega
    · rw [← hW3, World.frozen?_setCells]; exact hf2 j
    · rw [hlen] at hj
      have hsp : vcells (vs.take i ++ x :: vs.drop i) = vcells (vs.take i) ++ (x.cells ++ vcells (vs.drop i)) := by rw [vcells_app]; rfl
      have hxl : x.cells.length = 4 := rfl
      rw [hsp]
      by_cases h1 : j < i * 4
      · rw [List.getElem?_append_left (by omega), ← hW3, World.cell?_setCells_out _ _ _ _ _ (fun _ _ => .inl (by simp only; omega))]
        show W2.cell? ⟨N, j, none⟩ = _
        rw [← hW2, World.cell?_setCells_out _ _ _ _ _ (fun _ _ => .inl (by simp only; omega)), hc1, hROW]
        rw [Array.getElem?_append_left (by simp only [Array.size_append, List.size_toArray, htl]; omega), Array.getElem?_append_left (by simp only [List.size_toArray, htl]; omega)]
        simp
      · rw [List.getElem?_append_right (by omega), htl]
        by_cases h2 : j < (i + 1) * 4
        · rw [List.getElem?_append_left (by omega), ← hW3, World.cell?_setCells_out _ _ _ _ _ (fun _ _ => .inl (by simp only; omega))]
          show W2.cell? ⟨N, j, none⟩ = _
          have := World.cell?_setCells_in N x.cells (i * 4) W1 (fun k hk => hi1 _ (by omega)) (j - i * 4) (by omega)
          rw [show i * 4 + (j - i * 4) = j by omega, hW2] at this
          rw [this, List.getElem?_eq_getElem]
        · rw [List.getElem?_append_right (by omega), hxl]
          have := World.cell?_setCells_in N (vcells (vs.drop i)) ((i + 1) * 4) W2.drew (fun k hk => hi2 _ (by omega)) (j - (i + 1) * 4) (by omega)
          rw [show (i + 1) * 4 + (j - (i + 1) * 4) = j by omega, hW3] at this
          rw [this, show j - i * 4 - 4 = j - (i + 1) * 4 by omega, List.getElem?_eq_getElem]
  rw [← hN] at hcpA hcpB hown
  exact ⟨W1, W2, W3, G, happ, hcpA, hcpB, hown, hb3, hG1, hG2⟩
end Go.Proofs.Ytelhjdplghpnbab
