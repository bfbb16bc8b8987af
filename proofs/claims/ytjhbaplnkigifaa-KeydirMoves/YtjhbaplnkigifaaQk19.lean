import Derived.Test.YtjhbaplnkigifaaQk18
/-! keydir: the law's keep. -/
namespace Go.Proofs.Ytjhbaplnkigifaa
open Go.RowKit Plain
set_option linter.unusedVariables false
set_option linter.unusedSimpArgs false

/-- What append does, and what it leaves of a shorter slice of the same row. -/
theorem run_append_kp (w : World) (ty : TypeId) (v x : Value) (ts : List Kr) (ks : List Kr) (r : Option Nat) (hown : OwnKr w v ts r) (hs : Src Try.prog 7 43 x ks.length (kcells ks) w) (hlen : ts.length + ks.length ≤ 2199023255552) (hr0 : r ≠ none ∨ 0 < ks.length) :
    ∃ v' w' g, (Builtin.append_ #[43, 43] ty #[v, x]).run Try.prog w = .ok v' w' ∧ OwnKr w' v' (ts ++ ks) (some g) ∧ w.grownBy w' r ∧ (some g = r ∨ g = w.heap.size) ∧ (∀ v0 ts0, OwnKr w v0 ts0 r → ts0.length ≤ ts.length → OwnKr w' v0 ts0 r) := by
  obtain ⟨i, hi, hz0, hz1, hz2⟩ := info_parts Try.info58
  have hs' : Src Try.prog i.size 43 x ks.length (kcells ks) w := by rw [hz1]; exact hs
  have hl2 : (ts ++ ks).length = ts.length + ks.length := by simp
  have grow : ∀ (base0 : Option Addr) (sCap : Nat), (Builtin.firstCells i.size ts.length (.slice base0 ts.length sCap)).run Try.prog w.drew = .ok (kcells ts).toArray w.drew → sCap < ts.length + ks.length →
      ∃ v' w' g, (Builtin.append_ #[43, 43] ty #[.slice base0 ts.length sCap, x]).run Try.prog w = .ok v' w' ∧ OwnKr w' v' (ts ++ ks) (some g) ∧ w.grownBy w' r ∧ (some g = r ∨ g = w.heap.size) ∧ (∀ v0 ts0, OwnKr w v0 ts0 r → ts0.length ≤ ts.length → OwnKr w' v0 ts0 r) := by
    intro base0 sCap hold hg
    have hr := run_append_grow_src (P := Try.prog) w 43 43 ty 58 i _ Try.underlying43 hi hz0 base0 ts.length sCap (kcells ts) hold x ks.length (kcells ks) hs' hg (by omega) (by rw [hz2]; exact growslice_fits_wide hg (by omega))
    have hge := grownCap_ge w (ts.length + ks.length) sCap 58
    have hcm := grownCap_le_maxLen w (ts.length + ks.length) sCap 58 (by unfold maxLen; omega)
    refine ⟨_, _, w.heap.size, hr, ?_, ⟨rfl, rfl, rfl, by simp, fun k hk _ => Below.heap_alloc w.drew _ k hk⟩, .inr rfl, fun v0 ts0 h0 _ => h0.later ((Below.drew (Below.refl _ w)).alloc (Nat.le_refl _) _)⟩
    obtain ⟨C, hC⟩ : ∃ C, (kcells ts ++ (kcells ks)).toArray ++ Builtin.zeroCells Kr.zero.agg.cells (grownCap w (ts.length + ks.length) sCap 58 - (ts.length + ks.length)) = C := ⟨_, rfl⟩
    have hCs : C.size = 7 * grownCap w (ts.length + ks.length) sCap 58 := by
      rw [← hC, Array.size_append, List.size_toArray, size_zeroCells, zcells7k, List.length_append, kcells_len, kcells_len]
      omega
    have hCg : ∀ j, j < 7 * (ts.length + ks.length) → C[j]? = (kcells (ts ++ ks))[j]? := fun j hj => by
      rw [← hC, Array.getElem?_append_left (by rw [List.size_toArray, List.length_append, kcells_len, kcells_len]; omega), List.getElem?_toArray, kcells_app]
    rw [hC]
    refine .inr ⟨w.heap.size, grownCap w (ts.length + ks.length) sCap 58, rfl, by rw [hl2], by simp, by rw [hl2]; exact hge, hcm, fun j hj => ?_, fun j hj => ?_, fun j hj => ?_⟩
    · exact World.frozen?_alloc_at _ _ _ _ rfl
    · show ((w.drew.alloc (Obj.cells C 58)).cell? ⟨w.drew.heap.size, j, none⟩).isSome = true
      rw [World.cell?_alloc_at _ _ _ _ rfl, Array.getElem?_eq_getElem (by omega)]; rfl
    · rw [hl2] at hj
      show (w.drew.alloc (Obj.cells C 58)).cell? ⟨w.drew.heap.size, j, none⟩ = _
      rw [World.cell?_alloc_at _ _ _ _ rfl]; exact hCg j hj
  rcases hown with ⟨rfl, rfl, rfl⟩ | ⟨g, cap, rfl, rfl, hg, h1, h2, h3, h4, h5⟩
  · rcases hr0 with h | h
    · exact absurd rfl h
    · exact grow none 0 (by rw [List.length_nil]; exact run_firstCells_none w.drew _ _ _ _) (by simpa using h)
  · by_cases hroom : ts.length + ks.length ≤ cap
    · have hr := run_append_room_src (P := Try.prog) w 43 43 ty 58 i Try.underlying43 hi g 0 ts.length cap x ks.length (kcells ks) hs' hroom
        (fun j hj => by rw [hz1]; rw [kcells_len] at hj; exact h4 _ (by omega))
        (fun j hj => by rw [hz1]; rw [kcells_len] at hj; exact h3 _ (by omega))
      rw [hz1, Nat.zero_add] at hr
      refine ⟨_, _, g, hr, .inr ⟨g, cap, rfl, by rw [hl2], ?_, by omega, h2, fun j hj => ?_, fun j hj => ?_, fun j hj => ?_⟩, grow_setCells w g _ _, .inl rfl, fun v0 ts0 h0 hle => ?_⟩
      · rw [setCells_size]; exact hg
      · rw [World.frozen?_setCells]; exact h3 j hj
      · exact isSome_setCells g _ _ w _ (h4 j hj)
      · rw [hl2] at hj
        by_cases hj' : j < 7 * ts.length
        · rw [World.cell?_setCells_out g _ _ w _ (fun _ _ => .inl (by show j < ts.length * 7; omega)), h5 j hj', kcells_app, List.getElem?_append_left (by rw [kcells_len]; exact hj')]
        · have hj2 : j - 7 * ts.length < (kcells ks).length := by rw [kcells_len]; omega
          have := World.cell?_setCells_in g (kcells ks) (ts.length * 7) w (fun m hm => h4 _ (by rw [kcells_len] at hm; omega)) (j - 7 * ts.length) hj2
          rw [show ts.length * 7 + (j - 7 * ts.length) = j by omega] at this
          rw [this, kcells_app, List.getElem?_append_right (by rw [kcells_len]; omega), kcells_len, List.getElem?_eq_getElem hj2]
      · rcases h0 with ⟨_, _, e4⟩ | ⟨g0, c0, e5, e6, k1, k2, k3, k4, k5, k6⟩
        · cases e4
        · cases e5
          subst e6
          refine .inr ⟨g, c0, rfl, rfl, by rw [setCells_size]; exact hg, k2, k3, fun j hj => ?_, fun j hj => ?_, fun j hj => ?_⟩
          · rw [World.frozen?_setCells]; exact k4 j hj
          · exact isSome_setCells g _ _ w _ (k5 j hj)
          · rw [World.cell?_setCells_out g _ _ w _ (fun _ _ => .inl (by show j < ts.length * 7; omega))]
            exact k6 j hj
    · refine grow _ cap ?_ (by omega)
      rw [hz1]
      refine run_firstCells_some w.drew 7 ts.length ⟨g, 0, none⟩ _ _ (kcells ts) (by rw [kcells_len]; omega) (fun j u hj => ?_)
      have hjl : j < 7 * ts.length := by
        have := (List.getElem?_eq_some_iff.mp hj).1
        rwa [kcells_len] at this
      rw [WideShapes.add_plain, Nat.zero_add]
      show w.cell? ⟨g, j, none⟩ = some u
      rw [h5 j hjl, hj]

theorem wpList_append_kp {ops : Array Oper} {rest : List Oper} {o : Oper} {a : Act} {Q : Exit → Act → World → Prop} (w : World) (hgd : o.guard = none) (s x : Operand)
    (ho : o.op = .call { callee := .builtin .append, args := #[s, x], argTypes := #[43, 43] }) (v xv : Value) (ts : List Kr) (ks : List Kr) (r : Option Nat)
    (hs : a.eval s = v) (hx : a.eval x = xv) (hown : OwnKr w v ts r) (hsrc : Src Try.prog 7 43 xv ks.length (kcells ks) w) (hlen : ts.length + ks.length ≤ 2199023255552) (hr0 : r ≠ none ∨ 0 < ks.length)
    (h : ∀ v' w' g, OwnKr w' v' (ts ++ ks) (some g) → w.grownBy w' r → (some g = r ∨ g = w.heap.size) → (∀ v0 ts0, OwnKr w v0 ts0 r → ts0.length ≤ ts.length → OwnKr w' v0 ts0 r) → wpList Try.prog ops Q rest (a.put o.dst v') w') : wpList Try.prog ops Q (o :: rest) a w :=
  wpList_plain hgd fun _ hK => by
    obtain ⟨v', w', g, hr, h1, h2, h3, h4⟩ := run_append_kp w o.type v xv ts ks r hown hsrc hlen hr0
    unfold Oper.wp execOp
    simp only [ho, resolve, invoke, builtin, Sem.run_bind, Sem.run_pure, Result.andThen_ok, List.map_toArray, List.map_cons, List.map_nil, hs, hx, hr]
    exact hK _ _ (h v' w' g h1 h2 h3 h4)
theorem run_append_val2 (w : World) (t ty e : TypeId) (i : TypeInfo) (z : Value) (ht : Try.prog.underlying t = some (.slice e)) (hi : Try.prog.info? e = some i) (hz0 : i.zero = some z) (hzc : z.cells.size = 1) (hz1 : i.size = 1) (hz2 : i.bytes ≤ 32)
    (v x u : Value) (vs : List Value) (r : Option Nat) (hown : OwnV w v vs r) (hs : Src Try.prog 1 t x 1 [u] w) (hlen : vs.length ≤ 2199023255552) :
    ∃ v' w' g, (Builtin.append_ #[t, t] ty #[v, x]).run Try.prog w = .ok v' w' ∧ OwnV w' v' (vs ++ [u]) (some g) ∧ w.grownBy w' r ∧ (some g = r ∨ g = w.heap.size) := by
  have hs' : Src Try.prog i.size t x 1 [u] w := by rw [hz1]; exact hs
  have hl2 : (vs ++ [u]).length = vs.length + 1 := by simp
  have grow : ∀ (base : Option Addr) (sCap : Nat), (Builtin.firstCells i.size vs.length (.slice base vs.length sCap)).run Try.prog w.drew = .ok vs.toArray w.drew → sCap < vs.length + 1 →
      ∃ v' w' g, (Builtin.append_ #[t, t] ty #[.slice base vs.length sCap, x]).run Try.prog w = .ok v' w' ∧ OwnV w' v' (vs ++ [u]) (some g) ∧ w.grownBy w' r ∧ (some g = r ∨ g = w.heap.size) := by
    intro base sCap hold hg
    have hfit : (vs.length + 1) * i.bytes ≤ 140737488355328 := Nat.le_trans (Nat.mul_le_mul_left _ hz2) (by omega)
    have hr := run_append_grow_src (P := Try.prog) w t t ty e i z ht hi hz0 base vs.length sCap vs hold x 1 [u] hs' hg (by omega) (growslice_fits hg hfit)
    have hge := grownCap_ge w (vs.length + 1) sCap e
    have hcm := grownCap_le_maxLen w (vs.length + 1) sCap e (by unfold maxLen; omega)
    refine ⟨_, _, w.heap.size, hr, ?_, ⟨rfl, rfl, rfl, by simp, fun k hk _ => Below.heap_alloc w.drew _ k hk⟩, .inr rfl⟩
    obtain ⟨C, hC⟩ : ∃ C, (vs ++ [u]).toArray ++ Builtin.zeroCells z.cells (grownCap w (vs.length + 1) sCap e - (vs.length + 1)) = C := ⟨_, rfl⟩
    have hCs : C.size = grownCap w (vs.length + 1) sCap e := by
      rw [← hC, Array.size_append, List.size_toArray, size_zeroCells, hzc, hl2]
      omega
    have hCg : ∀ j, j < vs.length + 1 → C[j]? = (vs ++ [u])[j]? := fun j hj => by
      rw [← hC, Array.getElem?_append_left (by rw [List.size_toArray, hl2]; exact hj), List.getElem?_toArray]
    rw [hC]
    refine .inr ⟨w.heap.size, grownCap w (vs.length + 1) sCap e, rfl, by rw [hl2], by simp, by rw [hl2]; exact hge, hcm, fun j hj => ?_, fun j hj => ?_, fun j hj => ?_⟩
    · exact World.frozen?_alloc_at _ _ _ _ rfl
    · show ((w.drew.alloc (Obj.cells C e)).cell? ⟨w.drew.heap.size, j, none⟩).isSome = true
      rw [World.cell?_alloc_at _ _ _ _ rfl, Array.getElem?_eq_getElem (by omega)]; rfl
    · rw [hl2] at hj
      show (w.drew.alloc (Obj.cells C e)).cell? ⟨w.drew.heap.size, j, none⟩ = _
      rw [World.cell?_alloc_at _ _ _ _ rfl]; exact hCg j hj
  rcases hown with ⟨rfl, rfl, rfl⟩ | ⟨g, cap, rfl, rfl, hg, h1, h2, h3, h4, h5⟩
  · exact grow none 0 (by rw [List.length_nil]; exact run_firstCells_none w.drew _ _ _ _) (by simp)
  · by_cases hroom : vs.length + 1 ≤ cap
    · have hr := run_append_room_src (P := Try.prog) w t t ty e i ht hi g 0 vs.length cap x 1 [u] hs' hroom
        (fun j hj => by rw [hz1]; simp at hj; subst hj; simpa using h4 vs.length (by omega))
        (fun j hj => by rw [hz1]; simp at hj; subst hj; simpa using h3 vs.length (by omega))
      rw [hz1, Nat.zero_add, Nat.mul_one] at hr
      refine ⟨_, _, g, hr, .inr ⟨g, cap, rfl, by rw [hl2], ?_, by omega, h2, fun j hj => ?_, fun j hj => ?_, fun j hj => ?_⟩, grow_setCells w g _ _, .inl rfl⟩
      · rw [setCells_size]; exact hg
      · rw [World.frozen?_setCells]; exact h3 j hj
      · exact isSome_setCells g _ _ w _ (h4 j hj)
      · rw [hl2] at hj
        by_cases hj' : j < vs.length
        · rw [World.cell?_setCells_out g _ _ w _ (fun _ _ => .inl hj'), h5 j hj', List.getElem?_append_left hj']
        · obtain rfl : j = vs.length := by omega
          have := World.cell?_setCells_in g [u] vs.length w (fun m hm => h4 _ (by simp at hm; omega)) 0 (by simp)
          rw [Nat.add_zero] at this
          rw [this]
          simp
    · refine grow _ cap ?_ (by omega)
      rw [hz1]
      refine run_firstCells_some w.drew 1 vs.length ⟨g, 0, none⟩ _ _ vs (by omega) (fun j u hj => ?_)
      have hjl : j < vs.length := (List.getElem?_eq_some_iff.mp hj).1
      rw [WideShapes.add_plain, Nat.zero_add]
      show w.cell? ⟨g, j, none⟩ = some u
      rw [h5 j hjl, hj]

theorem step_append_val2 {ops : Array Oper} {o : Oper} {a : Act} {w : World} {K : Act → World → Prop} {Q : Exit → Act → World → Prop} {E : Prop}
    (hg : o.guard = none) (s x : Operand) (t e : TypeId) (i : TypeInfo) (z : Value) (ht : Try.prog.underlying t = some (.slice e)) (hi : Try.prog.info? e = some i) (hz0 : i.zero = some z) (hzc : z.cells.size = 1) (hz1 : i.size = 1) (hz2 : i.bytes ≤ 32)
    (hop : o.op = Op.call { callee := Callee.builtin Builtin.append, args := #[s, x], argTypes := #[t, t] }) (v xv u : Value) (vs : List Value) (r : Option Nat)
    (hs : a.eval s = v) (hx : a.eval x = xv) (hown : OwnV w v vs r) (hsrc : Src Try.prog 1 t xv 1 [u] w) (hlen : vs.length ≤ 2199023255552)
    (hK : ∀ v' w' g, OwnV w' v' (vs ++ [u]) (some g) → w.grownBy w' r → (some g = r ∨ g = w.heap.size) → K (a.put o.dst v') w') :
    if Region.wanted o (yielded ops a.tmps) = true then Oper.wp Try.prog o a w K Q else E := by
  have hw : Region.wanted o (yielded ops a.tmps) = true := by simp [Region.wanted, hg]
  rw [if_pos hw]
  obtain ⟨v', w', g, hrun, h1, h2, h3⟩ := run_append_val2 w t o.type e i z ht hi hz0 hzc hz1 hz2 v xv u vs r hown hsrc hlen
  unfold Oper.wp
  simp [execOp, hop, resolve, invoke, builtin, hs, hx, hrun, Result.andThen]
  exact hK v' w' g h1 h2 h3

theorem wpList_append_val2 {ops : Array Oper} {rest : List Oper} {o : Oper} {a : Act} {Q : Exit → Act → World → Prop} (w : World) (hgd : o.guard = none) (s x : Operand) (t e : TypeId) (i : TypeInfo) (z : Value)
    (ho : o.op = .call { callee := .builtin .append, args := #[s, x], argTypes := #[t, t] }) (ht : Try.prog.underlying t = some (.slice e)) (hi : Try.prog.info? e = some i) (hz0 : i.zero = some z) (hzc : z.cells.size = 1) (hz1 : i.size = 1) (hz2 : i.bytes ≤ 32)
    (v xv u : Value) (vs : List Value) (r : Option Nat)
    (hs : a.eval s = v) (hx : a.eval x = xv) (hown : OwnV w v vs r) (hsrc : Src Try.prog 1 t xv 1 [u] w) (hlen : vs.length ≤ 2199023255552)
    (h : ∀ v' w' g, OwnV w' v' (vs ++ [u]) (some g) → w.grownBy w' r → (some g = r ∨ g = w.heap.size) → wpList Try.prog ops Q rest (a.put o.dst v') w') : wpList Try.prog ops Q (o :: rest) a w :=
  wpList_plain hgd fun _ hK => by
    obtain ⟨v', w', g, hr, h1, h2, h3⟩ := run_append_val2 w t o.type e i z ht hi hz0 hzc hz1 hz2 v xv u vs r hown hsrc hlen
    unfold Oper.wp execOp
    simp only [ho, resolve, invoke, builtin, Sem.run_bind, Sem.run_pure, Result.andThen_ok, List.map_toArray, List.map_cons, List.map_nil, hs, hx, hr]
    exact hK _ _ (h v' w' g h1 h2 h3)
theorem Try.infoKS : (Try.prog.info? 43).map (fun i => (i.zero, i.size, i.bytes)) = some (some (Value.slice none 0 0), 1, 24) := by kernel_rfl
def keepS (gw : Nat) (rl r : Option Nat) (g : Nat) : Prop := g = gw ∨ rl = some g ∨ r = some g
def behindS : ByteArray := ⟨#[98, 101, 104, 105, 110, 100]⟩
def behindK (k : Nat) : Kr := ⟨behindS, -(k : Int) - 1, 0, 0, 0, 0, false⟩
theorem OwnKr.of_block {w w' : World} {v : Value} {ts : List Kr} {r : Option Nat} (h : OwnKr w v ts r) (hs : w.heap.size ≤ w'.heap.size) (hb : ∀ g, r = some g → w'.heap[g]? = w.heap[g]?) : OwnKr w' v ts r := by
  rcases h with h0 | ⟨g, cap, rfl, rfl, hg, h1, h2, h3, h4, h5⟩
  · exact .inl h0
  · have hb := hb g rfl
    refine .inr ⟨g, cap, rfl, rfl, Nat.lt_of_lt_of_le hg hs, h1, h2, fun j hj => ?_, fun j hj => ?_, fun j hj => ?_⟩
    · rw [World.frozen?_of_block (w := w) (a := ⟨g, j, none⟩) hb]; exact h3 j hj
    · rw [World.cell?_of_block (w := w) (a := ⟨g, j, none⟩) hb]; exact h4 j hj
    · rw [World.cell?_of_block (w := w) (a := ⟨g, j, none⟩) hb]; exact h5 j hj
theorem OwnKr.lt' {w : World} {v : Value} {ts : List Kr} {r : Option Nat} (h : OwnKr w v ts r) : ∀ g, r = some g → g < w.heap.size := fun g e => by subst e; exact h.lt
/-- What keep has laid down, up to the lists' being told. -/
structure KpI (w wr : World) (gw : Nat) (vl' : Value) (rl' : Option Nat) (hs : List Ho) (rl : Option Nat) (v : Value) (n : Nat) (r : Option Nat) : Prop where
  rowl : OwnV wr vl' (hs.map Ho.v ++ [v]) rl'
  each : ∀ k, k < hs.length → OwnKr wr (hs.getD k Ho.zero).v (List.replicate (hs.getD k Ho.zero).n (markK k)) (hs.getD k Ho.zero).r
  last : OwnKr wr v (List.replicate n (markK hs.length)) r
  chg : Chg (keepS gw rl r) w wr
  cell : wr.cell? ⟨gw, 2, none⟩ = some vl' ∧ wr.frozen? ⟨gw, 2, none⟩ = false ∧ ∀ j, j ≠ 2 → wr.cell? ⟨gw, j, none⟩ = w.cell? ⟨gw, j, none⟩ ∧ wr.frozen? ⟨gw, j, none⟩ = w.frozen? ⟨gw, j, none⟩
theorem KpI.step {w wr w' : World} {gw n : Nat} {vl' v : Value} {rl' rl r q : Option Nat} {hs : List Ho} (h : KpI w wr gw vl' rl' hs rl v n r) (hg : wr.grownBy w' q) (hq : ∀ g, q = some g → g ≠ gw ∧ rl' ≠ some g ∧ (∀ k, k < hs.length → (hs.getD k Ho.zero).r ≠ some g) ∧ (r = some g ∨ w.heap.size ≤ g)) (hl : OwnKr w' v (List.replicate n (markK hs.length)) r) (hgw : gw < wr.heap.size) : KpI w w' gw vl' rl' hs rl v n r := by
  have hb : ∀ j, j < wr.heap.size → q ≠ some j → w'.heap[j]? = wr.heap[j]? := fun j hj hn => hg.block j hj (fun e => hn e.symm)
  have hbw : w'.heap[gw]? = wr.heap[gw]? := hb gw hgw (fun e => (hq gw e).1 rfl)
  refine ⟨h.rowl.of_block hg.size (fun g e => hb g (by subst e; exact h.rowl.lt) (fun e2 => (hq g e2).2.1 e)), fun k hk => (h.each k hk).of_block hg.size (fun g e => hb g ((h.each k hk).lt' g e) (fun e2 => (hq g e2).2.2.1 k hk e)), hl, h.chg.grown hg (fun g e => (hq g e).2.2.2.imp (fun e2 => .inr (.inr e2)) id), ?_⟩
  obtain ⟨c1, c2, c3⟩ := h.cell
  exact ⟨(World.cell?_of_block (w := wr) (a := ⟨gw, 2, none⟩) hbw).trans c1, (World.frozen?_of_block (w := wr) (a := ⟨gw, 2, none⟩) hbw).trans c2, fun j hj => ⟨(World.cell?_of_block (w := wr) (a := ⟨gw, j, none⟩) hbw).trans (c3 j hj).1, (World.frozen?_of_block (w := wr) (a := ⟨gw, j, none⟩) hbw).trans (c3 j hj).2⟩⟩
theorem KpI.done {w wr : World} {gw n : Nat} {vl' v : Value} {rl' rl r : Option Nat} {hs : List Ho} (h : KpI w wr gw vl' rl' hs rl v n r) (hl : hs.length < 2199023255000) (hn : n ≤ 2199023254000) (hle : ∀ k, k < hs.length → (hs.getD k Ho.zero).n ≤ 2199023255000) : LsAt wr vl' (hs ++ [⟨v, n, r⟩]) rl' := by
  have hgd : ∀ k, k < hs.length → (hs ++ [(⟨v, n, r⟩ : Ho)]).getD k Ho.zero = hs.getD k Ho.zero := fun k hk => by
    rw [List.getD_eq_getElem?_getD, List.getD_eq_getElem?_getD, List.getElem?_append_left hk]
  have hgl : (hs ++ [(⟨v, n, r⟩ : Ho)]).getD hs.length Ho.zero = ⟨v, n, r⟩ := by
    rw [List.getD_eq_getElem?_getD, List.getElem?_append_right (Nat.le_refl _)]
    simp
  refine ⟨by rw [List.map_append]; exact h.rowl, fun k hk => ?_, by simp; omega, fun k hk => ?_⟩
  · by_cases e : k < hs.length
    · rw [hgd k e]; exact h.each k e
    · have : k = hs.length := by simp at hk; omega
      subst this
      rw [hgl]; exact h.last
  · by_cases e : k < hs.length
    · rw [hgd k e]; exact hle k e
    · have : k = hs.length := by simp at hk; omega
      subst this
      rw [hgl]; exact Nat.le_trans hn (by omega)
def markedL (st : List Kr) (k m : Nat) : List Kr := List.replicate k (markK m) ++ st.drop k
theorem markedL_zero (st : List Kr) (m : Nat) : markedL st 0 m = st := by simp [markedL]
theorem markedL_full (st : List Kr) (m : Nat) : markedL st st.length m = List.replicate st.length (markK m) := by simp [markedL]
theorem markedL_len (st : List Kr) (k m : Nat) (h : k ≤ st.length) : (markedL st k m).length = st.length := by simp [markedL]; omega
theorem markedL_set (st : List Kr) (k m : Nat) (h : k < st.length) : (markedL st k m).set k (markK m) = markedL st (k + 1) m := by
  unfold markedL
  rw [List.drop_eq_getElem_cons h, List.set_append_right _ _ (by simp)]
  simp only [List.length_replicate, Nat.sub_self, List.set_cons_zero]
  rw [List.replicate_succ', List.append_assoc]
  rfl
set_option maxHeartbeats 16000000 in
set_option maxRecDepth 100000 in
theorem keepOf (gw : Nat) (vl : Value) (hs : List Ho) (rl : Option Nat) (v : Value) (st : List Kr) (r : Option Nat) (w : World) (hc : w.cell? ⟨gw, 2, none⟩ = some vl) (hfz : w.frozen? ⟨gw, 2, none⟩ = false) (h : LsAt w vl hs rl) (ho : OwnKr w v st r) (hl : st.length ≤ 2199023254000)
    (h1 : r ≠ some gw) (h2 : rl ≠ some gw) (h3 : r = none ∨ r ≠ rl) (h4 : ∀ k, k < hs.length → (hs.getD k Ho.zero).r ≠ some gw ∧ (r = none ∨ (hs.getD k Ho.zero).r ≠ r) ∧ (rl = none ∨ (hs.getD k Ho.zero).r ≠ rl)) (hn : hs.length < 2199023255000) :
    Calls Try.prog 30 #[.pointer (some ⟨gw, 0, none⟩), v] w fun e w' => (∃ u, e = .returned u) ∧ ∃ vl' rl', (w'.cell? ⟨gw, 2, none⟩ = some vl' ∧ w'.frozen? ⟨gw, 2, none⟩ = false ∧ (∀ j, j ≠ 2 → w'.cell? ⟨gw, j, none⟩ = w.cell? ⟨gw, j, none⟩ ∧ w'.frozen? ⟨gw, j, none⟩ = w.frozen? ⟨gw, j, none⟩)) ∧ LsAt w' vl' (hs ++ [⟨v, st.length, r⟩]) rl' ∧ Chg (keepS gw rl r) w w' ∧ (rl' = rl ∨ ∀ g, rl' = some g → w.heap.size ≤ g) := by
  obtain ⟨a, cap, e, hc1, hc2⟩ := ho.shape
  subst e
  obtain ⟨al, capl, e, hd1, hd2⟩ := h.row.shape
  rw [List.length_map] at e hd2
  subst e
  have hlen := h.len
  have hgl := cell_lt hc
  have HL : Hid (LsAt w (.slice al hs.length capl) hs rl) := h
  have HO : Hid (OwnKr w (.slice a st.length cap) st r) := ho
  have H4 : Hid (∀ k, k < hs.length → (hs.getD k Ho.zero).r ≠ some gw ∧ (r = none ∨ (hs.getD k Ho.zero).r ≠ r) ∧ (rl = none ∨ (hs.getD k Ho.zero).r ≠ rl)) := h4
  clear h ho h4
  go_enter Try.func30, Try.ntmps30
  go_wp2
  go_loopw [5] (fun i wr => ∃ k : Nat, k ≤ st.length ∧ i = .int .i64 k ∧ Hid (OwnKr wr (.slice a st.length cap) (markedL st k hs.length) r) ∧ Hid (w.grownBy wr r)) (fun i _ => st.length - (intOf i).toNat)
  case atStart => exact ⟨0, by omega, rfl, by unfold Hid; rw [markedL_zero]; exact HO.out, below_grow (Below.refl _ _) _⟩
  case round =>
    obtain ⟨k, hk, rfl, HK, HG⟩ := hrel
    by_cases hlt : k < st.length
    · have hki : (k : Int) < (st.length : Int) := by omega
      have hml := markedL_len st k hs.length hk
      obtain ⟨g, rfl, rfl⟩ : ∃ g, r = some g ∧ a = some ⟨g, 0, none⟩ := by
        rcases HK.out with ⟨_, e, _⟩ | ⟨g, c, e, e2, _⟩
        · have := congrArg List.length e
          rw [hml, List.length_nil] at this
          omega
        · exact ⟨g, e, by injection e2⟩
      obtain ⟨d0, d1, d2, d3, d4, d5, d6⟩ := HK.out.at (j := k) (by omega)
      have hf : ∀ i, i < 7 → wr.frozen? ⟨g, k * 7 + i, none⟩ = false := fun i hi => HK.out.fz (by omega)
      have f0 : wr.frozen? ⟨g, k * 7, none⟩ = false := hf 0 (by omega)
      have f1 := hf 1 (by omega)
      have f2 := hf 2 (by omega)
      have f3 := hf 3 (by omega)
      have f4 := hf 4 (by omega)
      have f5 := hf 5 (by omega)
      have f6 := hf 6 (by omega)
      have HS : Hid (OwnKr (wr.setCells g (k * 7) (markK hs.length).cells) (.slice (some ⟨g, 0, none⟩) st.length cap) (markedL st (k + 1) hs.length) (some g) ∧ w.grownBy (wr.setCells g (k * 7) (markK hs.length).cells) (some g)) := by
        refine ⟨?_, grow_trans HG.out (grow_setCells wr g _ _) (.inl rfl)⟩
        have := HK.out.setK (markK hs.length) (j := k) (by omega)
        rw [markedL_set st k hs.length hlt] at this
        exact this
      clear hf
      go_wp2
      go_roundw
      case rel => exact ⟨k + 1, by omega, by go_num, HS.out.1, HS.out.2⟩
      case measure => simp [intOf]; omega
    · obtain rfl : k = st.length := by omega
      have hrg : r ≠ some gw := h1
      have hb1 : ∀ j, j < w.heap.size → r ≠ some j → wr.heap[j]? = w.heap[j]? := fun j hj hn => HG.out.block j hj (fun e => hn e.symm)
      have hcw : wr.cell? ⟨gw, 2, none⟩ = some (.slice al hs.length capl) := (World.cell?_of_block (w := w) (a := ⟨gw, 2, none⟩) (hb1 gw hgl hrg)).trans hc
      have hfw : wr.frozen? ⟨gw, 2, none⟩ = false := (World.frozen?_of_block (w := w) (a := ⟨gw, 2, none⟩) (hb1 gw hgl hrg)).trans hfz
      have HLA : Hid (OwnKr wr (.slice a st.length cap) (List.replicate st.length (markK hs.length)) r) := by
        have := HK.out
        rw [markedL_full] at this
        exact this
      have hbl : ∀ j, j < w.heap.size → r ≠ some j → wr.heap[j]? = w.heap[j]? := hb1
      have hsz := HG.out.size
      have HRW : Hid (OwnV wr (.slice al hs.length capl) (hs.map Ho.v) rl) := HL.out.row.of_block HG.out.size (fun g e => hb1 g (by subst e; exact HL.out.row.lt) (fun e2 => by
        rcases h3 with h3 | h3
        · rw [h3] at e2; cases e2
        · exact h3 (by rw [e2, e])))
      have HEA : Hid (∀ k, k < hs.length → OwnKr wr (hs.getD k Ho.zero).v (List.replicate (hs.getD k Ho.zero).n (markK k)) (hs.getD k Ho.zero).r) := fun k hk => (HL.out.each k hk).of_block HG.out.size (fun g e => hb1 g ((HL.out.each k hk).lt' g e) (fun e2 => by
        rcases (H4.out k hk).2.1 with h3 | h3
        · rw [h3] at e2; cases e2
        · exact h3 (by rw [e2, e])))
      obtain ⟨ti, hti, hz0, hz1, hz2⟩ := info_parts Try.infoKS
      clear hb1
      go_wp2_with (at_builtin; refine wpList_append_val2 _ rfl _ _ 33 43 ti (.slice none 0 0) rfl Try.underlying33 hti hz0 rfl hz1 (by rw [hz2]; decide) _ _ (.slice a st.length cap) (hs.map Ho.v) rl rfl rfl ?hOwnL ?hSrcL ?hLenL ?_)
      case hOwnL => exact HRW.out.of_block (by simp) (fun g e => Below.heap_alloc _ _ _ (by subst e; exact HRW.out.lt))
      case hSrcL => exact src_val _ _ rfl _ 43 _ Try.underlying33
      case hLenL => simp; omega
      intro v8 w8 g8 ho8 hg8 hr8
      have hsA : (wr.alloc (.cells #[.slice a st.length cap] 43)).heap.size = wr.heap.size + 1 := by simp
      have hs8 := hg8.size
      rw [hsA] at hs8
      have hg8n : ∀ j, j < wr.heap.size → rl ≠ some j → w8.heap[j]? = wr.heap[j]? := fun j hj hn => (hg8.block j (by rw [hsA]; omega) (fun e => hn e.symm)).trans (Below.heap_alloc _ _ _ hj)
      have hg8x : some g8 = rl ∨ wr.heap.size ≤ g8 := by
        rcases hr8 with e | e
        · exact .inl e
        · exact .inr (by first | omega | (rw [hsA] at e; omega))
      obtain ⟨a8, N8, c8, rfl⟩ : ∃ a N c, v8 = .slice a N c := by
        obtain ⟨a6, cc6, e, -, -⟩ := ho8.shape
        exact ⟨a6, _, cc6, e⟩
      have hg8w : g8 ≠ gw := fun e => by
        rcases hg8x with h | h
        · exact h2 (by rw [← h, e])
        · omega
      have gS := grow_setC w8 gw 2 (.slice a8 N8 c8)
      have hgwB : w8.heap[gw]? = w.heap[gw]? := (hg8n gw (by omega) (fun e => h2 e)).trans (hbl gw hgl hrg)
      have hcw8 : w8.cell? ⟨gw, 2, none⟩ = some (.slice al hs.length capl) := (World.cell?_of_block (w := w) (a := ⟨gw, 2, none⟩) hgwB).trans hc
      have hfw8 : w8.frozen? ⟨gw, 2, none⟩ = false := (World.frozen?_of_block (w := w) (a := ⟨gw, 2, none⟩) hgwB).trans hfz
      have HK9 : Hid (KpI w (w8.setCell ⟨gw, 2, none⟩ (.slice a8 N8 c8)) gw (.slice a8 N8 c8) (some g8) hs rl (.slice a st.length cap) st.length r) := by
        have hb9 : ∀ j, j < w8.heap.size → j ≠ gw → (w8.setCell ⟨gw, 2, none⟩ (.slice a8 N8 c8)).heap[j]? = w8.heap[j]? := fun j hj hn => gS.block j hj (fun e => hn (by cases e; rfl))
        refine ⟨ho8.kept gS (.inr (fun e => hg8w (by cases e; rfl))), fun k hk => ?_, ?_, ?_, ?_⟩
        · refine (HEA.out k hk).of_block (by have := gS.size; omega) (fun g e => ?_)
          have hgl2 := (HEA.out k hk).lt' g e
          refine (hb9 g (by omega) (fun e2 => (H4.out k hk).1 (by rw [e, e2]))).trans (hg8n g hgl2 (fun e2 => ?_))
          rcases (H4.out k hk).2.2 with h3' | h3'
          · rw [h3'] at e2; cases e2
          · exact h3' (by rw [e, e2])
        · refine HLA.out.of_block (by have := gS.size; omega) (fun g e => ?_)
          have hgl2 := HLA.out.lt' g e
          refine (hb9 g (by omega) (fun e2 => hrg (by rw [e, e2]))).trans (hg8n g hgl2 (fun e2 => ?_))
          rcases h3 with h3' | h3'
          · rw [h3'] at e; cases e
          · exact h3' (by rw [e, e2])
        · exact ((((Chg.refl _ w).grown HG.out (fun g e => .inl (.inr (.inr e)))).more ((Below.refl _ _).alloc (Nat.le_refl _) _)).grown hg8 (fun g e => .inl (.inr (.inl e)))).grown gS (fun g e => .inl (.inl (by cases e; rfl)))
        · refine ⟨World.cell?_setCell_same' _ _ _ (by rw [hcw8]; rfl), by rw [World.frozen?_setCell]; exact hfw8, fun j hj => ⟨?_, ?_⟩⟩
          · rw [show w8.setCell ⟨gw, 2, none⟩ (.slice a8 N8 c8) = w8.setCells gw 2 [.slice a8 N8 c8] from rfl, World.cell?_setCells_out gw _ _ w8 _ (fun _ _ => by simp only [List.length_cons, List.length_nil]; omega)]
            exact World.cell?_of_block (w := w) (a := ⟨gw, j, none⟩) hgwB
          · rw [World.frozen?_setCell]
            exact World.frozen?_of_block (w := w) (a := ⟨gw, j, none⟩) hgwB
      have hRL : (some g8 = rl ∨ w.heap.size ≤ g8) := hg8x.imp id (fun h => by omega)
      have hs9 := gS.size
      obtain ⟨w9, hw9⟩ : ∃ w9, w8.setCell ⟨gw, 2, none⟩ (.slice a8 N8 c8) = w9 := ⟨_, rfl⟩
      rw [hw9] at HK9 hs9
      clear ho8 hg8 hr8 hg8n gS hgwB
      have hrw : ∀ g, r = some g → g < w.heap.size := HO.out.lt'
      have hg89 : g8 < w9.heap.size := HK9.out.rowl.lt
      have HR9 : Hid (∀ k, k < hs.length → ∀ g, (hs.getD k Ho.zero).r = some g → g < w.heap.size) := fun k hk => (HL.out.each k hk).lt'
      go_wp2
      go_loopw [1, 6] (fun s1 i wz => ∃ (j : Nat) (x : Option Addr) (c : Nat) (rx : Option Nat), j ≤ 64 ∧ i = .int .i64 j ∧ s1 = .slice x (st.length + j) c ∧ Hid (OwnKr wz (.slice x (st.length + j) c) (List.replicate st.length (markK hs.length) ++ List.replicate j (behindK hs.length)) rx) ∧ Hid (KpI w wz gw (.slice a8 N8 c8) (some g8) hs rl (.slice a st.length cap) st.length r) ∧ Hid (rx = r ∨ ∀ g, rx = some g → w9.heap.size ≤ g) ∧ w9.heap.size ≤ wz.heap.size)
        (fun _ i _ => 64 - (intOf i).toNat)
      case atStart =>
        refine ⟨0, a, cap, r, by omega, rfl, rfl, ?_, HK9.out, .inl rfl, Nat.le_refl _⟩
        have := HK9.out.last
        unfold Hid
        simpa using this
      case round =>
        obtain ⟨j, x, c, rx, hj, rfl, rfl, HX, HKz, HD, hz⟩ := hrel
        by_cases hjl : j < 64
        · have hji : (j : Int) < 64 := by omega
          go_wp2_with (at_builtin; refine wpList_append_kp _ rfl _ _ rfl _ _ (List.replicate st.length (markK hs.length) ++ List.replicate j (behindK hs.length)) [behindK hs.length] rx rfl rfl ?hOwnB ?hSrcB ?hLenB ?hRB ?_)
          case hOwnB => exact HX.out.later ((Below.refl _ _).alloc (Nat.le_refl _) _)
          case hSrcB => exact src_kr _ ⟨behindS, ⟨-(hs.length : Int) - 1, 0, 0, 0, 0, false⟩⟩
          case hLenB => simp; omega
          case hRB => exact .inr (by simp)
          intro v7 w7 g7 ho7 hg7 hr7 hk7
          have hbA : Below wr.heap.size wr (wr.alloc (.cells #[.string behindS, .int .i64 (-(hs.length : Int) - 1), .int .i64 0, .int .i64 0, .int .i64 0, .int .i64 0, .bool false] 58)) := (Below.refl _ _).alloc (Nat.le_refl _) _
          have hlen7 : (List.replicate st.length (markK hs.length) ++ (List.replicate j (behindK hs.length) ++ [behindK hs.length])).length = st.length + (j + 1) := by simp
          have hli7 : List.replicate st.length (markK hs.length) ++ (List.replicate j (behindK hs.length) ++ [behindK hs.length]) = List.replicate st.length (markK hs.length) ++ List.replicate (j + 1) (behindK hs.length) := by rw [List.replicate_succ']
          try rw [List.append_assoc] at ho7
          obtain ⟨x7, c7, rfl, -, -⟩ := ho7.shape
          rw [hlen7] at ho7 ⊢
          rw [hli7] at ho7
          have hgwz : gw < wr.heap.size := by omega
          have HKA := HKz.out.step (below_grow hbA none) (fun g e => by cases e) (HKz.out.last.later hbA) hgwz
          have HK7 : Hid (KpI w w7 gw (.slice a8 N8 c8) (some g8) hs rl (.slice a st.length cap) st.length r) := by
            have hgA : gw < (wr.alloc (.cells #[.string behindS, .int .i64 (-(hs.length : Int) - 1), .int .i64 0, .int .i64 0, .int .i64 0, .int .i64 0, .bool false] 58)).heap.size := Nat.lt_of_lt_of_le hgwz hbA.size
            rcases HD.out with hd | hd
            · refine HKA.step hg7 (fun g e => ?_) (by rw [← hd] at HKA ⊢; exact hk7 _ _ HKA.last (by simp)) hgA
              rw [hd] at e
              refine ⟨fun e2 => h1 (by rw [e, e2]), fun e2 => ?_, fun k hk e2 => ?_, .inl e⟩
              · have e3 : g8 = g := by cases e2; rfl
                rcases hg8x with h | h
                · rcases h3 with h3 | h3
                  · rw [h3] at e; cases e
                  · exact h3 (by rw [e, ← h, e3])
                · have := hrw g e; omega
              · rcases (H4.out k hk).2.1 with h | h
                · rw [h] at e; cases e
                · exact h (by rw [e2, e])
            · refine HKA.step hg7 (fun g e => ?_) (HKA.last.of_block hg7.size (fun g e => hg7.block g (HKA.last.lt' g e) (fun e2 => by have := hd g e2.symm; have := hrw g e; omega))) hgA
              have hgg := hd g e
              refine ⟨by omega, fun e2 => by cases e2; omega, fun k hk e2 => by have := HR9.out k hk g e2; omega, .inr (by omega)⟩
          have hD7 : some g7 = r ∨ ∀ g, some g7 = some g → w9.heap.size ≤ g := by
            rcases hr7 with h | h
            · rcases HD.out with hd | hd
              · exact .inl (by rw [h, hd])
              · exact .inr fun g e => hd g (by rw [← h, e])
            · exact .inr fun g e => by cases e; first | omega | (simp at h; omega)
          have hs7 := hg7.size
          have hsb := hbA.size
          have hs97 : w9.heap.size ≤ w7.heap.size := Nat.le_trans hz (Nat.le_trans hsb hs7)
          have HX7 : Hid (OwnKr w7 (.slice x7 (st.length + (j + 1)) c7) (List.replicate st.length (markK hs.length) ++ List.replicate (j + 1) (behindK hs.length)) (some g7)) := ho7
          clear ho7 hg7 hr7 hk7 HKA hbA
          go_wp2
          go_roundw
          case rel => exact ⟨j + 1, x7, c7, some g7, by omega, by go_num, rfl, HX7.out, HK7.out, hD7, hs97⟩
          case measure => simp [intOf]; omega
        · obtain rfl : j = 64 := by omega
          have HLS : Hid (LsAt wr (.slice a8 N8 c8) (hs ++ [⟨.slice a st.length cap, st.length, r⟩]) (some g8)) := HKz.out.done hn hl HL.out.lens
          go_wp2
          go_end0
          exact ⟨⟨_, rfl⟩, _, _, HKz.out.cell, HLS.out, HKz.out.chg, hRL.imp id (fun h g e => by cases e; exact h)⟩
end Go.Proofs.Ytjhbaplnkigifaa
