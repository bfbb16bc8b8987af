import Derived.Test.YthcnhjmkcekdaaaGreatQs22
import Derived.BigRegion
namespace Go.Proofs.YthcnhjmkcekdaaaGreat
open Go.RowKit Go.Maps Plain
set_option linter.unusedVariables false
set_option linter.unusedSimpArgs false
theorem run_append_val2 (w : World) (t ty e : TypeId) (i : TypeInfo) (z : Value) (ht : Tryz.prog.underlying t = some (.slice e)) (hi : Tryz.prog.info? e = some i) (hz0 : i.zero = some z) (hzc : z.cells.size = 1) (hz1 : i.size = 1) (hz2 : i.bytes ≤ 32)
    (v x u : Value) (vs : List Value) (r : Option Nat) (hown : OwnV w v vs r) (hs : Src Tryz.prog 1 t x 1 [u] w) (hlen : vs.length ≤ 2199023255552) :
    ∃ v' w' g, (Builtin.append_ #[t, t] ty #[v, x]).run Tryz.prog w = .ok v' w' ∧ OwnV w' v' (vs ++ [u]) (some g) ∧ w.grownBy w' r ∧ (some g = r ∨ g = w.heap.size) := by
  have hs' : Src Tryz.prog i.size t x 1 [u] w := by rw [hz1]; exact hs
  have hl2 : (vs ++ [u]).length = vs.length + 1 := by simp
  have grow : ∀ (base : Option Addr) (sCap : Nat), (Builtin.firstCells i.size vs.length (.slice base vs.length sCap)).run Tryz.prog w.drew = .ok vs.toArray w.drew → sCap < vs.length + 1 →
      ∃ v' w' g, (Builtin.append_ #[t, t] ty #[.slice base vs.length sCap, x]).run Tryz.prog w = .ok v' w' ∧ OwnV w' v' (vs ++ [u]) (some g) ∧ w.grownBy w' r ∧ (some g = r ∨ g = w.heap.size) := by
    intro base sCap hold hg
    have hfit : (vs.length + 1) * i.bytes ≤ 140737488355328 := Nat.le_trans (Nat.mul_le_mul_left _ hz2) (by omega)
    have hr := run_append_grow_src (P := Tryz.prog) w t t ty e i z ht hi hz0 base vs.length sCap vs hold x 1 [u] hs' hg (by omega) (growslice_fits hg hfit)
    have hge := grownCap_ge w (vs.length + 1) sCap e
    have hcm := grownCap_le_maxLen w (vs.length + 1) sCap e (by unfold maxLen; omega)
    refine ⟨_, _, w.heap.size, hr, ?_, ⟨rfl, rfl, rfl, by simp, fun k hk _ => Below.heap_alloc w.drew _ k hk⟩, .inr rfl⟩
    obtain ⟨C, hC⟩ : ∃ C, (vs ++ [u]).toArray ++ Builtin.zeroCells z.cells (grownCap w (vs.length + 1) sCap e - (vs.length + 1)) = C := ⟨_, rfl⟩
    have hCs : C.size = grownCap w (vs.length + 1) sCap e := by
      rw [← hC, Array.size_append, List.size_toArray, size_zeroCells, hzc, hl2]
      omega
    have hCg : ∀ j, j < vs.length + 1 → C[j]? = (vs ++ [u])[j]? := fun j hj => by
      rw [← hC, Array.getElem?_append_left (by rw [List.size_toArray, hl2]; exact hj), List.getElem?_toArray]
    rw [hC]
    refine .inr ⟨w.heap.size, grownCap w (vs.length + 1) sCap e, rfl, by rw [hl2], by simp, by rw [hl2]; exact hge, hcm, fun j hj => ?_, fun j hj => ?_, fun j hj => ?_⟩
    · exact World.frozen?_alloc_at _ _ _ _ rfl
    · show ((w.drew.alloc (Obj.cells C e)).cell? ⟨w.drew.heap.size, j, none⟩).isSome = true
      rw [World.cell?_alloc_at _ _ _ _ rfl, Array.getElem?_eq_getElem (by omega)]; rfl
    · rw [hl2] at hj
      show (w.drew.alloc (Obj.cells C e)).cell? ⟨w.drew.heap.size, j, none⟩ = _
      rw [World.cell?_alloc_at _ _ _ _ rfl]; exact hCg j hj
  rcases hown with ⟨rfl, rfl, rfl⟩ | ⟨g, cap, rfl, rfl, hg, h1, h2, h3, h4, h5⟩
  · exact grow none 0 (by rw [List.length_nil]; exact run_firstCells_none w.drew _ _ _ _) (by simp)
  · by_cases hroom : vs.length + 1 ≤ cap
    · have hr := run_append_room_src (P := Tryz.prog) w t t ty e i ht hi g 0 vs.length cap x 1 [u] hs' hroom
        (fun j hj => by rw [hz1]; simp at hj; subst hj; simpa using h4 vs.length (by omega))
        (fun j hj => by rw [hz1]; simp at hj; subst hj; simpa using h3 vs.length (by omega))
      rw [hz1, Nat.zero_add, Nat.mul_one] at hr
      refine ⟨_, _, g, hr, .inr ⟨g, cap, rfl, by rw [hl2], ?_, by omega, h2, fun j hj => ?_, fun j hj => ?_, fun j hj => ?_⟩, grow_setCells w g _ _, .inl rfl⟩
      · rw [setCells_size]; exact hg
      · rw [World.frozen?_setCells]; exact h3 j hj
      · exact isSome_setCells g _ _ w _ (h4 j hj)
      · rw [hl2] at hj
        by_cases hj' : j < vs.length
        · rw [World.cell?_setCells_out g _ _ w _ (fun _ _ => .inl hj'), h5 j hj', List.getElem?_append_left hj']
        · obtain rfl : j = vs.length := by omega
          have := World.cell?_setCells_in g [u] vs.length w (fun m hm => h4 _ (by simp at hm; omega)) 0 (by simp)
          rw [Nat.add_zero] at this
          rw [this]
          simp
    · refine grow _ cap ?_ (by omega)
      rw [hz1]
      refine run_firstCells_some w.drew 1 vs.length ⟨g, 0, none⟩ _ _ vs (by omega) (fun j u hj => ?_)
      have hjl : j < vs.length := (List.getElem?_eq_some_iff.mp hj).1
      rw [WideShapes.add_plain, Nat.zero_add]
      show w.cell? ⟨g, j, none⟩ = some u
      rw [h5 j hjl, hj]
theorem step_append_val2 {ops : Array Oper} {o : Oper} {a : Act} {w : World} {K : Act → World → Prop} {Q : Exit → Act → World → Prop} {E : Prop}
    (hg : o.guard = none) (s x : Operand) (t e : TypeId) (i : TypeInfo) (z : Value) (ht : Tryz.prog.underlying t = some (.slice e)) (hi : Tryz.prog.info? e = some i) (hz0 : i.zero = some z) (hzc : z.cells.size = 1) (hz1 : i.size = 1) (hz2 : i.bytes ≤ 32)
    (hop : o.op = Op.call { callee := Callee.builtin Builtin.append, args := #[s, x], argTypes := #[t, t] }) (v xv u : Value) (vs : List Value) (r : Option Nat)
    (hs : a.eval s = v) (hx : a.eval x = xv) (hown : OwnV w v vs r) (hsrc : Src Tryz.prog 1 t xv 1 [u] w) (hlen : vs.length ≤ 2199023255552)
    (hK : ∀ v' w' g, OwnV w' v' (vs ++ [u]) (some g) → w.grownBy w' r → (some g = r ∨ g = w.heap.size) → K (a.put o.dst v') w') :
    if Region.wanted o (yielded ops a.tmps) = true then Oper.wp Tryz.prog o a w K Q else E := by
  have hw : Region.wanted o (yielded ops a.tmps) = true := by simp [Region.wanted, hg]
  rw [if_pos hw]
  obtain ⟨v', w', g, hrun, h1, h2, h3⟩ := run_append_val2 w t o.type e i z ht hi hz0 hzc hz1 hz2 v xv u vs r hown hsrc hlen
  unfold Oper.wp
  simp [execOp, hop, resolve, invoke, builtin, hs, hx, hrun, Result.andThen]
  exact hK v' w' g h1 h2 h3
theorem wpList_append_val2 {ops : Array Oper} {rest : List Oper} {o : Oper} {a : Act} {Q : Exit → Act → World → Prop} (w : World) (hgd : o.guard = none) (s x : Operand) (t e : TypeId) (i : TypeInfo) (z : Value)
    (ho : o.op = .call { callee := .builtin .append, args := #[s, x], argTypes := #[t, t] }) (ht : Tryz.prog.underlying t = some (.slice e)) (hi : Tryz.prog.info? e = some i) (hz0 : i.zero = some z) (hzc : z.cells.size = 1) (hz1 : i.size = 1) (hz2 : i.bytes ≤ 32)
    (v xv u : Value) (vs : List Value) (r : Option Nat)
    (hs : a.eval s = v) (hx : a.eval x = xv) (hown : OwnV w v vs r) (hsrc : Src Tryz.prog 1 t xv 1 [u] w) (hlen : vs.length ≤ 2199023255552)
    (h : ∀ v' w' g, OwnV w' v' (vs ++ [u]) (some g) → w.grownBy w' r → (some g = r ∨ g = w.heap.size) → wpList Tryz.prog ops Q rest (a.put o.dst v') w') : wpList Tryz.prog ops Q (o :: rest) a w :=
  wpList_plain hgd fun _ hK => by
    obtain ⟨v', w', g, hr, h1, h2, h3⟩ := run_append_val2 w t o.type e i z ht hi hz0 hzc hz1 hz2 v xv u vs r hown hsrc hlen
    unfold Oper.wp execOp
    simp only [ho, resolve, invoke, builtin, Sem.run_bind, Sem.run_pure, Result.andThen_ok, List.map_toArray, List.map_cons, List.map_nil, hs, hx, hr]
    exact hK _ _ (h v' w' g h1 h2 h3)
theorem Tryz.infoNMS : (Tryz.prog.info? 78).map (fun i => (i.zero, i.size, i.bytes)) = some (some (Value.slice none 0 0), 1, 24) := by kernel_rfl
theorem Tryz.infoB : (Tryz.prog.info? 34).map (fun i => (i.zero, i.size, i.bytes)) = some (some (Value.slice none 0 0), 1, 24) := by kernel_rfl
theorem Tryz.infoINT : (Tryz.prog.info? 3).map (fun i => (i.zero, i.size, i.bytes)) = some (some (Value.int .i64 0), 1, 8) := by kernel_rfl
end Go.Proofs.YthcnhjmkcekdaaaGreat

namespace Go.Proofs.YthcnhjmkcekdaaaGreat
open Go.RowKit Go.Maps Plain
set_option linter.unusedVariables false
set_option linter.unusedSimpArgs false
/-- A directory more. -/
theorem RdM.pushD {w w6 w7 : World} {gp : Nat} {k : Rk} {B : Nat → Prop} {blk : Nat → Option Nat} {vF vD v6 v7 : Value} {xs : List Ino} {dv : List Value} {sv tv : Nat → List Value} {l : List (Nm × Nat)} {r6 : Option Nat} {g7 : Nat} {T : Nat → Prop} (h : RdM w gp k B blk vF vD xs dv sv tv) (hT : ∀ g, rdT gp B blk g → T g)
    (hn6 : NwNew w w6 v6 (l.map nwOf) r6) (o : Obj) (ho7 : OwnV w7 v7 (dv ++ [v6]) (some g7)) (hg7 : (w6.alloc o).grownBy w7 (blk 1)) (hr7 : some g7 = blk 1 ∨ g7 = (w6.alloc o).heap.size) :
    RtP gp ⟨⟨k.ps.files, k.ps.grown, k.ps.dirs ++ [l]⟩, k.most, k.left, k.off, k.done⟩ T w (w7.setCell ⟨gp, 1, none⟩ v7) ∧ w7.cell? ⟨gp, 1, none⟩ = some vD ∧ w7.frozen? ⟨gp, 1, none⟩ = false := by
  have hbo : Below w6.heap.size w6 (w6.alloc o) := (Below.refl _ _).alloc (Nat.le_refl _) _
  have hb6 : Below w.heap.size w (w6.alloc o) := hn6.below.trans (hbo.mono hn6.below.size)
  have hs6 := hn6.below.size
  have hso : (w6.alloc o).heap.size = w6.heap.size + 1 := by simp
  have hs7 := hg7.size
  have hu : Chg (fun g => blk 1 = some g) w w7 := (Chg.ofBelow hb6).grown hg7 (fun g e => .inl e)
  have hgpl := h.gpl
  have hgp7 : w7.heap[gp]? = w.heap[gp]? := hu.block gp hgpl (fun e => (h.me 1 gp e).1 rfl)
  have hrl : ∀ g, blk 1 = some g → g < w.heap.size := h.blt 1
  obtain ⟨⟨c0, c1, c2, c3, c4, c5⟩, f0, f1, -⟩ := rcells (hgp7.trans h.cells)
  have hc8 : Chg (fun g => g = gp ∨ blk 1 = some g) w (w7.setCell ⟨gp, 1, none⟩ v7) := (hu.mono (fun g e => .inr e)).grown (grow_set w7 gp 1 v7) (fun g e => .inl (.inl (by cases e; rfl)))
  have hgs := grow_set w7 gp 1 v7
  refine ⟨(h.putD (B' := fun g => B g ∨ r6 = some g) hc8 (rset (hgp7.trans h.cells) 1 v7) (ho7.of_block hgs.size (fun g e => hgs.block g (by cases e; exact ho7.lt) (fun e2 => ?_))) (hr7.elim (fun e => .inl e) (fun e => .inr fun g e2 => by cases e2; omega)) (by simp [h.dl]) ⟨fun g e => .inl e, fun g e => e.imp id (fun e2 => hn6.new g e2), fun g e => ?_⟩ (fun j hj => ?_) (fun g hge e hB => ?_)).to (hc8.mono (fun g e => ?_)) (hT gp (.inl rfl)) (fun i g e => ?_) (fun g e => ?_), c1, f1⟩
  · cases e
    have := Option.some.inj e2
    rcases hr7 with e3 | e3
    · exact (h.me 1 g7 e3.symm).1 this
    · omega
  · rw [show (w7.setCell ⟨gp, 1, none⟩ v7).heap.size = w7.heap.size from setCells_size gp [v7] 1 w7]
    rcases e with e | e
    · have := h.b g e; omega
    · have := hn6.row.rlt g e; omega
  · rw [List.length_append, List.length_singleton] at hj
    have hsz8 := hc8.size
    have hne : ∀ g, g < w.heap.size → B g → (w7.setCell ⟨gp, 1, none⟩ v7).heap[g]? = w.heap[g]? := fun g hg hB => hc8.block g hg (fun e3 => e3.elim (fun e4 => h.nb (by rw [← e4]; exact hB)) (fun e4 => (h.me 1 g e4).2 hB))
    by_cases e : j < dv.length
    · rw [getD_app_lt' _ _ e, getD_app_lt' _ _ (by rw [← h.dl]; exact e)]
      exact (h.df j e).kept hsz8 (fun g e2 => hne g (h.b g e2) e2) (fun g e2 => .inl e2)
    · have e2 : j = dv.length := by omega
      subst e2
      rw [getD_app_eq', h.dl, getD_app_eq']
      refine ⟨r6, hn6.row.of_block (by rw [show (w7.setCell ⟨gp, 1, none⟩ v7).heap.size = w7.heap.size from setCells_size gp [v7] 1 w7]; omega) (fun g e3 => ?_), fun g e3 => .inr e3⟩
      have hlt := hn6.row.rlt g e3
      have hge := hn6.new g e3
      refine (hgs.block g (by omega) (fun e4 => by have := Option.some.inj e4; omega)).trans ?_
      exact (hg7.block g (by omega) (fun e4 => by have := hrl g e4.symm; omega)).trans (hbo.block g hlt)
  · cases e
    rcases hB with e2 | e2
    · have := h.b g7 e2; omega
    · have hlt := hn6.row.rlt g7 e2
      rcases hr7 with e3 | e3
      · have := hrl g7 e3.symm; omega
      · omega
  · rcases e with e | e
    · rw [e]; exact hT gp (.inl rfl)
    · exact hT g (.inr (.inl ⟨1, e⟩))
  · by_cases e1 : i = 1
    · rw [if_pos e1] at e
      cases e
      rcases hr7 with e3 | e3
      · exact .inl (hT g7 (.inr (.inl ⟨1, e3.symm⟩)))
      · exact .inr (by omega)
    · rw [if_neg e1] at e; exact .inl (hT g (.inr (.inl ⟨i, e⟩)))
  · rcases e with e | e
    · exact .inl (hT g (.inr (.inr e)))
    · exact .inr (hn6.new g e)
set_option maxHeartbeats 4000000 in
set_option maxRecDepth 100000 in
theorem turnOf {w w6 : World} {gp : Nat} {k : Rk} {B : Nat → Prop} {blk : Nat → Option Nat} {vF vD : Value} {xs : List Ino} {dv : List Value} {sv tv : Nat → List Value} {l : List (Nm × Nat)} {a6 : Option Addr} {N6 c6 : Nat} {r6 : Option Nat} {T : Nat → Prop} (h : RdM w gp k B blk vF vD xs dv sv tv) (hT : ∀ g, rdT gp B blk g → T g)
    (hn6 : NwNew w w6 (.slice a6 N6 c6) (l.map nwOf) r6) (hd : k.ps.dirs.length < 2199023255000) :
    Calls Tryz.prog 54 #[.pointer (some ⟨gp, 0, none⟩), .slice a6 N6 c6] w6 fun e w' => e = .returned (.tuple #[]) ∧ RtP gp ⟨⟨k.ps.files, k.ps.grown, k.ps.dirs ++ [l]⟩, k.most, k.left, k.off, k.done⟩ T w w' := by
  have HEND := Hid.mkR (fun (w7 : World) (v7 : Value) (g7 : Nat) (o : Obj) q1 q2 q3 => h.pushD (v7 := v7) (w7 := w7) (g7 := g7) hT hn6 o q1 q2 q3)
  have h6 := h.later hn6.below
  have k1 := (rcells h6.cells).1.2.1
  have f1 := (rcells h6.cells).2.2.1
  obtain ⟨aD, capD, e, -, -⟩ := h.D.shape
  rw [h.dl] at e
  subst e
  have hbo : Below w6.heap.size w6 (w6.alloc (.cells #[.slice a6 N6 c6] 78)) := (Below.refl _ _).alloc (Nat.le_refl _) _
  have HDO := Hid.mkR (h6.later hbo).D
  have hdl := h.dl
  clear h h6 hn6 hbo
  obtain ⟨tx, htx, hy0, hy1, hy2⟩ := info_parts Tryz.infoNMS
  go_enter Tryz.func54, Tryz.ntmps54
  go_wp2_with (at_builtin; refine wpList_append_val2 _ rfl _ _ 48 78 tx (.slice none 0 0) rfl Tryz.underlying48 htx hy0 rfl hy1 (by rw [hy2]; decide) _ _ (.slice a6 N6 c6) dv (blk 1) rfl rfl ?hOwn ?hSrc ?hLen ?_)
  case hOwn => exact HDO.out
  case hSrc => exact src_val w6 _ rfl _ 78 _ Tryz.underlying48
  case hLen => omega
  intro v7 w7 g7 ho7 hg7 hr7
  have hv7 : ∃ a7 N7 c7, v7 = .slice a7 N7 c7 := ho7.shape.elim fun a7 h => h.elim fun c7 h2 => ⟨a7, _, c7, h2.1⟩
  obtain ⟨a7, N7, c7, rfl⟩ := hv7
  obtain ⟨hE, e7, f7⟩ := HEND.out w7 _ g7 _ ho7 hg7 (by simpa using hr7)
  have HE := Hid.mkR hE
  clear hE ho7 hg7 hr7 HEND
  go_wp2
  go_end0
  exact ⟨rfl, HE.out⟩
end Go.Proofs.YthcnhjmkcekdaaaGreat

namespace Go.Proofs.YthcnhjmkcekdaaaGreat
open Go.RowKit Go.Maps Plain
set_option linter.unusedVariables false
set_option linter.unusedSimpArgs false
theorem set_getD_self {α : Type} {l : List α} {n : Nat} (d : α) (h : n < l.length) : l.set n (l.getD n d) = l := by
  rw [List.getD_eq_getElem?_getD, List.getElem?_eq_getElem h]
  exact List.set_getElem_self h
/-- One of a file's two slices is written. -/
theorem OwnIno.setS {w : World} {v x : Value} {ts : List Ino} {g n : Nat} (h : OwnIno w v ts (some g)) (hn : n < ts.length) : OwnIno (w.setCell ⟨g, n * 2, none⟩ x) v (ts.set n ⟨x, (ts.getD n Ino.zero).mo⟩) (some g) := by
  obtain ⟨g', cap, e1, e2, c0, c1, f0, f1⟩ := h.full hn
  cases e1
  refine h.set hn (Nat.le_of_eq (setCells_size g [x] (n * 2) w).symm) (fun j => World.frozen?_setCell _ _ _ _) (fun j => ?_)
  by_cases e : j = n * 2
  · rw [if_pos e, e, World.cell?_setCell_same' _ _ _ (by rw [c0]; rfl)]
  · rw [if_neg e, World.cell?_setCell_other _ _ _ _ (by intro e2; injection e2 with e3 e4; exact e e4.symm)]
    by_cases e3 : j = n * 2 + 1
    · rw [if_pos e3, e3]; exact c1
    · rw [if_neg e3]
theorem OwnIno.setM {w : World} {v x : Value} {ts : List Ino} {g n : Nat} (h : OwnIno w v ts (some g)) (hn : n < ts.length) : OwnIno (w.setCell ⟨g, n * 2 + 1, none⟩ x) v (ts.set n ⟨(ts.getD n Ino.zero).st, x⟩) (some g) := by
  obtain ⟨g', cap, e1, e2, c0, c1, f0, f1⟩ := h.full hn
  cases e1
  refine h.set hn (Nat.le_of_eq (setCells_size g [x] (n * 2 + 1) w).symm) (fun j => World.frozen?_setCell _ _ _ _) (fun j => ?_)
  by_cases e : j = n * 2 + 1
  · rw [if_neg (by omega), if_pos e, e, World.cell?_setCell_same' _ _ _ (by rw [c1]; rfl)]
  · rw [World.cell?_setCell_other _ _ _ _ (by intro e2; injection e2 with e3 e4; exact e e4.symm)]
    by_cases e3 : j = n * 2
    · rw [if_pos e3, e3]; exact c0
    · rw [if_neg e3, if_neg e]
/-- Behind an append to a file's row, and the store of it. -/
theorem RdM.storeS {w w6 w7 : World} {gp : Nat} {k : Rk} {B : Nat → Prop} {blk : Nat → Option Nat} {vF vD v6 v7 : Value} {xs : List Ino} {dv : List Value} {sv tv : Nat → List Value} {f gF g7 : Nat} {bs : List Nat} {r6 : Option Nat} {T : Nat → Prop} (h : RdM w gp k B blk vF vD xs dv sv tv) (hT : ∀ g, rdT gp B blk g → T g) (hf : f < xs.length) (hrF : blk 0 = some gF)
    (hb6 : Below w.heap.size w w6) (hrow : Own w6 v6 bs r6) (hnew : ∀ g, r6 = some g → w.heap.size ≤ g) (o : Obj) (ho7 : OwnV w7 v7 (sv f ++ [v6]) (some g7)) (hg7 : (w6.alloc o).grownBy w7 (blk (2 * f + 2))) (hr7 : some g7 = blk (2 * f + 2) ∨ g7 = (w6.alloc o).heap.size) :
    RtP gp ⟨⟨k.ps.files.set f (k.ps.files.getD f [] ++ [bs]), k.ps.grown, k.ps.dirs⟩, k.most, k.left, k.off, k.done⟩ T w (w7.setCell ⟨gF, f * 2, none⟩ v7) ∧ Chg (fun g => blk (2 * f + 2) = some g) w w7 := by
  have hbo : Below w6.heap.size w6 (w6.alloc o) := (Below.refl _ _).alloc (Nat.le_refl _) _
  have hb6o : Below w.heap.size w (w6.alloc o) := hb6.trans (hbo.mono hb6.size)
  have hs6 := hb6.size
  have hso : (w6.alloc o).heap.size = w6.heap.size + 1 := by simp
  have hs7 := hg7.size
  have hu : Chg (fun g => blk (2 * f + 2) = some g) w w7 := (Chg.ofBelow hb6o).grown hg7 (fun g e => .inl e)
  have hlt := h.blt
  have hgFl := hlt 0 gF hrF
  have hF7 : OwnIno w7 vF xs (some gF) := hrF ▸ h.F.of_block hu.size (fun g e => hu.block g (hlt 0 g e) (fun e2 => by have := h.sep _ _ g e e2; omega))
  have hgs := grow_set w7 gF (f * 2) v7
  have hsz8 : (w7.setCell ⟨gF, f * 2, none⟩ v7).heap.size = w7.heap.size := setCells_size gF [v7] (f * 2) w7
  have hc8 : Chg (fun g => blk 0 = some g ∨ blk (2 * f + 2) = some g ∨ blk (2 * f + 3) = some g) w (w7.setCell ⟨gF, f * 2, none⟩ v7) := (hu.mono (fun g e => .inr (.inl e))).grown hgs (fun g e => .inl (.inl (by cases e; exact hrF)))
  have hg7F : g7 ≠ gF := fun e => by
    rcases hr7 with e3 | e3
    · have := h.sep _ _ gF (e ▸ e3.symm) hrF; omega
    · omega
  have hoth : ∀ g, blk (2 * f + 3) = some g → (w7.setCell ⟨gF, f * 2, none⟩ v7).heap[g]? = w.heap[g]? := fun g e => (hgs.block g (by have := hlt _ g e; omega) (fun e2 => by have := Option.some.inj e2; subst this; have := h.sep _ _ g e hrF; omega)).trans (hu.block g (hlt _ g e) (fun e2 => by have := h.sep _ _ g e e2; omega))
  have hBk : ∀ g, B g → (w7.setCell ⟨gF, f * 2, none⟩ v7).heap[g]? = w.heap[g]? := fun g e => hc8.block g (h.b g e) (fun e2 => by rcases e2 with e2 | e2 | e2 <;> exact (h.me _ g e2).2 e)
  have hfg : f < k.ps.grown.length := by rw [h.gl, ← h.fl]; exact hf
  have hff : f < k.ps.files.length := by rw [← h.fl]; exact hf
  have ho8 : OwnV (w7.setCell ⟨gF, f * 2, none⟩ v7) v7 (sv f ++ [v6]) (some g7) := ho7.of_block hgs.size (fun g e => hgs.block g (by cases e; exact ho7.lt) (fun e2 => by cases e; exact hg7F (Option.some.inj e2)))
  refine ⟨?_, hu⟩
  have hQ := h.file hf (y := ⟨v7, (xs.getD f Ino.zero).mo⟩) (us := sv f ++ [v6]) (zs := tv f) (q := some g7) (p := blk (2 * f + 3)) (ys := k.ps.files.getD f [] ++ [bs]) (is := k.ps.grown.getD f []) (B' := (fun g => B g ∨ r6 = some g)) hc8 (by rw [hrF]; exact hF7.setS hf) ho8 (hr7.elim (fun e => .inl e) (fun e => .inr fun g e2 => by cases e2; omega)) ((h.G f hf).of_block hc8.size hoth) (.inl rfl)
    (fun g e e2 => by
      cases e
      rcases hr7 with e3 | e3
      · have := h.sep _ _ g7 e3.symm e2; omega
      · have := hlt _ g7 e2; omega)
    (by rw [List.length_append, List.length_append, h.sl f hf]; rfl) (h.tl f hf) ⟨fun g e => .inl e, fun g e => e.imp id (fun e2 => hnew g e2), fun g e => by
      rw [hsz8]
      rcases e with e | e
      · have := h.b g e; omega
      · have := hrow.rlt' g e; omega⟩
    (fun j hj => by
      rw [List.length_append, List.length_singleton] at hj
      by_cases e : j < (sv f).length
      · rw [getD_app_lt' _ _ e, getD_app_lt' _ _ (by rw [← h.sl f hf]; exact e)]
        exact (h.sf f hf j e).kept hc8.size hBk (fun g e2 => .inl e2)
      · have e2 : j = (sv f).length := by omega
        subst e2
        rw [getD_app_eq', h.sl f hf, getD_app_eq']
        refine ⟨r6, hrow.of_block (by omega) (fun g e3 => ?_), fun g e3 => .inr e3⟩
        have hl6 := hrow.rlt' g e3
        have hge := hnew g e3
        refine (hgs.block g (by omega) (fun e4 => by have := Option.some.inj e4; omega)).trans ?_
        exact (hg7.block g (by omega) (fun e4 => by have := hlt _ g e4.symm; omega)).trans (hbo.block g hl6))
    (h.tf f hf) (fun g hge e hB => by
      rcases e with e | e
      · cases e
        rcases hB with e2 | e2
        · have := h.b g7 e2; omega
        · have hl6 := hrow.rlt' g7 e2
          rcases hr7 with e3 | e3
          · have := hlt _ g7 e3.symm; omega
          · omega
      · have := hlt _ g e; omega)
  rw [set_getD_self [] hfg] at hQ
  refine hQ.to (hc8.mono (fun g e => ?_)) (hT gp (.inl rfl)) (fun i g e => ?_) (fun g e => ?_)
  · rcases e with e | e | e <;> exact hT g (.inr (.inl ⟨_, e⟩))
  · by_cases e1 : i = 2 * f + 2
    · rw [if_pos e1] at e
      cases e
      rcases hr7 with e3 | e3
      · exact .inl (hT g7 (.inr (.inl ⟨_, e3.symm⟩)))
      · exact .inr (by omega)
    · rw [if_neg e1] at e
      by_cases e2 : i = 2 * f + 3
      · rw [if_pos e2] at e
        exact .inl (hT g (.inr (.inl ⟨_, e⟩)))
      · rw [if_neg e2] at e; exact .inl (hT g (.inr (.inl ⟨_, e⟩)))
  · rcases e with e | e
    · exact .inl (hT g (.inr (.inr e)))
    · exact .inr (hnew g e)
/-- Behind an append to a file's row, and the store of it. -/
theorem RdM.storeM {w w6 w7 : World} {gp : Nat} {k : Rk} {B : Nat → Prop} {blk : Nat → Option Nat} {vF vD v6 v7 : Value} {xs : List Ino} {dv : List Value} {sv tv : Nat → List Value} {f gF g7 : Nat} {m : Int} {T : Nat → Prop} (h : RdM w gp k B blk vF vD xs dv sv tv) (hT : ∀ g, rdT gp B blk g → T g) (hf : f < xs.length) (hrF : blk 0 = some gF)
    (hb6 : Below w.heap.size w w6) (hv6 : v6 = .int .i64 m) (hm : I64 m) (o : Obj) (ho7 : OwnV w7 v7 (tv f ++ [v6]) (some g7)) (hg7 : (w6.alloc o).grownBy w7 (blk (2 * f + 3))) (hr7 : some g7 = blk (2 * f + 3) ∨ g7 = (w6.alloc o).heap.size) :
    RtP gp ⟨⟨k.ps.files, k.ps.grown.set f (k.ps.grown.getD f [] ++ [m]), k.ps.dirs⟩, k.most, k.left, k.off, k.done⟩ T w (w7.setCell ⟨gF, f * 2 + 1, none⟩ v7) ∧ Chg (fun g => blk (2 * f + 3) = some g) w w7 := by
  have hbo : Below w6.heap.size w6 (w6.alloc o) := (Below.refl _ _).alloc (Nat.le_refl _) _
  have hb6o : Below w.heap.size w (w6.alloc o) := hb6.trans (hbo.mono hb6.size)
  have hs6 := hb6.size
  have hso : (w6.alloc o).heap.size = w6.heap.size + 1 := by simp
  have hs7 := hg7.size
  have hu : Chg (fun g => blk (2 * f + 3) = some g) w w7 := (Chg.ofBelow hb6o).grown hg7 (fun g e => .inl e)
  have hlt := h.blt
  have hgFl := hlt 0 gF hrF
  have hF7 : OwnIno w7 vF xs (some gF) := hrF ▸ h.F.of_block hu.size (fun g e => hu.block g (hlt 0 g e) (fun e2 => by have := h.sep _ _ g e e2; omega))
  have hgs := grow_set w7 gF (f * 2 + 1) v7
  have hsz8 : (w7.setCell ⟨gF, f * 2 + 1, none⟩ v7).heap.size = w7.heap.size := setCells_size gF [v7] (f * 2 + 1) w7
  have hc8 : Chg (fun g => blk 0 = some g ∨ blk (2 * f + 2) = some g ∨ blk (2 * f + 3) = some g) w (w7.setCell ⟨gF, f * 2 + 1, none⟩ v7) := (hu.mono (fun g e => .inr (.inr e))).grown hgs (fun g e => .inl (.inl (by cases e; exact hrF)))
  have hg7F : g7 ≠ gF := fun e => by
    rcases hr7 with e3 | e3
    · have := h.sep _ _ gF (e ▸ e3.symm) hrF; omega
    · omega
  have hoth : ∀ g, blk (2 * f + 2) = some g → (w7.setCell ⟨gF, f * 2 + 1, none⟩ v7).heap[g]? = w.heap[g]? := fun g e => (hgs.block g (by have := hlt _ g e; omega) (fun e2 => by have := Option.some.inj e2; subst this; have := h.sep _ _ g e hrF; omega)).trans (hu.block g (hlt _ g e) (fun e2 => by have := h.sep _ _ g e e2; omega))
  have hBk : ∀ g, B g → (w7.setCell ⟨gF, f * 2 + 1, none⟩ v7).heap[g]? = w.heap[g]? := fun g e => hc8.block g (h.b g e) (fun e2 => by rcases e2 with e2 | e2 | e2 <;> exact (h.me _ g e2).2 e)
  have hfg : f < k.ps.grown.length := by rw [h.gl, ← h.fl]; exact hf
  have hff : f < k.ps.files.length := by rw [← h.fl]; exact hf
  have ho8 : OwnV (w7.setCell ⟨gF, f * 2 + 1, none⟩ v7) v7 (tv f ++ [v6]) (some g7) := ho7.of_block hgs.size (fun g e => hgs.block g (by cases e; exact ho7.lt) (fun e2 => by cases e; exact hg7F (Option.some.inj e2)))
  refine ⟨?_, hu⟩
  have hQ := h.file hf (y := ⟨(xs.getD f Ino.zero).st, v7⟩) (us := sv f) (zs := tv f ++ [v6]) (q := blk (2 * f + 2)) (p := some g7) (ys := k.ps.files.getD f []) (is := k.ps.grown.getD f [] ++ [m]) (B' := B) hc8 (by rw [hrF]; exact hF7.setM hf) ((h.S f hf).of_block hc8.size hoth) (.inl rfl) ho8 (hr7.elim (fun e => .inl e) (fun e => .inr fun g e2 => by cases e2; omega))
    (fun g e e2 => by
      cases e2
      rcases hr7 with e3 | e3
      · have := h.sep _ _ g7 e e3.symm; omega
      · have := hlt _ g7 e; omega)
    (h.sl f hf) (by rw [List.length_append, List.length_append, h.tl f hf]; rfl) (NewB.refl h.b hc8.size)
    (fun j hj => (h.sf f hf j hj).kept hc8.size hBk (fun g e2 => e2))
    (fun j hj => by
      rw [List.length_append, List.length_singleton] at hj
      by_cases e : j < (tv f).length
      · rw [getD_app_lt' _ _ e, getD_app_lt' _ _ (by rw [← h.tl f hf]; exact e)]
        exact h.tf f hf j e
      · have e2 : j = (tv f).length := by omega
        subst e2
        rw [getD_app_eq', h.tl f hf, getD_app_eq']
        exact ⟨hv6, hm⟩) (fun g hge e hB => by have := h.b g hB; omega)
  rw [set_getD_self [] hff] at hQ
  refine hQ.to (hc8.mono (fun g e => ?_)) (hT gp (.inl rfl)) (fun i g e => ?_) (fun g e => ?_)
  · rcases e with e | e | e <;> exact hT g (.inr (.inl ⟨_, e⟩))
  · by_cases e1 : i = 2 * f + 2
    · rw [if_pos e1] at e
      exact .inl (hT g (.inr (.inl ⟨_, e⟩)))
    · rw [if_neg e1] at e
      by_cases e2 : i = 2 * f + 3
      · rw [if_pos e2] at e
        cases e
        rcases hr7 with e3 | e3
        · exact .inl (hT g7 (.inr (.inl ⟨_, e3.symm⟩)))
        · exact .inr (by omega)
      · rw [if_neg e2] at e; exact .inl (hT g (.inr (.inl ⟨_, e⟩)))
  · exact .inl (hT g (.inr (.inr e)))
end Go.Proofs.YthcnhjmkcekdaaaGreat
