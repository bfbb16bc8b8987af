import Derived.Test.YtlnppgjppfkocaaGreatDoorGp25
import Derived.Test.YtlnppgjppfkocaaGreatDoorGp10
import Derived.Test.YtlnppgjppfkocaaGreatDoorGp13
import Derived.Test.YtlnppgjppfkocaaGreatDoorGp24
import Derived.Test.YtlnppgjppfkocaaGreatDoorGp21
/-! When a command fits its verb, plainly. -/
namespace Go.Proofs.YtlnppgjppfkocaaGreatDoor.Xs
open Go.RowKit Plain
set_option linter.unusedVariables false
set_option linter.unusedSimpArgs false

theorem an_bits (b1 b2 b3 b4 : Bool) :
    (bits .andNot .i64 (fillN b1 b2 b3 b4) 0 == 0) = (!b1 && !b2 && !b3 && !b4) ∧ (bits .andNot .i64 (fillN b1 b2 b3 b4) 1 == 0) = (!b2 && !b3 && !b4) ∧
    (bits .andNot .i64 (fillN b1 b2 b3 b4) 3 == 0) = (!b3 && !b4) ∧ (bits .andNot .i64 (fillN b1 b2 b3 b4) 5 == 0) = (!b2 && !b4) ∧ (bits .andNot .i64 (fillN b1 b2 b3 b4) 8 == 0) = (!b1 && !b2 && !b3) := by
  cases b1 <;> cases b2 <;> cases b3 <;> cases b4 <;> decide +kernel
theorem an2 : (bits .and .i64 0 2 == 0) = true ∧ (bits .and .i64 1 2 == 0) = true ∧ (bits .and .i64 3 2 == 0) = false ∧ (bits .and .i64 5 2 == 0) = true ∧ (bits .and .i64 8 2 == 0) = true := by decide +kernel
theorem fill_bits (c : Cm) : (!(c.conn != 0)) = (c.conn == 0) ∧ (!(!rqEq c.req Rq.zero)) = rqEq c.req Rq.zero ∧ (!decide (0 < c.raw.length)) = c.raw.isEmpty ∧ (!decide (0 < c.picks.length)) = c.picks.isEmpty := by
  refine ⟨?_, ?_, ?_, ?_⟩
  · show (!(!(c.conn == 0))) = _
    rw [Bool.not_not]
  · rw [Bool.not_not]
  · cases c.raw <;> simp
  · cases c.picks <;> simp
set_option maxHeartbeats 4000000 in
theorem fits_iff (c : Cm) (h0 : 0 ≤ c.verb) (h1 : c.verb < 11) : fitsV (rowV c.verb) c = true ↔ (OkC c ∧ c.raw.length ≤ 4096 ∧ c.picks.length ≤ 4096) := by
  obtain ⟨n0, n1, n3, n5, n8⟩ := an_bits (c.conn != 0) (!rqEq c.req Rq.zero) (decide (0 < c.raw.length)) (decide (0 < c.picks.length))
  obtain ⟨m0, m1, m3, m5, m8⟩ := an2
  obtain ⟨f1, f2, f3, f4⟩ := fill_bits c
  rw [f1, f2, f3, f4] at n0
  rw [f2, f3, f4] at n1
  rw [f3, f4] at n3
  rw [f2, f4] at n5
  rw [f1, f2, f3] at n8
  have hrow : rowV c.verb = vrL.getD c.verb.toNat Vr.zero := by unfold rowV; rw [if_pos ⟨h0, h1⟩]
  have hv : c.verb = 0 ∨ c.verb = 1 ∨ c.verb = 2 ∨ c.verb = 3 ∨ c.verb = 4 ∨ c.verb = 5 ∨ c.verb = 6 ∨ c.verb = 7 ∨ c.verb = 8 ∨ c.verb = 9 ∨ c.verb = 10 := by omega
  rw [okC_iff]
  unfold fitsV fillC okC1 okC2 okC3 okC4 cnB pkB
  rw [hrow]
  clear f1 f2 f3 f4 hrow
  generalize fillN (c.conn != 0) (!rqEq c.req Rq.zero) (decide (0 < c.raw.length)) (decide (0 < c.picks.length)) = F at *
  generalize rqEq c.req Rq.zero = Q at *
  generalize (okR1 c.req && okR2 c.req && okR3 c.req) = R at *
  generalize c.raw.isEmpty = E1 at *
  generalize c.picks.isEmpty = E2 at *
  rcases hv with e | e | e | e | e | e | e | e | e | e | e
  all_goals
    rw [e]
    simp only [vrL, List.getD_cons_zero, List.getD_cons_succ, show (0 : Int).toNat = 0 from rfl, show (1 : Int).toNat = 1 from rfl, show (2 : Int).toNat = 2 from rfl, show (3 : Int).toNat = 3 from rfl, show (4 : Int).toNat = 4 from rfl, show (5 : Int).toNat = 5 from rfl, show (6 : Int).toNat = 6 from rfl, show (7 : Int).toNat = 7 from rfl, show (8 : Int).toNat = 8 from rfl, show (9 : Int).toNat = 9 from rfl, show (10 : Int).toNat = 10 from rfl, n0, n1, n3, n5, n8, m0, m1, m3, m5, m8]
    clear n0 n1 n3 n5 n8 m0 m1 m3 m5 m8
    simp only [Bool.and_eq_true, Bool.or_eq_true, decide_eq_true_eq, beq_iff_eq, Bool.true_or, Bool.false_or, Bool.false_eq_true, if_true, if_false, reduceIte]
    simp
    grind
end Go.Proofs.YtlnppgjppfkocaaGreatDoor.Xs

/-! Rows of pointers to fields; which fields of a request its operation uses. -/
namespace Go.Proofs.YtlnppgjppfkocaaGreatDoor
open Go.RowKit Plain
set_option linter.unusedVariables false

theorem Tryz.infosps : (Tryz.prog.info? 118).map (fun i => (i.zero, i.size, i.bytes)) = some (some (.pointer none), 1, 8) := by kernel_rfl
/-- WHAT append DOES of pointers (sps). -/
theorem run_append_sps (w : World) (ty : TypeId) (v x : Value) (vs us : List Value) (r : Option Nat) (hown : OwnV w v vs r) (hs : Src Tryz.prog 1 115 x us.length us w) (hlen : vs.length + us.length ≤ 8796093022400) (hr0 : r ≠ none ∨ 0 < us.length) :
    ∃ v' w' g, (Builtin.append_ #[115, 115] ty #[v, x]).run Tryz.prog w = .ok v' w' ∧ OwnV w' v' (vs ++ us) (some g) ∧ w.grownBy w' r ∧ (some g = r ∨ g = w.heap.size) := by
  obtain ⟨i, hi, hz0, hz1, hz2⟩ := info_parts Tryz.infosps
  have hs' : Src Tryz.prog i.size 115 x us.length us w := by rw [hz1]; exact hs
  have hl2 : (vs ++ us).length = vs.length + us.length := by simp
  have hzc : (Value.pointer none).cells.size = 1 := by rfl
  have grow : ∀ (base : Option Addr) (sCap : Nat), (Builtin.firstCells i.size vs.length (.slice base vs.length sCap)).run Tryz.prog w.drew = .ok vs.toArray w.drew → sCap < vs.length + us.length →
      ∃ v' w' g, (Builtin.append_ #[115, 115] ty #[.slice base vs.length sCap, x]).run Tryz.prog w = .ok v' w' ∧ OwnV w' v' (vs ++ us) (some g) ∧ w.grownBy w' r ∧ (some g = r ∨ g = w.heap.size) := by
    intro base sCap hold hg
    have hr := run_append_grow_src (P := Tryz.prog) w 115 115 ty 118 i _ Tryz.underlying115 hi hz0 base vs.length sCap vs hold x us.length us hs' hg (by omega) (by rw [hz2]; exact growslice_fits_wide hg (by omega))
    have hge := grownCap_ge w (vs.length + us.length) sCap 118
    have hcm := grownCap_le_maxLen w (vs.length + us.length) sCap 118 (by unfold maxLen; omega)
    refine ⟨_, _, w.heap.size, hr, ?_, ⟨rfl, rfl, rfl, by simp, fun k hk _ => heap_alloc_old w.drew _ hk⟩, .inr rfl⟩
    obtain ⟨C, hC⟩ : ∃ C, (vs ++ us).toArray ++ Builtin.zeroCells (Value.pointer none).cells (grownCap w (vs.length + us.length) sCap 118 - (vs.length + us.length)) = C := ⟨_, rfl⟩
    have hCs : C.size = grownCap w (vs.length + us.length) sCap 118 := by
      rw [← hC, Array.size_append, List.size_toArray, size_zeroCells, hzc, hl2]
      omega
    have hCg : ∀ j, j < vs.length + us.length → C[j]? = (vs ++ us)[j]? := fun j hj => by
      rw [← hC, Array.getElem?_append_left (by rw [List.size_toArray, hl2]; exact hj), List.getElem?_toArray]
    rw [hC]
    refine .inr ⟨w.heap.size, grownCap w (vs.length + us.length) sCap 118, rfl, by rw [hl2], by simp, by rw [hl2]; exact hge, hcm, fun j hj => ?_, fun j hj => ?_, fun j hj => ?_⟩
    · exact World.frozen?_alloc_at _ _ _ _ rfl
    · show ((w.drew.alloc (Obj.cells C 118)).cell? ⟨w.drew.heap.size, j, none⟩).isSome = true
      rw [World.cell?_alloc_at _ _ _ _ rfl, Array.getElem?_eq_getElem (by omega)]; rfl
    · rw [hl2] at hj
      show (w.drew.alloc (Obj.cells C 118)).cell? ⟨w.drew.heap.size, j, none⟩ = _
      rw [World.cell?_alloc_at _ _ _ _ rfl]; exact hCg j hj
  rcases hown with ⟨rfl, rfl, rfl⟩ | ⟨g, cap, rfl, rfl, hg, h1, h2, h3, h4, h5⟩
  · rcases hr0 with h | h
    · exact absurd rfl h
    · exact grow none 0 (by rw [List.length_nil]; exact run_firstCells_none w.drew _ _ _ _) (by simpa using h)
  · by_cases hroom : vs.length + us.length ≤ cap
    · have hr := run_append_room_src (P := Tryz.prog) w 115 115 ty 118 i Tryz.underlying115 hi g 0 vs.length cap x us.length us hs' hroom
        (fun j hj => by rw [hz1, Nat.mul_one, Nat.zero_add]; exact h4 _ (by omega))
        (fun j hj => by rw [hz1, Nat.mul_one, Nat.zero_add]; exact h3 _ (by omega))
      rw [hz1, Nat.zero_add, Nat.mul_one] at hr
      refine ⟨_, _, g, hr, .inr ⟨g, cap, rfl, by rw [hl2], ?_, by omega, h2, fun j hj => ?_, fun j hj => ?_, fun j hj => ?_⟩, grow_setCells w g _ _, .inl rfl⟩
      · rw [setCells_size]; exact hg
      · rw [World.frozen?_setCells]; exact h3 j hj
      · exact isSome_setCells g _ _ w _ (h4 j hj)
      · rw [hl2] at hj
        by_cases hj' : j < vs.length
        · rw [World.cell?_setCells_out g _ _ w _ (fun _ _ => .inl hj'), h5 j hj', List.getElem?_append_left hj']
        · have hj2 : j - vs.length < us.length := by omega
          have := World.cell?_setCells_in g us vs.length w (fun m hm => h4 _ (by omega)) (j - vs.length) hj2
          rw [show vs.length + (j - vs.length) = j by omega] at this
          rw [this, List.getElem?_append_right (by omega), List.getElem?_eq_getElem hj2]
    · refine grow _ cap ?_ (by omega)
      rw [hz1]
      refine run_firstCells_some w.drew 1 vs.length ⟨g, 0, none⟩ _ _ vs (by omega) (fun j u hj => ?_)
      have hjl : j < vs.length := (List.getElem?_eq_some_iff.mp hj).1
      rw [WideShapes.add_plain, Nat.zero_add]
      show w.cell? ⟨g, j, none⟩ = some u
      rw [h5 j hjl, hj]
theorem wpList_append_sps {ops : Array Oper} {rest : List Oper} {o : Oper} {a : Act} {Q : Exit → Act → World → Prop} (w : World) (hgd : o.guard = none) (s x : Operand)
    (ho : o.op = .call { callee := .builtin .append, args := #[s, x], argTypes := #[115, 115] }) (v xv : Value) (vs us : List Value) (r : Option Nat)
    (hs : a.eval s = v) (hx : a.eval x = xv) (hown : OwnV w v vs r) (hsrc : Src Tryz.prog 1 115 xv us.length us w) (hlen : vs.length + us.length ≤ 8796093022400) (hr0 : r ≠ none ∨ 0 < us.length)
    (h : ∀ v' w' g, OwnV w' v' (vs ++ us) (some g) → w.grownBy w' r → (some g = r ∨ g = w.heap.size) → wpList Tryz.prog ops Q rest (a.put o.dst v') w') : wpList Tryz.prog ops Q (o :: rest) a w :=
  wpList_plain hgd fun _ hK => by
    obtain ⟨v', w', g, hr, h1, h2, h3⟩ := run_append_sps w o.type v xv vs us r hown hsrc hlen hr0
    unfold Oper.wp execOp
    simp only [ho, resolve, invoke, builtin, Sem.run_bind, Sem.run_pure, Result.andThen_ok, List.map_toArray, List.map_cons, List.map_nil, hs, hx, hr]
    exact hK _ _ (h v' w' g h1 h2 h3)
theorem Tryz.infoips : (Tryz.prog.info? 122).map (fun i => (i.zero, i.size, i.bytes)) = some (some (.pointer none), 1, 8) := by kernel_rfl
/-- WHAT append DOES of pointers (ips). -/
theorem run_append_ips (w : World) (ty : TypeId) (v x : Value) (vs us : List Value) (r : Option Nat) (hown : OwnV w v vs r) (hs : Src Tryz.prog 1 119 x us.length us w) (hlen : vs.length + us.length ≤ 8796093022400) (hr0 : r ≠ none ∨ 0 < us.length) :
    ∃ v' w' g, (Builtin.append_ #[119, 119] ty #[v, x]).run Tryz.prog w = .ok v' w' ∧ OwnV w' v' (vs ++ us) (some g) ∧ w.grownBy w' r ∧ (some g = r ∨ g = w.heap.size) := by
  obtain ⟨i, hi, hz0, hz1, hz2⟩ := info_parts Tryz.infoips
  have hs' : Src Tryz.prog i.size 119 x us.length us w := by rw [hz1]; exact hs
  have hl2 : (vs ++ us).length = vs.length + us.length := by simp
  have hzc : (Value.pointer none).cells.size = 1 := by rfl
  have grow : ∀ (base : Option Addr) (sCap : Nat), (Builtin.firstCells i.size vs.length (.slice base vs.length sCap)).run Tryz.prog w.drew = .ok vs.toArray w.drew → sCap < vs.length + us.length →
      ∃ v' w' g, (Builtin.append_ #[119, 119] ty #[.slice base vs.length sCap, x]).run Tryz.prog w = .ok v' w' ∧ OwnV w' v' (vs ++ us) (some g) ∧ w.grownBy w' r ∧ (some g = r ∨ g = w.heap.size) := by
    intro base sCap hold hg
    have hr := run_append_grow_src (P := Tryz.prog) w 119 119 ty 122 i _ Tryz.underlying119 hi hz0 base vs.length sCap vs hold x us.length us hs' hg (by omega) (by rw [hz2]; exact growslice_fits_wide hg (by omega))
    have hge := grownCap_ge w (vs.length + us.length) sCap 122
    have hcm := grownCap_le_maxLen w (vs.length + us.length) sCap 122 (by unfold maxLen; omega)
    refine ⟨_, _, w.heap.size, hr, ?_, ⟨rfl, rfl, rfl, by simp, fun k hk _ => heap_alloc_old w.drew _ hk⟩, .inr rfl⟩
    obtain ⟨C, hC⟩ : ∃ C, (vs ++ us).toArray ++ Builtin.zeroCells (Value.pointer none).cells (grownCap w (vs.length + us.length) sCap 122 - (vs.length + us.length)) = C := ⟨_, rfl⟩
    have hCs : C.size = grownCap w (vs.length + us.length) sCap 122 := by
      rw [← hC, Array.size_append, List.size_toArray, size_zeroCells, hzc, hl2]
      omega
    have hCg : ∀ j, j < vs.length + us.length → C[j]? = (vs ++ us)[j]? := fun j hj => by
      rw [← hC, Array.getElem?_append_left (by rw [List.size_toArray, hl2]; exact hj), List.getElem?_toArray]
    rw [hC]
    refine .inr ⟨w.heap.size, grownCap w (vs.length + us.length) sCap 122, rfl, by rw [hl2], by simp, by rw [hl2]; exact hge, hcm, fun j hj => ?_, fun j hj => ?_, fun j hj => ?_⟩
    · exact World.frozen?_alloc_at _ _ _ _ rfl
    · show ((w.drew.alloc (Obj.cells C 122)).cell? ⟨w.drew.heap.size, j, none⟩).isSome = true
      rw [World.cell?_alloc_at _ _ _ _ rfl, Array.getElem?_eq_getElem (by omega)]; rfl
    · rw [hl2] at hj
      show (w.drew.alloc (Obj.cells C 122)).cell? ⟨w.drew.heap.size, j, none⟩ = _
      rw [World.cell?_alloc_at _ _ _ _ rfl]; exact hCg j hj
  rcases hown with ⟨rfl, rfl, rfl⟩ | ⟨g, cap, rfl, rfl, hg, h1, h2, h3, h4, h5⟩
  · rcases hr0 with h | h
    · exact absurd rfl h
    · exact grow none 0 (by rw [List.length_nil]; exact run_firstCells_none w.drew _ _ _ _) (by simpa using h)
  · by_cases hroom : vs.length + us.length ≤ cap
    · have hr := run_append_room_src (P := Tryz.prog) w 119 119 ty 122 i Tryz.underlying119 hi g 0 vs.length cap x us.length us hs' hroom
        (fun j hj => by rw [hz1, Nat.mul_one, Nat.zero_add]; exact h4 _ (by omega))
        (fun j hj => by rw [hz1, Nat.mul_one, Nat.zero_add]; exact h3 _ (by omega))
      rw [hz1, Nat.zero_add, Nat.mul_one] at hr
      refine ⟨_, _, g, hr, .inr ⟨g, cap, rfl, by rw [hl2], ?_, by omega, h2, fun j hj => ?_, fun j hj => ?_, fun j hj => ?_⟩, grow_setCells w g _ _, .inl rfl⟩
      · rw [setCells_size]; exact hg
      · rw [World.frozen?_setCells]; exact h3 j hj
      · exact isSome_setCells g _ _ w _ (h4 j hj)
      · rw [hl2] at hj
        by_cases hj' : j < vs.length
        · rw [World.cell?_setCells_out g _ _ w _ (fun _ _ => .inl hj'), h5 j hj', List.getElem?_append_left hj']
        · have hj2 : j - vs.length < us.length := by omega
          have := World.cell?_setCells_in g us vs.length w (fun m hm => h4 _ (by omega)) (j - vs.length) hj2
          rw [show vs.length + (j - vs.length) = j by omega] at this
          rw [this, List.getElem?_append_right (by omega), List.getElem?_eq_getElem hj2]
    · refine grow _ cap ?_ (by omega)
      rw [hz1]
      refine run_firstCells_some w.drew 1 vs.length ⟨g, 0, none⟩ _ _ vs (by omega) (fun j u hj => ?_)
      have hjl : j < vs.length := (List.getElem?_eq_some_iff.mp hj).1
      rw [WideShapes.add_plain, Nat.zero_add]
      show w.cell? ⟨g, j, none⟩ = some u
      rw [h5 j hjl, hj]
theorem wpList_append_ips {ops : Array Oper} {rest : List Oper} {o : Oper} {a : Act} {Q : Exit → Act → World → Prop} (w : World) (hgd : o.guard = none) (s x : Operand)
    (ho : o.op = .call { callee := .builtin .append, args := #[s, x], argTypes := #[119, 119] }) (v xv : Value) (vs us : List Value) (r : Option Nat)
    (hs : a.eval s = v) (hx : a.eval x = xv) (hown : OwnV w v vs r) (hsrc : Src Tryz.prog 1 119 xv us.length us w) (hlen : vs.length + us.length ≤ 8796093022400) (hr0 : r ≠ none ∨ 0 < us.length)
    (h : ∀ v' w' g, OwnV w' v' (vs ++ us) (some g) → w.grownBy w' r → (some g = r ∨ g = w.heap.size) → wpList Tryz.prog ops Q rest (a.put o.dst v') w') : wpList Tryz.prog ops Q (o :: rest) a w :=
  wpList_plain hgd fun _ hK => by
    obtain ⟨v', w', g, hr, h1, h2, h3⟩ := run_append_ips w o.type v xv vs us r hown hsrc hlen hr0
    unfold Oper.wp execOp
    simp only [ho, resolve, invoke, builtin, Sem.run_bind, Sem.run_pure, Result.andThen_ok, List.map_toArray, List.map_cons, List.map_nil, hs, hx, hr]
    exact hK _ _ (h v' w' g h1 h2 h3)
theorem src_sps (w : World) (p : Value) (h1 : p.oneCell' = true) : Src Tryz.prog 1 115 (.slice (some ⟨w.heap.size, 0, none⟩) 1 1) [p].length [p] (w.alloc (.cells #[p] 118)) := src_val w p h1 115 118 118 Tryz.underlying115
theorem src_ips (w : World) (p : Value) (h1 : p.oneCell' = true) : Src Tryz.prog 1 119 (.slice (some ⟨w.heap.size, 0, none⟩) 1 1) [p].length [p] (w.alloc (.cells #[p] 122)) := src_val w p h1 119 122 122 Tryz.underlying119
namespace Xs
set_option linter.unusedSimpArgs false
set_option maxHeartbeats 8000000 in
set_option maxRecDepth 100000 in
theorem qtextsOfOf (g o : Nat) (w : World) :
    Calls Tryz.prog 97 #[.pointer (some ⟨g, o, none⟩)] w fun e w' => e = .returned (.slice (some ⟨w.heap.size, 0, none⟩) 3 3) ∧ w' = (w.alloc (.cells #[.pointer (some ⟨g, o + 2, none⟩), .pointer (some ⟨g, o + 3, none⟩), .pointer (some ⟨g, o + 4, none⟩)] 118)).drew := by
  go_enter Tryz.func97, Tryz.ntmps97
  go_wp2
  go_region
  go_wp2
  go_ret
  exact ⟨rfl, rfl⟩
set_option maxHeartbeats 8000000 in
set_option maxRecDepth 100000 in
theorem qnumbersOfOf (g o : Nat) (w : World) :
    Calls Tryz.prog 99 #[.pointer (some ⟨g, o, none⟩)] w fun e w' => e = .returned (.slice (some ⟨w.heap.size, 0, none⟩) 4 4) ∧ w' = (w.alloc (.cells #[.pointer (some ⟨g, o + 5, none⟩), .pointer (some ⟨g, o + 6, none⟩), .pointer (some ⟨g, o + 7, none⟩), .pointer (some ⟨g, o + 8, none⟩)] 122)).drew := by
  go_enter Tryz.func99, Tryz.ntmps99
  go_wp2
  go_region
  go_wp2
  go_ret
  exact ⟨rfl, rfl⟩
end Xs
end Go.Proofs.YtlnppgjppfkocaaGreatDoor
