import Derived.Test.YtlnppgjppfkocaaGreatDoorGq31
import Derived.Test.YtlnppgjppfkocaaGreatDoorGq07
import Derived.Test.YtlnppgjppfkocaaGreatDoorGq13
import Derived.Test.YtlnppgjppfkocaaGreatDoorGq29
/-! The program's CheckRequest. -/
namespace Go.Proofs.YtlnppgjppfkocaaGreatDoor.Xs
open Go.RowKit Plain
set_option linter.unusedVariables false
set_option linter.unusedSimpArgs false

theorem fits_ok (r : Rq) (h1 : 1 ≤ r.op) (h2 : r.op ≤ 15) : fitsB (useI r.op) r = (okR1 r && okR2 r && okR3 r) := by
  obtain ⟨a1, a2, a3, a4, a5, a6, a7⟩ := ask_uses r.op h1 h2
  unfold fitsB txOk nuOk tOk nOk okR1 okR2 okR3
  simp only [if_true, if_false, Nat.one_ne_zero, Nat.succ_ne_zero, a1, a2, a3, a4, a5, a6, a7, h1, h2, and_self, decide_true, Bool.true_and, reduceIte, Nat.reduceEqDiff]
  ac_rfl
/-- What the program's CheckRequest answers. -/
def WckOk (Tb : World → Prop) : Prop := ∀ (r : Rq) (w : World), Tb w → r.topic.length ≤ 1125899906842624 → r.key.length ≤ 1125899906842624 → r.value.length ≤ 1125899906842624 →
  Calls Tryz.prog 43 #[rqV r] w fun e w' => e = .returned (.int .i64 (if (okR1 r && okR2 r && okR3 r) = true then 0 else 161)) ∧ Below w.heap.size w w'
set_option maxHeartbeats 8000000 in
set_option maxRecDepth 100000 in
theorem wcheckOf : WckOk OpsAt := by
  intro r w ho h3 h4 h5
  have hx := rqBox w r 24
  obtain ⟨W1, hW1⟩ : ∃ W1, w.alloc (.cells #[.int .u32 r.id, .int .i64 r.op, .string (ba r.topic), .string (ba r.key), .string (ba r.value), .int .i64 r.offset, .int .i64 r.number, .int .i64 r.pid, .int .i64 r.seq] 24) = W1 := ⟨_, rfl⟩
  rw [hW1] at hx
  have HB1 : Hid (Below w.heap.size w W1) := hx.1
  have HR : Hid (∀ v, Below W1.heap.size W1 v → RqAt v w.heap.size 0 r) := fun v hv => hx.2.later hv
  obtain ⟨z0, z1, z2, z3, z4, z5, z6, z7, z8⟩ := hx.2
  have HOP := mkH (wopOf r.op W1 (ho.later HB1.out))
  have HF : Hid (∀ v, Below W1.heap.size W1 v → Calls Tryz.prog 77 #[opV r.op, .pointer (some ⟨w.heap.size, 0, none⟩)] v fun e w' => e = .returned (.bool (fitsB (useI r.op) r)) ∧ Below v.heap.size v w') := fun v hv => wfitsOf _ _ r _ v (HR.out v hv) h3 h4 h5
  obtain ⟨A, HA⟩ : ∃ A : Int, Hid (A = if (okR1 r && okR2 r && okR3 r) = true then 0 else 161) := ⟨_, rfl⟩
  rw [← HA.out]
  clear hx h3 h4 h5 ho
  by_cases hop : 1 ≤ r.op ∧ r.op ≤ 15
  · have e1 : opV r.op = .agg #[.bool true, .int .i64 (useI r.op)] := by unfold opV; rw [decide_eq_true hop]
    have HFO : Hid (fitsB (useI r.op) r = (okR1 r && okR2 r && okR3 r)) := fits_ok r hop.1 hop.2
    rw [e1] at HOP HF
    rw [HFO.out] at HF
    generalize (okR1 r && okR2 r && okR3 r) = K at *
    clear HFO hop e1
    generalize useI r.op = u at *
    go_enter Tryz.func43, Tryz.ntmps43
    go_wp2_with fail
    refine HOP.out.mono ?_
    rintro e w2 ⟨rfl, hb2⟩
    have HB2 : Hid (Below W1.heap.size W1 w2) := hb2
    clear hb2 HOP
    go_wp2_with fail
    refine (HF.out _ (HB2.out.alloc HB2.out.size _)).mono ?_
    rintro e w3 ⟨rfl, hb3⟩
    have HB3 : Hid (Below w.heap.size w w3) := below_on HB1.out (below_on (HB2.out.alloc HB2.out.size _) hb3)
    clear hb3 HF HR z0 z1 z2 z3 z4 z5 z6 z7 z8 hW1 HB2 HB1
    cases K
    · go_wp2
      go_ret
      exact ⟨by rw [HA.out]; rfl, HB3.out⟩
    · go_wp2
      go_ret
      exact ⟨by rw [HA.out]; rfl, HB3.out⟩
  · have e1 : opV r.op = .agg #[.bool false, .int .i64 0] := by
      unfold opV useI
      rw [show decide (1 ≤ r.op ∧ r.op ≤ 15) = false from by simpa using hop, if_neg hop]
    have HK : Hid ((okR1 r && okR2 r && okR3 r) = false) := by
      unfold Hid okR1
      rw [show decide (1 ≤ r.op ∧ r.op ≤ 15) = false from by simpa using hop]
      rfl
    rw [e1] at HOP
    clear HF HR e1 hop
    generalize (okR1 r && okR2 r && okR3 r) = K at *
    go_enter Tryz.func43, Tryz.ntmps43
    go_wp2_with fail
    refine HOP.out.mono ?_
    rintro e w2 ⟨rfl, hb2⟩
    have HB2 : Hid (Below W1.heap.size W1 w2) := hb2
    clear hb2 HOP
    go_wp2
    go_ret
    exact ⟨by rw [HA.out, HK.out]; rfl, below_on HB1.out (HB2.out.alloc HB2.out.size _)⟩
end Go.Proofs.YtlnppgjppfkocaaGreatDoor.Xs

/-! Rows of pointers to fields; which fields of a request its operation uses. -/
namespace Go.Proofs.YtlnppgjppfkocaaGreatDoor
open Go.RowKit Plain
set_option linter.unusedVariables false

theorem Tryz.infosps : (Tryz.prog.info? 118).map (fun i => (i.zero, i.size, i.bytes)) = some (some (.pointer none), 1, 8) := by kernel_rfl
/-- WHAT append DOES of pointers (sps). -/
theorem run_append_sps (w : World) (ty : TypeId) (v x : Value) (vs us : List Value) (r : Option Nat) (hown : OwnV w v vs r) (hs : Src Tryz.prog 1 115 x us.length us w) (hlen : vs.length + us.length ≤ 8796093022400) (hr0 : r ≠ none ∨ 0 < us.length) :
    ∃ v' w' g, (Builtin.append_ #[115, 115] ty #[v, x]).run Tryz.prog w = .ok v' w' ∧ OwnV w' v' (vs ++ us) (some g) ∧ w.grownBy w' r ∧ (some g = r ∨ g = w.heap.size) := by
  obtain ⟨i, hi, hz0, hz1, hz2⟩ := info_parts Tryz.infosps
  have hs' : Src Tryz.prog i.size 115 x us.length us w := by rw [hz1]; exact hs
  have hl2 : (vs ++ us).length = vs.length + us.length := by simp
  have hzc : (Value.pointer none).cells.size = 1 := by rfl
  have grow : ∀ (base : Option Addr) (sCap : Nat), (Builtin.firstCells i.size vs.length (.slice base vs.length sCap)).run Tryz.prog w.drew = .ok vs.toArray w.drew → sCap < vs.length + us.length →
      ∃ v' w' g, (Builtin.append_ #[115, 115] ty #[.slice base vs.length sCap, x]).run Tryz.prog w = .ok v' w' ∧ OwnV w' v' (vs ++ us) (some g) ∧ w.grownBy w' r ∧ (some g = r ∨ g = w.heap.size) := by
    intro base sCap hold hg
    have hr := run_append_grow_src (P := Tryz.prog) w 115 115 ty 118 i _ Tryz.underlying115 hi hz0 base vs.length sCap vs hold x us.length us hs' hg (by omega) (by rw [hz2]; exact growslice_fits_wide hg (by omega))
    have hge := grownCap_ge w (vs.length + us.length) sCap 118
    have hcm := grownCap_le_maxLen w (vs.length + us.length) sCap 118 (by unfold maxLen; omega)
    refine ⟨_, _, w.heap.size, hr, ?_, ⟨rfl, rfl, rfl, by simp, fun k hk _ => heap_alloc_old w.drew _ hk⟩, .inr rfl⟩
    obtain ⟨C, hC⟩ : ∃ C, (vs ++ us).toArray ++ Builtin.zeroCells (Value.pointer none).cells (grownCap w (vs.length + us.length) sCap 118 - (vs.length + us.length)) = C := ⟨_, rfl⟩
    have hCs : C.size = grownCap w (vs.length + us.length) sCap 118 := by
      rw [← hC, Array.size_append, List.size_toArray, size_zeroCells, hzc, hl2]
      omega
    have hCg : ∀ j, j < vs.length + us.length → C[j]? = (vs ++ us)[j]? := fun j hj => by
      rw [← hC, Array.getElem?_append_left (by rw [List.size_toArray, hl2]; exact hj), List.getElem?_toArray]
    rw [hC]
    refine .inr ⟨w.heap.size, grownCap w (vs.length + us.length) sCap 118, rfl, by rw [hl2], by simp, by rw [hl2]; exact hge, hcm, fun j hj => ?_, fun j hj => ?_, fun j hj => ?_⟩
    · exact World.frozen?_alloc_at _ _ _ _ rfl
    · show ((w.drew.alloc (Obj.cells C 118)).cell? ⟨w.drew.heap.size, j, none⟩).isSome = true
      rw [World.cell?_alloc_at _ _ _ _ rfl, Array.getElem?_eq_getElem (by omega)]; rfl
    · rw [hl2] at hj
      show (w.drew.alloc (Obj.cells C 118)).cell? ⟨w.drew.heap.size, j, none⟩ = _
      rw [World.cell?_alloc_at _ _ _ _ rfl]; exact hCg j hj
  rcases hown with ⟨rfl, rfl, rfl⟩ | ⟨g, cap, rfl, rfl, hg, h1, h2, h3, h4, h5⟩
  · rcases hr0 with h | h
    · exact absurd rfl h
    · exact grow none 0 (by rw [List.length_nil]; exact run_firstCells_none w.drew _ _ _ _) (by simpa using h)
  · by_cases hroom : vs.length + us.length ≤ cap
    · have hr := run_append_room_src (P := Tryz.prog) w 115 115 ty 118 i Tryz.underlying115 hi g 0 vs.length cap x us.length us hs' hroom
        (fun j hj => by rw [hz1, Nat.mul_one, Nat.zero_add]; exact h4 _ (by omega))
        (fun j hj => by rw [hz1, Nat.mul_one, Nat.zero_add]; exact h3 _ (by omega))
      rw [hz1, Nat.zero_add, Nat.mul_one] at hr
      refine ⟨_, _, g, hr, .inr ⟨g, cap, rfl, by rw [hl2], ?_, by omega, h2, fun j hj => ?_, fun j hj => ?_, fun j hj => ?_⟩, grow_setCells w g _ _, .inl rfl⟩
      · rw [setCells_size]; exact hg
      · rw [World.frozen?_setCells]; exact h3 j hj
      · exact isSome_setCells g _ _ w _ (h4 j hj)
      · rw [hl2] at hj
        by_cases hj' : j < vs.length
        · rw [World.cell?_setCells_out g _ _ w _ (fun _ _ => .inl hj'), h5 j hj', List.getElem?_append_left hj']
        · have hj2 : j - vs.length < us.length := by omega
          have := World.cell?_setCells_in g us vs.length w (fun m hm => h4 _ (by omega)) (j - vs.length) hj2
          rw [show vs.length + (j - vs.length) = j by omega] at this
          rw [this, List.getElem?_append_right (by omega), List.getElem?_eq_getElem hj2]
    · refine grow _ cap ?_ (by omega)
      rw [hz1]
      refine run_firstCells_some w.drew 1 vs.length ⟨g, 0, none⟩ _ _ vs (by omega) (fun j u hj => ?_)
      have hjl : j < vs.length := (List.getElem?_eq_some_iff.mp hj).1
      rw [WideShapes.add_plain, Nat.zero_add]
      show w.cell? ⟨g, j, none⟩ = some u
      rw [h5 j hjl, hj]
theorem wpList_append_sps {ops : Array Oper} {rest : List Oper} {o : Oper} {a : Act} {Q : Exit → Act → World → Prop} (w : World) (hgd : o.guard = none) (s x : Operand)
    (ho : o.op = .call { callee := .builtin .append, args := #[s, x], argTypes := #[115, 115] }) (v xv : Value) (vs us : List Value) (r : Option Nat)
    (hs : a.eval s = v) (hx : a.eval x = xv) (hown : OwnV w v vs r) (hsrc : Src Tryz.prog 1 115 xv us.length us w) (hlen : vs.length + us.length ≤ 8796093022400) (hr0 : r ≠ none ∨ 0 < us.length)
    (h : ∀ v' w' g, OwnV w' v' (vs ++ us) (some g) → w.grownBy w' r → (some g = r ∨ g = w.heap.size) → wpList Tryz.prog ops Q rest (a.put o.dst v') w') : wpList Tryz.prog ops Q (o :: rest) a w :=
  wpList_plain hgd fun _ hK => by
    obtain ⟨v', w', g, hr, h1, h2, h3⟩ := run_append_sps w o.type v xv vs us r hown hsrc hlen hr0
    unfold Oper.wp execOp
    simp only [ho, resolve, invoke, builtin, Sem.run_bind, Sem.run_pure, Result.andThen_ok, List.map_toArray, List.map_cons, List.map_nil, hs, hx, hr]
    exact hK _ _ (h v' w' g h1 h2 h3)
theorem Tryz.infoips : (Tryz.prog.info? 122).map (fun i => (i.zero, i.size, i.bytes)) = some (some (.pointer none), 1, 8) := by kernel_rfl
/-- WHAT append DOES of pointers (ips). -/
theorem run_append_ips (w : World) (ty : TypeId) (v x : Value) (vs us : List Value) (r : Option Nat) (hown : OwnV w v vs r) (hs : Src Tryz.prog 1 119 x us.length us w) (hlen : vs.length + us.length ≤ 8796093022400) (hr0 : r ≠ none ∨ 0 < us.length) :
    ∃ v' w' g, (Builtin.append_ #[119, 119] ty #[v, x]).run Tryz.prog w = .ok v' w' ∧ OwnV w' v' (vs ++ us) (some g) ∧ w.grownBy w' r ∧ (some g = r ∨ g = w.heap.size) := by
  obtain ⟨i, hi, hz0, hz1, hz2⟩ := info_parts Tryz.infoips
  have hs' : Src Tryz.prog i.size 119 x us.length us w := by rw [hz1]; exact hs
  have hl2 : (vs ++ us).length = vs.length + us.length := by simp
  have hzc : (Value.pointer none).cells.size = 1 := by rfl
  have grow : ∀ (base : Option Addr) (sCap : Nat), (Builtin.firstCells i.size vs.length (.slice base vs.length sCap)).run Tryz.prog w.drew = .ok vs.toArray w.drew → sCap < vs.length + us.length →
      ∃ v' w' g, (Builtin.append_ #[119, 119] ty #[.slice base vs.length sCap, x]).run Tryz.prog w = .ok v' w' ∧ OwnV w' v' (vs ++ us) (some g) ∧ w.grownBy w' r ∧ (some g = r ∨ g = w.heap.size) := by
    intro base sCap hold hg
    have hr := run_append_grow_src (P := Tryz.prog) w 119 119 ty 122 i _ Tryz.underlying119 hi hz0 base vs.length sCap vs hold x us.length us hs' hg (by omega) (by rw [hz2]; exact growslice_fits_wide hg (by omega))
    have hge := grownCap_ge w (vs.length + us.length) sCap 122
    have hcm := grownCap_le_maxLen w (vs.length + us.length) sCap 122 (by unfold maxLen; omega)
    refine ⟨_, _, w.heap.size, hr, ?_, ⟨rfl, rfl, rfl, by simp, fun k hk _ => heap_alloc_old w.drew _ hk⟩, .inr rfl⟩
    obtain ⟨C, hC⟩ : ∃ C, (vs ++ us).toArray ++ Builtin.zeroCells (Value.pointer none).cells (grownCap w (vs.length + us.length) sCap 122 - (vs.length + us.length)) = C := ⟨_, rfl⟩
    have hCs : C.size = grownCap w (vs.length + us.length) sCap 122 := by
      rw [← hC, Array.size_append, List.size_toArray, size_zeroCells, hzc, hl2]
      omega
    have hCg : ∀ j, j < vs.length + us.length → C[j]? = (vs ++ us)[j]? := fun j hj => by
      rw [← hC, Array.getElem?_append_left (by rw [List.size_toArray, hl2]; exact hj), List.getElem?_toArray]
    rw [hC]
    refine .inr ⟨w.heap.size, grownCap w (vs.length + us.length) sCap 122, rfl, by rw [hl2], by simp, by rw [hl2]; exact hge, hcm, fun j hj => ?_, fun j hj => ?_, fun j hj => ?_⟩
    · exact World.frozen?_alloc_at _ _ _ _ rfl
    · show ((w.drew.alloc (Obj.cells C 122)).cell? ⟨w.drew.heap.size, j, none⟩).isSome = true
      rw [World.cell?_alloc_at _ _ _ _ rfl, Array.getElem?_eq_getElem (by omega)]; rfl
    · rw [hl2] at hj
      show (w.drew.alloc (Obj.cells C 122)).cell? ⟨w.drew.heap.size, j, none⟩ = _
      rw [World.cell?_alloc_at _ _ _ _ rfl]; exact hCg j hj
  rcases hown with ⟨rfl, rfl, rfl⟩ | ⟨g, cap, rfl, rfl, hg, h1, h2, h3, h4, h5⟩
  · rcases hr0 with h | h
    · exact absurd rfl h
    · exact grow none 0 (by rw [List.length_nil]; exact run_firstCells_none w.drew _ _ _ _) (by simpa using h)
  · by_cases hroom : vs.length + us.length ≤ cap
    · have hr := run_append_room_src (P := Tryz.prog) w 119 119 ty 122 i Tryz.underlying119 hi g 0 vs.length cap x us.length us hs' hroom
        (fun j hj => by rw [hz1, Nat.mul_one, Nat.zero_add]; exact h4 _ (by omega))
        (fun j hj => by rw [hz1, Nat.mul_one, Nat.zero_add]; exact h3 _ (by omega))
      rw [hz1, Nat.zero_add, Nat.mul_one] at hr
      refine ⟨_, _, g, hr, .inr ⟨g, cap, rfl, by rw [hl2], ?_, by omega, h2, fun j hj => ?_, fun j hj => ?_, fun j hj => ?_⟩, grow_setCells w g _ _, .inl rfl⟩
      · rw [setCells_size]; exact hg
      · rw [World.frozen?_setCells]; exact h3 j hj
      · exact isSome_setCells g _ _ w _ (h4 j hj)
      · rw [hl2] at hj
        by_cases hj' : j < vs.length
        · rw [World.cell?_setCells_out g _ _ w _ (fun _ _ => .inl hj'), h5 j hj', List.getElem?_append_left hj']
        · have hj2 : j - vs.length < us.length := by omega
          have := World.cell?_setCells_in g us vs.length w (fun m hm => h4 _ (by omega)) (j - vs.length) hj2
          rw [show vs.length + (j - vs.length) = j by omega] at this
          rw [this, List.getElem?_append_right (by omega), List.getElem?_eq_getElem hj2]
    · refine grow _ cap ?_ (by omega)
      rw [hz1]
      refine run_firstCells_some w.drew 1 vs.length ⟨g, 0, none⟩ _ _ vs (by omega) (fun j u hj => ?_)
      have hjl : j < vs.length := (List.getElem?_eq_some_iff.mp hj).1
      rw [WideShapes.add_plain, Nat.zero_add]
      show w.cell? ⟨g, j, none⟩ = some u
      rw [h5 j hjl, hj]
theorem wpList_append_ips {ops : Array Oper} {rest : List Oper} {o : Oper} {a : Act} {Q : Exit → Act → World → Prop} (w : World) (hgd : o.guard = none) (s x : Operand)
    (ho : o.op = .call { callee := .builtin .append, args := #[s, x], argTypes := #[119, 119] }) (v xv : Value) (vs us : List Value) (r : Option Nat)
    (hs : a.eval s = v) (hx : a.eval x = xv) (hown : OwnV w v vs r) (hsrc : Src Tryz.prog 1 119 xv us.length us w) (hlen : vs.length + us.length ≤ 8796093022400) (hr0 : r ≠ none ∨ 0 < us.length)
    (h : ∀ v' w' g, OwnV w' v' (vs ++ us) (some g) → w.grownBy w' r → (some g = r ∨ g = w.heap.size) → wpList Tryz.prog ops Q rest (a.put o.dst v') w') : wpList Tryz.prog ops Q (o :: rest) a w :=
  wpList_plain hgd fun _ hK => by
    obtain ⟨v', w', g, hr, h1, h2, h3⟩ := run_append_ips w o.type v xv vs us r hown hsrc hlen hr0
    unfold Oper.wp execOp
    simp only [ho, resolve, invoke, builtin, Sem.run_bind, Sem.run_pure, Result.andThen_ok, List.map_toArray, List.map_cons, List.map_nil, hs, hx, hr]
    exact hK _ _ (h v' w' g h1 h2 h3)
theorem src_sps (w : World) (p : Value) (h1 : p.oneCell' = true) : Src Tryz.prog 1 115 (.slice (some ⟨w.heap.size, 0, none⟩) 1 1) [p].length [p] (w.alloc (.cells #[p] 118)) := src_val w p h1 115 118 118 Tryz.underlying115
theorem src_ips (w : World) (p : Value) (h1 : p.oneCell' = true) : Src Tryz.prog 1 119 (.slice (some ⟨w.heap.size, 0, none⟩) 1 1) [p].length [p] (w.alloc (.cells #[p] 122)) := src_val w p h1 119 122 122 Tryz.underlying119
namespace Xs
set_option linter.unusedSimpArgs false
set_option maxHeartbeats 8000000 in
set_option maxRecDepth 100000 in
theorem qtextsOfOf (g o : Nat) (w : World) :
    Calls Tryz.prog 97 #[.pointer (some ⟨g, o, none⟩)] w fun e w' => e = .returned (.slice (some ⟨w.heap.size, 0, none⟩) 3 3) ∧ w' = (w.alloc (.cells #[.pointer (some ⟨g, o + 2, none⟩), .pointer (some ⟨g, o + 3, none⟩), .pointer (some ⟨g, o + 4, none⟩)] 118)).drew := by
  go_enter Tryz.func97, Tryz.ntmps97
  go_wp2
  go_region
  go_wp2
  go_ret
  exact ⟨rfl, rfl⟩
set_option maxHeartbeats 8000000 in
set_option maxRecDepth 100000 in
theorem qnumbersOfOf (g o : Nat) (w : World) :
    Calls Tryz.prog 99 #[.pointer (some ⟨g, o, none⟩)] w fun e w' => e = .returned (.slice (some ⟨w.heap.size, 0, none⟩) 4 4) ∧ w' = (w.alloc (.cells #[.pointer (some ⟨g, o + 5, none⟩), .pointer (some ⟨g, o + 6, none⟩), .pointer (some ⟨g, o + 7, none⟩), .pointer (some ⟨g, o + 8, none⟩)] 122)).drew := by
  go_enter Tryz.func99, Tryz.ntmps99
  go_wp2
  go_region
  go_wp2
  go_ret
  exact ⟨rfl, rfl⟩
end Xs
end Go.Proofs.YtlnppgjppfkocaaGreatDoor
