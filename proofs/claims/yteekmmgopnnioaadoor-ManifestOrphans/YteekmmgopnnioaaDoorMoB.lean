import Derived.Test.YteekmmgopnnioaaDoorMcB
import Derived.Test.YteekmmgopnnioaaDoorMoA
/-! Rows of texts, that came in and of the call's own. -/
namespace Go.Proofs.YteekmmgopnnioaaDoor
open Go.RowKit Plain
open Mn (FN parseL ofT lastI leftP orphP strP thoseL)
set_option linter.unusedVariables false
set_option linter.unusedSimpArgs false

def txs (l : List ByteArray) : List Value := l.map fun s => .string s
theorem txs_len (l : List ByteArray) : (txs l).length = l.length := by simp [txs]
theorem txs_app (l k : List ByteArray) : txs (l ++ k) = txs l ++ txs k := by simp [txs]
theorem txs_get {l : List ByteArray} {j : Nat} (h : j < l.length) : (txs l)[j]? = some (.string (l.getD j ⟨#[]⟩)) := by simp [txs, h]
/-- v is a slice of texts that reads as l. -/
def TxAt (w : World) (v : Value) (l : List ByteArray) : Prop :=
  ∃ a cap, v = .slice a l.length cap ∧ l.length ≤ cap ∧ l.length ≤ 8796093022208 ∧ (∀ s ∈ l, s.size ≤ 281474976710656) ∧ (l ≠ [] → ∃ b off, a = some ⟨b, off, none⟩ ∧ ∀ j, j < l.length → w.cell? ⟨b, off + j, none⟩ = some (.string (l.getD j ⟨#[]⟩)))
theorem TxAt.later {w w' : World} {v : Value} {l : List ByteArray} (h : TxAt w v l) (hb : Below w.heap.size w w') : TxAt w' v l := by
  obtain ⟨a, cap, e, h0, h1, h2, h3⟩ := h
  refine ⟨a, cap, e, h0, h1, h2, fun hne => ?_⟩
  obtain ⟨b, off, e2, hc⟩ := h3 hne
  exact ⟨b, off, e2, fun j hj => (hb.cell (p := ⟨b, off + j, none⟩) (cell_lt (hc j hj))).trans (hc j hj)⟩
theorem OwnV.readsT {w : World} {v : Value} {r : Option Nat} {l : List ByteArray} (h : OwnV w v (txs l) r) (hl : l.length ≤ 8796093022208) (hok : ∀ s ∈ l, s.size ≤ 281474976710656) : TxAt w v l := by
  rcases h with ⟨rfl, h, _⟩ | ⟨g', cap', e, e2, hg, h1, h2, h3, h4, h5⟩
  · have : l = [] := by simpa [txs] using h
    subst this
    exact ⟨none, 0, rfl, by simp, by simp, by simp, by simp⟩
  · subst e2
    refine ⟨_, cap', by rw [txs_len], by rw [txs_len] at h1; exact h1, hl, hok, fun _ => ⟨g', 0, rfl, fun j hj => ?_⟩⟩
    rw [Nat.zero_add, h5 j (by rw [txs_len]; exact hj), txs_get hj]
theorem Tryd.infoTx : (Tryd.prog.info? 9).map (fun i => (i.zero, i.size, i.bytes)) = some (some (.string ⟨#[]⟩), 1, 16) := by kernel_rfl
/-- WHAT append DOES of texts. -/
theorem run_append_txs (w : World) (ty : TypeId) (v x : Value) (vs us : List Value) (r : Option Nat) (hown : OwnV w v vs r) (hs : Src Tryd.prog 1 27 x us.length us w) (hlen : vs.length + us.length ≤ 8796093022400) (hr0 : r ≠ none ∨ 0 < us.length) :
    ∃ v' w' g, (Builtin.append_ #[27, 27] ty #[v, x]).run Tryd.prog w = .ok v' w' ∧ OwnV w' v' (vs ++ us) (some g) ∧ w.grownBy w' r ∧ (some g = r ∨ g = w.heap.size) := by
  obtain ⟨i, hi, hz0, hz1, hz2⟩ := info_parts Tryd.infoTx
  have hs' : Src Tryd.prog i.size 27 x us.length us w := by rw [hz1]; exact hs
  have hl2 : (vs ++ us).length = vs.length + us.length := by simp
  have hzc : (Value.string ⟨#[]⟩).cells.size = 1 := by rfl
  have grow : ∀ (base : Option Addr) (sCap : Nat), (Builtin.firstCells i.size vs.length (.slice base vs.length sCap)).run Tryd.prog w.drew = .ok vs.toArray w.drew → sCap < vs.length + us.length →
      ∃ v' w' g, (Builtin.append_ #[27, 27] ty #[.slice base vs.length sCap, x]).run Tryd.prog w = .ok v' w' ∧ OwnV w' v' (vs ++ us) (some g) ∧ w.grownBy w' r ∧ (some g = r ∨ g = w.heap.size) := by
    intro base sCap hold hg
    have hr := run_append_grow_src (P := Tryd.prog) w 27 27 ty 9 i _ Tryd.underlying27 hi hz0 base vs.length sCap vs hold x us.length us hs' hg (by omega) (by rw [hz2]; exact growslice_fits_wide hg (by omega))
    have hge := grownCap_ge w (vs.length + us.length) sCap 9
    have hcm := grownCap_le_maxLen w (vs.length + us.length) sCap 9 (by unfold maxLen; omega)
    refine ⟨_, _, w.heap.size, hr, ?_, ⟨rfl, rfl, rfl, by simp, fun k hk _ => heap_alloc_old w.drew _ hk⟩, .inr rfl⟩
    obtain ⟨C, hC⟩ : ∃ C, (vs ++ us).toArray ++ Builtin.zeroCells (Value.string ⟨#[]⟩).cells (grownCap w (vs.length + us.length) sCap 9 - (vs.length + us.length)) = C := ⟨_, rfl⟩
    have hCs : C.size = grownCap w (vs.length + us.length) sCap 9 := by
      rw [← hC, Array.size_append, List.size_toArray, size_zeroCells, hzc, hl2]
      omega
    have hCg : ∀ j, j < vs.length + us.length → C[j]? = (vs ++ us)[j]? := fun j hj => by
      rw [← hC, Array.getElem?_append_left (by rw [List.size_toArray, hl2]; exact hj), List.getElem?_toArray]
    rw [hC]
    refine .inr ⟨w.heap.size, grownCap w (vs.length + us.length) sCap 9, rfl, by rw [hl2], by simp, by rw [hl2]; exact hge, hcm, fun j hj => ?_, fun j hj => ?_, fun j hj => ?_⟩
    · exact World.frozen?_alloc_at _ _ _ _ rfl
    · show ((w.drew.alloc (Obj.cells C 9)).cell? ⟨w.drew.heap.size, j, none⟩).isSome = true
      rw [World.cell?_alloc_at _ _ _ _ rfl, Array.getElem?_eq_getElem (by omega)]; rfl
    · rw [hl2] at hj
      show (w.drew.alloc (Obj.cells C 9)).cell? ⟨w.drew.heap.size, j, none⟩ = _
      rw [World.cell?_alloc_at _ _ _ _ rfl]; exact hCg j hj
  rcases hown with ⟨rfl, rfl, rfl⟩ | ⟨g, cap, rfl, rfl, hg, h1, h2, h3, h4, h5⟩
  · rcases hr0 with h | h
    · exact absurd rfl h
    · exact grow none 0 (by rw [List.length_nil]; exact run_firstCells_none w.drew _ _ _ _) (by simpa using h)
  · by_cases hroom : vs.length + us.length ≤ cap
    · have hr := run_append_room_src (P := Tryd.prog) w 27 27 ty 9 i Tryd.underlying27 hi g 0 vs.length cap x us.length us hs' hroom
        (fun j hj => by rw [hz1, Nat.mul_one, Nat.zero_add]; exact h4 _ (by omega))
        (fun j hj => by rw [hz1, Nat.mul_one, Nat.zero_add]; exact h3 _ (by omega))
      rw [hz1, Nat.zero_add, Nat.mul_one] at hr
      refine ⟨_, _, g, hr, .inr ⟨g, cap, rfl, by rw [hl2], ?_, by omega, h2, fun j hj => ?_, fun j hj => ?_, fun j hj => ?_⟩, grow_setCells w g _ _, .inl rfl⟩
      · rw [setCells_size]; exact hg
      · rw [World.frozen?_setCells]; exact h3 j hj
      · exact isSome_setCells g _ _ w _ (h4 j hj)
      · rw [hl2] at hj
        by_cases hj' : j < vs.length
        · rw [World.cell?_setCells_out g _ _ w _ (fun _ _ => .inl hj'), h5 j hj', List.getElem?_append_left hj']
        · have hj2 : j - vs.length < us.length := by omega
          have := World.cell?_setCells_in g us vs.length w (fun m hm => h4 _ (by omega)) (j - vs.length) hj2
          rw [show vs.length + (j - vs.length) = j by omega] at this
          rw [this, List.getElem?_append_right (by omega), List.getElem?_eq_getElem hj2]
    · refine grow _ cap ?_ (by omega)
      rw [hz1]
      refine run_firstCells_some w.drew 1 vs.length ⟨g, 0, none⟩ _ _ vs (by omega) (fun j u hj => ?_)
      have hjl : j < vs.length := (List.getElem?_eq_some_iff.mp hj).1
      rw [WideShapes.add_plain, Nat.zero_add]
      show w.cell? ⟨g, j, none⟩ = some u
      rw [h5 j hjl, hj]
theorem wpList_append_txs {ops : Array Oper} {rest : List Oper} {o : Oper} {a : Act} {Q : Exit → Act → World → Prop} (w : World) (hgd : o.guard = none) (s x : Operand)
    (ho : o.op = .call { callee := .builtin .append, args := #[s, x], argTypes := #[27, 27] }) (v xv : Value) (vs us : List Value) (r : Option Nat)
    (hs : a.eval s = v) (hx : a.eval x = xv) (hown : OwnV w v vs r) (hsrc : Src Tryd.prog 1 27 xv us.length us w) (hlen : vs.length + us.length ≤ 8796093022400) (hr0 : r ≠ none ∨ 0 < us.length)
    (h : ∀ v' w' g, OwnV w' v' (vs ++ us) (some g) → w.grownBy w' r → (some g = r ∨ g = w.heap.size) → wpList Tryd.prog ops Q rest (a.put o.dst v') w') : wpList Tryd.prog ops Q (o :: rest) a w :=
  wpList_plain hgd fun _ hK => by
    obtain ⟨v', w', g, hr, h1, h2, h3⟩ := run_append_txs w o.type v xv vs us r hown hsrc hlen hr0
    unfold Oper.wp execOp
    simp only [ho, resolve, invoke, builtin, Sem.run_bind, Sem.run_pure, Result.andThen_ok, List.map_toArray, List.map_cons, List.map_nil, hs, hx, hr]
    exact hK _ _ (h v' w' g h1 h2 h3)
theorem srcTx (w : World) (s : ByteArray) : Src Tryd.prog 1 27 (.slice (some ⟨w.heap.size, 0, none⟩) 1 1) [Value.string s].length [.string s] (w.alloc (.cells #[.string s] 9)) := src_val w (.string s) rfl 27 9 9 Tryd.underlying27
set_option maxHeartbeats 2000000 in
/-- isOfTopic. -/
theorem isOfTopicOf (k i g : Int) (t : Bool) (w : World) : Calls Tryd.prog 29 #[.agg #[.int .i64 k, .int .i64 i, .int .i64 g, .bool t]] w fun e w' => e = .returned (.bool (ofT ⟨k, i, g, t⟩)) ∧ Below w.heap.size w w' := by
  obtain ⟨w0, hw0⟩ : ∃ w0, w.alloc (.cells #[.int .i64 k, .int .i64 i, .int .i64 g, .bool t] 23) = w0 := ⟨_, rfl⟩
  have HB0 : Hid (Below w.heap.size w w0) := by rw [← hw0]; exact (Below.refl _ _).alloc (Nat.le_refl _) _
  have m0 : w0.cell? ⟨w.heap.size, 0, none⟩ = some (.int .i64 k) := by rw [← hw0]; exact World.cell?_alloc_at _ _ _ _ rfl
  have HR : Hid (ofT ⟨k, i, g, t⟩ = ((k == 1) || ((k == 2) || (k == 3)))) := rfl
  generalize ofT ⟨k, i, g, t⟩ = R at HR ⊢
  by_cases h1 : k = 1
  · subst h1
    go_enter Tryd.func29, Tryd.ntmps29
    go_wp2
    go_ret
    exact ⟨by rw [HR.out]; rfl, HB0.out⟩
  · by_cases h2 : k = 2
    · subst h2
      go_enter Tryd.func29, Tryd.ntmps29
      go_wp2
      go_ret
      exact ⟨by rw [HR.out]; rfl, HB0.out⟩
    · have e1 : (k == 1) = false := by simpa using h1
      have e2 : (k == 2) = false := by simpa using h2
      have HR2 : Hid (R = (k == 3)) := by rw [Hid, HR.out, e1, e2]; rfl
      go_enter Tryd.func29, Tryd.ntmps29
      go_wp2
      go_ret
      exact ⟨by rw [HR2.out]; rfl, HB0.out⟩
set_option maxHeartbeats 2000000 in
/-- The document's in. -/
theorem inROf (v : Value) (l : List Int) (z : Int) (w : World) (h : IntsAt w v l) : Calls Tryd.prog 31 #[v, .int .i64 z] w fun e w' => e = .returned (.bool (l.contains z)) ∧ w' = w := by
  obtain ⟨a, cap, rfl, hcap, hl, hok, hcells⟩ := h
  have HC : Hid (∀ m, m < l.length → ∃ b off, a = some ⟨b, off, none⟩ ∧ w.cell? ⟨b, off + m, none⟩ = some (.int .i64 (l.getD m 0))) := fun m hm => by
    obtain ⟨b, off, e, hc⟩ := hcells (by intro e; rw [e] at hm; simp at hm)
    exact ⟨b, off, e, hc m hm⟩
  clear hcells hok
  go_enter Tryd.func31, Tryd.ntmps31
  go_wp2
  go_loopw [5] (fun i wr => ∃ k : Nat, k ≤ l.length ∧ i = .int .i64 k ∧ Hid ((l.take k).contains z = false) ∧ wr = w) (fun i _ => l.length - (intOf i).toNat)
  case atStart => exact ⟨0, by omega, rfl, by simp [Hid], rfl⟩
  case round =>
    obtain ⟨k, hk, rfl, HA, rfl⟩ := hrel
    by_cases hlt : k < l.length
    · obtain ⟨b, off, rfl, hc⟩ := HC.out k hlt
      have HT : Hid ((l.take (k + 1)).contains z = (l.getD k 0 == z)) := by unfold Hid; rw [take_has hlt, HA.out]; simp
      have HM : Hid (l.getD k 0 = z → l.contains z = true) := fun e => by
        have : z ∈ l := by rw [← e]; simp [hlt]
        simpa using this
      generalize l.getD k 0 = x at hc HT HM
      have hki : (k : Int) < (l.length : Int) := by omega
      by_cases hx : x = z
      · have HM1 : Hid (l.contains z = true) := HM.out hx
        subst hx
        clear HT HM
        go_wp2
        go_ret
        exact ⟨by rw [HM1.out]; rfl, rfl⟩
      · have HT1 : Hid ((l.take (k + 1)).contains z = false) := by rw [Hid, HT.out]; simpa using hx
        clear HT HM
        go_wp2
        go_roundw
        case rel => exact ⟨k + 1, by omega, by go_num, HT1.out, by first | rfl | trivial⟩
        case measure => simp [intOf]; omega
    · have hke : k = l.length := by omega
      have HT1 : Hid (l.contains z = false) := by
        have := HA.out
        rw [hke, List.take_length] at this
        exact this
      subst hke
      go_wp2
      go_ret
      exact ⟨by rw [HT1.out]; rfl, rfl⟩
end Go.Proofs.YteekmmgopnnioaaDoor
