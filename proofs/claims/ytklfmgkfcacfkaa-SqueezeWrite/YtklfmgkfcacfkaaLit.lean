import Derived.Test.YtklfmgkfcacfkaaLng
import Derived.Laws.IdiomCopy
namespace Go.Proofs.Ytklfmgkfcacfkaa
open Go.RowKit Plain
set_option linter.unusedVariables false

theorem wpList_copy_bytes {ops : Array Oper} {rest : List Oper} {o : Oper} {a : Act} {Q : Exit → Act → World → Prop} {w : World} (hgd : o.guard = none) (d s : Operand) (t t' : TypeId) (v u v' : Value) (w' : World)
    (ho : o.op = .call { callee := .builtin .copy, args := #[d, s], argTypes := #[t, t'] }) (hd : a.eval d = v) (hs : a.eval s = u) (hr : ∀ ty, (Builtin.copy_ #[t, t'] ty #[v, u]).run Try.prog w = .ok v' w')
    (h : wpList Try.prog ops Q rest (a.put o.dst v') w') : wpList Try.prog ops Q (o :: rest) a w :=
  wpList_plain hgd fun _ hK => by
    unfold Oper.wp execOp
    simp only [ho, resolve, invoke, builtin, Sem.run_bind, Sem.run_pure, Result.andThen_ok, List.map_toArray, List.map_cons, List.map_nil, hd, hs, hr]
    exact hK _ _ h

theorem heap_alloc_new (w : World) (R : Obj) : (w.alloc R).heap[w.heap.size]? = some R := by unfold World.alloc; simp

theorem size5 : (Try.prog.info? 5).map (·.size) = some 1 := by
  obtain ⟨i, hi, hz0, hz1, hz2⟩ := info_parts Try.info5
  rw [hi]; simp [hz1]

/-- What copy does to a row that was just made. -/
theorem copy_made {w : World} {g base : Nat} {xs : List Value} {u : Value} {l : List Nat} (hl : 0 < l.length) (ho : w.ownsRow base 5 1 (.slice (some ⟨g, 0, none⟩) l.length l.length) l.length xs) (hu : BytesAt w u l) :
    ∃ w', (∀ ty, (Builtin.copy_ #[22, 22] ty #[.slice (some ⟨g, 0, none⟩) l.length l.length, u]).run Try.prog w = .ok (goInt l.length) w') ∧ Own w' (.slice (some ⟨g, 0, none⟩) l.length l.length) l (some g) ∧ w.grownBy w' (some g) ∧ base ≤ g := by
  obtain ⟨a, cap, rfl, h1, h2, h3, h4⟩ := hu
  obtain ⟨b, off, rfl, h5⟩ := h4 (by rintro rfl; simp at hl)
  rcases ho.2 with ⟨h, _⟩ | ⟨g', cap', cur, e, hg, hh, hle, hm, hs, ht⟩
  · simp at h
  · simp only [Value.slice.injEq, Option.some.injEq, Addr.mk.injEq] at e
    obtain ⟨⟨rfl, _, _⟩, _, rfl⟩ := e
    have hlt : g < w.heap.size := (Array.getElem?_eq_some_iff.mp hh).1
    have hsome : ∀ j, j < l.length → (w.cell? ⟨g, j, none⟩).isSome = true := fun j hj => by
      simp only [World.cell?, hh]
      have hsz : j < cur.size := by omega
      simp [hsz]
    have hfz : ∀ j, j < l.length → w.frozen? ⟨g, j, none⟩ = false := fun j hj => by
      simp only [World.frozen?, hh]
      simp
    refine ⟨w.setCells g 0 (cellsOf l), fun ty => ?_, ⟨h3, .inr ⟨g, l.length, rfl, rfl, ?_, Nat.le_refl _, hm, fun j hj => ?_, fun j hj => ?_, fun j hj => ?_⟩⟩, grow_setCells _ _ _ _, hg⟩
    · have := run_copy_cells (P := Try.prog) w 22 22 ty 5 g 0 l.length l.length ⟨b, off, none⟩ l.length cap (cellsOf l) Try.underlying22 size5 (by rw [cellsOf_len]; exact (Nat.min_self _).symm)
        (fun j v hj => by
          have hjl : j < l.length := by
            have := (List.getElem?_eq_some_iff.mp hj).1
            rwa [cellsOf_len] at this
          rw [WideShapes.add_plain, h5 j hjl, ← cellsOf_get l j hjl, hj])
        (fun j hj => by rw [cellsOf_len] at hj; rw [Nat.zero_add]; exact hsome j hj) (fun j hj => by rw [cellsOf_len] at hj; rw [Nat.zero_add]; exact hfz j hj) (cellsOf_one l)
      rw [this, cellsOf_len]
    · rw [setCells_size]; exact hlt
    · rw [World.frozen?_setCells]; exact hfz j hj
    · exact isSome_setCells g _ _ w _ (hsome j hj)
    · have := World.cell?_setCells_in g (cellsOf l) 0 w (fun m hm => by rw [Nat.zero_add]; exact hsome m (by rw [cellsOf_len] at hm; exact hm)) j (by rw [cellsOf_len]; exact hj)
      rw [Nat.zero_add] at this
      rw [this, ← cellsOf_get l j hj, List.getElem?_eq_getElem (by rw [cellsOf_len]; exact hj)]

theorem Try.info28 : (Try.prog.info? 28).map (fun i => (i.zero, i.size, i.bytes)) = some (some (.agg #[.slice none 0 0, .int .i64 0, .int .i64 0]), 3, 40) := by kernel_rfl

set_option maxHeartbeats 400000 in
set_option maxRecDepth 1000000 in
theorem literalOf (v : Value) (l : List Nat) (w : World) (h : BytesAt w v l) (h0 : 0 < l.length) (hl : l.length ≤ 4096) :
    Calls Try.prog 52 #[v] w fun e w' => ∃ g, e = .returned (.agg #[.slice (some ⟨g, 0, none⟩) l.length l.length, .int .i64 0, .int .i64 0]) ∧ w.heap.size ≤ g ∧ Own w' (.slice (some ⟨g, 0, none⟩) l.length l.length) l (some g) ∧ Below w.heap.size w w' := by
  have HB : Hid (BytesAt w v l) := h
  obtain ⟨a, cap, rfl, hlc, hcm, hby, hcells⟩ := h
  unfold maxLen at hcm
  clear hcells hby
  obtain ⟨i, hi, hz0, hz1, hz2⟩ := info_parts Try.info5
  have HI : Hid (Try.prog.info? 5 = some i ∧ i.zero = some (.int .u8 0) ∧ i.size = 1 ∧ i.bytes = 1) := ⟨hi, hz0, hz1, hz2⟩
  clear hi hz0 hz1 hz2
  go_enter Try.func52, Try.ntmps52
  go_wp2_with (at_make; refine wpList_make_full _ rfl _ _ 22 rfl w.heap.size 5 i _ 1 Try.underlying22 HI.out.1 HI.out.2.1 HI.out.2.2.1 .i64 .i64 _ _ l.length rfl rfl rfl rfl (by rw [HI.out.2.2.2]; omega) (by unfold maxLen; omega) (by simp) ?_)
  intro w1 ho hg1
  obtain ⟨R, hR⟩ : ∃ R : Obj, R = .cells #[.slice none 0 0, .int .i64 0, .int .i64 0] 28 := ⟨_, rfl⟩
  rw [← hR] at hg1
  have hsz1 : w.heap.size + 1 ≤ w1.heap.size := by have := hg1.size; simp at this; exact this
  have hb1 : Below w.heap.size w w1 := ((Below.refl _ _).alloc (Nat.le_refl _) _).trans (grow_below hg1 (by simp) (by simp))
  have hsame1 : w1.heap[w.heap.size]? = some R := by rw [hg1.block w.heap.size (by simp) (by simp)]; exact heap_alloc_new w R
  obtain ⟨w2, hr, hown, hg2, hbase⟩ := copy_made h0 ho (HB.out.later hb1)
  have hsz2 : w1.heap.size ≤ w2.heap.size := hg2.size
  have hsame2 : w2.heap[w.heap.size]? = some R := by rw [hg2.block w.heap.size (by omega) (by simp)]; exact hsame1
  have hc0 : w2.cell? ⟨w.heap.size, 0, none⟩ = some (.slice none 0 0) := by simp [World.cell?, hsame2, hR]
  have hc1 : w2.cell? ⟨w.heap.size, 1, none⟩ = some (.int .i64 0) := by simp [World.cell?, hsame2, hR]
  have hc2 : w2.cell? ⟨w.heap.size, 2, none⟩ = some (.int .i64 0) := by simp [World.cell?, hsame2, hR]
  have hf0 : w2.frozen? ⟨w.heap.size, 0, none⟩ = false := by simp [World.frozen?, hsame2, hR]
  have hf1 : w2.frozen? ⟨w.heap.size, 1, none⟩ = false := by simp [World.frozen?, hsame2, hR]
  have hf2 : w2.frozen? ⟨w.heap.size, 2, none⟩ = false := by simp [World.frozen?, hsame2, hR]
  have HR : Hid (∀ ty, (Builtin.copy_ #[22, 22] ty #[.slice (some ⟨w.heap.size + 1, 0, none⟩) l.length l.length, .slice a l.length cap]).run Try.prog w1 = .ok (goInt l.length) w2) := by unfold Hid; simpa using hr
  have HO : Hid (Own w2 (.slice (some ⟨w.heap.size + 1, 0, none⟩) l.length l.length) l (some (w.heap.size + 1))) := by unfold Hid; simpa using hown
  have HBE : Hid (Below w.heap.size w w2) := hb1.trans (grow_below hg2 (by omega) (by simp))
  clear hr hown hg2 hg1 ho hb1 hsame1 hsame2 hR hbase
  go_wp2_with (refine wpList_copy_bytes (by with_reducible rfl) _ _ 22 22 _ _ _ _ (by with_reducible rfl) (by rfl) (by rfl) HR.out ?_)
  have HG : Hid (∀ x y z, w2.grownBy (((w2.setCell ⟨w.heap.size, 0, none⟩ x).setCell ⟨w.heap.size, 1, none⟩ y).setCell ⟨w.heap.size, 2, none⟩ z) (some w.heap.size)) := fun x y z =>
    grow_trans (grow_trans (grow_setCell _ _ _ _) (grow_setCell _ _ _ _) (.inl rfl)) (grow_setCell _ _ _ _) (.inl rfl)
  refine bodyPost_ret (v := .agg #[.slice (some ⟨w.heap.size + 1, 0, none⟩) l.length l.length, .int .i64 0, .int .i64 0]) ?_ rfl ⟨w.heap.size + 1, rfl, by omega, HO.out.kept (HG.out _ _ _) (.inr (by simp)), HBE.out.trans (grow_below (HG.out _ _ _) (by omega) (by simp))⟩
  simp [results, Try.results52, go_sem, hc0, hc1, hc2]
end Go.Proofs.Ytklfmgkfcacfkaa
