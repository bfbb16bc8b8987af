import Derived.Test.YtklfmgkfcacfkaaRep
import Derived.Deep.LoopGhost
namespace Go.Proofs.Ytklfmgkfcacfkaa
open Go.RowKit Plain
set_option linter.unusedVariables false

theorem getD_drop' (l : List Nat) (n j : Nat) : (l.drop n).getD j 0 = l.getD (n + j) 0 := by
  simp [List.getD_eq_getElem?_getD]

theorem BytesAt.dropAt {w : World} {b off len cap : Nat} {l : List Nat} (h : BytesAt w (.slice (some ⟨b, off, none⟩) len cap) l) (n : Nat) (hn : n ≤ l.length) : BytesAt w (.slice (some ⟨b, off + n, none⟩) (len - n) (cap - n)) (l.drop n) := by
  obtain ⟨a', cap', e, h1, h2, h3, h4⟩ := h
  simp only [Value.slice.injEq] at e
  obtain ⟨rfl, rfl, rfl⟩ := e
  refine ⟨_, cap - n, by rw [List.length_drop], by rw [List.length_drop]; omega, by omega, fun c hc => h3 c (List.mem_of_mem_drop hc), fun hne => ⟨b, off + n, rfl, fun j hj => ?_⟩⟩
  obtain ⟨b', off', e, h5⟩ := h4 (by rintro rfl; simp at hne)
  simp only [Option.some.injEq, Addr.mk.injEq] at e
  obtain ⟨rfl, rfl, _⟩ := e
  rw [getD_drop', Nat.add_assoc]
  rw [List.length_drop] at hj
  exact h5 (n + j) (by omega)

/-- The table in block g. -/
def TabAt (w : World) (g : Nat) (last ahead : Nat → Nat) : Prop :=
  (∀ h, h < 2048 → w.cell? ⟨g, h, none⟩ = some (.int .u16 (last h : Nat))) ∧ (∀ q, q < 4096 → w.cell? ⟨g, 2048 + q, none⟩ = some (.int .u16 (ahead q : Nat))) ∧ ∀ j, j < 6144 → w.frozen? ⟨g, j, none⟩ = false

theorem TabAt.setLast {w : World} {g : Nat} {last ahead : Nat → Nat} (t : TabAt w g last ahead) (h x : Nat) (hh : h < 2048) : TabAt (w.setCell ⟨g, h, none⟩ (.int .u16 (x : Nat))) g (upd last h x) ahead := by
  obtain ⟨t1, t2, t3⟩ := t
  refine ⟨fun k hk => ?_, fun q hq => ?_, fun j hj => ?_⟩
  · by_cases e : k = h
    · subst e; rw [upd_same]; exact World.cell?_setCell_same _ _ _ (t1 k hk)
    · rw [upd_other _ _ _ e, World.cell?_setCell_other _ _ _ _ (by simp only [ne_eq, Addr.mk.injEq]; omega)]; exact t1 k hk
  · rw [World.cell?_setCell_other _ _ _ _ (by simp only [ne_eq, Addr.mk.injEq]; omega)]; exact t2 q hq
  · rw [World.frozen?_setCell]; exact t3 j hj

theorem TabAt.setAhead {w : World} {g : Nat} {last ahead : Nat → Nat} (t : TabAt w g last ahead) (p x : Nat) (hp : p < 4096) : TabAt (w.setCell ⟨g, 2048 + p, none⟩ (.int .u16 (x : Nat))) g last (upd ahead p x) := by
  obtain ⟨t1, t2, t3⟩ := t
  refine ⟨fun k hk => ?_, fun q hq => ?_, fun j hj => ?_⟩
  · rw [World.cell?_setCell_other _ _ _ _ (by simp only [ne_eq, Addr.mk.injEq]; omega)]; exact t1 k hk
  · by_cases e : q = p
    · subst e; rw [upd_same]; exact World.cell?_setCell_same _ _ _ (t2 q hq)
    · rw [upd_other _ _ _ e, World.cell?_setCell_other _ _ _ _ (by simp only [ne_eq, Addr.mk.injEq]; omega)]; exact t2 q hq
  · rw [World.frozen?_setCell]; exact t3 j hj

theorem TabAt.kept {w w' : World} {g : Nat} {last ahead : Nat → Nat} (t : TabAt w g last ahead) (h : w'.heap[g]? = w.heap[g]?) : TabAt w' g last ahead := by
  obtain ⟨t1, t2, t3⟩ := t
  refine ⟨fun k hk => ?_, fun q hq => ?_, fun j hj => ?_⟩
  · rw [World.cell?_of_block (w := w) (a := ⟨g, k, none⟩) h]; exact t1 k hk
  · rw [World.cell?_of_block (w := w) (a := ⟨g, 2048 + q, none⟩) h]; exact t2 q hq
  · rw [World.frozen?_of_block (w := w) (a := ⟨g, j, none⟩) h]; exact t3 j hj

theorem TabAt.lt {w : World} {g : Nat} {last ahead : Nat → Nat} (t : TabAt w g last ahead) : g < w.heap.size := cell_lt (t.1 0 (by omega))

theorem grow_setCell (w : World) (g o : Nat) (x : Value) : w.grownBy (w.setCell ⟨g, o, none⟩ x) (some g) := grow_setCells w g o [x]

set_option maxHeartbeats 400000 in
set_option maxRecDepth 1000000 in
theorem tableAdd (v : Value) (l : List Nat) (i g : Nat) (last ahead : Nat → Nat) (w : World) (h : BytesAt w v l) (hl : l.length ≤ 4096) (hi : i < l.length) (ht : TabAt w g last ahead) :
    Calls Try.prog 34 #[.pointer (some ⟨g, 0, none⟩), v, .int .i64 i] w fun e w' => e = .returned (.tuple #[]) ∧ ∃ last' ahead', TabAt w' g last' ahead' ∧ (Tab l i last ahead → Tab l (i + 1) last' ahead') ∧ w.grownBy w' (some g) := by
  have hb := h
  obtain ⟨a, cap, rfl, hlc, hcm, hby, hcells⟩ := h
  unfold maxLen at hcm
  obtain ⟨b, off, rfl, hc⟩ := hcells (by rintro rfl; simp at hi)
  clear hcells hby hc
  have HB : Hid (BytesAt w (.slice (some ⟨b, off, none⟩) l.length cap) l) := hb
  have HT : Hid (TabAt w g last ahead) := ht
  clear hb ht
  by_cases h5 : i + 5 ≤ l.length
  · have hlt := hat_lt l i
    have h1 := HT.out.1 (hat l i) hlt
    have h2 := HT.out.2.1 i (by omega)
    have h3 := HT.out.2.2 (hat l i) (by omega)
    have h4 := HT.out.2.2 (2048 + i) (by omega)
    have HC : Hid (Calls Try.prog 50 #[.slice (some ⟨b, off + i, none⟩) (l.length - i) (cap - i)] w fun e w' => e = .returned (.int .u64 (hat l i)) ∧ w' = w) := numberOf _ _ w (HB.out.dropAt i (by omega)) (by rw [List.length_drop]; omega)
    obtain ⟨H, hH⟩ : ∃ H, hat l i = H := ⟨_, rfl⟩
    obtain ⟨A, hA⟩ : ∃ A, last H = A := ⟨_, rfl⟩
    rw [hH] at h1 h3 hlt HC
    rw [hA] at h1
    have HHA : Hid (hat l i = H ∧ last H = A) := ⟨hH, hA⟩
    clear hH hA
    go_enter Try.func34, Try.ntmps34
    go_wp2_with (go_at_call 50; refine HC.out.mono ?_; rintro e w' ⟨rfl, rfl⟩)
    go_region
    go_wp2
    go_end0
    refine ⟨rfl, upd last H (i + 1), upd ahead i A, ?_, fun t => ?_, ?_⟩
    · exact (((HT.out.setAhead i A (by omega)).setLast H (i + 1) hlt).kept (w' := World.drew _) rfl)
    · obtain ⟨e1, e2⟩ := HHA.out
      have := t.add h5
      rw [e1, e2] at this
      exact this
    · exact grow_drewN (grow_trans (grow_setCell _ _ _ _) (grow_setCell _ _ _ _) (.inl rfl)) 1
  · go_enter Try.func34, Try.ntmps34
    go_wp2
    refine bodyPost_ret (results_none rfl _ _ _) rfl ?_
    exact ⟨rfl, last, ahead, HT.out, fun t => t.skip (by omega), ⟨rfl, rfl, rfl, Nat.le_refl _, fun _ _ _ => rfl⟩⟩
end Go.Proofs.Ytklfmgkfcacfkaa
