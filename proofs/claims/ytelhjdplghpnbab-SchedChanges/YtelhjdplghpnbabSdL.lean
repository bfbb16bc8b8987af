import Derived.Test.YtelhjdplghpnbabSdK
import Derived.Laws.ResultCell
/-! The document's waits, place, on. -/
namespace Go.Proofs.Ytelhjdplghpnbab
open Go.RowKit Plain
set_option linter.unusedVariables false
set_option linter.unusedSimpArgs false

theorem results_cell1 {fn : Func} {p : Tmp} {ty : TypeId} (h : fn.results = #[.cell p ty]) (tmps : Array Value) (P : Program) (w : World) :
    (results fn tmps).run P w = ((asAddr (tmps.getD p undef)).run P w).andThen fun a w₁ => (loadVar ty a).run P w₁ := by
  simp only [results, h]
  simp [Sem.run_bind, Result.andThen]
theorem results_cell4 {fn : Func} {p u1 u2 u3 : Tmp} {ty : TypeId} (h : fn.results = #[.cell p ty, .tmp u1, .tmp u2, .tmp u3]) (tmps : Array Value) (P : Program) (w : World) :
    (results fn tmps).run P w = ((asAddr (tmps.getD p undef)).run P w).andThen fun a w₁ => ((loadVar ty a).run P w₁).andThen fun v w₂ => .ok (.tuple #[v, tmps.getD u1 undef, tmps.getD u2 undef, tmps.getD u3 undef]) w₂ := by
  simp only [results, h]
  simp [Sem.run_bind, Result.andThen]
theorem getD_mem {l : List Qu} {j : Nat} (h : j < l.length) : l.getD j Qu.zero ∈ l := by simp [h]
theorem waits_no {t : Tr} (h : ∀ j, j < t.qs.length → (t.qs.getD j Qu.zero).costs.length = 0) : waitsT t = false := by
  unfold waitsT
  rw [List.any_eq_false]
  intro q hq
  obtain ⟨j, hj, rfl⟩ := List.mem_iff_getElem.mp hq
  have := h j hj
  simp [List.getD_eq_getElem?_getD, hj] at this
  simp [this]
theorem waits_yes {t : Tr} {j : Nat} (hj : j < t.qs.length) (h : (t.qs.getD j Qu.zero).costs.length ≠ 0) : waitsT t = true := by
  unfold waitsT
  rw [List.any_eq_true]
  refine ⟨_, getD_mem hj, ?_⟩
  cases e : (t.qs.getD j Qu.zero).costs with
  | nil => rw [e] at h; simp at h
  | cons _ _ => simp
theorem place_hit {l : List Qu} {id : Int} {i : Nat} (hi : i < l.length) (h : (l.getD i Qu.zero).id = id) (hn : ∀ j, j < i → (l.getD j Qu.zero).id ≠ id) : placeL l id = i := by
  have : l.findIdx? (fun q => q.id == id) = some i := by
    rw [List.findIdx?_eq_some_iff_getElem]
    refine ⟨hi, ?_, fun j hj => ?_⟩
    · simp [List.getD_eq_getElem?_getD, hi] at h
      simp [h]
    · have := hn j hj
      simp [List.getD_eq_getElem?_getD, show j < l.length by omega] at this
      simp [this]
  unfold placeL
  rw [this]
theorem place_no {l : List Qu} {id : Int} (hn : ∀ j, j < l.length → (l.getD j Qu.zero).id ≠ id) : placeL l id = -1 := by
  have : l.findIdx? (fun q => q.id == id) = none := by
    rw [List.findIdx?_eq_none_iff]
    intro q hq
    obtain ⟨j, hj, rfl⟩ := List.mem_iff_getElem.mp hq
    have := hn j hj
    simp [List.getD_eq_getElem?_getD, hj] at this
    simp [this]
  unfold placeL
  rw [this]
set_option maxHeartbeats 4000000 in
set_option maxRecDepth 100000 in
theorem rplaceOf (t : Tr) (id : Int) (hid : I64 id) (v : Value) (w : World) (h : TrAt w v t) : Calls Try.prog 30 #[turV v t, .int .i64 id] w fun e w' => e = .returned (.int .i64 (placeL t.qs id)) ∧ Below w.heap.size w w' := by
  obtain ⟨l, z, f⟩ := t
  obtain ⟨hrow, hz1, hz2⟩ := h
  obtain ⟨hd1, hd2⟩ := hid
  simp only at hrow hz1 hz2 ⊢
  obtain ⟨a, cap, rfl, hl⟩ := hrow.shape
  have HY : Hid (∀ i, i < l.length → (l.getD i Qu.zero).id = id → (∀ j, j < i → (l.getD j Qu.zero).id ≠ id) → placeL l id = i) := fun i hi => place_hit hi
  have HO : Hid ((∀ j, j < l.length → (l.getD j Qu.zero).id ≠ id) → placeL l id = -1) := fun h => place_no h
  generalize placeL l id = A at *
  unfold turV
  simp only
  obtain ⟨w0, hw0⟩ : ∃ w0, w.alloc (.cells #[.slice a l.length cap, .int .i64 z, .bool f] 24) = w0 := ⟨_, rfl⟩
  obtain ⟨B, hB⟩ : ∃ B, w.heap.size = B := ⟨_, rfl⟩
  have HB0 : Hid (Below w.heap.size w w0) := by have := (turBox w (.slice a l.length cap) z f).1; rw [hw0] at this; exact this
  have HM : Hid (∀ u, Below w0.heap.size w0 u → u.cell? ⟨B, 0, none⟩ = some (.slice a l.length cap) ∧ u.cell? ⟨B, 1, none⟩ = some (.int .i64 z) ∧ u.cell? ⟨B, 2, none⟩ = some (.bool f)) := by have := (turBox w (.slice a l.length cap) z f).2; rw [hw0, hB] at this; exact this
  have HC : Hid (∀ i, i < l.length → ∃ b off, a = some ⟨b, off, none⟩ ∧ w0.cell? ⟨b, off + i * 4, none⟩ = some (.int .i64 (l.getD i Qu.zero).id)) := fun i hi => by
    obtain ⟨b, off, ca, cc, e, h1, h2⟩ := hrow.at hi
    exact ⟨b, off, e, (h1 w0 HB0.out).1.c0⟩
  obtain ⟨m0, m1, m2⟩ := HM.out w0 (Below.refl _ _)
  clear hrow
  go_enter Try.func30, Try.ntmps30
  go_wp2
  go_loopw [5] (fun i u => ∃ k : Nat, k ≤ l.length ∧ i = .int .i64 k ∧ Hid (∀ j, j < k → (l.getD j Qu.zero).id ≠ id) ∧ u = w0) (fun i _ => l.length - (intOf i).toNat)
  case atStart => exact ⟨0, by omega, rfl, fun j hj => by omega, rfl⟩
  case round =>
    obtain ⟨k, hk, rfl, HZ, rfl⟩ := hrel
    by_cases hlt : k < l.length
    · obtain ⟨b, off, rfl, c0⟩ := HC.out k hlt
      have HY1 : Hid ((l.getD k Qu.zero).id = id → A = k) := fun e => HY.out k hlt e HZ.out
      have HN : Hid ((l.getD k Qu.zero).id ≠ id → ∀ j, j < k + 1 → (l.getD j Qu.zero).id ≠ id) := fun e j hj => by
        by_cases e2 : j = k
        · rw [e2]; exact e
        · exact HZ.out j (by omega)
      have hki : (k : Int) < (l.length : Int) := by omega
      generalize (l.getD k Qu.zero).id = x at *
      by_cases hx : x = id
      · have HA : Hid (A = k) := HY1.out hx
        have hx' : (x == id) = true := by simp [hx]
        clear HN HY1
        go_wp2
        go_ret
        exact ⟨by rw [HA.out]; rfl, HB0.out⟩
      · have HN2 := Hid.mkT (HN.out hx)
        clear HN HY1
        go_wp2
        go_roundw
        case rel => exact ⟨k + 1, by omega, by go_num, HN2.out, by first | rfl | trivial⟩
        case measure => simp only [intOf]; omega
    · have hkn : l.length = k := by omega
      have HA : Hid (A = -1) := HO.out (by rw [hkn]; exact HZ.out)
      clear HO
      go_wp2
      go_ret
      exact ⟨by rw [HA.out]; rfl, HB0.out⟩
end Go.Proofs.Ytelhjdplghpnbab
