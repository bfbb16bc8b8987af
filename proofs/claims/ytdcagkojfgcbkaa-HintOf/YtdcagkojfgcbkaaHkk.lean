import Derived.Test.YtdcagkojfgcbkaaHki
/-! hint: the law's comparisons. -/
namespace Go.Proofs.Ytdcagkojfgcbkaa
open Go.RowKit Plain Go.WideMaps Go.Maps
set_option linter.unusedVariables false
set_option linter.unusedSimpArgs false

theorem up_uniq : ∀ (l l' : List Nat), l.Pairwise (· < ·) → l'.Pairwise (· < ·) → (∀ j, j ∈ l ↔ j ∈ l') → l = l'
  | [], [], _, _, _ => rfl
  | [], b :: l', _, _, h => by have := (h b).mpr (List.mem_cons_self ..); simp at this
  | a :: l, [], _, _, h => by have := (h a).mp (List.mem_cons_self ..); simp at this
  | a :: l, b :: l', h1, h2, h => by
    rw [List.pairwise_cons] at h1 h2
    have hab : a = b := by
      have i1 := (h a).mp (List.mem_cons_self ..)
      have i2 := (h b).mpr (List.mem_cons_self ..)
      rcases List.mem_cons.mp i1 with e | e
      · exact e
      · rcases List.mem_cons.mp i2 with e2 | e2
        · exact e2.symm
        · have := h2.1 a e
          have := h1.1 b e2
          omega
    subst hab
    congr 1
    refine up_uniq l l' h1.2 h2.2 (fun j => ⟨fun hj => ?_, fun hj => ?_⟩)
    · rcases List.mem_cons.mp ((h j).mp (List.mem_cons_of_mem _ hj)) with e | e
      · have := h1.1 j hj; omega
      · exact e
    · rcases List.mem_cons.mp ((h j).mpr (List.mem_cons_of_mem _ hj)) with e | e
      · have := h2.1 j hj; omega
      · exact e
theorem PlacesOk.uniq {st : List Pl} {qs qs' : List Nat} (h : PlacesOk st qs) (k : PlacesOk st qs') : qs = qs' :=
  up_uniq qs qs' h.up k.up (fun j => ⟨fun hj => k.all j (h.mem j hj), fun hj => h.all j (k.mem j hj)⟩)

set_option maxHeartbeats 1000000 in
theorem samePlOf (va vb : Value) (st : List Pl) (w : World) (ha : PlsAt w va st) (hb : PlsAt w vb st) :
    Calls Try.prog 8 #[va, vb] w fun e w' => e = .returned (.bool true) ∧ ∃ n, w' = w.drewN n := by
  obtain ⟨a, cap, rfl, hcl, -, hcells⟩ := ha
  obtain ⟨a', cap', rfl, -, -, hcells'⟩ := hb
  by_cases hnil : st = []
  · subst hnil
    clear hcells hcells'
    go_enter Try.func8, Try.ntmps8
    go_wp2
    refine wp_loop_rounds 1 ?_
    rw [rounds_succ]
    go_wp2
    go_ret
    exact ⟨rfl, 0, rfl⟩
  · obtain ⟨b, off, rfl, hc⟩ := hcells hnil
    obtain ⟨b', off', rfl, hc'⟩ := hcells' hnil
    have HC : Hid (∀ j, j < st.length → Pl.CellsAt w b (off + j * 9) (st.getD j Pl.zero)) := hc
    have HC' : Hid (∀ j, j < st.length → Pl.CellsAt w b' (off' + j * 9) (st.getD j Pl.zero)) := hc'
    clear hcells hcells' hc hc' hnil
    go_enter Try.func8, Try.ntmps8
    go_wp2
    go_loopw [5] (fun i w' => ∃ k n : Nat, w' = w.drewN n ∧ k ≤ st.length ∧ i = .int .i64 k) (fun i _ => st.length - (intOf i).toNat)
    case atStart => exact ⟨0, 0, rfl, by omega, rfl⟩
    case round =>
      obtain ⟨k, n, rfl, hk, rfl⟩ := hrel
      by_cases hlt : k < st.length
      · have hx := HC.out k hlt
        have hy := HC'.out k hlt
        generalize st.getD k Pl.zero = x at hx hy
        obtain ⟨xk, xo, xt, xp, xq, xkey, xval, xpos, xlen⟩ := x
        obtain ⟨c0, c1, c2, c3, c4, c5, c6, c7, c8⟩ := hx
        obtain ⟨d0, d1, d2, d3, d4, d5, d6, d7, d8⟩ := hy
        simp only at c0 c1 c2 c3 c4 c5 c6 c7 c8 d0 d1 d2 d3 d4 d5 d6 d7 d8
        go_wp2
        go_quiet (fail)
        go_wp2
        go_roundw
        case rel => exact ⟨k + 1, _, rfl, by omega, by go_num⟩
        case measure => simp [intOf]; omega
      · go_wp2
        go_ret
        exact ⟨rfl, _, rfl⟩
end Go.Proofs.Ytdcagkojfgcbkaa
