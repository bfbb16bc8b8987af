import Derived.Test.YtmcfcbonmmifeaaDoorJj
/-! dedupe: the law's sameProds. -/
namespace Go.Proofs.YtmcfcbonmmifeaaDoor
open Go.RowKit Plain
set_option linter.unusedVariables false
set_option linter.unusedSimpArgs false

theorem sameOf (va vb : Value) (st : List Pr) (w : World) (ha : PrsAt w va st) (hb : PrsAt w vb st) :
    Calls Tryd.prog 8 #[va, vb] w fun e w' => e = .returned (.bool true) ∧ ∃ n, w' = w.drewN n := by
  obtain ⟨a, cap, rfl, hcl, -, hcells⟩ := ha
  obtain ⟨a', cap', rfl, -, -, hcells'⟩ := hb
  by_cases hnil : st = []
  · subst hnil
    clear hcells hcells'
    go_enter Tryd.func8, Tryd.ntmps8
    go_wp2
    refine wp_loop_rounds 1 ?_
    rw [rounds_succ]
    go_wp2
    go_ret
    exact ⟨rfl, 0, rfl⟩
  · obtain ⟨b, off, rfl, hc⟩ := hcells hnil
    obtain ⟨b', off', rfl, hc'⟩ := hcells' hnil
    have HC : Hid (∀ j, j < st.length → Pr.CellsAt w b (off + j * 3) (st.getD j Pr.zero)) := hc
    have HC' : Hid (∀ j, j < st.length → Pr.CellsAt w b' (off' + j * 3) (st.getD j Pr.zero)) := hc'
    clear hcells hcells' hc hc' hnil
    go_enter Tryd.func8, Tryd.ntmps8
    go_wp2
    go_loopw [5] (fun i w' => ∃ k n : Nat, w' = w.drewN n ∧ k ≤ st.length ∧ i = .int .i64 k) (fun i _ => st.length - (intOf i).toNat)
    case atStart => exact ⟨0, 0, rfl, by omega, rfl⟩
    case round =>
      obtain ⟨k, n, rfl, hk, rfl⟩ := hrel
      by_cases hlt : k < st.length
      · have hx := HC.out k hlt
        have hy := HC'.out k hlt
        generalize st.getD k Pr.zero = x at hx hy
        obtain ⟨xa, xb, xc⟩ := x
        obtain ⟨c0, c1, c2⟩ := hx
        obtain ⟨d0, d1, d2⟩ := hy
        simp only at c0 c1 c2 d0 d1 d2
        go_wp2
        go_quiet (fail)
        go_wp2
        go_roundw
        case rel => exact ⟨k + 1, _, rfl, by omega, by go_num⟩
        case measure => simp [intOf]; omega
      · go_wp2
        go_ret
        exact ⟨rfl, _, rfl⟩
theorem sameB (va vb : Value) (st : List Pr) (w : World) (ha : PrsAt w va st) (hb : PrsAt w vb st) :
    Calls Tryd.prog 8 #[va, vb] w fun e w' => e = .returned (.bool true) ∧ Below w.heap.size w w' := by
  refine (sameOf va vb st w ha hb).mono ?_
  rintro e w' ⟨rfl, n, rfl⟩
  exact ⟨rfl, ⟨rfl, rfl, rfl, Nat.le_refl _, fun _ _ => rfl⟩⟩
theorem OwnPr.reads {w : World} {v : Value} {L : List Pr} {r : Option Nat} (h : OwnPr w v L r) (hT : TabL L) : PrsAt w v L := h.recs (by have := hT.len; omega) hT.ok
end Go.Proofs.YtmcfcbonmmifeaaDoor
