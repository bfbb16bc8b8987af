import Derived.Test.YtjefbcphefckiacUb
/-! Slices of items. -/
namespace Go.Proofs.Ytjefbcphefckiac
open Go.RowKit Plain
set_option linter.unusedVariables false

/-- v is a slice of items that reads as st. -/
def ItemsAt (w : World) (v : Value) (st : List It) : Prop :=
  ∃ a cap, v = .slice a st.length cap ∧ st.length ≤ maxLen ∧ (∀ x ∈ st, x.n < 18446744073709551616 ∧ x.s.size < 18446744073709551616) ∧
    (st ≠ [] → ∃ b off, a = some ⟨b, off, none⟩ ∧ ∀ j, j < st.length → w.cell? ⟨b, off + j * 3, none⟩ = some (.int .i64 (st.getD j It.none).k) ∧ w.cell? ⟨b, off + j * 3 + 1, none⟩ = some (.int .u64 ((st.getD j It.none).n : Int)) ∧ w.cell? ⟨b, off + j * 3 + 2, none⟩ = some (.string (st.getD j It.none).s))

theorem ItemsAt.later {w w' : World} {v : Value} {st : List It} (h : ItemsAt w v st) (hb : Below w.heap.size w w') : ItemsAt w' v st := by
  obtain ⟨a, cap, e, h1, h2, h3⟩ := h
  refine ⟨a, cap, e, h1, h2, fun hne => ?_⟩
  obtain ⟨b, off, e2, hc⟩ := h3 hne
  refine ⟨b, off, e2, fun j hj => ?_⟩
  obtain ⟨c0, c1, c2⟩ := hc j hj
  exact ⟨by rw [hb.cell (p := ⟨b, _, none⟩) (cell_lt c0)]; exact c0, by rw [hb.cell (p := ⟨b, _, none⟩) (cell_lt c1)]; exact c1, by rw [hb.cell (p := ⟨b, _, none⟩) (cell_lt c2)]; exact c2⟩

set_option maxHeartbeats 1000000 in
theorem sameItems (va vb : Value) (st : List It) (w : World) (ha : ItemsAt w va st) (hb : ItemsAt w vb st) :
    Calls Try.prog 8 #[va, vb] w fun e w' => e = .returned (.bool true) ∧ ∃ n, w' = w.drewN n := by
  obtain ⟨a, cap, rfl, hcl, -, hcells⟩ := ha
  obtain ⟨a', cap', rfl, -, -, hcells'⟩ := hb
  unfold maxLen at hcl
  by_cases hnil : st = []
  · subst hnil
    clear hcells hcells'
    go_enter Try.func8, Try.ntmps8
    go_wp2
    refine wp_loop_rounds 1 ?_
    rw [rounds_succ]
    go_wp2
    go_ret
    exact ⟨rfl, 0, rfl⟩
  · obtain ⟨b, off, rfl, hc⟩ := hcells hnil
    obtain ⟨b', off', rfl, hc'⟩ := hcells' hnil
    have HC : Hid (∀ j, j < st.length → w.cell? ⟨b, off + j * 3, none⟩ = some (.int .i64 (st.getD j It.none).k) ∧ w.cell? ⟨b, off + j * 3 + 1, none⟩ = some (.int .u64 ((st.getD j It.none).n : Int)) ∧ w.cell? ⟨b, off + j * 3 + 2, none⟩ = some (.string (st.getD j It.none).s)) := hc
    have HC' : Hid (∀ j, j < st.length → w.cell? ⟨b', off' + j * 3, none⟩ = some (.int .i64 (st.getD j It.none).k) ∧ w.cell? ⟨b', off' + j * 3 + 1, none⟩ = some (.int .u64 ((st.getD j It.none).n : Int)) ∧ w.cell? ⟨b', off' + j * 3 + 2, none⟩ = some (.string (st.getD j It.none).s)) := hc'
    clear hcells hcells' hc hc' hnil
    go_enter Try.func8, Try.ntmps8
    go_wp2
    go_loopw [5] (fun i w' => ∃ k n : Nat, w' = w.drewN n ∧ k ≤ st.length ∧ i = .int .i64 k) (fun i _ => st.length - (intOf i).toNat)
    case atStart => exact ⟨0, 0, rfl, by omega, rfl⟩
    case round =>
      obtain ⟨k, n, rfl, hk, rfl⟩ := hrel
      by_cases hlt : k < st.length
      · obtain ⟨c0, c1, c2⟩ := HC.out k hlt
        obtain ⟨d0, d1, d2⟩ := HC'.out k hlt
        generalize st.getD k It.none = x at c0 c1 c2 d0 d1 d2
        obtain ⟨xk, xn, xs⟩ := x
        go_wp2
        go_quiet (fail)
        go_wp2
        go_roundw
        case rel => exact ⟨k + 1, _, rfl, by omega, by go_num⟩
        case measure => simp [intOf]; omega
      · go_wp2
        go_ret
        exact ⟨rfl, _, rfl⟩
end Go.Proofs.Ytjefbcphefckiac
