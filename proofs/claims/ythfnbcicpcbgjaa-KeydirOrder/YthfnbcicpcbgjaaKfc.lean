import Derived.Test.YthfnbcicpcbgjaaKfb
/-! keydir: lists that were handed out, held against one another. -/
namespace Go.Proofs.Ythfnbcicpcbgjaa
open Go.RowKit Plain
set_option linter.unusedVariables false
set_option linter.unusedSimpArgs false

/-- v is a slice of keys with entries that reads as st, whatever numbers stand in them. -/
def KrRow (w : World) (v : Value) (st : List Kr) : Prop :=
  ∃ a cap, v = .slice a st.length cap ∧ st.length ≤ 2199023255500 ∧ (st ≠ [] → ∃ b off, a = some ⟨b, off, none⟩ ∧ ∀ j, j < st.length → Kr.CellsAt w b (off + j * 7) (st.getD j Kr.zero))
theorem KrRow.later {w w' : World} {v : Value} {st : List Kr} (h : KrRow w v st) (hb : Below w.heap.size w w') : KrRow w' v st := by
  obtain ⟨a, cap, e, h1, h3⟩ := h
  refine ⟨a, cap, e, h1, fun hne => ?_⟩
  obtain ⟨b, off, e2, hc⟩ := h3 hne
  exact ⟨b, off, e2, fun j hj => (hc j hj).block (hb.block b (hc j hj).lt)⟩
theorem OwnKr.row {w : World} {v : Value} {ts : List Kr} {r : Option Nat} (h : OwnKr w v ts r) (hl : ts.length ≤ 2199023255500) : KrRow w v ts := by
  obtain ⟨a, cap, e, h1, h2⟩ := h.shape
  refine ⟨a, cap, e, hl, fun hne => ?_⟩
  have h' := h
  rcases h with ⟨_, h0, _⟩ | ⟨g, c', e1, e2, _⟩
  · exact absurd h0 hne
  · subst e1
    rw [e] at e2
    injection e2 with e3 _ _
    refine ⟨g, 0, e3, fun j hj => ?_⟩
    rw [Nat.zero_add]
    exact h'.at hj
theorem rangeRow {D : Nat → Prop} {gd : Nat} {ks : List Ke} (lim : Int) (w : World) (h : DirAt D w gd ks) (hl : ks.length ≤ 2199023255500) :
    Calls Try.prog 16 #[.pointer (some ⟨gd, 0, none⟩), .string ⟨#[]⟩, .string ⟨#[]⟩, .int .i64 lim] w fun e w' => ∃ v, e = .returned v ∧ KrRow w' v ((ks.take lim.toNat).map Ke.r) ∧ Below w.heap.size w w' := by
  refine (rangeOf ⟨#[]⟩ ⟨#[]⟩ lim w h (by decide) (by decide) hl).mono ?_
  rintro e w' ⟨v, r, rfl, ho, -, hb⟩
  rw [rng_all rfl rfl] at ho
  exact ⟨v, rfl, ho.row (by simp; omega), hb⟩
theorem sameRow (va vb : Value) (st : List Kr) (w : World) (ha : KrRow w va st) (hb : KrRow w vb st) :
    Calls Try.prog 15 #[va, vb] w fun e w' => e = .returned (.bool true) ∧ ∃ n, w' = w.drewN n := by
  obtain ⟨a, cap, rfl, hcl, hcells⟩ := ha
  obtain ⟨a', cap', rfl, -, hcells'⟩ := hb
  by_cases hnil : st = []
  · subst hnil
    clear hcells hcells'
    go_enter Try.func15, Try.ntmps15
    go_wp2
    refine wp_loop_rounds 1 ?_
    rw [rounds_succ]
    go_wp2
    go_ret
    exact ⟨rfl, 0, rfl⟩
  · obtain ⟨b, off, rfl, hc⟩ := hcells hnil
    obtain ⟨b', off', rfl, hc'⟩ := hcells' hnil
    have HC : Hid (∀ j, j < st.length → Kr.CellsAt w b (off + j * 7) (st.getD j Kr.zero)) := hc
    have HC' : Hid (∀ j, j < st.length → Kr.CellsAt w b' (off' + j * 7) (st.getD j Kr.zero)) := hc'
    clear hcells hcells' hc hc' hnil
    go_enter Try.func15, Try.ntmps15
    go_wp2
    go_loopw [5] (fun i w' => ∃ k n : Nat, w' = w.drewN n ∧ k ≤ st.length ∧ i = .int .i64 k) (fun i _ => st.length - (intOf i).toNat)
    case atStart => exact ⟨0, 0, rfl, by omega, rfl⟩
    case round =>
      obtain ⟨k, n, rfl, hk, rfl⟩ := hrel
      by_cases hlt : k < st.length
      · have hx := HC.out k hlt
        have hy := HC'.out k hlt
        generalize st.getD k Kr.zero = x at hx hy
        obtain ⟨xkey, xa, xb, xc, xd, xt, xm⟩ := x
        obtain ⟨c0, c1, c2, c3, c4, c5, c6⟩ := hx
        obtain ⟨d0, d1, d2, d3, d4, d5, d6⟩ := hy
        simp only at c0 c1 c2 c3 c4 c5 c6 d0 d1 d2 d3 d4 d5 d6
        go_wp2
        go_quiet (fail)
        go_wp2
        go_roundw
        case rel => exact ⟨k + 1, _, rfl, by omega, by go_num⟩
        case measure => simp [intOf]; omega
      · go_wp2
        go_ret
        exact ⟨rfl, _, rfl⟩
end Go.Proofs.Ythfnbcicpcbgjaa
