import Derived.Test.YtdcagkojfgcbkaaHki
/-! hint: sameHint. -/
namespace Go.Proofs.Ytdcagkojfgcbkaa
open Go.RowKit Plain Go.WideMaps Go.Maps
set_option linter.unusedVariables false
set_option linter.unusedSimpArgs false

set_option maxHeartbeats 2000000 in
theorem sameHintOf (s z : Int) (va vb : Value) (st : List He) (w : World) (ha : HesAt w va st) (hb : HesAt w vb st) :
    Calls Try.prog 7 #[.agg #[.int .i64 s, .int .i64 z, va], .agg #[.int .i64 s, .int .i64 z, vb]] w fun e w' => e = .returned (.bool true) ∧ Below w.heap.size w w' := by
  obtain ⟨a, cap, rfl, hcl, -, hcells⟩ := ha
  obtain ⟨a', cap', rfl, -, -, hcells'⟩ := hb
  have HC : Hid (st ≠ [] → ∃ b off, a = some ⟨b, off, none⟩ ∧ ∀ j, j < st.length → He.CellsAt w b (off + j * 6) (st.getD j He.zero)) := hcells
  have HC' : Hid (st ≠ [] → ∃ b off, a' = some ⟨b, off, none⟩ ∧ ∀ j, j < st.length → He.CellsAt w b (off + j * 6) (st.getD j He.zero)) := hcells'
  clear hcells hcells'
  go_enter Try.func7, Try.ntmps7
  go_wp2
  obtain ⟨W0, hW0⟩ : ∃ W0, w.alloc (.cells #[.int .i64 s, .int .i64 z, .slice a st.length cap] 25) = W0 := ⟨_, rfl⟩
  obtain ⟨w3, hw3⟩ : ∃ w3, W0.alloc (.cells #[.int .i64 s, .int .i64 z, .slice a' st.length cap'] 25) = w3 := ⟨_, rfl⟩
  have hs0 : W0.heap.size = w.heap.size + 1 := by rw [← hW0]; simp
  have hb0 : Below w.heap.size w W0 := by rw [← hW0]; exact (Below.refl _ _).alloc (Nat.le_refl _) _
  have hb2 : Below W0.heap.size W0 w3 := by rw [← hw3]; exact (Below.refl _ _).alloc (Nat.le_refl _) _
  have HB3 : Hid (Below w.heap.size w w3) := hb0.trans (hb2.mono (by omega))
  have HA3 : Hid (Hb w3 w.heap.size s z (.slice a st.length cap)) := by
    have h1 : Hb W0 w.heap.size s z (.slice a st.length cap) := by rw [← hW0]; exact Hb.new _ _ _ _
    exact h1.block (hb2.block _ (by omega))
  have HZ3 : Hid (Hb w3 (w.heap.size + 1) s z (.slice a' st.length cap')) := by
    unfold Hid
    rw [← hw3, ← hs0]; exact Hb.new _ _ _ _
  rw [hW0, hw3]
  clear hW0 hw3 hb0 hb2 hs0
  clear W0
  go_loopg [5] st.length (fun gk s5 wx => ∃ (k : Nat), k + gk = st.length ∧ s5 = .int .i64 k ∧ Hid (∃ n, wx = w3.drewN n))
  case atStart => exact ⟨0, by omega, rfl, 0, rfl⟩
  case round =>
    obtain ⟨k, hkg, rfl, HN⟩ := hrel
    obtain ⟨n, rfl⟩ := HN.out
    clear HN
    obtain ⟨x0, x1, x2, -⟩ := HA3.out
    obtain ⟨y0, y1, y2, -⟩ := HZ3.out
    cases gk with
    | zero =>
      obtain rfl : k = st.length := by omega
      go_wp2
      go_ret
      exact ⟨rfl, below_drewN HB3.out _⟩
    | succ gk1 =>
      have hk : k < st.length := by omega
      obtain ⟨b, off, rfl, hc⟩ := HC.out (by rintro rfl; simp at hk)
      obtain ⟨b', off', rfl, hc'⟩ := HC'.out (by rintro rfl; simp at hk)
      have hx := (hc k hk).block (HB3.out.block b (hc k hk).lt)
      have hy := (hc' k hk).block (HB3.out.block b' (hc' k hk).lt)
      have hki : (k : Int) < (st.length : Int) := by omega
      clear hc hc'
      generalize st.getD k He.zero = x at hx hy
      obtain ⟨xkey, xo, xt, xd, xpos, xlen⟩ := x
      obtain ⟨c0, c1, c2, c3, c4, c5⟩ := hx
      obtain ⟨d0, d1, d2, d3, d4, d5⟩ := hy
      simp only at c0 c1 c2 c3 c4 c5 d0 d1 d2 d3 d4 d5
      go_wp2
      go_quiet (fail)
      go_wp2
      go_roundg gk1
      case rel => exact ⟨k + 1, by omega, by go_num, _, rfl⟩
      case measure => exact Nat.lt_succ_self _
end Go.Proofs.Ytdcagkojfgcbkaa
