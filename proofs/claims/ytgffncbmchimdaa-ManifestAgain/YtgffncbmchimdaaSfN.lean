import Derived.Test.YtgffncbmchimdaaSfM
/-! What a loss of power leaves of a file. -/
namespace Go.Proofs.Ytgffncbmchimdaa
open Go.RowKit Go.Maps Plain
set_option linter.unusedVariables false
set_option linter.unusedSimpArgs false

theorem PicksAt.of_cells {w w' : World} {C : Nat} {v : Value} {ps : List Int} (h : PicksAt w v ps) (ho : PicksOff C v) (hc : ∀ b o u, b < C → w.cell? ⟨b, o, none⟩ = some u → w'.cell? ⟨b, o, none⟩ = some u) : PicksAt w' v ps := by
  obtain ⟨a, cap, rfl, h1, h2, h3, h4⟩ := h
  refine ⟨a, cap, rfl, h1, h2, h3, fun hne => ?_⟩
  obtain ⟨b, off, rfl, h5⟩ := h4 hne
  exact ⟨b, off, rfl, fun j x hj => hc _ _ _ (ho b off _ _ rfl) (h5 j x hj)⟩
theorem ChoAt.lt {w : World} {C : Nat} {v : Value} {ps : List Int} (h : ChoAt w C v ps) : C < w.heap.size := (Array.getElem?_eq_some_iff.mp h.blk).1
theorem ChoAt.kept {w w' : World} {C : Nat} {v : Value} {ps : List Int} {r : Option Nat} (h : ChoAt w C v ps) (hg : w.grownBy w' r) (hr : ∀ g, r = some g → C < g) : ChoAt w' C v ps :=
  ⟨(hg.block C h.lt (fun e => by have := hr C e.symm; omega)).trans h.blk, h.row.of_cells h.off (fun b o u hb hu => hg.cell hu (fun e => by have := hr b e.symm; omega)), h.off⟩
theorem ChoAt.later {w w' : World} {C : Nat} {v : Value} {ps : List Int} (h : ChoAt w C v ps) (hb : Below w.heap.size w w') : ChoAt w' C v ps := h.kept (below_grow hb none) (by simp)

set_option maxHeartbeats 2000000 in
set_option maxRecDepth 1000000 in
theorem addTornOf (ab : Option Addr) (nb cb : Nat) (b : List Nat) (w : World) (C : Nat) (v : Value) (ps : List Int) (hb : BytesAt w (.slice ab nb cb) b) (hc : ChoAt w C v ps) (hl : b.length ≤ 4611686018427387904) :
    Calls Try.prog 103 #[.agg #[.slice ab nb cb], .pointer (some ⟨C, 0, none⟩)] w fun e w' => e = .returned (.slice ab (upV ps b.length) cb) ∧ (∃ v', ChoAt w' C v' ps.tail) ∧ w.grownBy w' (some C) := by
  obtain ⟨a, cap, e, h1, h2, h3, h4⟩ := hb
  injection e with e1 e2 e3
  subst e1 e2 e3
  unfold maxLen at h2
  have HBW : Hid (Below w.heap.size w (w.alloc (.cells #[.slice ab b.length cb] 105)).drew) := ((Below.refl _ _).alloc (Nat.le_refl _) _).drew
  have HUP : Hid (Calls Try.prog 40 #[.pointer (some ⟨C, 0, none⟩), .int .i64 (b.length : Int)] (w.alloc (.cells #[.slice ab b.length cb] 105)).drew fun e w' => e = .returned (.int .i64 (upV ps b.length : Int)) ∧ (∃ v', ChoAt w' C v' ps.tail) ∧ (w.alloc (.cells #[.slice ab b.length cb] 105)).drew.grownBy w' (some C)) := upToOf _ C v ps b.length (hc.later HBW.out) hl
  have hle := upV_le ps b.length
  have hCl := hc.lt
  have k0 : (w.alloc (.cells #[.slice ab b.length cb] 105)).cell? ⟨w.heap.size, 0, none⟩ = some (.slice ab b.length cb) := by rw [World.cell?_alloc_at _ _ _ _ rfl]; rfl
  clear hc h3 h4
  generalize b.length = N at *
  generalize upV ps N = M at *
  obtain ⟨W, hW⟩ : ∃ W, w.alloc (.cells #[.slice ab N cb] 105) = W := ⟨_, rfl⟩
  have HW : Hid (w.alloc (.cells #[.slice ab N cb] 105) = W) := hW
  rw [hW] at HBW HUP k0
  clear hW
  go_enter Try.func103, Try.ntmps103
  go_wp2
  rw [HW.out]
  go_region_with (
    go_at_call 40
    refine HUP.out.mono ?_
    rintro e w3 ⟨rfl, hv3, hg3⟩
    have k3 : w3.cell? ⟨w.heap.size, 0, none⟩ = some (.slice ab N cb) := hg3.cell k0 (by simp; omega)
    have HP : Hid ((∃ v', ChoAt w3 C v' ps.tail) ∧ w.grownBy w3 (some C)) := ⟨hv3, grow_trans (below_grow HBW.out (some C)) hg3 (.inl rfl)⟩
    clear hv3 hg3)
  all_goals
    go_wp2
    go_ret
    exact ⟨rfl, HP.out⟩
end Go.Proofs.Ytgffncbmchimdaa
