import Derived.Test.YtnlnfihblionaaaSfK
/-! Dead, Ops, Used, Quota. -/
namespace Go.Proofs.Ytnlnfihblionaaa
open Go.RowKit Go.Maps Plain
set_option linter.unusedVariables false
set_option linter.unusedSimpArgs false
set_option maxRecDepth 1000000

theorem deadOf {S : Nat → Prop} {w w1 : World} {d : Nat} {k : Dk} (h : St S w d k w1) : Calls Try.prog 33 #[.pointer (some ⟨d, 0, none⟩)] w1 fun e w' => e = .returned (.bool k.dead) ∧ w' = w1 := by
  obtain ⟨ms, md, vc, rc, Sf, hm⟩ := h.at
  obtain ⟨⟨_, _, _, _, _, _, _, _, c8⟩, _⟩ := dcells hm.cells
  clear hm h
  generalize k.dead = b at *
  go_enter Try.func33, Try.ntmps33
  go_wp2
  go_ret
  exact ⟨rfl, rfl⟩
theorem opsOf {S : Nat → Prop} {w w1 : World} {d : Nat} {k : Dk} (h : St S w d k w1) : Calls Try.prog 32 #[.pointer (some ⟨d, 0, none⟩)] w1 fun e w' => e = .returned (.int .i64 k.ops) ∧ w' = w1 := by
  obtain ⟨ms, md, vc, rc, Sf, hm⟩ := h.at
  obtain ⟨⟨_, _, _, _, _, c5, _, _, _⟩, _⟩ := dcells hm.cells
  clear hm h
  go_enter Try.func32, Try.ntmps32
  go_wp2
  go_ret
  exact ⟨rfl, rfl⟩
theorem usedOf {S : Nat → Prop} {w w1 : World} {d : Nat} {k : Dk} (h : St S w d k w1) : Calls Try.prog 21 #[.pointer (some ⟨d, 0, none⟩)] w1 fun e w' => e = .returned (.int .i64 k.used) ∧ w' = w1 := by
  obtain ⟨c3, _⟩ := h.cells
  clear h
  go_enter Try.func21, Try.ntmps21
  go_wp2
  go_ret
  exact ⟨rfl, rfl⟩
theorem quotaOf {S : Nat → Prop} {w w1 : World} {d : Nat} {k : Dk} (h : St S w d k w1) : Calls Try.prog 20 #[.pointer (some ⟨d, 0, none⟩)] w1 fun e w' => e = .returned (.int .i64 k.quota) ∧ w' = w1 := by
  obtain ⟨_, c4, _⟩ := h.cells
  clear h
  go_enter Try.func20, Try.ntmps20
  go_wp2
  go_ret
  exact ⟨rfl, rfl⟩
end Go.Proofs.Ytnlnfihblionaaa
