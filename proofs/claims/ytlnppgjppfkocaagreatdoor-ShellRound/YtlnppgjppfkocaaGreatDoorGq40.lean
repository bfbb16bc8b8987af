import Derived.Test.YtlnppgjppfkocaaGreatDoorGq28
import Derived.Recover
import Derived.Defers
import Derived.LaidEql
/-! Parse's deferred closure. -/
namespace Go.Proofs.YtlnppgjppfkocaaGreatDoor.Xs
open Go.RowKit Plain
set_option linter.unusedVariables false
set_option linter.unusedSimpArgs false

theorem Tryz.cmpE : (Tryz.prog.info? 29).map (fun i => i.comparable) = some true := by kernel_rfl
theorem eq_gave_in (d : Nat) (u : World) {ms : Array (String × TypeId)} (hi : Tryz.prog.underlying 20 = some (.interface ms)) : (Op.equalIn (d + 2) 20 (.iface 29 (.int .i64 230)) (.iface 29 (.int .i64 230))).run Tryz.prog u = .ok true u := by
  have hc := Tryz.cmpE
  cases hinfo : Tryz.prog.info? 29 with
  | none => rw [hinfo] at hc; cases hc
  | some i =>
    rw [hinfo] at hc
    have hcomp : i.comparable = true := by simpa using hc
    simp [Op.equalIn, run_underlying hi, run_underlying Tryz.underlying29, typeInfo, hinfo, hcomp]
theorem eq_gave (u : World) : (binOp .eql 20 (.iface 29 (.int .i64 230)) (.iface 29 (.int .i64 230))).run Tryz.prog u = .ok (.bool true) u := by
  simp only [binOp]
  simp [Op.equal, Op.maxDepth, eq_gave_in 9998 u Tryz.underlying20]
set_option maxHeartbeats 4000000 in
set_option maxRecDepth 100000 in
theorem catch_gave (R1 R2 : Nat) (w : World) (W : World) (c : Cm) (vr vp : Value) (h1 : Bx W w R1 (cmLst c vr vp)) (h2 : Bx W w R2 [.int .i64 0]) (hne : R1 ≠ R2) :
    CallsD Tryz.prog 24 #[.pointer (some ⟨R1, 0, none⟩), .pointer (some ⟨R2, 0, none⟩)] (.panicking [gaveE]) w fun e u' w' =>
      e = .returned (.tuple #[]) ∧ u' = .panicking [{ gaveE with recovered := true }] ∧ w' = (cmPut w R1 Cm.zero nilV nilV).setCell ⟨R2, 0, none⟩ (.int .i64 230) := by
  refine callsD_of_wpS Tryz.func24 rfl fun c₀ cs hu => ?_
  unfold gaveE at hu
  apply wpS_seq
  apply wpS_region
  simp [wpOpsS, go_sem, recoverD, hu, Tryz.ntmps24, Exit.thenS]
  refine wpS_of_wp ?_
  obtain ⟨b0, b1, b2, b3, b4, b5, b6, b7, b8, b9, b10, b11, b12, b13⟩ := h1.cm
  have f0 := h1.fz 0 (by simp [cmLst])
  have f1 := h1.fz 1 (by simp [cmLst])
  have f2 := h1.fz 2 (by simp [cmLst])
  have f3 := h1.fz 3 (by simp [cmLst])
  have f4 := h1.fz 4 (by simp [cmLst])
  have f5 := h1.fz 5 (by simp [cmLst])
  have f6 := h1.fz 6 (by simp [cmLst])
  have f7 := h1.fz 7 (by simp [cmLst])
  have f8 := h1.fz 8 (by simp [cmLst])
  have f9 := h1.fz 9 (by simp [cmLst])
  have f10 := h1.fz 10 (by simp [cmLst])
  have f11 := h1.fz 11 (by simp [cmLst])
  have f12 := h1.fz 12 (by simp [cmLst])
  have f13 := h1.fz 13 (by simp [cmLst])
  have y0 : w.cell? ⟨R2, 0, none⟩ = some (.int .i64 0) := h2.c 0 (by simp)
  have g0 := h2.fz 0 (by simp)
  have heq := eq_gave
  go_wp2
  exact ⟨rfl, _, rfl, .tuple #[], by simp [results, Tryz.results24], rfl, rfl, rfl⟩
set_option maxHeartbeats 4000000 in
set_option maxRecDepth 100000 in
theorem catch_none (R1 R2 : Nat) (w : World) :
    CallsD Tryz.prog 24 #[.pointer (some ⟨R1, 0, none⟩), .pointer (some ⟨R2, 0, none⟩)] .returning w fun e u' w' =>
      e = .returned (.tuple #[]) ∧ u' = .returning ∧ w' = w := by
  refine callsD_of_wpS Tryz.func24 rfl fun c₀ cs hu => ?_
  apply wpS_seq
  apply wpS_region
  simp [wpOpsS, go_sem, recoverD, hu, Tryz.ntmps24, Exit.thenS]
  refine wpS_of_wp ?_
  go_wp2
  exact ⟨rfl, _, rfl, .tuple #[], by simp [results, Tryz.results24], rfl, hu, rfl⟩
end Go.Proofs.YtlnppgjppfkocaaGreatDoor.Xs
