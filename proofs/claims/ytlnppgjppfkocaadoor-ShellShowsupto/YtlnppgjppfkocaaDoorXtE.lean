import Derived.Test.YtlnppgjppfkocaaDoorXsEq
/-! Records held against each other. -/
namespace Go.Proofs.YtlnppgjppfkocaaDoor.Xs
open Go.RowKit
set_option linter.unusedVariables false
set_option linter.unusedSimpArgs false

abbrev srV (x : Sr) : Value := .agg #[.int .i64 x.kind, .int .i64 x.offset, .int .i64 x.time, .int .i64 x.pid, .int .i64 x.seq, .string (ba x.key), .string (ba x.value)]
def srEq (a b : Sr) : Bool := ((a.kind == b.kind) && ((a.offset == b.offset) && ((a.time == b.time) && ((a.pid == b.pid) && ((a.seq == b.seq) && ((a.key == b.key) && (a.value == b.value)))))))
theorem srEq_iff (a b : Sr) : srEq a b = true ↔ a = b := by
  obtain ⟨a1, a2, a3, a4, a5, a6, a7⟩ := a
  obtain ⟨b1, b2, b3, b4, b5, b6, b7⟩ := b
  unfold srEq
  simp
set_option maxHeartbeats 2000000 in
theorem sr_equal (a b : Sr) (u : World) : (Op.equalIn 10000 28 (srV a) (srV b)).run Tryd.prog u = .ok (srEq a b) u := by
  obtain ⟨a1, a2, a3, a4, a5, a6, a7⟩ := a
  obtain ⟨b1, b2, b3, b4, b5, b6, b7⟩ := b
  rw [run_equalIn_struct u 9999 28 _ _ (by kernel_rfl) (by kernel_rfl)]
  have hf : ((Tryd.prog.fieldsOf 28).toList.map fun f => (f.type, f.offset, f.name == "_")) = [(3, 0, false), (2, 1, false), (2, 2, false), (2, 3, false), (2, 4, false), (9, 5, false), (9, 6, false)] := by kernel_rfl
  generalize (Tryd.prog.fieldsOf 28).toList = L at hf
  obtain ⟨f1, L1, e1', g1, h1'⟩ := List.map_eq_cons_iff.1 hf
  obtain ⟨f2, L2, e2', g2, h2'⟩ := List.map_eq_cons_iff.1 h1'
  obtain ⟨f3, L3, e3', g3, h3'⟩ := List.map_eq_cons_iff.1 h2'
  obtain ⟨f4, L4, e4', g4, h4'⟩ := List.map_eq_cons_iff.1 h3'
  obtain ⟨f5, L5, e5', g5, h5'⟩ := List.map_eq_cons_iff.1 h4'
  obtain ⟨f6, L6, e6', g6, h6'⟩ := List.map_eq_cons_iff.1 h5'
  obtain ⟨f7, L7, e7', g7, h7'⟩ := List.map_eq_cons_iff.1 h6'
  have h8 := List.map_eq_nil_iff.1 h7'
  subst h8 e7' e6' e5' e4' e3' e2' e1'
  simp only [Prod.mk.injEq] at g1
  obtain ⟨p1, q1, r1⟩ := g1
  simp only [Prod.mk.injEq] at g2
  obtain ⟨p2, q2, r2⟩ := g2
  simp only [Prod.mk.injEq] at g3
  obtain ⟨p3, q3, r3⟩ := g3
  simp only [Prod.mk.injEq] at g4
  obtain ⟨p4, q4, r4⟩ := g4
  simp only [Prod.mk.injEq] at g5
  obtain ⟨p5, q5, r5⟩ := g5
  simp only [Prod.mk.injEq] at g6
  obtain ⟨p6, q6, r6⟩ := g6
  simp only [Prod.mk.injEq] at g7
  obtain ⟨p7, q7, r7⟩ := g7
  have es : ∀ (x y : By) (u : World), (Op.equalIn 9999 9 (.string (ba x)) (.string (ba y))).run Tryd.prog u = .ok (x == y) u := fun x y u => by
    rw [run_equalIn_string u 9998 9 _ _ Tryd.underlying9, ba_toList, ba_toList]
  rw [eqf_cons 9999 _ _ f1 _ 3 0 p1 q1 r1 (.int .i64 a1) (.int .i64 b1) (a1 == b1) u (by simp [part, go_sem, Tryd.sizeOf3, Tryd.isAgg3]) (by simp [part, go_sem, Tryd.sizeOf3, Tryd.isAgg3]) (run_equalIn_int u 9998 3 .i64 .i64 a1 b1 Tryd.underlying3)]
  rw [eqf_cons 9999 _ _ f2 _ 2 1 p2 q2 r2 (.int .i64 a2) (.int .i64 b2) (a2 == b2) u (by simp [part, go_sem, Tryd.sizeOf2, Tryd.isAgg2]) (by simp [part, go_sem, Tryd.sizeOf2, Tryd.isAgg2]) (run_equalIn_int u 9998 2 .i64 .i64 a2 b2 Tryd.underlying2)]
  rw [eqf_cons 9999 _ _ f3 _ 2 2 p3 q3 r3 (.int .i64 a3) (.int .i64 b3) (a3 == b3) u (by simp [part, go_sem, Tryd.sizeOf2, Tryd.isAgg2]) (by simp [part, go_sem, Tryd.sizeOf2, Tryd.isAgg2]) (run_equalIn_int u 9998 2 .i64 .i64 a3 b3 Tryd.underlying2)]
  rw [eqf_cons 9999 _ _ f4 _ 2 3 p4 q4 r4 (.int .i64 a4) (.int .i64 b4) (a4 == b4) u (by simp [part, go_sem, Tryd.sizeOf2, Tryd.isAgg2]) (by simp [part, go_sem, Tryd.sizeOf2, Tryd.isAgg2]) (run_equalIn_int u 9998 2 .i64 .i64 a4 b4 Tryd.underlying2)]
  rw [eqf_cons 9999 _ _ f5 _ 2 4 p5 q5 r5 (.int .i64 a5) (.int .i64 b5) (a5 == b5) u (by simp [part, go_sem, Tryd.sizeOf2, Tryd.isAgg2]) (by simp [part, go_sem, Tryd.sizeOf2, Tryd.isAgg2]) (run_equalIn_int u 9998 2 .i64 .i64 a5 b5 Tryd.underlying2)]
  rw [eqf_cons 9999 _ _ f6 _ 9 5 p6 q6 r6 (.string (ba a6)) (.string (ba b6)) (a6 == b6) u (by simp [part, go_sem, Tryd.sizeOf9, Tryd.isAgg9]) (by simp [part, go_sem, Tryd.sizeOf9, Tryd.isAgg9]) (es a6 b6 u)]
  rw [eqf_cons 9999 _ _ f7 _ 9 6 p7 q7 r7 (.string (ba a7)) (.string (ba b7)) (a7 == b7) u (by simp [part, go_sem, Tryd.sizeOf9, Tryd.isAgg9]) (by simp [part, go_sem, Tryd.sizeOf9, Tryd.isAgg9]) (es a7 b7 u)]
  have en : (Op.eqFields 9999 (#[.int .i64 a1, .int .i64 a2, .int .i64 a3, .int .i64 a4, .int .i64 a5, .string (ba a6), .string (ba a7)] : Array Value) #[.int .i64 b1, .int .i64 b2, .int .i64 b3, .int .i64 b4, .int .i64 b5, .string (ba b6), .string (ba b7)] []).run Tryd.prog u = .ok true u := by simp [Op.eqFields]
  rw [en]
  unfold srEq
  simp only
  generalize (a1 == b1) = x1
  generalize (a2 == b2) = x2
  generalize (a3 == b3) = x3
  generalize (a4 == b4) = x4
  generalize (a5 == b5) = x5
  generalize (a6 == b6) = x6
  generalize (a7 == b7) = x7
  cases x1
  · rfl
  cases x2
  · rfl
  cases x3
  · rfl
  cases x4
  · rfl
  cases x5
  · rfl
  cases x6
  · rfl
  cases x7 <;> rfl
theorem sr_neq (a b : Sr) (u : World) : (binOp .neq 28 (srV a) (srV b)).run Tryd.prog u = .ok (.bool (!srEq a b)) u := by
  rw [run_neq_struct, sr_equal]; rfl
end Go.Proofs.YtlnppgjppfkocaaDoor.Xs
