import Derived.Test.YtlnppgjppfkocaaGreatDoorGq08
import Derived.Test.YtlnppgjppfkocaaGreatDoorGq42
import Derived.Deep.DeepCutAuto
import Derived.BigQuiet
/-! Records held against each other. -/
namespace Go.Proofs.YtlnppgjppfkocaaGreatDoor.Xs
open Go.RowKit
set_option linter.unusedVariables false
set_option linter.unusedSimpArgs false

abbrev srV (x : Sr) : Value := .agg #[.int .i64 x.kind, .int .i64 x.offset, .int .i64 x.time, .int .i64 x.pid, .int .i64 x.seq, .string (ba x.key), .string (ba x.value)]
def srEq (a b : Sr) : Bool := ((a.kind == b.kind) && ((a.offset == b.offset) && ((a.time == b.time) && ((a.pid == b.pid) && ((a.seq == b.seq) && ((a.key == b.key) && (a.value == b.value)))))))
theorem srEq_iff (a b : Sr) : srEq a b = true ↔ a = b := by
  obtain ⟨a1, a2, a3, a4, a5, a6, a7⟩ := a
  obtain ⟨b1, b2, b3, b4, b5, b6, b7⟩ := b
  unfold srEq
  simp
set_option maxHeartbeats 2000000 in
theorem sr_equal (a b : Sr) (u : World) : (Op.equalIn 10000 73 (srV a) (srV b)).run Tryz.prog u = .ok (srEq a b) u := by
  obtain ⟨a1, a2, a3, a4, a5, a6, a7⟩ := a
  obtain ⟨b1, b2, b3, b4, b5, b6, b7⟩ := b
  rw [run_equalIn_struct u 9999 73 _ _ (by kernel_rfl) (by kernel_rfl)]
  have hf : ((Tryz.prog.fieldsOf 73).toList.map fun f => (f.type, f.offset, f.name == "_")) = [(3, 0, false), (2, 1, false), (2, 2, false), (2, 3, false), (2, 4, false), (9, 5, false), (9, 6, false)] := by kernel_rfl
  generalize (Tryz.prog.fieldsOf 73).toList = L at hf
  obtain ⟨f1, L1, e1', g1, h1'⟩ := List.map_eq_cons_iff.1 hf
  obtain ⟨f2, L2, e2', g2, h2'⟩ := List.map_eq_cons_iff.1 h1'
  obtain ⟨f3, L3, e3', g3, h3'⟩ := List.map_eq_cons_iff.1 h2'
  obtain ⟨f4, L4, e4', g4, h4'⟩ := List.map_eq_cons_iff.1 h3'
  obtain ⟨f5, L5, e5', g5, h5'⟩ := List.map_eq_cons_iff.1 h4'
  obtain ⟨f6, L6, e6', g6, h6'⟩ := List.map_eq_cons_iff.1 h5'
  obtain ⟨f7, L7, e7', g7, h7'⟩ := List.map_eq_cons_iff.1 h6'
  have h8 := List.map_eq_nil_iff.1 h7'
  subst h8 e7' e6' e5' e4' e3' e2' e1'
  simp only [Prod.mk.injEq] at g1
  obtain ⟨p1, q1, r1⟩ := g1
  simp only [Prod.mk.injEq] at g2
  obtain ⟨p2, q2, r2⟩ := g2
  simp only [Prod.mk.injEq] at g3
  obtain ⟨p3, q3, r3⟩ := g3
  simp only [Prod.mk.injEq] at g4
  obtain ⟨p4, q4, r4⟩ := g4
  simp only [Prod.mk.injEq] at g5
  obtain ⟨p5, q5, r5⟩ := g5
  simp only [Prod.mk.injEq] at g6
  obtain ⟨p6, q6, r6⟩ := g6
  simp only [Prod.mk.injEq] at g7
  obtain ⟨p7, q7, r7⟩ := g7
  have es : ∀ (x y : By) (u : World), (Op.equalIn 9999 9 (.string (ba x)) (.string (ba y))).run Tryz.prog u = .ok (x == y) u := fun x y u => by
    rw [run_equalIn_string u 9998 9 _ _ Tryz.underlying9, ba_toList, ba_toList]
  rw [eqf_cons 9999 _ _ f1 _ 3 0 p1 q1 r1 (.int .i64 a1) (.int .i64 b1) (a1 == b1) u (by simp [part, go_sem, Tryz.sizeOf3, Tryz.isAgg3]) (by simp [part, go_sem, Tryz.sizeOf3, Tryz.isAgg3]) (run_equalIn_int u 9998 3 .i64 .i64 a1 b1 Tryz.underlying3)]
  rw [eqf_cons 9999 _ _ f2 _ 2 1 p2 q2 r2 (.int .i64 a2) (.int .i64 b2) (a2 == b2) u (by simp [part, go_sem, Tryz.sizeOf2, Tryz.isAgg2]) (by simp [part, go_sem, Tryz.sizeOf2, Tryz.isAgg2]) (run_equalIn_int u 9998 2 .i64 .i64 a2 b2 Tryz.underlying2)]
  rw [eqf_cons 9999 _ _ f3 _ 2 2 p3 q3 r3 (.int .i64 a3) (.int .i64 b3) (a3 == b3) u (by simp [part, go_sem, Tryz.sizeOf2, Tryz.isAgg2]) (by simp [part, go_sem, Tryz.sizeOf2, Tryz.isAgg2]) (run_equalIn_int u 9998 2 .i64 .i64 a3 b3 Tryz.underlying2)]
  rw [eqf_cons 9999 _ _ f4 _ 2 3 p4 q4 r4 (.int .i64 a4) (.int .i64 b4) (a4 == b4) u (by simp [part, go_sem, Tryz.sizeOf2, Tryz.isAgg2]) (by simp [part, go_sem, Tryz.sizeOf2, Tryz.isAgg2]) (run_equalIn_int u 9998 2 .i64 .i64 a4 b4 Tryz.underlying2)]
  rw [eqf_cons 9999 _ _ f5 _ 2 4 p5 q5 r5 (.int .i64 a5) (.int .i64 b5) (a5 == b5) u (by simp [part, go_sem, Tryz.sizeOf2, Tryz.isAgg2]) (by simp [part, go_sem, Tryz.sizeOf2, Tryz.isAgg2]) (run_equalIn_int u 9998 2 .i64 .i64 a5 b5 Tryz.underlying2)]
  rw [eqf_cons 9999 _ _ f6 _ 9 5 p6 q6 r6 (.string (ba a6)) (.string (ba b6)) (a6 == b6) u (by simp [part, go_sem, Tryz.sizeOf9, Tryz.isAgg9]) (by simp [part, go_sem, Tryz.sizeOf9, Tryz.isAgg9]) (es a6 b6 u)]
  rw [eqf_cons 9999 _ _ f7 _ 9 6 p7 q7 r7 (.string (ba a7)) (.string (ba b7)) (a7 == b7) u (by simp [part, go_sem, Tryz.sizeOf9, Tryz.isAgg9]) (by simp [part, go_sem, Tryz.sizeOf9, Tryz.isAgg9]) (es a7 b7 u)]
  have en : (Op.eqFields 9999 (#[.int .i64 a1, .int .i64 a2, .int .i64 a3, .int .i64 a4, .int .i64 a5, .string (ba a6), .string (ba a7)] : Array Value) #[.int .i64 b1, .int .i64 b2, .int .i64 b3, .int .i64 b4, .int .i64 b5, .string (ba b6), .string (ba b7)] []).run Tryz.prog u = .ok true u := by simp [Op.eqFields]
  rw [en]
  unfold srEq
  simp only
  generalize (a1 == b1) = x1
  generalize (a2 == b2) = x2
  generalize (a3 == b3) = x3
  generalize (a4 == b4) = x4
  generalize (a5 == b5) = x5
  generalize (a6 == b6) = x6
  generalize (a7 == b7) = x7
  cases x1
  · rfl
  cases x2
  · rfl
  cases x3
  · rfl
  cases x4
  · rfl
  cases x5
  · rfl
  cases x6
  · rfl
  cases x7 <;> rfl
theorem sr_neq (a b : Sr) (u : World) : (binOp .neq 73 (srV a) (srV b)).run Tryz.prog u = .ok (.bool (!srEq a b)) u := by
  rw [run_neq_struct, sr_equal]; rfl
end Go.Proofs.YtlnppgjppfkocaaGreatDoor.Xs

/-! The law's equal: boxes. -/
namespace Go.Proofs.YtlnppgjppfkocaaGreatDoor.Xs
open Go.RowKit Plain
set_option linter.unusedVariables false
set_option linter.unusedSimpArgs false

abbrev rpA (r : Rp) (vr vn : Value) : Array Value := #[.int .u32 r.id, .int .i64 r.op, .int .i64 r.code, .int .i64 r.offset, .int .i64 r.number, .bool r.more, vr, vn]
/-- The eight cells of a response. -/
structure RpAt (w : World) (g : Nat) (r : Rp) (vr vn : Value) : Prop where
  c0 : w.cell? ⟨g, 0, none⟩ = some (.int .u32 r.id)
  c1 : w.cell? ⟨g, 1, none⟩ = some (.int .i64 r.op)
  c2 : w.cell? ⟨g, 2, none⟩ = some (.int .i64 r.code)
  c3 : w.cell? ⟨g, 3, none⟩ = some (.int .i64 r.offset)
  c4 : w.cell? ⟨g, 4, none⟩ = some (.int .i64 r.number)
  c5 : w.cell? ⟨g, 5, none⟩ = some (.bool r.more)
  c6 : w.cell? ⟨g, 6, none⟩ = some vr
  c7 : w.cell? ⟨g, 7, none⟩ = some vn
theorem RpAt.later {w w' : World} {g : Nat} {r : Rp} {vr vn : Value} (h : RpAt w g r vr vn) (hb : Below w.heap.size w w') : RpAt w' g r vr vn :=
  ⟨(hb.cell (cell_lt h.c0)).trans h.c0, (hb.cell (cell_lt h.c1)).trans h.c1, (hb.cell (cell_lt h.c2)).trans h.c2, (hb.cell (cell_lt h.c3)).trans h.c3, (hb.cell (cell_lt h.c4)).trans h.c4, (hb.cell (cell_lt h.c5)).trans h.c5, (hb.cell (cell_lt h.c6)).trans h.c6, (hb.cell (cell_lt h.c7)).trans h.c7⟩
theorem rpBox (w : World) (r : Rp) (vr vn : Value) (t : TypeId) : Below w.heap.size w (w.alloc (.cells (rpA r vr vn) t)) ∧ RpAt (w.alloc (.cells (rpA r vr vn) t)) w.heap.size r vr vn := by
  refine ⟨(Below.refl _ _).alloc (Nat.le_refl _) _, ?_⟩
  constructor <;> (rw [World.cell?_alloc_at _ _ _ _ rfl]; rfl)
/-- All but the lists. -/
def hdEq (a b : Rp) : Bool := !(a.id != b.id) && !(a.op != b.op) && !(a.code != b.code) && !(a.offset != b.offset) && !(a.number != b.number) && !(a.more != b.more) && !((a.names.length : Int) != (b.names.length : Int)) && !((a.recs.length : Int) != (b.recs.length : Int))
theorem hdEq_iff (a b : Rp) : hdEq a b = true ↔ (a.id = b.id ∧ a.op = b.op ∧ a.code = b.code ∧ a.offset = b.offset ∧ a.number = b.number ∧ a.more = b.more ∧ a.names.length = b.names.length ∧ a.recs.length = b.recs.length) := by
  unfold hdEq
  simp only [Bool.and_eq_true, bne, Bool.not_not, beq_iff_eq, and_assoc]
  constructor
  · rintro ⟨h1, h2, h3, h4, h5, h6, h7, h8⟩
    exact ⟨h1, h2, h3, h4, h5, h6, by omega, by omega⟩
  · rintro ⟨h1, h2, h3, h4, h5, h6, h7, h8⟩
    exact ⟨h1, h2, h3, h4, h5, h6, by omega, by omega⟩
theorem list_ext_getD {α : Type} {x y : List α} {d : α} (hl : x.length = y.length) (h : ∀ j, j < y.length → x.getD j d = y.getD j d) : x = y := by
  refine List.ext_getElem hl fun j h1 h2 => ?_
  have := h j h2
  rw [List.getD_eq_getElem?_getD, List.getD_eq_getElem?_getD, List.getElem?_eq_getElem h1, List.getElem?_eq_getElem h2] at this
  exact this
end Go.Proofs.YtlnppgjppfkocaaGreatDoor.Xs
