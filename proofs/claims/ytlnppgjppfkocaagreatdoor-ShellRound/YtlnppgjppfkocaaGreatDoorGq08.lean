import Derived.Test.YtlnppgjppfkocaaGreatDoorGq05
import Derived.Laws.StructEq
import Derived.Test.YtlnppgjppfkocaaGreatDoorGq07
/-! Structs held against each other, field by field. -/
namespace Go.Proofs.YtlnppgjppfkocaaGreatDoor.Xs
open Go.RowKit
set_option linter.unusedVariables false
set_option linter.unusedSimpArgs false

theorem ba_toList (l : By) : (ba l).toList = l := by
  rw [ByteArray.toList_eq]
theorem eqf_cons (d : Nat) (xs ys : Array Value) (f : Field) (fs : List Field) (t off : Nat) (e1 : f.type = t) (e2 : f.offset = off) (e3 : (f.name == "_") = false) (a b : Value) (r : Bool) (u : World)
    (ha : (part t xs off).run Tryz.prog u = .ok a u) (hb : (part t ys off).run Tryz.prog u = .ok b u) (hq : (Op.equalIn d t a b).run Tryz.prog u = .ok r u) :
    (Op.eqFields d xs ys (f :: fs)).run Tryz.prog u = if r = true then (Op.eqFields d xs ys fs).run Tryz.prog u else .ok false u := by
  have e4 : f.name ≠ "_" := by simpa using e3
  cases r <;> simp [Op.eqFields, e1, e2, e4, Sem.run_bind, ha, hb, hq]
end Go.Proofs.YtlnppgjppfkocaaGreatDoor.Xs

/-! Requests: held against each other. -/
namespace Go.Proofs.YtlnppgjppfkocaaGreatDoor.Xs
open Go.RowKit
set_option linter.unusedVariables false
set_option linter.unusedSimpArgs false

def rqEq (a b : Rq) : Bool := (a.id == b.id) && ((a.op == b.op) && ((a.topic == b.topic) && ((a.key == b.key) && ((a.value == b.value) && ((a.offset == b.offset) && ((a.number == b.number) && ((a.pid == b.pid) && (a.seq == b.seq))))))))
theorem rqEq_iff (a b : Rq) : rqEq a b = true ↔ a = b := by
  obtain ⟨a1, a2, a3, a4, a5, a6, a7, a8, a9⟩ := a
  obtain ⟨b1, b2, b3, b4, b5, b6, b7, b8, b9⟩ := b
  unfold rqEq
  simp
set_option maxHeartbeats 2000000 in
theorem rq_equal (a b : Rq) (u : World) : (Op.equalIn 10000 24 (rqV a) (rqV b)).run Tryz.prog u = .ok (rqEq a b) u := by
  obtain ⟨a1, a2, a3, a4, a5, a6, a7, a8, a9⟩ := a
  obtain ⟨b1, b2, b3, b4, b5, b6, b7, b8, b9⟩ := b
  rw [run_equalIn_struct u 9999 24 _ _ (by kernel_rfl) (by kernel_rfl)]
  have hf : ((Tryz.prog.fieldsOf 24).toList.map fun f => (f.type, f.offset, f.name == "_")) = [(22, 0, false), (3, 1, false), (9, 2, false), (9, 3, false), (9, 4, false), (2, 5, false), (2, 6, false), (2, 7, false), (2, 8, false)] := by kernel_rfl
  generalize (Tryz.prog.fieldsOf 24).toList = L at hf
  obtain ⟨f1, L1, e1', g1, h1'⟩ := List.map_eq_cons_iff.1 hf
  obtain ⟨f2, L2, e2', g2, h2'⟩ := List.map_eq_cons_iff.1 h1'
  obtain ⟨f3, L3, e3', g3, h3'⟩ := List.map_eq_cons_iff.1 h2'
  obtain ⟨f4, L4, e4', g4, h4'⟩ := List.map_eq_cons_iff.1 h3'
  obtain ⟨f5, L5, e5', g5, h5'⟩ := List.map_eq_cons_iff.1 h4'
  obtain ⟨f6, L6, e6', g6, h6'⟩ := List.map_eq_cons_iff.1 h5'
  obtain ⟨f7, L7, e7', g7, h7'⟩ := List.map_eq_cons_iff.1 h6'
  obtain ⟨f8, L8, e8', g8, h8'⟩ := List.map_eq_cons_iff.1 h7'
  obtain ⟨f9, L9, e9', g9, h9'⟩ := List.map_eq_cons_iff.1 h8'
  have h10 := List.map_eq_nil_iff.1 h9'
  subst h10 e9' e8' e7' e6' e5' e4' e3' e2' e1'
  simp only [Prod.mk.injEq] at g1
  obtain ⟨p1, q1, r1⟩ := g1
  simp only [Prod.mk.injEq] at g2
  obtain ⟨p2, q2, r2⟩ := g2
  simp only [Prod.mk.injEq] at g3
  obtain ⟨p3, q3, r3⟩ := g3
  simp only [Prod.mk.injEq] at g4
  obtain ⟨p4, q4, r4⟩ := g4
  simp only [Prod.mk.injEq] at g5
  obtain ⟨p5, q5, r5⟩ := g5
  simp only [Prod.mk.injEq] at g6
  obtain ⟨p6, q6, r6⟩ := g6
  simp only [Prod.mk.injEq] at g7
  obtain ⟨p7, q7, r7⟩ := g7
  simp only [Prod.mk.injEq] at g8
  obtain ⟨p8, q8, r8⟩ := g8
  simp only [Prod.mk.injEq] at g9
  obtain ⟨p9, q9, r9⟩ := g9
  have es : ∀ (x y : By) (u : World), (Op.equalIn 9999 9 (.string (ba x)) (.string (ba y))).run Tryz.prog u = .ok (x == y) u := fun x y u => by
    rw [run_equalIn_string u 9998 9 _ _ Tryz.underlying9, ba_toList, ba_toList]
  rw [eqf_cons 9999 _ _ f1 _ 22 0 p1 q1 r1 (.int .u32 a1) (.int .u32 b1) (a1 == b1) u (by simp [part, go_sem, Tryz.sizeOf22, Tryz.isAgg22]) (by simp [part, go_sem, Tryz.sizeOf22, Tryz.isAgg22]) (run_equalIn_int u 9998 22 .u32 .u32 a1 b1 Tryz.underlying22)]
  rw [eqf_cons 9999 _ _ f2 _ 3 1 p2 q2 r2 (.int .i64 a2) (.int .i64 b2) (a2 == b2) u (by simp [part, go_sem, Tryz.sizeOf3, Tryz.isAgg3]) (by simp [part, go_sem, Tryz.sizeOf3, Tryz.isAgg3]) (run_equalIn_int u 9998 3 .i64 .i64 a2 b2 Tryz.underlying3)]
  rw [eqf_cons 9999 _ _ f3 _ 9 2 p3 q3 r3 (.string (ba a3)) (.string (ba b3)) (a3 == b3) u (by simp [part, go_sem, Tryz.sizeOf9, Tryz.isAgg9]) (by simp [part, go_sem, Tryz.sizeOf9, Tryz.isAgg9]) (es a3 b3 u)]
  rw [eqf_cons 9999 _ _ f4 _ 9 3 p4 q4 r4 (.string (ba a4)) (.string (ba b4)) (a4 == b4) u (by simp [part, go_sem, Tryz.sizeOf9, Tryz.isAgg9]) (by simp [part, go_sem, Tryz.sizeOf9, Tryz.isAgg9]) (es a4 b4 u)]
  rw [eqf_cons 9999 _ _ f5 _ 9 4 p5 q5 r5 (.string (ba a5)) (.string (ba b5)) (a5 == b5) u (by simp [part, go_sem, Tryz.sizeOf9, Tryz.isAgg9]) (by simp [part, go_sem, Tryz.sizeOf9, Tryz.isAgg9]) (es a5 b5 u)]
  rw [eqf_cons 9999 _ _ f6 _ 2 5 p6 q6 r6 (.int .i64 a6) (.int .i64 b6) (a6 == b6) u (by simp [part, go_sem, Tryz.sizeOf2, Tryz.isAgg2]) (by simp [part, go_sem, Tryz.sizeOf2, Tryz.isAgg2]) (run_equalIn_int u 9998 2 .i64 .i64 a6 b6 Tryz.underlying2)]
  rw [eqf_cons 9999 _ _ f7 _ 2 6 p7 q7 r7 (.int .i64 a7) (.int .i64 b7) (a7 == b7) u (by simp [part, go_sem, Tryz.sizeOf2, Tryz.isAgg2]) (by simp [part, go_sem, Tryz.sizeOf2, Tryz.isAgg2]) (run_equalIn_int u 9998 2 .i64 .i64 a7 b7 Tryz.underlying2)]
  rw [eqf_cons 9999 _ _ f8 _ 2 7 p8 q8 r8 (.int .i64 a8) (.int .i64 b8) (a8 == b8) u (by simp [part, go_sem, Tryz.sizeOf2, Tryz.isAgg2]) (by simp [part, go_sem, Tryz.sizeOf2, Tryz.isAgg2]) (run_equalIn_int u 9998 2 .i64 .i64 a8 b8 Tryz.underlying2)]
  rw [eqf_cons 9999 _ _ f9 _ 2 8 p9 q9 r9 (.int .i64 a9) (.int .i64 b9) (a9 == b9) u (by simp [part, go_sem, Tryz.sizeOf2, Tryz.isAgg2]) (by simp [part, go_sem, Tryz.sizeOf2, Tryz.isAgg2]) (run_equalIn_int u 9998 2 .i64 .i64 a9 b9 Tryz.underlying2)]
  have en : (Op.eqFields 9999 (#[.int .u32 a1, .int .i64 a2, .string (ba a3), .string (ba a4), .string (ba a5), .int .i64 a6, .int .i64 a7, .int .i64 a8, .int .i64 a9] : Array Value) #[.int .u32 b1, .int .i64 b2, .string (ba b3), .string (ba b4), .string (ba b5), .int .i64 b6, .int .i64 b7, .int .i64 b8, .int .i64 b9] []).run Tryz.prog u = .ok true u := by simp [Op.eqFields]
  rw [en]
  unfold rqEq
  simp only
  generalize (a1 == b1) = x1
  generalize (a2 == b2) = x2
  generalize (a3 == b3) = x3
  generalize (a4 == b4) = x4
  generalize (a5 == b5) = x5
  generalize (a6 == b6) = x6
  generalize (a7 == b7) = x7
  generalize (a8 == b8) = x8
  generalize (a9 == b9) = x9
  cases x1
  · rfl
  cases x2
  · rfl
  cases x3
  · rfl
  cases x4
  · rfl
  cases x5
  · rfl
  cases x6
  · rfl
  cases x7
  · rfl
  cases x8
  · rfl
  cases x9 <;> rfl
theorem rq_neq (a b : Rq) (u : World) : (binOp .neq 24 (rqV a) (rqV b)).run Tryz.prog u = .ok (.bool (!rqEq a b)) u := by
  rw [run_neq_struct, rq_equal]; rfl
end Go.Proofs.YtlnppgjppfkocaaGreatDoor.Xs

/-! Commands in memory; the document's right. -/
namespace Go.Proofs.YtlnppgjppfkocaaGreatDoor.Xs
open Go.RowKit
set_option linter.unusedVariables false
set_option linter.unusedSimpArgs false

/-- v is a slice of bytes that reads as l. -/
def BysAt (w : World) (v : Value) (l : By) : Prop :=
  ∃ a cap, v = .slice a l.length cap ∧ l.length ≤ cap ∧ l.length ≤ 140737488352000 ∧
    (l ≠ [] → ∃ b off, a = some ⟨b, off, none⟩ ∧ ∀ j, j < l.length → w.cell? ⟨b, off + j, none⟩ = some (.int .u8 ((l.getD j 0).toNat : Int)))
theorem BysAt.later {w w' : World} {v : Value} {l : By} (h : BysAt w v l) (hb : Below w.heap.size w w') : BysAt w' v l := by
  obtain ⟨a, cap, e, h0, h1, h3⟩ := h
  refine ⟨a, cap, e, h0, h1, fun hne => ?_⟩
  obtain ⟨b, off, e2, hc⟩ := h3 hne
  exact ⟨b, off, e2, fun j hj => (hb.cell (p := ⟨b, off + j, none⟩) (cell_lt (hc j hj))).trans (hc j hj)⟩
/-- v is a slice of numbers that reads as l. -/
def PksAt (w : World) (v : Value) (l : List Int) : Prop :=
  ∃ a cap, v = .slice a l.length cap ∧ l.length ≤ cap ∧ l.length ≤ 17592186044000 ∧
    (l ≠ [] → ∃ b off, a = some ⟨b, off, none⟩ ∧ ∀ j, j < l.length → w.cell? ⟨b, off + j, none⟩ = some (.int .i64 (l.getD j 0)))
theorem PksAt.later {w w' : World} {v : Value} {l : List Int} (h : PksAt w v l) (hb : Below w.heap.size w w') : PksAt w' v l := by
  obtain ⟨a, cap, e, h0, h1, h3⟩ := h
  refine ⟨a, cap, e, h0, h1, fun hne => ?_⟩
  obtain ⟨b, off, e2, hc⟩ := h3 hne
  exact ⟨b, off, e2, fun j hj => (hb.cell (p := ⟨b, off + j, none⟩) (cell_lt (hc j hj))).trans (hc j hj)⟩
abbrev cmA (c : Cm) (vr vp : Value) : Array Value := #[.int .i64 c.verb, .int .i64 c.conn, .int .u32 c.req.id, .int .i64 c.req.op, .string (ba c.req.topic), .string (ba c.req.key), .string (ba c.req.value), .int .i64 c.req.offset, .int .i64 c.req.number, .int .i64 c.req.pid, .int .i64 c.req.seq, vr, .int .i64 c.n, vp]
abbrev cmV (c : Cm) (vr vp : Value) : Value := .agg #[.int .i64 c.verb, .int .i64 c.conn, .int .u32 c.req.id, .int .i64 c.req.op, .string (ba c.req.topic), .string (ba c.req.key), .string (ba c.req.value), .int .i64 c.req.offset, .int .i64 c.req.number, .int .i64 c.req.pid, .int .i64 c.req.seq, vr, .int .i64 c.n, vp]
/-- The fourteen cells of a command. -/
structure CmAt (w : World) (g : Nat) (c : Cm) (vr vp : Value) : Prop where
  c0 : w.cell? ⟨g, 0, none⟩ = some (.int .i64 c.verb)
  c1 : w.cell? ⟨g, 1, none⟩ = some (.int .i64 c.conn)
  c2 : w.cell? ⟨g, 2, none⟩ = some (.int .u32 c.req.id)
  c3 : w.cell? ⟨g, 3, none⟩ = some (.int .i64 c.req.op)
  c4 : w.cell? ⟨g, 4, none⟩ = some (.string (ba c.req.topic))
  c5 : w.cell? ⟨g, 5, none⟩ = some (.string (ba c.req.key))
  c6 : w.cell? ⟨g, 6, none⟩ = some (.string (ba c.req.value))
  c7 : w.cell? ⟨g, 7, none⟩ = some (.int .i64 c.req.offset)
  c8 : w.cell? ⟨g, 8, none⟩ = some (.int .i64 c.req.number)
  c9 : w.cell? ⟨g, 9, none⟩ = some (.int .i64 c.req.pid)
  c10 : w.cell? ⟨g, 10, none⟩ = some (.int .i64 c.req.seq)
  c11 : w.cell? ⟨g, 11, none⟩ = some vr
  c12 : w.cell? ⟨g, 12, none⟩ = some (.int .i64 c.n)
  c13 : w.cell? ⟨g, 13, none⟩ = some vp
theorem CmAt.later {w w' : World} {g : Nat} {c : Cm} {vr vp : Value} (h : CmAt w g c vr vp) (hb : Below w.heap.size w w') : CmAt w' g c vr vp :=
  ⟨(hb.cell (cell_lt h.c0)).trans h.c0, (hb.cell (cell_lt h.c1)).trans h.c1, (hb.cell (cell_lt h.c2)).trans h.c2, (hb.cell (cell_lt h.c3)).trans h.c3, (hb.cell (cell_lt h.c4)).trans h.c4, (hb.cell (cell_lt h.c5)).trans h.c5, (hb.cell (cell_lt h.c6)).trans h.c6, (hb.cell (cell_lt h.c7)).trans h.c7, (hb.cell (cell_lt h.c8)).trans h.c8, (hb.cell (cell_lt h.c9)).trans h.c9, (hb.cell (cell_lt h.c10)).trans h.c10, (hb.cell (cell_lt h.c11)).trans h.c11, (hb.cell (cell_lt h.c12)).trans h.c12, (hb.cell (cell_lt h.c13)).trans h.c13⟩
theorem cmBox (w : World) (c : Cm) (vr vp : Value) (t : TypeId) : Below w.heap.size w (w.alloc (.cells (cmA c vr vp) t)) ∧ CmAt (w.alloc (.cells (cmA c vr vp) t)) w.heap.size c vr vp := by
  refine ⟨(Below.refl _ _).alloc (Nat.le_refl _) _, ?_⟩
  constructor <;> (rw [World.cell?_alloc_at _ _ _ _ rfl]; rfl)

/-! ### May the command be? -/
def okC1 (c : Cm) : Bool := decide (0 ≤ c.verb ∧ c.verb < 11) && decide (0 ≤ c.conn) && decide (c.conn ≤ 999)
def cnB (v : Int) : Bool := (v == 0) || (v == 1) || (v == 2) || (v == 3) || (v == 6)
def pkB (v : Int) : Bool := (v == 5) || (v == 8)
def okC2 (c : Cm) : Bool := (decide (c.conn ≤ 0) || cnB c.verb) && (c.raw.isEmpty || (c.verb == 3)) && (c.picks.isEmpty || pkB c.verb)
def okC3 (c : Cm) : Bool := if c.verb = 2 then (okR1 c.req && okR2 c.req && okR3 c.req) else rqEq c.req Rq.zero
def okC4 (c : Cm) : Bool := if c.verb = 4 then decide (0 ≤ c.n ∧ c.n ≤ 1125899906842624) else if c.verb = 6 then decide (0 ≤ c.n ∧ c.n ≤ 1073741824) else if c.verb = 7 then decide (-1 ≤ c.n ∧ c.n ≤ 1073741824) else (c.n == 0)
theorem okC_iff (c : Cm) : OkC c ↔ (okC1 c && okC2 c && okC3 c && okC4 c) = true := by
  have e1 : okC1 c = true ↔ ((0 ≤ c.verb ∧ c.verb < 11) ∧ 0 ≤ c.conn ∧ c.conn ≤ 999) := by unfold okC1; simp [and_assoc]
  have ec : cnB c.verb = true ↔ usesConn c.verb := by unfold cnB usesConn; simp [or_assoc]
  have ep : pkB c.verb = true ↔ usesPicks c.verb := by unfold pkB usesPicks; simp
  have e2 : okC2 c = true ↔ ((c.conn ≤ 0 ∨ usesConn c.verb) ∧ (c.raw = [] ∨ c.verb = 3) ∧ (c.picks = [] ∨ usesPicks c.verb)) := by
    unfold okC2
    rw [Bool.and_eq_true, Bool.and_eq_true, Bool.or_eq_true, Bool.or_eq_true, Bool.or_eq_true, ec, ep, decide_eq_true_eq, List.isEmpty_iff, List.isEmpty_iff, beq_iff_eq, and_assoc]
  rw [Bool.and_eq_true, Bool.and_eq_true, Bool.and_eq_true, e1, e2]
  constructor
  · rintro ⟨a1, a2, a3, a4, a5, a6, a7, a8, a9, a10, a11, a12, a13⟩
    refine ⟨⟨⟨⟨⟨a1, a2⟩, a3, a4⟩, ⟨a5.imp (fun e => by omega) id, a6, a7⟩⟩, ?_⟩, ?_⟩
    · unfold okC3
      split
      case isTrue h => exact (okR_iff _).1 (a8 h)
      case isFalse h => exact (rqEq_iff _ _).2 (a9 h)
    · unfold okC4
      split
      case isTrue h => exact decide_eq_true (a10 h)
      case isFalse h =>
        split
        case isTrue h' => exact decide_eq_true (a11 h')
        case isFalse h' =>
          split
          case isTrue h'' => exact decide_eq_true (a12 h'')
          case isFalse h'' => rw [beq_iff_eq]; exact a13 h h' h''
  · rintro ⟨⟨⟨⟨⟨a1, a2⟩, a3, a4⟩, ⟨a5, a6, a7⟩⟩, b3⟩, b4⟩
    unfold okC3 at b3
    unfold okC4 at b4
    refine ⟨a1, a2, a3, a4, a5.imp (fun e => by omega) id, a6, a7, fun h => ?_, fun h => ?_, fun h => ?_, fun h => ?_, fun h => ?_, fun h h' h'' => ?_⟩
    · rw [if_pos h] at b3; exact (okR_iff _).2 b3
    · rw [if_neg h] at b3; exact (rqEq_iff _ _).1 b3
    · rw [if_pos h] at b4; exact of_decide_eq_true b4
    · rw [if_neg (by omega), if_pos h] at b4; exact of_decide_eq_true b4
    · rw [if_neg (by omega), if_neg (by omega), if_pos h] at b4; exact of_decide_eq_true b4
    · rw [if_neg h, if_neg h', if_neg h''] at b4; exact beq_iff_eq.1 b4
end Go.Proofs.YtlnppgjppfkocaaGreatDoor.Xs
