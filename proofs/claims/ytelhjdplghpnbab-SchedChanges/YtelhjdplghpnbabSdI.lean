import Derived.Test.YtelhjdplghpnbabSdH
import Derived.Deep.LoopGhost
import Derived.BigQuiet
/-! Turns that are read. -/
namespace Go.Proofs.Ytelhjdplghpnbab
open Go.RowKit Plain
set_option linter.unusedVariables false
set_option linter.unusedSimpArgs false

theorem Hid.mkT {p : Prop} (h : p) : Hid p := h
/-- The queue x in memory reads as q. -/
structure QReads (w : World) (x : Qv) (q : Qu) : Prop where
  id : x.id = q.id
  quantum : x.quantum = q.quantum
  deficit : x.deficit = q.deficit
  len : x.sl.2.1 = q.costs.length
  costs : IntsAt w (.slice x.sl.1 x.sl.2.1 x.sl.2.2) q.costs
theorem QReads.later {w w' : World} {x : Qv} {q : Qu} (h : QReads w x q) (hb : Below w.heap.size w w') : QReads w' x q := ⟨h.id, h.quantum, h.deficit, h.len, h.costs.later hb⟩
/-- v is a slice of queues that reads as l. -/
def QsAt (w : World) (v : Value) (l : List Qu) : Prop := ∃ vs : List Qv, QvsAt w v vs ∧ vs.length = l.length ∧ ∀ j, j < l.length → QReads w (vs.getD j Qv.zero) (l.getD j Qu.zero)
theorem QsAt.later {w w' : World} {v : Value} {l : List Qu} (h : QsAt w v l) (hb : Below w.heap.size w w') : QsAt w' v l := by
  obtain ⟨vs, h1, h2, h3⟩ := h
  exact ⟨vs, h1.later hb, h2, fun j hj => (h3 j hj).later hb⟩
theorem QsAt.shape {w : World} {v : Value} {l : List Qu} (h : QsAt w v l) : ∃ a cap, v = .slice a l.length cap ∧ l.length ≤ 2932031007400 := by
  obtain ⟨vs, ⟨a, cap, e, h1, _⟩, h2, _⟩ := h
  rw [h2] at e h1
  exact ⟨a, cap, e, h1⟩
theorem QsAt.at {w : World} {a : Option Addr} {n cap : Nat} {l : List Qu} (h : QsAt w (.slice a n cap) l) {i : Nat} (hi : i < l.length) :
    ∃ b off ca cc, a = some ⟨b, off, none⟩ ∧ (∀ u, Below w.heap.size w u → Qv.CellsAt u b (off + i * 4) ⟨(l.getD i Qu.zero).id, (l.getD i Qu.zero).quantum, (l.getD i Qu.zero).deficit, ca, (l.getD i Qu.zero).costs.length, cc⟩ ∧ IntsAt u (.slice ca (l.getD i Qu.zero).costs.length cc) (l.getD i Qu.zero).costs) ∧ I64 (l.getD i Qu.zero).id ∧ I64 (l.getD i Qu.zero).quantum ∧ I64 (l.getD i Qu.zero).deficit := by
  obtain ⟨vs, ⟨a', cap', e, h1, hok, hc⟩, h2, h3⟩ := h
  simp at e
  obtain ⟨rfl, -, rfl⟩ := e
  obtain ⟨b, off, e2, hcc⟩ := hc (by rintro rfl; simp at h2; omega)
  have hr := h3 i hi
  have hci := hcc i (by omega)
  have ho : (vs.getD i Qv.zero).Ok := hok _ (by simp [show i < vs.length by omega])
  obtain ⟨x, hx⟩ : ∃ x, vs.getD i Qv.zero = x := ⟨_, rfl⟩
  rw [hx] at hr hci ho
  obtain ⟨xi, xq, xd, xa, xn, xc⟩ := x
  obtain ⟨e3, e4, e5, e6, hcs⟩ := hr
  simp only at e3 e4 e5 e6 hcs
  obtain ⟨o1, o2, o3, -⟩ := ho
  simp only at o1 o2 o3
  subst e3 e4 e5 e6
  exact ⟨b, off, xa, xc, e2, fun u hu => ⟨hci.block (hu.block _ hci.lt), hcs.later hu⟩, o1, o2, o3⟩
theorem IntsAt.cell {w : World} {a : Option Addr} {n cap : Nat} {l : List Int} (h : IntsAt w (.slice a n cap) l) {i : Nat} (hi : i < l.length) : ∃ b off, a = some ⟨b, off, none⟩ ∧ w.cell? ⟨b, off + i, none⟩ = some (.int .i64 (l.getD i 0)) ∧ I64 (l.getD i 0) := by
  obtain ⟨a', cap', e, h0, h1, h2, h3⟩ := h
  simp at e
  obtain ⟨rfl, -, rfl⟩ := e
  obtain ⟨b, off, e2, hc⟩ := h3 (by rintro rfl; simp at hi)
  exact ⟨b, off, e2, hc i hi, h2 _ (by simp [hi])⟩
theorem IntsAt.most {w : World} {v : Value} {l : List Int} (h : IntsAt w v l) : l.length ≤ 17592186044000 := by
  obtain ⟨a, cap, e, h0, h1, h2, h3⟩ := h
  exact h1
/-- Turns that are read: their queues' slice is v. -/
structure TrAt (w : World) (v : Value) (t : Tr) : Prop where
  row : QsAt w v t.qs
  at_ : I64 t.at'
theorem TrAt.later {w w' : World} {v : Value} {t : Tr} (h : TrAt w v t) (hb : Below w.heap.size w w') : TrAt w' v t := ⟨h.row.later hb, h.at_⟩
def turV (v : Value) (t : Tr) : Value := .agg #[v, .int .i64 t.at', .bool t.fresh]
/-- The box of a parameter that is turns. -/
theorem turBox (w : World) (v : Value) (z : Int) (f : Bool) : Below w.heap.size w (w.alloc (.cells #[v, .int .i64 z, .bool f] 24)) ∧ ∀ u, Below (w.alloc (.cells #[v, .int .i64 z, .bool f] 24)).heap.size (w.alloc (.cells #[v, .int .i64 z, .bool f] 24)) u → u.cell? ⟨w.heap.size, 0, none⟩ = some v ∧ u.cell? ⟨w.heap.size, 1, none⟩ = some (.int .i64 z) ∧ u.cell? ⟨w.heap.size, 2, none⟩ = some (.bool f) := by
  refine ⟨(Below.refl _ _).alloc (Nat.le_refl _) _, fun u hu => ?_⟩
  have hcc : ∀ j, u.cell? ⟨w.heap.size, j, none⟩ = (w.alloc (.cells #[v, .int .i64 z, .bool f] 24)).cell? ⟨w.heap.size, j, none⟩ := fun j => hu.cell (p := ⟨w.heap.size, j, none⟩) (by simp)
  rw [hcc, hcc, hcc]
  exact ⟨World.cell?_alloc_at _ _ _ _ rfl, World.cell?_alloc_at _ _ _ _ rfl, World.cell?_alloc_at _ _ _ _ rfl⟩
/-- The box of a queue. -/
theorem queBox (w : World) (i q d : Int) (x : Value) : Below w.heap.size w (w.alloc (.cells #[.int .i64 i, .int .i64 q, .int .i64 d, x] 37)) ∧ ∀ u, Below (w.alloc (.cells #[.int .i64 i, .int .i64 q, .int .i64 d, x] 37)).heap.size (w.alloc (.cells #[.int .i64 i, .int .i64 q, .int .i64 d, x] 37)) u → u.cell? ⟨w.heap.size, 0, none⟩ = some (.int .i64 i) ∧ u.cell? ⟨w.heap.size, 1, none⟩ = some (.int .i64 q) ∧ u.cell? ⟨w.heap.size, 2, none⟩ = some (.int .i64 d) ∧ u.cell? ⟨w.heap.size, 3, none⟩ = some x := by
  refine ⟨(Below.refl _ _).alloc (Nat.le_refl _) _, fun u hu => ?_⟩
  have hcc : ∀ j, u.cell? ⟨w.heap.size, j, none⟩ = (w.alloc (.cells #[.int .i64 i, .int .i64 q, .int .i64 d, x] 37)).cell? ⟨w.heap.size, j, none⟩ := fun j => hu.cell (p := ⟨w.heap.size, j, none⟩) (by simp)
  rw [hcc, hcc, hcc, hcc]
  exact ⟨World.cell?_alloc_at _ _ _ _ rfl, World.cell?_alloc_at _ _ _ _ rfl, World.cell?_alloc_at _ _ _ _ rfl, World.cell?_alloc_at _ _ _ _ rfl⟩
theorem below_of {w w1 w2 : World} (h : Below w.heap.size w w1) (k : Below w1.heap.size w1 w2) : Below w.heap.size w w2 := h.trans (k.mono h.size)
theorem below_drawn (w : World) (n : Nat) : Below w.heap.size w (w.drewN n) := ⟨rfl, rfl, rfl, Nat.le_refl _, fun _ _ => rfl⟩
end Go.Proofs.Ytelhjdplghpnbab
