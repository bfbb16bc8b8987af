import Derived.Test.YtelhjdplghpnbabSdV
import Derived.Test.YtelhjdplghpnbabSdM
/-! What the program's calls must answer. -/
namespace Go.Proofs.Ytelhjdplghpnbab
open Go.RowKit Plain
set_option linter.unusedVariables false
set_option linter.unusedSimpArgs false

/-- Turns of a call's own, all their blocks from base on. -/
structure TurN (base : Nat) (w : World) (v : Value) (t : Tr) (vs : List Qv) (r : Option Nat) (rs : List (Option Nat)) : Prop where
  mem : QMem base w v vs r (t.qs.map (·.costs)) rs
  len : vs.length = t.qs.length
  same : ∀ j, j < t.qs.length → (vs.getD j Qv.zero).id = (t.q j).id ∧ (vs.getD j Qv.zero).quantum = (t.q j).quantum ∧ (vs.getD j Qv.zero).deficit = (t.q j).deficit ∧ (vs.getD j Qv.zero).sl.2.1 = (t.q j).costs.length
  ok : ∀ j, j < t.qs.length → I64 (t.q j).id ∧ I64 (t.q j).quantum ∧ I64 (t.q j).deficit ∧ (t.q j).costs.length ≤ 17592186044000 ∧ ∀ z ∈ (t.q j).costs, I64 z
  few : t.qs.length ≤ 2932031007400
  at_ : I64 t.at'
theorem TurN.later {base : Nat} {w w' : World} {v : Value} {t : Tr} {vs : List Qv} {r : Option Nat} {rs : List (Option Nat)} (h : TurN base w v t vs r rs) (k : Below w.heap.size w w') : TurN base w' v t vs r rs := ⟨h.mem.later k, h.len, h.same, h.ok, h.few, h.at_⟩
theorem TurN.reads {base : Nat} {w : World} {v : Value} {t : Tr} {vs : List Qv} {r : Option Nat} {rs : List (Option Nat)} (h : TurN base w v t vs r rs) : TrAt w v t := by
  refine ⟨⟨vs, h.mem.row.recs (by rw [h.len]; exact h.few) (fun x hx => ?_), h.len, fun j hj => ?_⟩, h.at_⟩
  · obtain ⟨j, hj, rfl⟩ := List.mem_iff_getElem.mp hx
    have hj2 : j < t.qs.length := by rw [← h.len]; exact hj
    obtain ⟨a1, a2, a3, a4⟩ := h.same j hj2
    obtain ⟨b1, b2, b3, b4, b5⟩ := h.ok j hj2
    have e : vs.getD j Qv.zero = vs[j] := by simp [List.getD_eq_getElem?_getD, hj]
    rw [e] at a1 a2 a3
    exact ⟨by rw [a1]; exact b1, by rw [a2]; exact b2, by rw [a3]; exact b3, trivial⟩
  · obtain ⟨a1, a2, a3, a4⟩ := h.same j hj
    obtain ⟨b1, b2, b3, b4, b5⟩ := h.ok j hj
    have hc := h.mem.cost j (by simpa using hj)
    have e : (t.qs.map (·.costs)).getD j [] = (t.q j).costs := by simp [List.getD_eq_getElem?_getD, hj, Tr.q]
    rw [e] at hc
    refine ⟨a1, a2, a3, a4, ?_⟩
    rw [a4]
    exact hc.reads b4 b5
def TurNew (base : Nat) (w : World) (v : Value) (t : Tr) : Prop := ∃ vs r rs, TurN base w v t vs r rs
theorem TurNew.reads {base : Nat} {w : World} {v : Value} {t : Tr} (h : TurNew base w v t) : TrAt w v t := by
  obtain ⟨vs, r, rs, h⟩ := h
  exact h.reads
theorem TurNew.later {base : Nat} {w w' : World} {v : Value} {t : Tr} (h : TurNew base w v t) (k : Below w.heap.size w w') : TurNew base w' v t := by
  obtain ⟨vs, r, rs, h⟩ := h
  exact ⟨vs, r, rs, h.later k⟩
theorem TrAt.shape {w : World} {v : Value} {t : Tr} (h : TrAt w v t) : ∃ a cap, v = .slice a t.qs.length cap := by
  obtain ⟨a, cap, e, -⟩ := h.row.shape
  exact ⟨a, cap, e⟩
/-- What Check, Enter, Leave, Ask and Next must answer. -/
def CheckOk : Prop := ∀ (t : Tr) (v : Value) (w : World), TrAt w v t → Calls Try.prog 6 #[turV v t] w fun e w' => e = .returned (.int .i64 (chkT t)) ∧ Below w.heap.size w w'
def ansT (t : Tr) (z : Int) (w : World) (e : Ending) (w' : World) : Prop := ∃ a c, e = .returned (.tuple #[turV (.slice a t.qs.length c) t, .int .i64 z]) ∧ TurNew w.heap.size w' (.slice a t.qs.length c) t ∧ Below w.heap.size w w'
def EnterOk : Prop := ∀ (t : Tr) (id n : Int) (v : Value) (w : World), TrAt w v t → I64 id → I64 n → Calls Try.prog 7 #[turV v t, .int .i64 id, .int .i64 n] w (ansT (entT t id n).1 (entT t id n).2 w)
def LeaveOk : Prop := ∀ (t : Tr) (id : Int) (v : Value) (w : World), TrAt w v t → I64 id → Calls Try.prog 8 #[turV v t, .int .i64 id] w (ansT (levT t id).1 (levT t id).2 w)
def AskOk : Prop := ∀ (t : Tr) (id n : Int) (v : Value) (w : World), TrAt w v t → (∀ j, j < t.qs.length → (t.q j).costs.length ≤ 17592186043904) → I64 id → I64 n → Calls Try.prog 9 #[turV v t, .int .i64 id, .int .i64 n] w (ansT (askT t id n).1 (askT t id n).2 w)
def NxtA (t : Tr) (w : World) (e : Ending) (w' : World) : Prop := ∃ a c t' id k ok, e = .returned (.tuple #[turV (.slice a t'.qs.length c) t', .int .i64 id, .int .i64 k, .bool ok]) ∧ TurNew w.heap.size w' (.slice a t'.qs.length c) t' ∧ Nxt t t' id k ok ∧ Below w.heap.size w w'
theorem turZero (w : World) : TrAt w (.slice none 0 0) Tr.zero := ⟨⟨[], ⟨none, 0, rfl, by simp, by simp, by simp⟩, rfl, fun j hj => by simp [Tr.zero] at hj⟩, by constructor <;> simp [Tr.zero]⟩
end Go.Proofs.Ytelhjdplghpnbab
