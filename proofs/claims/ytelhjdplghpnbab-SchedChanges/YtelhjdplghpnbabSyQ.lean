import Derived.Test.YtelhjdplghpnbabSyM
import Derived.Test.YtelhjdplghpnbabSyP
import Derived.Test.YtelhjdplghpnbabSeN
/-! The program's Ask: what it leaves. -/
namespace Go.Proofs.Ytelhjdplghpnbab
open Go.RowKit Plain
set_option linter.unusedVariables false
set_option linter.unusedSimpArgs false

theorem OkR.riseL {t : Tr} (h : OkR t) : riseTo t.qs t.qs.length := fun j hj => ⟨(badQ_is (h.q j hj)).1, (badQ_is (h.q j hj)).2.1⟩
theorem ent_chk {t : Tr} (id n : Int) (h : chkT t ≠ 0) : entT t id n = (Tr.zero, chkT t) := by unfold entT; rw [if_pos h]
theorem lev_chk {t : Tr} (id : Int) (h : chkT t ≠ 0) : levT t id = (Tr.zero, chkT t) := by unfold levT; rw [if_pos h]
theorem ask_chk {t : Tr} (id n : Int) (h : chkT t ≠ 0) : askT t id n = (Tr.zero, chkT t) := by unfold askT; rw [if_pos h]
theorem ask_none {t : Tr} (id n : Int) (h : chkT t = 0) (hp : placeL t.qs id = -1) : askT t id n = (Tr.zero, 190) := by unfold askT; rw [if_neg (by simp [h]), if_pos (by omega)]
theorem ask_cost {t : Tr} (id n : Int) (h : chkT t = 0) {k : Nat} (hp : placeL t.qs id = k) (hn : n < 1 ∨ 1048576 < n) : askT t id n = (Tr.zero, 191) := by unfold askT; rw [if_neg (by simp [h]), if_neg (by omega), if_pos hn]
theorem ask_ok {t : Tr} (id n : Int) (h : chkT t = 0) {k : Nat} (hp : placeL t.qs id = k) (hn : ¬ (n < 1 ∨ 1048576 < n)) : askT t id n = (⟨t.qs.set k ((t.q k).more n), t.at', t.fresh⟩, 0) := by unfold askT; rw [if_neg (by simp [h]), if_neg (by omega), if_neg hn, hp]; rfl
/-- An error's answer. -/
theorem ans_none {t : Tr} {z : Int} {w w' : World} (ht : t = Tr.zero) (hb : Below w.heap.size w w') : ansT t z w (.returned (.tuple #[.agg #[.slice none 0 0, .int .i64 0, .bool false], .int .i64 z])) w' := by
  subst ht
  exact ⟨none, 0, rfl, TurNew.empty _ _, hb⟩
theorem ans_some {t : Tr} {z : Int} {w w' : World} {a : Option Addr} {n c : Nat} (hn : t.qs.length = n) (h : TurNew w.heap.size w' (.slice a n c) t) (hb : Below w.heap.size w w') : ansT t z w (.returned (.tuple #[.agg #[.slice a n c, .int .i64 t.at', .bool t.fresh], .int .i64 z])) w' := by
  subst hn
  exact ⟨a, c, rfl, h, hb⟩
/-- A cost more behind a queue's others. -/
theorem ask_tur {base : Nat} {u u' : World} {l : List Qu} {z : Int} {f : Bool} {g L : Nat} {vs : List Qv} {rs : List (Option Nat)} (h : TurN base u (.slice (some ⟨g, 0, none⟩) L L) ⟨l, z, f⟩ vs (some g) rs) {k : Nat} (hk : k < l.length) (n : Int) (hn : I64 n) (hlen : (l.getD k Qu.zero).costs.length < 17592186044000) {g6 c6 : Nat} {a6 : Option Addr} (ho : RowO u' (.slice a6 ((l.getD k Qu.zero).costs ++ [n]).length c6) ((l.getD k Qu.zero).costs ++ [n]) (some g6)) (kg : u.grownBy u' (rs.getD k none)) (hr : some g6 = rs.getD k none ∨ g6 = u.heap.size) :
    ∃ vs' rs', TurN base (u'.setCell ⟨g, k * 4 + 3, none⟩ (.slice a6 ((l.getD k Qu.zero).costs ++ [n]).length c6)) (.slice (some ⟨g, 0, none⟩) L L) ⟨l.set k ((l.getD k Qu.zero).more n), z, f⟩ vs' (some g) rs' := by
  have hkv : k < vs.length := by rw [h.len]; exact hk
  obtain ⟨hm, -⟩ := h.mem.regrow (i := k) (by simpa using hk) (N := ((l.getD k Qu.zero).costs ++ [n]).length) ho kg hr
  have em : ((⟨l, z, f⟩ : Tr).qs.map (·.costs)).set k ((l.getD k Qu.zero).costs ++ [n]) = (l.set k ((l.getD k Qu.zero).more n)).map (·.costs) := by rw [List.map_set]; rfl
  rw [em] at hm
  have hq : ∀ i, (⟨l.set k ((l.getD k Qu.zero).more n), z, f⟩ : Tr).q i = if i = k then (l.getD k Qu.zero).more n else (⟨l, z, f⟩ : Tr).q i := fun i => getD_set _ _ _ _ _ hk
  refine ⟨_, _, hm, by simp [h.len], fun j hj => ?_, fun j hj => ?_, by simpa using h.few, h.at_⟩
  · simp only [List.length_set] at hj
    rw [hq j, getD_set _ _ _ _ _ hkv]
    by_cases e : j = k
    · rw [if_pos e, if_pos e]
      obtain ⟨e1, e2, e3, -⟩ := h.same k hk
      exact ⟨e1, e2, e3, rfl⟩
    · rw [if_neg e, if_neg e]; exact h.same j hj
  · simp only [List.length_set] at hj
    rw [hq j]
    by_cases e : j = k
    · rw [if_pos e]
      obtain ⟨e1, e2, e3, e4, e5⟩ := h.ok k hk
      refine ⟨e1, e2, e3, ?_, fun x hx => ?_⟩
      · show ((l.getD k Qu.zero).costs ++ [n]).length ≤ _
        simp only [List.length_append, List.length_cons, List.length_nil]
        omega
      · have hx' : x ∈ (l.getD k Qu.zero).costs ++ [n] := hx
        rcases List.mem_append.mp hx' with h1 | h1
        · exact e5 x h1
        · simp at h1; rw [h1]; exact hn
    · rw [if_neg e]; exact h.ok j hj
/-- A queue of turns of the call's own, as it lies. -/
theorem TurN.at {base : Nat} {w : World} {l : List Qu} {z : Int} {f : Bool} {g L c : Nat} {vs : List Qv} {rs : List (Option Nat)} (h : TurN base w (.slice (some ⟨g, 0, none⟩) L c) ⟨l, z, f⟩ vs (some g) rs) {k : Nat} (hk : k < l.length) : ∃ ca cc, w.cell? ⟨g, k * 4 + 3, none⟩ = some (.slice ca (l.getD k Qu.zero).costs.length cc) ∧ w.frozen? ⟨g, k * 4 + 3, none⟩ = false ∧ RowO w (.slice ca (l.getD k Qu.zero).costs.length cc) (l.getD k Qu.zero).costs (rs.getD k none) := by
  have hkv : k < vs.length := by rw [h.len]; exact hk
  obtain ⟨-, -, -, e4⟩ := h.same k hk
  obtain ⟨c0, c1, c2, c3⟩ := h.mem.row.at hkv
  have hc := h.mem.cost k (by simpa using hk)
  have em : ((⟨l, z, f⟩ : Tr).qs.map (·.costs)).getD k [] = (l.getD k Qu.zero).costs := by simp [List.getD_eq_getElem?_getD, hk]
  rw [em] at hc
  have e4' : (vs.getD k Qv.zero).sl.2.1 = (l.getD k Qu.zero).costs.length := e4
  exact ⟨(vs.getD k Qv.zero).sl.1, (vs.getD k Qv.zero).sl.2.2, by rw [c3, e4'], h.mem.row.fz (by omega), hc⟩
end Go.Proofs.Ytelhjdplghpnbab
