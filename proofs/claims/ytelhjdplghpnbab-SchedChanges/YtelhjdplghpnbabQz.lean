import Derived.Test.YtelhjdplghpnbabSyQ
import Derived.Test.YtelhjdplghpnbabSeM
import Derived.Test.YtelhjdplghpnbabSeO
import Derived.Test.YtelhjdplghpnbabSeI
import Derived.Test.YtelhjdplghpnbabSeJ
import Derived.Test.YtelhjdplghpnbabSdJz
import Derived.Test.YtelhjdplghpnbabSyV
import Derived.Deep.RegionLaw
import Derived.Test.YtelhjdplghpnbabSyH
/-! Turns whose blocks lie in a range; what a spoiling leaves. -/
namespace Go.Proofs.Ytelhjdplghpnbab
open Go.RowKit Plain
set_option linter.unusedVariables false
set_option linter.unusedSimpArgs false

/-- Turns of the call's own, their blocks from base on and below e. -/
def TN (base e : Nat) (w : World) (v : Value) (t : Tr) : Prop := ∃ vs r rs, TurN base w v t vs r rs ∧ (∀ g, r = some g → g < e) ∧ ∀ j, j < t.qs.length → ∀ g, rs.getD j none = some g → g < e
theorem TN.of {base : Nat} {w : World} {v : Value} {t : Tr} (h : TurNew base w v t) : TN base w.heap.size w v t := by
  obtain ⟨vs, r, rs, h⟩ := h
  obtain ⟨l1, l2⟩ := h.mem.lts
  exact ⟨vs, r, rs, h, l1, fun j hj => l2 j (by simpa using hj)⟩
theorem TN.later {base e : Nat} {w w' : World} {v : Value} {t : Tr} (h : TN base e w v t) (k : Below w.heap.size w w') : TN base e w' v t := by
  obtain ⟨vs, r, rs, h, l1, l2⟩ := h
  exact ⟨vs, r, rs, h.later k, l1, l2⟩
theorem TN.reads {base e : Nat} {w : World} {v : Value} {t : Tr} (h : TN base e w v t) : TrAt w v t := by
  obtain ⟨vs, r, rs, h, -⟩ := h
  exact h.reads
theorem TN.range {base e : Nat} {w w' : World} {v : Value} {t : Tr} (h : TN base e w v t) (hs : w.heap.size ≤ w'.heap.size) (hk : ∀ k, base ≤ k → k < e → w'.heap[k]? = w.heap[k]?) : TN base e w' v t := by
  obtain ⟨vs, r, rs, h, l1, l2⟩ := h
  have hm := h.mem
  refine ⟨vs, r, rs, ⟨⟨hm.row.of_block hs (fun g e => hk g (hm.new g e) (l1 g e)), hm.len, hm.le, fun j hj => (hm.cost j hj).of_block hs (fun g e => hk g (hm.newc j hj g e) (l2 j (by simpa using hj) g e)), hm.new, hm.newc, hm.ap, hm.apc⟩, h.len, h.same, h.ok, h.few, h.at_⟩, l1, l2⟩
/-- What is spoilt: only blocks of the range, and new ones. -/
def SpR (base e : Nat) (w : World) (en : Ending) (w' : World) : Prop := ∃ z : Int, en = .returned (.int .i64 z) ∧ 0 ≤ z ∧ Below base w w' ∧ ∀ k, k < w.heap.size → ¬ (base ≤ k ∧ k < e) → w'.heap[k]? = w.heap[k]?
theorem TN.spoil {base e : Nat} {w : World} {v : Value} {t : Tr} (h : TN base e w v t) (hbw : base ≤ w.heap.size) (h32 : t.qs.length ≤ 32) : Calls Try.prog 17 #[turV v t] w (SpR base e w) := by
  obtain ⟨vs, r, rs, h, l1, l2⟩ := h
  refine (lspoiltOf base t vs r rs v w h hbw h32).mono ?_
  rintro en w' ⟨z, rfl, hz, hb, hk⟩
  refine ⟨z, rfl, hz, hb, fun k hkl hn => hk k hkl (fun e1 => hn ⟨h.mem.new k e1, l1 k e1⟩) (fun j hj e1 => hn ⟨h.mem.newc j (by simpa using hj) k e1, l2 j hj k e1⟩)⟩
theorem ent_few (t : Tr) (id n : Int) : (entT t id n).1.qs.length ≤ 32 := by
  unfold entT
  split
  · simp [Tr.zero]
  · split
    · simp [Tr.zero]
    · rename_i h0 h1
      have : ((t.qs.takeWhile (fun q => decide (q.id < id))) ++ t.qs.dropWhile (fun q => decide (q.id < id))).length = t.qs.length := by rw [List.takeWhile_append_dropWhile]
      simp only [List.length_append] at this
      simp only [entL, List.length_append, List.length_cons]
      omega
theorem chk_few {t : Tr} (h : ¬ chkT t ≠ 0) : t.qs.length ≤ 32 := (chk_ok.mp (by simpa using h)).few
theorem lev_few (t : Tr) (id : Int) : (levT t id).1.qs.length ≤ 32 := by
  unfold levT
  split
  · simp [Tr.zero]
  · split
    · simp [Tr.zero]
    · rename_i h0 h1
      have := chk_few h0
      have := List.length_eraseIdx_le t.qs (placeL t.qs id).toNat
      simp only
      omega
theorem ask_few (t : Tr) (id n : Int) : (askT t id n).1.qs.length ≤ 32 := by
  unfold askT
  split
  · simp [Tr.zero]
  · split
    · simp [Tr.zero]
    · split
      · simp [Tr.zero]
      · rename_i h0 h1 h2
        simp only [List.length_set]
        exact chk_few h0
/-- What the document's calls answer. -/
def RCheckOk : Prop := ∀ (t : Tr) (v : Value) (w : World), TrAt w v t → Calls Try.prog 11 #[turV v t] w fun e w' => e = .returned (.int .i64 (chkT t)) ∧ Below w.heap.size w w'
def REnterOk : Prop := ∀ (t : Tr) (id n : Int) (v : Value) (w : World), TrAt w v t → I64 id → I64 n → Calls Try.prog 12 #[turV v t, .int .i64 id, .int .i64 n] w (ansT (entT t id n).1 (entT t id n).2 w)
def RLeaveOk : Prop := ∀ (t : Tr) (id : Int) (v : Value) (w : World), TrAt w v t → I64 id → Calls Try.prog 14 #[turV v t, .int .i64 id] w (ansT (levT t id).1 (levT t id).2 w)
def RAskOk : Prop := ∀ (t : Tr) (id n : Int) (v : Value) (w : World), TrAt w v t → (∀ j, j < t.qs.length → (t.q j).costs.length ≤ 17592186043904) → I64 id → I64 n → Calls Try.prog 15 #[turV v t, .int .i64 id, .int .i64 n] w (ansT (askT t id n).1 (askT t id n).2 w)
end Go.Proofs.Ytelhjdplghpnbab

/-! Appends of queues and costs within regions that draw. -/
namespace Go.Proofs.Ytelhjdplghpnbab
open Go.RowKit Plain
set_option linter.unusedVariables false
set_option linter.unusedSimpArgs false

theorem step_append_v {ops : Array Oper} {o : Oper} {a : Act} {w : World} {K : Act → World → Prop} {Q : Exit → Act → World → Prop} {E : Prop}
    (hg : o.guard = none) (s x : Operand) (hop : o.op = Op.call { callee := Callee.builtin Builtin.append, args := #[s, x], argTypes := #[22, 22] }) (v xv : Value) (ts ks : List Qv) (r : Option Nat)
    (hs : a.eval s = v) (hx : a.eval x = xv) (hown : OwnQv w v ts r) (hsrc : Src Try.prog 4 22 xv ks.length (vcells ks) w) (hlen : ts.length + ks.length ≤ 2932031007600) (hr0 : r ≠ none ∨ 0 < ks.length)
    (hK : ∀ v' w' g, OwnQv w' v' (ts ++ ks) (some g) → w.grownBy w' r → (some g = r ∨ g = w.heap.size) → K (a.put o.dst v') w') :
    if Region.wanted o (yielded ops a.tmps) = true then Oper.wp Try.prog o a w K Q else E := by
  have hw : Region.wanted o (yielded ops a.tmps) = true := by simp [Region.wanted, hg]
  rw [if_pos hw]
  obtain ⟨v', w', g, hrun, h1, h2, h3⟩ := run_append_v w o.type v xv ts ks r hown hsrc hlen hr0
  unfold Oper.wp
  simp [execOp, hop, resolve, invoke, builtin, hs, hx, hrun, Result.andThen]
  exact hK v' w' g h1 h2 h3
theorem step_append_o {ops : Array Oper} {o : Oper} {a : Act} {w : World} {K : Act → World → Prop} {Q : Exit → Act → World → Prop} {E : Prop}
    (hg : o.guard = none) (s x : Operand) (hop : o.op = Op.call { callee := Callee.builtin Builtin.append, args := #[s, x], argTypes := #[35, 35] }) (v xv : Value) (l us : List Int) (r : Option Nat)
    (hs : a.eval s = v) (hx : a.eval x = xv) (hown : RowO w v l r) (hsrc : Src Try.prog 1 35 xv us.length (ints us) w) (hlen : l.length + us.length ≤ 17592186044417) (hr0 : r ≠ none ∨ 0 < us.length)
    (hK : ∀ v' w' g, RowO w' v' (l ++ us) (some g) → w.grownBy w' r → (some g = r ∨ g = w.heap.size) → K (a.put o.dst v') w') :
    if Region.wanted o (yielded ops a.tmps) = true then Oper.wp Try.prog o a w K Q else E := by
  have hw : Region.wanted o (yielded ops a.tmps) = true := by simp [Region.wanted, hg]
  rw [if_pos hw]
  obtain ⟨v', w', g, hrun, h1, h2, h3⟩ := run_append_o w o.type v xv l us r hown hsrc hlen hr0
  unfold Oper.wp
  simp [execOp, hop, resolve, invoke, builtin, hs, hx, hrun, Result.andThen]
  exact hK v' w' g h1 h2 h3
/-- A cost more behind a queue's others. -/
theorem ask_turC {base : Nat} {u u' : World} {l : List Qu} {z : Int} {f : Bool} {g L C : Nat} {vs : List Qv} {rs : List (Option Nat)} (h : TurN base u (.slice (some ⟨g, 0, none⟩) L C) ⟨l, z, f⟩ vs (some g) rs) {k : Nat} (hk : k < l.length) (n : Int) (hn : I64 n) (hlen : (l.getD k Qu.zero).costs.length < 17592186044000) {g6 c6 : Nat} {a6 : Option Addr} (ho : RowO u' (.slice a6 ((l.getD k Qu.zero).costs ++ [n]).length c6) ((l.getD k Qu.zero).costs ++ [n]) (some g6)) (kg : u.grownBy u' (rs.getD k none)) (hr : some g6 = rs.getD k none ∨ g6 = u.heap.size) :
    ∃ vs' rs', TurN base (u'.setCell ⟨g, k * 4 + 3, none⟩ (.slice a6 ((l.getD k Qu.zero).costs ++ [n]).length c6)) (.slice (some ⟨g, 0, none⟩) L C) ⟨l.set k ((l.getD k Qu.zero).more n), z, f⟩ vs' (some g) rs' := by
  have hkv : k < vs.length := by rw [h.len]; exact hk
  obtain ⟨hm, -⟩ := h.mem.regrow (i := k) (by simpa using hk) (N := ((l.getD k Qu.zero).costs ++ [n]).length) ho kg hr
  have em : ((⟨l, z, f⟩ : Tr).qs.map (·.costs)).set k ((l.getD k Qu.zero).costs ++ [n]) = (l.set k ((l.getD k Qu.zero).more n)).map (·.costs) := by rw [List.map_set]; rfl
  rw [em] at hm
  have hq : ∀ i, (⟨l.set k ((l.getD k Qu.zero).more n), z, f⟩ : Tr).q i = if i = k then (l.getD k Qu.zero).more n else (⟨l, z, f⟩ : Tr).q i := fun i => getD_set _ _ _ _ _ hk
  refine ⟨_, _, hm, by simp [h.len], fun j hj => ?_, fun j hj => ?_, by simpa using h.few, h.at_⟩
  · simp only [List.length_set] at hj
    rw [hq j, getD_set _ _ _ _ _ hkv]
    by_cases e : j = k
    · rw [if_pos e, if_pos e]
      obtain ⟨e1, e2, e3, -⟩ := h.same k hk
      exact ⟨e1, e2, e3, rfl⟩
    · rw [if_neg e, if_neg e]; exact h.same j hj
  · simp only [List.length_set] at hj
    rw [hq j]
    by_cases e : j = k
    · rw [if_pos e]
      obtain ⟨e1, e2, e3, e4, e5⟩ := h.ok k hk
      refine ⟨e1, e2, e3, ?_, fun x hx => ?_⟩
      · show ((l.getD k Qu.zero).costs ++ [n]).length ≤ _
        simp only [List.length_append, List.length_cons, List.length_nil]
        omega
      · have hx' : x ∈ (l.getD k Qu.zero).costs ++ [n] := hx
        rcases List.mem_append.mp hx' with h1 | h1
        · exact e5 x h1
        · simp at h1; rw [h1]; exact hn
    · rw [if_neg e]; exact h.ok j hj
/-- What Copied answers is turns of the call's own. -/
theorem CopP.tur {l : List Qu} {w0 u : World} {v cv : Value} {vs : List Qv} {r : Option Nat} {rs : List (Option Nat)} {base : Nat} (hq : QsAt w0 v l) (hm : QMem base u cv vs r (l.map (·.costs)) rs) (hl : vs.length = l.length) (hs : ∀ j, j < l.length → (vs.getD j Qv.zero).id = (l.getD j Qu.zero).id ∧ (vs.getD j Qv.zero).quantum = (l.getD j Qu.zero).quantum ∧ (vs.getD j Qv.zero).deficit = (l.getD j Qu.zero).deficit ∧ (vs.getD j Qv.zero).sl.2.1 = (l.getD j Qu.zero).costs.length) (z : Int) (f : Bool) (hz : I64 z) :
    TurN base u cv ⟨l, z, f⟩ vs r rs := by
  obtain ⟨a, cap, rfl, hb⟩ := hq.shape
  refine ⟨hm, hl, hs, fun j hj => ?_, hb, hz⟩
  obtain ⟨b, off, ca, cc, -, h1, i1, i2, i3⟩ := hq.at hj
  obtain ⟨-, hin⟩ := h1 w0 (Below.refl _ _)
  obtain ⟨_, _, _, _, k1, k2, _⟩ := hin
  exact ⟨i1, i2, i3, k1, k2⟩
theorem OwnQv.some {w : World} {v : Value} {vs : List Qv} {r : Option Nat} (h : OwnQv w v vs r) (hn : 0 < vs.length) : ∃ g c, r = Option.some g ∧ v = .slice (Option.some ⟨g, 0, none⟩) vs.length c := by
  rcases h with ⟨_, e, _⟩ | ⟨g, cap, e1, e2, _⟩
  · rw [e] at hn; simp at hn
  · exact ⟨g, cap, e1, e2⟩
theorem place_cases {l : List Qu} (id : Int) : placeL l id = -1 ∨ ∃ k : Nat, placeL l id = k ∧ k < l.length := by
  unfold placeL
  cases h : l.findIdx? (fun q => q.id == id) with
  | none => exact .inl rfl
  | some k =>
    rw [List.findIdx?_eq_some_iff_getElem] at h
    exact .inr ⟨k, rfl, h.1⟩
end Go.Proofs.Ytelhjdplghpnbab

/-! Queues that are copied one by one behind one another: the document's Enter and Leave. -/
namespace Go.Proofs.Ytelhjdplghpnbab
open Go.RowKit Plain
set_option linter.unusedVariables false
set_option linter.unusedSimpArgs false

theorem SvF.grownO {W w w' : World} {base B : Nat} {r : Option Nat} (h : SvF W w base B) (k : w.grownBy w' r) (hr : ∀ q, r = some q → q = B ∨ base ≤ q) : SvF W w' base B := by
  refine ⟨k.os.trans h.os, k.tape.trans h.tape, k.output.trans h.output, Nat.le_trans h.size k.size, h.bs, fun i hi hn => (k.block i (by have := h.size; have := h.bs; omega) ?_).trans (h.block i hi hn)⟩
  intro e
  rcases hr i e.symm with q | q <;> omega
/-- Turns whose queues are picked out of others, none twice, or are new: in a row of its own. -/
theorem pick_turF {base : Nat} {w u : World} {cv ov : Value} {l l' : List Qu} {z z' : Int} {f f' : Bool} {vs vs' : List Qv} {r ro : Option Nat} {rs : List (Option Nat)} {O D : Nat} (h : TurN base w cv ⟨l, z, f⟩ vs r rs) (ho : OwnQv u ov vs' ro) (hf : SvF w u D O) (hD : base ≤ D) (hrd : ∀ j, j < l.length → ∀ q, rs.getD j none = some q → q < D ∧ q ≠ O) (hn : ∀ q, ro = some q → D ≤ q) (hl : vs'.length = l'.length) (hz : I64 z') (hfew : l'.length ≤ 33) (σ : Nat → Option Nat)
    (h1 : ∀ j m, j < l'.length → σ j = some m → m < l.length ∧ vs'.getD j Qv.zero = vs.getD m Qv.zero ∧ l'.getD j Qu.zero = l.getD m Qu.zero)
    (h0 : ∀ j, j < l'.length → σ j = none → ∃ id q, I64 id ∧ I64 q ∧ vs'.getD j Qv.zero = ⟨id, q, 0, (none, 0, 0)⟩ ∧ l'.getD j Qu.zero = ⟨id, q, 0, []⟩)
    (hi : ∀ i j m, i < l'.length → j < l'.length → σ i = some m → σ j = some m → i = j) : ∃ rs', TurN base u ov ⟨l', z', f'⟩ vs' ro rs' := by
  obtain ⟨rs', hrs'⟩ : ∃ rs' : List (Option Nat), rs' = (List.range l'.length).map (fun j => match σ j with | some m => rs.getD m none | none => none) := ⟨_, rfl⟩
  have hrl : rs'.length = l'.length := by rw [hrs']; simp
  have hrg : ∀ j, j < l'.length → rs'.getD j none = match σ j with | some m => rs.getD m none | none => none := fun j hj => by rw [hrs']; simp [List.getD_eq_getElem?_getD, hj]
  have hlow := h.mem.newc
  have hcl : ((⟨l, z, f⟩ : Tr).qs.map (·.costs)).length = l.length := by simp
  have hgm : ∀ j, j < l.length → ((⟨l, z, f⟩ : Tr).qs.map (·.costs)).getD j [] = (l.getD j Qu.zero).costs := fun j hj => getD_map (l := l) hj
  have hany : ∀ j, j < l'.length → ∀ q, rs'.getD j none = some q → ∃ m, σ j = some m ∧ m < l.length ∧ rs.getD m none = some q := fun j hj q e => by
    rw [hrg j hj] at e
    cases hs : σ j with
    | none => rw [hs] at e; cases e
    | some m => rw [hs] at e; exact ⟨m, rfl, (h1 j m hj hs).1, e⟩
  refine ⟨rs', ⟨⟨ho, by rw [hrl]; simp, by simp [hl], fun j hj => ?_, fun q e => Nat.le_trans hD (hn q e), fun j hj q e => ?_, fun j hj q e e2 => ?_, fun i j hi' hj hij q e e2 => ?_⟩, hl, fun j hj => ?_, fun j hj => ?_, by show l'.length ≤ _; omega, hz⟩⟩
  · have hj' : j < l'.length := by simpa using hj
    rw [getD_map (l := l') hj', hrg j hj']
    cases hs : σ j with
    | none =>
      obtain ⟨id, q, -, -, a1, a2⟩ := h0 j hj' hs
      rw [a1, a2]
      exact RowO.nil _
    | some m =>
      obtain ⟨a1, a2, a3⟩ := h1 j m hj' hs
      have hc := h.mem.cost m (by rw [hcl]; exact a1)
      rw [hgm m a1] at hc
      rw [a2, a3]
      exact hc.of_block hf.size (fun q e => hf.block q (hrd m a1 q e).1 (hrd m a1 q e).2)
  · obtain ⟨m, hs, hm, e3⟩ := hany j (by simpa using hj) q e
    exact h.mem.newc m (by rw [hcl]; exact hm) q e3
  · obtain ⟨m, hs, hm, e3⟩ := hany j (by simpa using hj) q e
    have := (hrd m hm q e3).1
    have := hn q e2
    omega
  · obtain ⟨m1, s1, g1, e3⟩ := hany i (by simpa using hi') q e
    obtain ⟨m2, s2, g2, e4⟩ := hany j (by simpa using hj) q e2
    have hne : m1 ≠ m2 := fun e5 => hij (hi i j m1 (by simpa using hi') (by simpa using hj) s1 (by rw [s2, e5]))
    exact h.mem.apc m1 m2 (by rw [hcl]; exact g1) (by rw [hcl]; exact g2) hne q e3 e4
  · have hj' : j < l'.length := hj
    have e1 : (⟨l', z', f'⟩ : Tr).q j = l'.getD j Qu.zero := rfl
    rw [e1]
    cases hs : σ j with
    | none =>
      obtain ⟨id, q, -, -, a1, a2⟩ := h0 j hj' hs
      rw [a1, a2]
      exact ⟨rfl, rfl, rfl, rfl⟩
    | some m =>
      obtain ⟨a1, a2, a3⟩ := h1 j m hj' hs
      rw [a2, a3]
      exact h.same m a1
  · have hj' : j < l'.length := hj
    have e1 : (⟨l', z', f'⟩ : Tr).q j = l'.getD j Qu.zero := rfl
    rw [e1]
    cases hs : σ j with
    | none =>
      obtain ⟨id, q, b1, b2, a1, a2⟩ := h0 j hj' hs
      rw [a2]
      exact ⟨b1, b2, by constructor <;> simp, by simp, by simp⟩
    | some m =>
      obtain ⟨a1, a2, a3⟩ := h1 j m hj' hs
      rw [a3]
      exact h.ok m a1
/-- Within such a loop: the row as far as it goes, in the box O. -/
structure OuL (W u : World) (D O : Nat) (ov : Value) (os : List Qv) (ro : Option Nat) (z : Int) (f : Bool) : Prop where
  box : TuB u O ov z f
  row : OwnQv u ov os ro
  fr : SvF W u D O
  new : ∀ q, ro = some q → D ≤ q
  olt : O < D
theorem OuL.more {W u u1 u2 : World} {D O : Nat} {ov v' : Value} {os : List Qv} {ro : Option Nat} {z : Int} {f : Bool} {x : Qv} {g' : Nat} (h : OuL W u D O ov os ro z f) (b1 : Below u.heap.size u u1) (ho : OwnQv u2 v' (os ++ [x]) (some g')) (hg : u1.grownBy u2 ro) (hr : some g' = ro ∨ g' = u1.heap.size) : OuL W (u2.setCell ⟨O, 0, none⟩ v') D O v' (os ++ [x]) (some g') z f ∧ TuB u2 O ov z f := by
  have hol := h.olt
  have hs := h.fr.size
  have hbs := h.fr.bs
  have hs1 := b1.size
  have hgD : D ≤ g' := by
    rcases hr with e | e
    · exact h.new g' e.symm
    · omega
  have k : u2.grownBy (u2.setCell ⟨O, 0, none⟩ v') (some O) := grow_setT u2 O 0 v'
  have hb2 : TuB u2 O ov z f := (h.box.later b1).kept hg (fun e => by have := h.new O e; omega)
  refine ⟨⟨hb2.setV v', ho.kept k (.inr (by simp; omega)), ((h.fr.later b1).grownO hg (fun q e => .inr (h.new q e))).grownO k (fun q e => by simp at e; exact .inl e.symm), fun q e => by simp at e; omega, hol⟩, hb2⟩
theorem OuL.setAt {W u : World} {D O : Nat} {ov : Value} {os : List Qv} {ro : Option Nat} {z : Int} {f : Bool} (h : OuL W u D O ov os ro z f) (z' : Int) : OuL W (u.setCell ⟨O, 1, none⟩ (.int .i64 z')) D O ov os ro z' f := by
  have k : u.grownBy (u.setCell ⟨O, 1, none⟩ (.int .i64 z')) (some O) := grow_setT u O 1 _
  have hol := h.olt
  exact ⟨h.box.setAt z', h.row.kept k (by cases e : ro with | none => exact .inl rfl | some q => exact .inr (fun e2 => by have := h.new q e; simp at e2; omega)), h.fr.grownO k (fun q e => by simp at e; exact .inl e.symm), h.new, h.olt⟩
theorem OuL.setF {W u : World} {D O : Nat} {ov : Value} {os : List Qv} {ro : Option Nat} {z : Int} {f : Bool} (h : OuL W u D O ov os ro z f) (f' : Bool) : OuL W (u.setCell ⟨O, 2, none⟩ (.bool f')) D O ov os ro z f' := by
  have k : u.grownBy (u.setCell ⟨O, 2, none⟩ (.bool f')) (some O) := grow_setT u O 2 _
  have hol := h.olt
  exact ⟨h.box.setF f', h.row.kept k (by cases e : ro with | none => exact .inl rfl | some q => exact .inr (fun e2 => by have := h.new q e; simp at e2; omega)), h.fr.grownO k (fun q e => by simp at e; exact .inl e.symm), h.new, h.olt⟩
theorem take_snocV (l : List Qv) (i : Nat) (h : i < l.length) : l.take (i + 1) = l.take i ++ [l.getD i Qv.zero] := by
  rw [List.take_succ_eq_append_getElem h]
  simp [List.getD_eq_getElem?_getD, h]
/-- The first i without the one at k. -/
def lessL (vs : List Qv) (k i : Nat) : List Qv := if i ≤ k then vs.take i else vs.take k ++ (vs.take i).drop (k + 1)
theorem less_skip {vs : List Qv} {k : Nat} (hk : k < vs.length) : lessL vs k (k + 1) = lessL vs k k := by
  unfold lessL
  rw [if_neg (by omega), if_pos (Nat.le_refl _)]
  have : (vs.take (k + 1)).drop (k + 1) = [] := List.drop_eq_nil_of_le (by simp; omega)
  rw [this, List.append_nil]
theorem less_more {vs : List Qv} {k i : Nat} (hi : i < vs.length) (hne : i ≠ k) : lessL vs k (i + 1) = lessL vs k i ++ [vs.getD i Qv.zero] := by
  unfold lessL
  by_cases h : i < k
  · rw [if_pos (by omega), if_pos (by omega), take_snocV vs i hi]
  · rw [if_neg (by omega), if_neg (by omega), take_snocV vs i hi, List.drop_append_of_le_length (by simp; omega), List.append_assoc]
theorem less_all {vs : List Qv} {k : Nat} (hk : k < vs.length) : lessL vs k vs.length = vs.eraseIdx k := by
  unfold lessL
  rw [if_neg (by omega), List.take_length, List.eraseIdx_eq_take_drop_succ]
theorem less_len {vs : List Qv} {k i : Nat} : (lessL vs k i).length ≤ vs.length := by
  unfold lessL
  split
  · simp; omega
  · simp; omega
end Go.Proofs.Ytelhjdplghpnbab
