import Derived.Test.YtlnppgjppfkocaaGreatDoorGq16
/-! Lines: the document's read. -/
namespace Go.Proofs.YtlnppgjppfkocaaGreatDoor.Xs
open Go.RowKit Plain
set_option linter.unusedVariables false
set_option linter.unusedSimpArgs false

def cmLst (c : Cm) (vr vp : Value) : List Value := [.int .i64 c.verb, .int .i64 c.conn, .int .u32 c.req.id, .int .i64 c.req.op, .string (ba c.req.topic), .string (ba c.req.key), .string (ba c.req.value), .int .i64 c.req.offset, .int .i64 c.req.number, .int .i64 c.req.pid, .int .i64 c.req.seq, vr, .int .i64 c.n, vp]
theorem Bx.cm {W u : World} {X : Nat} {c : Cm} {vr vp : Value} (h : Bx W u X (cmLst c vr vp)) : CmAt u X c vr vp :=
  ⟨h.c 0 (by simp [cmLst]), h.c 1 (by simp [cmLst]), h.c 2 (by simp [cmLst]), h.c 3 (by simp [cmLst]), h.c 4 (by simp [cmLst]), h.c 5 (by simp [cmLst]), h.c 6 (by simp [cmLst]), h.c 7 (by simp [cmLst]), h.c 8 (by simp [cmLst]), h.c 9 (by simp [cmLst]), h.c 10 (by simp [cmLst]), h.c 11 (by simp [cmLst]), h.c 12 (by simp [cmLst]), h.c 13 (by simp [cmLst])⟩
abbrev nilV : Value := .slice none 0 0
/-- Within read: the command's box, the box of the answer; W: the world behind parts. -/
structure CmS (w W u : World) (X R : Nat) (c : Cm) (vr vp : Value) : Prop where
  x : Bx W u X (cmLst c vr vp)
  r : Bx w u R (cmLst Cm.zero nilV nilV)
  rl : R < W.heap.size
  be : Below W.heap.size W u
theorem CmS.later {w W u u' : World} {X R : Nat} {c : Cm} {vr vp : Value} (h : CmS w W u X R c vr vp) (hb : Below u.heap.size u u') : CmS w W u' X R c vr vp :=
  ⟨h.x.later hb, h.r.later hb, h.rl, below_on h.be hb⟩
theorem CmS.put {w W u : World} {X R : Nat} {c c' : Cm} {vr vp vr' vp' : Value} (h : CmS w W u X R c vr vp) {i : Nat} (hi : i < 14) (v : Value) (e : cmLst c' vr' vp' = (cmLst c vr vp).set i v) : CmS w W (u.setCell ⟨X, i, none⟩ v) X R c' vr' vp' :=
  ⟨h.x.set hi v e, h.r.other (by have := h.rl; have := h.x.ge; omega) i v, h.rl, below_set h.be h.x.ge i v⟩

theorem CmS.putRq {w W u : World} {X R : Nat} {c : Cm} {vr vp : Value} (h : CmS w W u X R c vr vp) (r : Rq) : CmS w W (rqPut u X 2 r) X R ⟨c.verb, c.conn, r, c.raw, c.n, c.picks⟩ vr vp :=
  ((((((((h.put (c' := ⟨c.verb, c.conn, ⟨r.id, c.req.op, c.req.topic, c.req.key, c.req.value, c.req.offset, c.req.number, c.req.pid, c.req.seq⟩, c.raw, c.n, c.picks⟩) (i := 2) (by omega) _ rfl).put (c' := ⟨c.verb, c.conn, ⟨r.id, r.op, c.req.topic, c.req.key, c.req.value, c.req.offset, c.req.number, c.req.pid, c.req.seq⟩, c.raw, c.n, c.picks⟩) (i := 3) (by omega) _ rfl).put (c' := ⟨c.verb, c.conn, ⟨r.id, r.op, r.topic, c.req.key, c.req.value, c.req.offset, c.req.number, c.req.pid, c.req.seq⟩, c.raw, c.n, c.picks⟩) (i := 4) (by omega) _ rfl).put (c' := ⟨c.verb, c.conn, ⟨r.id, r.op, r.topic, r.key, c.req.value, c.req.offset, c.req.number, c.req.pid, c.req.seq⟩, c.raw, c.n, c.picks⟩) (i := 5) (by omega) _ rfl).put (c' := ⟨c.verb, c.conn, ⟨r.id, r.op, r.topic, r.key, r.value, c.req.offset, c.req.number, c.req.pid, c.req.seq⟩, c.raw, c.n, c.picks⟩) (i := 6) (by omega) _ rfl).put (c' := ⟨c.verb, c.conn, ⟨r.id, r.op, r.topic, r.key, r.value, r.offset, c.req.number, c.req.pid, c.req.seq⟩, c.raw, c.n, c.picks⟩) (i := 7) (by omega) _ rfl).put (c' := ⟨c.verb, c.conn, ⟨r.id, r.op, r.topic, r.key, r.value, r.offset, r.number, c.req.pid, c.req.seq⟩, c.raw, c.n, c.picks⟩) (i := 8) (by omega) _ rfl).put (c' := ⟨c.verb, c.conn, ⟨r.id, r.op, r.topic, r.key, r.value, r.offset, r.number, r.pid, c.req.seq⟩, c.raw, c.n, c.picks⟩) (i := 9) (by omega) _ rfl).put (c' := ⟨c.verb, c.conn, r, c.raw, c.n, c.picks⟩) (i := 10) (by omega) _ rfl
/-- A command's cells, stored one by one. -/
abbrev cmPut (u : World) (R : Nat) (c : Cm) (vr vp : Value) : World := (((((((((((((u.setCell ⟨R, 0, none⟩ (.int .i64 c.verb)).setCell ⟨R, 1, none⟩ (.int .i64 c.conn)).setCell ⟨R, 2, none⟩ (.int .u32 c.req.id)).setCell ⟨R, 3, none⟩ (.int .i64 c.req.op)).setCell ⟨R, 4, none⟩ (.string (ba c.req.topic))).setCell ⟨R, 5, none⟩ (.string (ba c.req.key))).setCell ⟨R, 6, none⟩ (.string (ba c.req.value))).setCell ⟨R, 7, none⟩ (.int .i64 c.req.offset)).setCell ⟨R, 8, none⟩ (.int .i64 c.req.number)).setCell ⟨R, 9, none⟩ (.int .i64 c.req.pid)).setCell ⟨R, 10, none⟩ (.int .i64 c.req.seq)).setCell ⟨R, 11, none⟩ (vr)).setCell ⟨R, 12, none⟩ (.int .i64 c.n)).setCell ⟨R, 13, none⟩ (vp)
theorem grow_set (u : World) (R i : Nat) (v : Value) : u.grownBy (u.setCell ⟨R, i, none⟩ v) (some R) := grow_setCells u R i [v]
theorem grow_two {a b c : World} {R : Nat} (h : a.grownBy b (some R)) (k : b.grownBy c (some R)) : a.grownBy c (some R) := grow_trans h k (.inl rfl)
theorem Bx.putCm {W u : World} {R : Nat} {c0 : Cm} {v0 w0 : Value} (h : Bx W u R (cmLst c0 v0 w0)) (hb : Below W.heap.size W u) (c : Cm) (vr vp : Value) : Bx W (cmPut u R c vr vp) R (cmLst c vr vp) ∧ Below W.heap.size W (cmPut u R c vr vp) ∧ u.grownBy (cmPut u R c vr vp) (some R) := by
  refine ⟨?_, ?_, ?_⟩
  · exact ((((((((((((((h.set (i := 0) (by simp [cmLst]) _ rfl).set (i := 1) (by simp [cmLst]) _ rfl).set (i := 2) (by simp [cmLst]) _ rfl).set (i := 3) (by simp [cmLst]) _ rfl).set (i := 4) (by simp [cmLst]) _ rfl).set (i := 5) (by simp [cmLst]) _ rfl).set (i := 6) (by simp [cmLst]) _ rfl).set (i := 7) (by simp [cmLst]) _ rfl).set (i := 8) (by simp [cmLst]) _ rfl).set (i := 9) (by simp [cmLst]) _ rfl).set (i := 10) (by simp [cmLst]) _ rfl).set (i := 11) (by simp [cmLst]) _ rfl).set (i := 12) (by simp [cmLst]) _ rfl).set (i := 13) (by simp [cmLst]) _ rfl)
  · have g := h.ge
    exact (below_set (below_set (below_set (below_set (below_set (below_set (below_set (below_set (below_set (below_set (below_set (below_set (below_set (below_set hb g _ _) g _ _) g _ _) g _ _) g _ _) g _ _) g _ _) g _ _) g _ _) g _ _) g _ _) g _ _) g _ _) g _ _)
  · exact grow_two (grow_two (grow_two (grow_two (grow_two (grow_two (grow_two (grow_two (grow_two (grow_two (grow_two (grow_two (grow_two (grow_set u R 0 _) (grow_set _ R 1 _)) (grow_set _ R 2 _)) (grow_set _ R 3 _)) (grow_set _ R 4 _)) (grow_set _ R 5 _)) (grow_set _ R 6 _)) (grow_set _ R 7 _)) (grow_set _ R 8 _)) (grow_set _ R 9 _)) (grow_set _ R 10 _)) (grow_set _ R 11 _)) (grow_set _ R 12 _)) (grow_set _ R 13 _)
/-- From u to u' nothing has turned in the blocks from B on. -/
def Up (B : Nat) (u u' : World) : Prop := u.heap.size ≤ u'.heap.size ∧ ∀ k, B ≤ k → k < u.heap.size → u'.heap[k]? = u.heap[k]?
theorem Up.refl (B : Nat) (u : World) : Up B u u := ⟨Nat.le_refl _, fun _ _ _ => rfl⟩
theorem Up.trans {B : Nat} {u v w : World} (h : Up B u v) (k : Up B v w) : Up B u w := ⟨Nat.le_trans h.1 k.1, fun i hi hl => (k.2 i hi (Nat.lt_of_lt_of_le hl h.1)).trans (h.2 i hi hl)⟩
theorem Up.mono {B C : Nat} {u v : World} (h : Up B u v) (hc : B ≤ C) : Up C u v := ⟨h.1, fun i hi hl => h.2 i (Nat.le_trans hc hi) hl⟩
theorem Up.grown {B : Nat} {u v : World} {r : Option Nat} (h : u.grownBy v r) (hr : ∀ g, r = some g → g < B) : Up B u v := ⟨h.size, fun k hk hl => h.block k hl (fun e => by have := hr k e.symm; omega)⟩
theorem Up.below {B : Nat} {u v : World} (h : Below u.heap.size u v) : Up B u v := ⟨h.size, fun k _ hl => h.block k hl⟩
/-- What read leaves ahead of its end. -/
def RdE (line : By) (w W u : World) (X R : Nat) : Prop := ∃ c vr vp, WfC c ∧ SzC c ∧ RdC line c ∧ (∀ u', Up (R + 1) u u' → BysAt u' vr c.raw ∧ PksAt u' vp c.picks) ∧ CmS w W u X R c vr vp
theorem bys_nil (u : World) : BysAt u nilV [] := ⟨none, 0, rfl, Nat.le_refl _, Nat.zero_le _, fun h => absurd rfl h⟩
theorem pks_nil (u : World) : PksAt u nilV [] := ⟨none, 0, rfl, Nat.le_refl _, Nat.zero_le _, fun h => absurd rfl h⟩
theorem wf_zero : WfR Rq.zero := ⟨by decide, by decide, ⟨by decide, by decide⟩, ⟨by decide, by decide⟩, ⟨by decide, by decide⟩, ⟨by decide, by decide⟩, ⟨by decide, by decide⟩⟩
theorem sz_zero (a b c : Int) (d : By) (e : List Int) : SzC ⟨a, b, Rq.zero, d, c, e⟩ := ⟨by simp [Rq.zero], by simp [Rq.zero], by simp [Rq.zero]⟩
/-- A row of numbers in a block from B on. -/
def Gi (B : Nat) (u : World) (v : Value) (l : List Int) : Prop := ∃ r, OwnV u v (ints l) r ∧ ∀ g, r = some g → B ≤ g
theorem Gi.nil (B : Nat) (u : World) : Gi B u nilV [] := ⟨none, OwnV.nil u, by simp⟩
theorem Gi.slice {B : Nat} {u : World} {v : Value} {l : List Int} (h : Gi B u v l) : ∃ a cap, v = .slice a l.length cap := by
  obtain ⟨r, h1, _⟩ := h
  rcases h1 with ⟨e, e2, _⟩ | ⟨g, cap, _, e, _⟩
  · have : l.length = 0 := by have := congrArg List.length e2; rwa [ints_len] at this
    exact ⟨none, 0, by rw [e, this]⟩
  · exact ⟨_, cap, by rw [e, ints_len]⟩
theorem Gi.kept {B : Nat} {u u' : World} {v : Value} {l : List Int} (h : Gi B u v l) {g : Nat} (hg : u.grownBy u' (some g)) (hne : g < B) : Gi B u' v l := by
  obtain ⟨r, h1, h2⟩ := h
  refine ⟨r, h1.kept hg ?_, h2⟩
  cases r with
  | none => exact .inl rfl
  | some g' => exact .inr (fun e => by cases e; have := h2 g rfl; omega)
theorem Gi.reads {B : Nat} {u : World} {v : Value} {l : List Int} (h : Gi B u v l) (hl : l.length ≤ 17592186044000) : PksAt u v l := by
  obtain ⟨r, h1, _⟩ := h
  rcases h1 with ⟨e, e2, _⟩ | ⟨g, cap, _, e, _, k1, _, _, _, hc⟩
  · have h0 : l = [] := List.length_eq_zero_iff.1 (by have := congrArg List.length e2; rwa [ints_len] at this)
    subst h0
    exact ⟨none, 0, e, Nat.le_refl _, Nat.zero_le _, fun h => absurd rfl h⟩
  · refine ⟨_, cap, by rw [e, ints_len], by rw [ints_len] at k1; exact k1, hl, fun _ => ⟨g, 0, rfl, fun j hj => ?_⟩⟩
    rw [Nat.zero_add, hc j (by rw [ints_len]; exact hj), ints_get hj]
theorem Gi.up {B C : Nat} {u u' : World} {v : Value} {l : List Int} (h : Gi B u v l) (hu : Up C u u') (hC : C ≤ B) : Gi B u' v l := by
  obtain ⟨r, h1, h2⟩ := h
  exact ⟨r, h1.of_block hu.1 (fun g e => hu.2 g (by have := h2 g e; omega) (by subst e; exact h1.lt)), h2⟩
theorem step_append_gi {ops : Array Oper} {o : Oper} {a : Act} {B : Nat} {w w1 : World} {K : Act → World → Prop} {Q : Exit → Act → World → Prop} {E : Prop}
    (hg : o.guard = none) (s x : Operand) (hop : o.op = Op.call { callee := Callee.builtin Builtin.append, args := #[s, x], argTypes := #[26, 26] }) (v xv : Value) (l : List Int) (y : Int)
    (hs : a.eval s = v) (hx : a.eval x = xv) (h : Gi B w v l) (hb1 : Below w.heap.size w w1) (hB : B ≤ w1.heap.size) (hsrc : Src Tryz.prog 1 26 xv [Value.int .i64 y].length [Value.int .i64 y] w1) (hlen : l.length ≤ 17592186044000)
    (hK : ∀ v' w' r, Gi B w' v' (l ++ [y]) → w1.grownBy w' r → (∀ g, r = some g → B ≤ g) → K (a.put o.dst v') w') :
    if Region.wanted o (yielded ops a.tmps) = true then Oper.wp Tryz.prog o a w1 K Q else E := by
  have hw : Region.wanted o (yielded ops a.tmps) = true := by simp [Region.wanted, hg]
  rw [if_pos hw]
  obtain ⟨r, h1, h2⟩ := h
  obtain ⟨v', w', g, hrun, k1, k2, k3⟩ := run_append_ints w1 o.type v xv (ints l) [.int .i64 y] r (ownV_later h1 hb1) hsrc (by rw [ints_len]; simp; omega) (.inr (by simp))
  unfold Oper.wp
  simp [execOp, hop, resolve, invoke, builtin, hs, hx, hrun, Result.andThen]
  refine hK v' w' r ⟨some g, by rw [ints_app]; exact k1, fun g' e => ?_⟩ k2 h2
  cases e
  rcases k3 with e | e
  · exact h2 g e.symm
  · rw [e]; exact hB
/-- A row of bytes in a block from B on. -/
def Gy (B : Nat) (u : World) (v : Value) (l : By) : Prop := ∃ r, Own u v (nats l) r ∧ ∀ g, r = some g → B ≤ g
theorem Gy.nil (B : Nat) (u : World) : Gy B u nilV [] := ⟨none, Own.nil u, by simp⟩
theorem Gy.slice {B : Nat} {u : World} {v : Value} {l : By} (h : Gy B u v l) : ∃ a cap, v = .slice a l.length cap := by
  obtain ⟨r, h1, _⟩ := h
  rcases h1.2 with ⟨e, e2, _⟩ | ⟨g, cap, _, e, _⟩
  · have : l.length = 0 := by have := congrArg List.length e2; rwa [nats_len] at this
    exact ⟨none, 0, by rw [e, this]⟩
  · exact ⟨_, cap, by rw [e, nats_len]⟩
theorem Gy.kept {B : Nat} {u u' : World} {v : Value} {l : By} (h : Gy B u v l) {g : Nat} (hg : u.grownBy u' (some g)) (hne : g < B) : Gy B u' v l := by
  obtain ⟨r, h1, h2⟩ := h
  refine ⟨r, h1.kept hg ?_, h2⟩
  cases r with
  | none => exact .inl rfl
  | some g' => exact .inr (fun e => by cases e; have := h2 g rfl; omega)
theorem Gy.reads {B : Nat} {u : World} {v : Value} {l : By} (h : Gy B u v l) (hl : l.length ≤ 140737488352000) : BysAt u v l := by
  obtain ⟨r, h1, _⟩ := h
  rcases h1.2 with ⟨e, e2, _⟩ | ⟨g, cap, _, e, _, k1, _, _, _, hc⟩
  · have h0 : l = [] := List.length_eq_zero_iff.1 (by have := congrArg List.length e2; rwa [nats_len] at this)
    subst h0
    exact ⟨none, 0, e, Nat.le_refl _, Nat.zero_le _, fun h => absurd rfl h⟩
  · refine ⟨_, cap, by rw [e, nats_len], by rw [nats_len] at k1; exact k1, hl, fun _ => ⟨g, 0, rfl, fun j hj => ?_⟩⟩
    rw [Nat.zero_add, hc j (by rw [nats_len]; exact hj)]
    simp [nats, List.getD_eq_getElem?_getD, hj]
theorem Gy.up {B C : Nat} {u u' : World} {v : Value} {l : By} (h : Gy B u v l) (hu : Up C u u') (hC : C ≤ B) : Gy B u' v l := by
  obtain ⟨r, h1, h2⟩ := h
  exact ⟨r, h1.of_block hu.1 (fun g e => hu.2 g (by have := h2 g e; omega) (by subst e; exact h1.lt)), h2⟩
theorem step_append_gy {ops : Array Oper} {o : Oper} {a : Act} {B : Nat} {w w1 : World} {K : Act → World → Prop} {Q : Exit → Act → World → Prop} {E : Prop}
    (hg : o.guard = none) (s x : Operand) (hop : o.op = Op.call { callee := Callee.builtin Builtin.append, args := #[s, x], argTypes := #[25, 25] }) (v xv : Value) (l : By) (y : UInt8)
    (hs : a.eval s = v) (hx : a.eval x = xv) (h : Gy B w v l) (hb1 : Below w.heap.size w w1) (hB : B ≤ w1.heap.size) (hsrc : Src Tryz.prog 1 25 xv [y.toNat].length (cellsOf [y.toNat]) w1) (hlen : l.length ≤ 140737488352000)
    (hK : ∀ v' w' r, Gy B w' v' (l ++ [y]) → w1.grownBy w' r → (∀ g, r = some g → B ≤ g) → K (a.put o.dst v') w') :
    if Region.wanted o (yielded ops a.tmps) = true then Oper.wp Tryz.prog o a w1 K Q else E := by
  have hw : Region.wanted o (yielded ops a.tmps) = true := by simp [Region.wanted, hg]
  rw [if_pos hw]
  obtain ⟨r, h1, h2⟩ := h
  obtain ⟨v', w', r', hrun, k1, k2, k3, k4⟩ := run_append_row w1 25 25 o.type Tryz.underlying25 v xv (nats l) [y.toNat] r (h1.later hb1) (by intro u hu; rw [List.mem_singleton] at hu; rw [hu]; exact y.toNat_lt) hsrc (by rw [nats_len]; simp; omega)
  unfold Oper.wp
  simp [execOp, hop, resolve, invoke, builtin, hs, hx, hrun, Result.andThen]
  refine hK v' w' r ⟨r', by rw [nats_app]; exact k1, fun g' e => ?_⟩ k2 h2
  rcases k3 with e2 | e2
  · exact h2 g' (by rw [← e2]; exact e)
  · rw [e2] at e; cases e; exact hB
theorem CmS.grown {w W u u' : World} {X R : Nat} {c : Cm} {vr vp : Value} (h : CmS w W u X R c vr vp) {B : Nat} {r : Option Nat} (hg : u.grownBy u' r) (hX : X < B) (hr : ∀ g, r = some g → B ≤ g) : CmS w W u' X R c vr vp := by
  have hX1 := h.x.ge
  have hR1 := h.rl
  have kb : ∀ Y, Y < B → Y < u.heap.size → u'.heap[Y]? = u.heap[Y]? := fun Y h1 h2 => hg.block Y h2 (fun e => by have := hr Y e.symm; omega)
  have bx : ∀ {W' : World} {Y : Nat} {l : List Value}, Bx W' u Y l → Y < B → Bx W' u' Y l := fun hb hY =>
    ⟨fun j hj => (World.cell?_of_block (w := u) (a := ⟨_, j, none⟩) (kb _ hY hb.lt)).trans (hb.c j hj), fun j hj => by rw [World.frozen?_of_block (w := u) (a := ⟨_, j, none⟩) (kb _ hY hb.lt)]; exact hb.fz j hj, hb.ge, Nat.lt_of_lt_of_le hb.lt hg.size⟩
  exact ⟨bx h.x hX, bx h.r (by omega), h.rl, h.be.trans (grow_below hg h.be.size (fun g e => by have := hr g e; omega))⟩
/-- The parts but for the first one. -/
theorem tail_run (bl ol m cap : Nat) (h : m + 1 ≤ cap) : ∃ o' c', (∀ u, (Instr.slice 43 (.slice (some ⟨bl, ol, none⟩) (m + 1) cap) (some (.int .i64 1)) none none).run Tryz.prog u = .ok (.slice (some ⟨bl, o', none⟩) m c') u) ∧ m ≤ c' ∧ (m ≠ 0 → o' = ol + 1) := by
  have key := fun u => run_slice_l (P := Tryz.prog) u 43 (some ⟨bl, ol, none⟩) (m + 1) cap (by kernel_rfl) .i64 1 (by omega) (by omega)
  have hel : Tryz.prog.elem 43 = 9 := by kernel_rfl
  have hs : ∀ u, (sizeOf (Tryz.prog.elem 43)).run Tryz.prog u = .ok 1 u := fun u => by rw [hel]; simp [go_sem, Tryz.sizeOf9]
  by_cases hc : cap = 1
  · refine ⟨ol, cap - 1, fun u => ?_, by omega, by omega⟩
    rw [key, hs]
    simp [sliced, hc, Result.andThen]
  · refine ⟨ol + 1, cap - 1, fun u => ?_, by omega, fun _ => rfl⟩
    rw [key, hs]
    simp [sliced, hc, Result.andThen, WideShapes.add_plain]
/-- Parts that lie in memory, whatever happens behind the world W. -/
structure TlS (W : World) (bl ol cl : Nat) (T : List By) : Prop where
  c : ∀ u, Below W.heap.size W u → ∀ j, j < T.length → u.cell? ⟨bl, ol + j, none⟩ = some (.string (ba (T.getD j [])))
  cap : T.length ≤ cl
  len : T.length ≤ 4097
  sz : ∀ y ∈ T, y.length ≤ 4096
theorem TlS.tail {W : World} {bl ol cl : Nat} {x : By} {T : List By} (h : TlS W bl ol cl (x :: T)) : ∃ o' c', (∀ u, (Instr.slice 43 (.slice (some ⟨bl, ol, none⟩) (T.length + 1) cl) (some (.int .i64 1)) none none).run Tryz.prog u = .ok (.slice (some ⟨bl, o', none⟩) T.length c') u) ∧ TlS W bl o' c' T := by
  have hc := h.cap
  have hl := h.len
  rw [List.length_cons] at hc hl
  obtain ⟨o', c', h1, h2, h3⟩ := tail_run bl ol T.length cl hc
  refine ⟨o', c', h1, fun u hu j hj => ?_, h2, by omega, fun y hy => h.sz y (by simp [hy])⟩
  rw [h3 (by omega), show ol + 1 + j = ol + (j + 1) by omega]
  exact h.c u hu (j + 1) (by rw [List.length_cons]; omega)
theorem TlS.at {W : World} {bl ol cl : Nat} {T : List By} (h : TlS W bl ol cl T) {u : World} (hu : Below W.heap.size W u) : NmsAt u (.slice (some ⟨bl, ol, none⟩) T.length cl) T :=
  ⟨_, cl, rfl, h.cap, by have := h.len; omega, fun y hy => by have := h.sz y hy; omega, fun _ => ⟨bl, ol, rfl, fun j hj => h.c u hu j hj⟩⟩

set_option maxHeartbeats 16000000 in
set_option maxRecDepth 100000 in
theorem rreadOf (line : By) (hline : line.length ≤ 4096) (w : World) :
    Calls Tryz.prog 33 #[.string (ba line)] w fun e w' => (∃ c vr vp, e = .returned (cmV c vr vp) ∧ WfC c ∧ SzC c ∧ RdC line c ∧ ∀ u', Up (w.heap.size + 1) w' u' → BysAt u' vr c.raw ∧ PksAt u' vp c.picks) ∧ Below w.heap.size w w' := by
  have HPA := mkH (rpartsOf line (by omega))
  have HCL := mkH (cut_len line)
  obtain ⟨x, T, hP⟩ : ∃ x T, cutL false [] line = x :: T := by
    cases h : cutL false [] line with
    | cons x T => exact ⟨x, T, rfl⟩
    | nil =>
      exfalso
      have key : ∀ (n : Nat) (s : By) (q : Bool) (cur : By), s.length ≤ n → cutL q cur s ≠ [] := by
        intro n
        induction n with
        | zero => intro s q cur hs; rw [List.length_eq_zero_iff.1 (by omega : s.length = 0), cut_nil]; simp
        | succ n ih =>
          intro s q cur hs
          match s, hs with
          | [], hs => rw [cut_nil]; simp
          | [c], hs => rw [cut_one]; split <;> simp
          | c :: d :: r, hs =>
            rw [cutL]
            simp only [List.length_cons] at hs
            split
            · exact ih r _ _ (by omega)
            · split
              · exact ih (d :: r) _ _ (by simp; omega)
              · split
                · simp
                · exact ih (d :: r) _ _ (by simp; omega)
      exact key line.length line false [] (Nat.le_refl _) h
  rw [hP] at HPA HCL
  have HVD : Hid (∀ o, VbF x 11 o → ∀ d, Of line d → o = d.verb ∧ T = argsL d) := fun o h => h.done hP
  clear hP
  obtain ⟨W0, hW0⟩ : ∃ W0, w.alloc (.cells #[.int .i64 0, .int .i64 0, .int .u32 0, .int .i64 0, .string ⟨#[]⟩, .string ⟨#[]⟩, .string ⟨#[]⟩, .int .i64 0, .int .i64 0, .int .i64 0, .int .i64 0, .slice none 0 0, .int .i64 0, .slice none 0 0] 28) = W0 := ⟨_, rfl⟩
  have hb0 : Below w.heap.size w W0 := by rw [← hW0]; exact (Below.refl _ _).alloc (Nat.le_refl _) _
  have hR0 : Bx w W0 w.heap.size (cmLst Cm.zero nilV nilV) := by rw [← hW0]; exact Bx.new (Nat.le_refl _) (cmLst Cm.zero nilV nilV) 28
  go_enter Tryz.func33, Tryz.ntmps33
  go_wp2_with fail
  refine (HPA.out _).mono ?_
  rintro e w1 ⟨v, rfl, hv, hvl, hb⟩
  obtain ⟨R, hRd⟩ : ∃ R, w.heap.size = R := ⟨_, rfl⟩
  rw [hRd] at hR0
  have hR1 : Bx w w1 R (cmLst Cm.zero nilV nilV) := hR0.later hb
  have HBW : Hid (Below w.heap.size w w1) := below_on hb0 hb
  obtain ⟨W2, hW2⟩ : ∃ W2, w1.alloc (.cells #[.int .i64 (-1), .int .i64 0, .int .u32 0, .int .i64 0, .string ⟨#[]⟩, .string ⟨#[]⟩, .string ⟨#[]⟩, .int .i64 0, .int .i64 0, .int .i64 0, .int .i64 0, .slice none 0 0, .int .i64 0, .slice none 0 0] 28) = W2 := ⟨_, rfl⟩
  have hb2 : Below w1.heap.size w1 W2 := by rw [← hW2]; exact (Below.refl _ _).alloc (Nat.le_refl _) _
  have hX2 : Bx w1 W2 w1.heap.size (cmLst ⟨-1, 0, Rq.zero, [], 0, []⟩ nilV nilV) := by rw [← hW2]; exact Bx.new (Nat.le_refl _) (cmLst ⟨-1, 0, Rq.zero, [], 0, []⟩ nilV nilV) 28
  obtain ⟨X, hXd⟩ : ∃ X, w1.heap.size = X := ⟨_, rfl⟩
  rw [hXd] at hX2
  have HS : Hid (CmS w w1 W2 X R ⟨-1, 0, Rq.zero, [], 0, []⟩ nilV nilV) := ⟨hX2, hR1.later hb2, hR1.lt, hb2⟩
  obtain ⟨al, cl, rfl, q1, q2, q3, q4⟩ := hv
  obtain ⟨bl, ol, rfl, hcl⟩ := q4 (by simp)
  have HC : Hid (∀ u, Below w1.heap.size w1 u → ∀ j, j < (x :: T).length → u.cell? ⟨bl, ol + j, none⟩ = some (.string (ba ((x :: T).getD j [])))) := fun u hu j hj => (hu.cell (cell_lt (hcl j hj))).trans (hcl j hj)
  have HC0 : Hid (∀ u, Below w1.heap.size w1 u → u.cell? ⟨bl, ol, none⟩ = some (.string (ba x))) := fun u hu => HC.out u hu 0 (by simp)
  clear hb hb0 hb2 hX2 hR0 hR1 q4 hcl hW0 HPA
  have hTl : (x :: T).length = T.length + 1 := by simp
  rw [hTl] at q1 q2 hvl ⊢
  have HW2 := mkH hW2
  clear hW2
  go_wp2
  rw [HW2.out]
  clear HW2
  generalize Value.agg #[.int .i64 (-1), .int .i64 0, .int .u32 0, .int .i64 0, .string ⟨#[]⟩, .string ⟨#[]⟩, .string ⟨#[]⟩, .int .i64 0, .int .i64 0, .int .i64 0, .int .i64 0, .slice none 0 0, .int .i64 0, .slice none 0 0] = V10
  go_loopw [5] (fun i wl => ∃ (k : Nat) (o : Int), k ≤ 11 ∧ i = .int .i64 k ∧ Hid (VbF x k o) ∧ Hid (CmS w w1 wl X R ⟨o, 0, Rq.zero, [], 0, []⟩ nilV nilV)) (fun i _ => 11 - (intOf i).toNat)
  case atStart => exact ⟨0, -1, by omega, rfl, VbF.start x, HS⟩
  case round =>
    clear HS
    obtain ⟨k, o, hk2, rfl, HF, HS⟩ := hrel
    by_cases hp : k ≤ 10
    · have hki : (k : Int) ≤ 10 := by omega
      have c0 := cell_regrown (HC0.out _ HS.out.be)
      have kO : ∀ d os, Calls Tryz.prog 29 #[.int .i64 (k : Int)] (Go.Sort.grow (redrawn wr d) os) fun e w'' => e = .returned (.string (ba (verbT k))) ∧ ∃ p : Regrown, w'' = Go.Sort.grow (redrawn wr p.d) p.os := fun d os => Calls.regrown_of (rverbWordOf k _)
      have HHit : Hid (verbT k = x → VbF x (k + 1) k) := fun e => HF.out.hit hp e
      have HMis : Hid (verbT k ≠ x → VbF x (k + 1) o) := fun e => HF.out.miss e
      generalize verbT (k : Int) = O at *
      go_wp2_with fail
      refine wp_region_quiet_below (by kernel_rfl) (by kernel_rfl) ?_
      repeat (go_big_quiet_step (with_reducible exact kO _ _))
      refine wpQuiet_nil ?_
      intro _ hw'
      obtain ⟨⟨dq, osq⟩, hw''⟩ := hw'
      subst hw''
      obtain ⟨w7, hw7⟩ : ∃ u, Go.Sort.grow (redrawn wr dq) osq = u := ⟨_, rfl⟩
      have HS7 : Hid (CmS w w1 w7 X R ⟨o, 0, Rq.zero, [], 0, []⟩ nilV nilV) := by
        unfold Hid
        rw [← hw7]
        exact HS.out.later (below_regrown wr dq osq)
      rw [hw7]
      clear kO c0 hw7 HS
      have z0 := HS7.out.x.cm.c0
      have f0 := HS7.out.x.fz 0 (by simp [cmLst])
      by_cases he : O = x
      · have heb : (O == x) = true := by simpa using he
        have HF2 := mkH (HHit.out he)
        have HS8 : Hid (CmS w w1 (w7.setCell ⟨X, 0, none⟩ (.int .i64 k)) X R ⟨k, 0, Rq.zero, [], 0, []⟩ nilV nilV) := HS7.out.put (by omega) _ rfl
        clear he HHit HMis
        rw [heb]
        go_wp2
        go_roundw
        case rel => exact ⟨k + 1, k, by omega, by go_num, HF2, HS8⟩
        case measure => simp [intOf]; omega
      · have heb : (O == x) = false := by simpa using he
        have HF2 := mkH (HMis.out he)
        clear he HHit HMis
        rw [heb]
        go_wp2
        go_roundw
        case rel => exact ⟨k + 1, o, by omega, by go_num, HF2, HS7⟩
        case measure => simp [intOf]; omega
    · have hki : ¬ (k : Int) ≤ 10 := by omega
      have hk11 : k = 11 := by omega
      have HVB : Hid (∀ d, Of line d → o = d.verb ∧ T = argsL d) := HVD.out o (by rw [← hk11]; exact HF.out)
      have hob : -1 ≤ o ∧ o ≤ 10 := ⟨HF.out.lo, HF.out.hi⟩
      clear HF HVD hk11
      have hTS : TlS w1 bl ol cl (x :: T) := ⟨HC.out, by rw [hTl]; exact q1, by rw [hTl]; omega, fun y hy => by have := HCL.out y hy; omega⟩
      obtain ⟨o1, c1, htl, hT1⟩ := hTS.tail
      have HT1 := mkH hT1
      clear hTS hT1 HC HC0 q3
      go_upto_region 9 with fail
      have hcap1 := HT1.out.cap
      have hlen1 := HT1.out.len
      clear htl
      have z0 := HS.out.x.cm.c0
      have HNB : Hid (cnB o = ((o == 0) || (o == 1) || (o == 2) || (o == 3) || (o == 6))) := rfl
      generalize Value.slice (some ⟨bl, ol, none⟩) (T.length + 1) cl = V9 at *
      go_cut [52] (fun v wx => v = .bool (decide (0 < T.length) && cnB o) ∧ wr = wx)
      case first =>
        by_cases hT0 : 0 < T.length
        · have hTd : decide (0 < T.length) = true := by simpa using hT0
          have hTi : (0 : Int) < (T.length : Int) := by omega
          go_wp2_with fail
          all_goals
            go_meet
            case rel =>
              refine ⟨congrArg Value.bool ?_, by first | rfl | trivial⟩
              rw [hTd, HNB.out]
              try simp_all
        · have hTd : decide (0 < T.length) = false := by simpa using hT0
          have hTi : ¬ (0 : Int) < (T.length : Int) := by omega
          go_wp2_with fail
          all_goals
            go_meet
            case rel =>
              refine ⟨congrArg Value.bool ?_, by first | rfl | trivial⟩
              rw [hTd]
              try simp_all
      case rest =>
      obtain ⟨rfl, rfl⟩ := hcut
      clear HNB z0
      obtain ⟨CB, hCB⟩ : ∃ b, (decide (0 < T.length) && cnB o) = b := ⟨_, rfl⟩
      rw [hCB]
      go_upto_if 52 with fail
      go_cut [3] (fun v wx => ∃ (z : Int) (T' : List By) (o' c' : Nat), v = .slice (some ⟨bl, o', none⟩) T'.length c' ∧ Hid (TlS w1 bl o' c' T') ∧ Hid (St2 line o z T') ∧ I64 z ∧ Hid (CmS w w1 wx X R ⟨o, z, Rq.zero, [], 0, []⟩ nilV nilV))
      case first =>
        cases T with
        | nil =>
          have HS2 : Hid (St2 line o 0 []) := by
            by_cases hc : cnB o = true
            · exact st2_empty HVB.out hc
            · exact st2_none HVB.out hc
          have hcd : CB = false := by rw [← hCB]; rfl
          clear HVB hCB
          subst hcd
          go_wp2_with fail
          all_goals
            go_meet
            case rel => exact ⟨0, [], o1, c1, rfl, HT1, HS2, ⟨by omega, by omega⟩, HS⟩
        | cons y T2 =>
          cases hcb : cnB o with
          | false =>
            have HS2 : Hid (St2 line o 0 (y :: T2)) := st2_none HVB.out (by rw [hcb]; simp)
            have hcd : CB = false := by rw [← hCB, hcb]; simp
            clear HVB hCB
            subst hcd
            go_wp2_with fail
            all_goals
              go_meet
              case rel => exact ⟨0, y :: T2, o1, c1, rfl, HT1, HS2, ⟨by omega, by omega⟩, HS⟩
          | true =>
            have HST : Hid (∀ z, (∀ n, I64 n → y = Lib.itoa n → z = n) → St2 line o z T2) := fun z hz => st2_conn HVB.out hcb hz
            have cy : wr.cell? ⟨bl, o1, none⟩ = some (.string (ba y)) := HT1.out.c _ HS.out.be 0 (by simp)
            have hyl : y.length ≤ 4096 := HT1.out.sz y (by simp)
            have HN := mkH (rreadNumberOf y (by omega))
            obtain ⟨o2, c2, htl2, hT2⟩ := HT1.out.tail
            have HT2 := mkH hT2
            have hll : (y :: T2).length = T2.length + 1 := by simp
            have hd1 : decide (0 < (y :: T2).length) = true := by simp
            have z1 := HS.out.x.cm.c1
            have f1 := HS.out.x.fz 1 (by simp [cmLst])
            rw [hll] at hcap1 hlen1 ⊢
            have hcd : CB = true := by rw [← hCB, hcb]; simp
            clear hT2 HVB hd1 hCB
            subst hcd
            go_wp2_with fail
            refine (HN.out _).mono ?_
            rintro e w3 ⟨⟨z, rfl, hz64, hz⟩, hw3⟩
            obtain rfl : wr = w3 := hw3.symm
            have HS3 : Hid (CmS w w1 (wr.setCell ⟨X, 1, none⟩ (.int .i64 z)) X R ⟨o, z, Rq.zero, [], 0, []⟩ nilV nilV) := HS.out.put (by omega) _ rfl
            have HS2 := mkH (HST.out z hz)
            clear HN hz HST hw3 HS
            go_wp2_with fail
            all_goals
              go_meet
              case rel => exact ⟨z, T2, o2, c2, rfl, HT2, HS2, hz64, HS3⟩
      case rest =>
      obtain ⟨z, T', o', c', rfl, HT', HS2, hz64, HS'⟩ := hcut
      clear HVB HT1 HS hCB
      have hlen' := HT'.out.len
      have hcap' := HT'.out.cap
      go_upto_block 2 with fail
      have ho64 : I64 o := ⟨by omega, by omega⟩
      have i0 : I64 (0 : Int) := ⟨by omega, by omega⟩
      have z0 := HS'.out.x.cm.c0
      go_cut [4] (fun v wx => v = .pointer (some ⟨X, 0, none⟩) ∧ Hid (RdE line w w1 wx X R))
      case first =>
        cases T' with
        | nil =>
          have HE : Hid (RdE line w w1 wc X R) := ⟨_, _, _, ⟨ho64, hz64, wf_zero, i0, by simp⟩, sz_zero _ _ _ _ _, rd_empty HS2.out, fun u' _ => ⟨bys_nil u', pks_nil u'⟩, HS'.out⟩
          clear HS2 HS'
          go_wp2_with fail
          go_meet
          case rel => exact ⟨rfl, HE⟩
        | cons y T2 =>
          have cy : wc.cell? ⟨bl, o', none⟩ = some (.string (ba y)) := HT'.out.c _ HS'.out.be 0 (by simp)
          have hyl : y.length ≤ 4096 := HT'.out.sz y (by simp)
          have HN := mkH (rreadNumberOf y (by omega))
          have hll : (y :: T2).length = T2.length + 1 := by simp
          have hlb : (((T2.length : Nat) : Int) + 1 == 0) = false := by rw [beq_eq_false_iff_ne]; omega
          rw [hll] at hcap' hlen' ⊢
          by_cases h2 : o = 2
          · subst h2
            obtain ⟨o2, c2, htl2, hT2⟩ := HT'.out.tail
            have HT2 := mkH hT2
            clear hT2
            have z2 := HS'.out.x.cm.c2
            have f2 := HS'.out.x.fz 2 (by simp [cmLst])
            have HRS : Hid (∀ i r, (∀ n, 0 ≤ n → n ≤ 4294967295 → y = Lib.itoa n → i = n) → RrP T2 i r → RdC line ⟨2, z, r, [], 0, []⟩) := fun i r hi hr => rd_say HS2.out hi hr
            go_wp2_with fail
            refine (HN.out _).mono ?_
            rintro e w3 ⟨⟨zi, rfl, hzi64, hzi⟩, hw3⟩
            obtain rfl : wc = w3 := hw3.symm
            obtain ⟨i, hi⟩ : ∃ i, IntKind.u32.wrap zi = i := ⟨_, rfl⟩
            have hi0 : 0 ≤ i ∧ i ≤ 4294967295 := by rw [← hi, IntKind.wrap_u32]; omega
            have HI : Hid (∀ n, 0 ≤ n → n ≤ 4294967295 → y = Lib.itoa n → i = n) := fun n h1 h2 e => by
              rw [← hi, hzi n ⟨by omega, by omega⟩ e, IntKind.wrap_u32]; omega
            obtain ⟨wa, hwa⟩ : ∃ u, wc.setCell ⟨X, 2, none⟩ (.int .u32 i) = u := ⟨_, rfl⟩
            have HSa : Hid (CmS w w1 wa X R ⟨2, z, ⟨i, 0, [], [], [], 0, 0, 0, 0⟩, [], 0, []⟩ nilV nilV) := by
              unfold Hid
              rw [← hwa]
              exact HS'.out.put (by omega) _ rfl
            have HRQ : Hid (∀ u, Below w1.heap.size w1 u → Calls Tryz.prog 55 #[.slice (some ⟨bl, o2, none⟩) T2.length c2, rqV ⟨i, 0, [], [], [], 0, 0, 0, 0⟩] u fun e w' => (∃ r, e = .returned (rqV r) ∧ RrP T2 i r) ∧ Below u.heap.size u w') := fun u hu => rreadReqOf T2 _ i u (HT2.out.at hu) (by have := HT2.out.len; omega) (fun q hq => by have := HT2.out.sz q hq; omega) hi0.1 hi0.2
            clear HN hzi hw3 HS' HS2 z0
            obtain ⟨a0, a1, a2, a3, a4, a5, a6, a7, a8, a9, a10, a11, a12, a13⟩ := HSa.out.x.cm
            simp only at a0 a1 a2 a3 a4 a5 a6 a7 a8 a9 a10 a11 a12 a13
            go_wp2_with fail
            try rw [hwa]
            clear z2 f2
            go_region_with (go_at_call 55
                            refine (HRQ.out _ HSa.out.be.drew).mono ?_
                            rintro e w5 ⟨⟨r, rfl, hr⟩, hb⟩
                            have HS5 : Hid (CmS w w1 w5 X R ⟨2, z, ⟨i, 0, [], [], [], 0, 0, 0, 0⟩, [], 0, []⟩ nilV nilV) := HSa.out.later (((Below.refl _ wa).drew).trans hb)
                            have HR5 := mkH hr
                            obtain ⟨y0, y1, y2, y3, y4, y5, y6, y7, y8, y9, y10, y11, y12, y13⟩ := HS5.out.x.cm
                            simp only at y0 y1 y2 y3 y4 y5 y6 y7 y8 y9 y10 y11 y12 y13
                            have f2 := HS5.out.x.fz 2 (by simp [cmLst])
                            have f3 := HS5.out.x.fz 3 (by simp [cmLst])
                            have f4 := HS5.out.x.fz 4 (by simp [cmLst])
                            have f5 := HS5.out.x.fz 5 (by simp [cmLst])
                            have f6 := HS5.out.x.fz 6 (by simp [cmLst])
                            have f7 := HS5.out.x.fz 7 (by simp [cmLst])
                            have f8 := HS5.out.x.fz 8 (by simp [cmLst])
                            have f9 := HS5.out.x.fz 9 (by simp [cmLst])
                            have f10 := HS5.out.x.fz 10 (by simp [cmLst])
                            clear hb hr)
            all_goals
              have HE : Hid (RdE line w w1 (rqPut w5 X 2 r) X R) := ⟨⟨2, z, r, [], 0, []⟩, _, _, ⟨ho64, hz64, HR5.out.wf, i0, by simp⟩, ⟨by have := HR5.out.t; simp only; omega, by have := HR5.out.k; simp only; omega, by have := HR5.out.v; simp only; omega⟩, HRS.out i r HI.out HR5.out, fun u' _ => ⟨bys_nil u', pks_nil u'⟩, HS5.out.putRq r⟩
              clear HS5 HR5 y0 y1 y2 y3 y4 y5 y6 y7 y8 y9 y10 y11 y12 y13 f2 f3 f4 f5 f6 f7 f8 f9 f10
              go_wp2_with fail
              go_meet
              case rel => exact ⟨rfl, HE⟩
          · have n2 : (o == 2) = false := by simpa using h2
            by_cases h3 : o = 3
            · subst h3
              have HRR : Hid (∀ b, (∀ q, y = rawT q → b = q) → RdC line ⟨3, z, Rq.zero, b, 0, []⟩) := fun b hb => rd_raw HS2.out hb
              have HXB : Hid (X < wc.heap.size) := HS'.out.x.lt
              obtain ⟨B, hB⟩ : ∃ B, wc.heap.size = B := ⟨_, rfl⟩
              rw [hB] at HXB
              have HBB : Hid (B ≤ wc.heap.size) := by unfold Hid; omega
              have HCY : Hid (∀ u, Below w1.heap.size w1 u → u.cell? ⟨bl, o', none⟩ = some (.string (ba y))) := fun u hu => HT'.out.c u hu 0 (by simp)
              have sy : (ba y).size = y.length := rfl
              clear HN HS2 cy hB
              go_wp2_with fail
              go_loopw [6] (fun i wl => ∃ (k : Nat) (b : By) (a : Option Addr) (cap : Nat), k ≤ y.length + 1 ∧ i = .int .i64 k ∧ Hid (RdB y k b) ∧ Hid (b.length ≤ k) ∧ Hid (CmS w w1 wl X R ⟨3, z, Rq.zero, b, 0, []⟩ (.slice a b.length cap) nilV) ∧ Hid (Gy B wl (.slice a b.length cap) b) ∧ Hid (B ≤ wl.heap.size)) (fun i _ => y.length + 3 - (intOf i).toNat)
              case atStart => exact ⟨0, [], none, 0, Nat.zero_le _, rfl, RdB.start y, Nat.le_refl _, HS', Gy.nil B wc, HBB⟩
              case round =>
                clear HS' HBB
                obtain ⟨k, b, a, cap, hk, rfl, HK, HBL, HS, HG, HBB⟩ := hrel
                have cy := HCY.out _ HS.out.be
                by_cases hp2 : k + 1 < y.length
                · have hki2 : (k : Int) + 1 < (y.length : Int) := by omega
                  have HKN : Hid (RdB y (k + 2) (b ++ [UInt8.ofNat (hxV (y.getD k 0) * 16 + hxV (y.getD (k + 1) 0))])) := HK.out.next hp2
                  have hk0b : k < (ba y).size := by rw [sy]; omega
                  have hk1b : k + 1 < (ba y).size := by rw [sy]; omega
                  have hy2 : (((ba y)[k]'hk0b).toNat : Int) = ((y.getD k 0).toNat : Int) := by rw [ba_get hk0b]
                  have hy3 : (((ba y)[k + 1]'hk1b).toNat : Int) = ((y.getD (k + 1) 0).toNat : Int) := by rw [ba_get hk1b]
                  have D2 : Hid (∀ u, Calls Tryz.prog 56 #[.int .u8 ((y.getD k 0).toNat : Int)] u fun e w' => e = .returned (.int .u8 (hxV (y.getD k 0) : Int)) ∧ w' = u) := rdigitOf _
                  have D3 : Hid (∀ u, Calls Tryz.prog 56 #[.int .u8 ((y.getD (k + 1) 0).toNat : Int)] u fun e w' => e = .returned (.int .u8 (hxV (y.getD (k + 1) 0) : Int)) ∧ w' = u) := rdigitOf _
                  have v2 := hxV_lt (y.getD k 0)
                  have v3 := hxV_lt (y.getD (k + 1) 0)
                  have HE1 : Hid ((((UInt8.ofNat (hxV (y.getD k 0) * 16 + hxV (y.getD (k + 1) 0))).toNat : Nat) : Int) = (hxV (y.getD k 0) : Int) * 16 + (hxV (y.getD (k + 1) 0) : Int)) := by
                    unfold Hid
                    rw [UInt8.toNat_ofNat_of_lt' (by show _ < 256; omega)]
                    omega
                  generalize UInt8.ofNat (hxV (y.getD k 0) * 16 + hxV (y.getD (k + 1) 0)) = e1 at *
                  generalize hxV (y.getD k 0) = x2 at *
                  generalize hxV (y.getD (k + 1) 0) = x3 at *
                  generalize y.getD k 0 = b2 at *
                  generalize y.getD (k + 1) 0 = b3 at *
                  have hm1 : IntKind.u8.wrap ((x2 : Int) * 16) = (x2 : Int) * 16 := by rw [IntKind.wrap_u8]; omega
                  have hm2 : IntKind.u8.wrap ((x2 : Int) * 16 + (x3 : Int)) = (e1.toNat : Int) := by rw [IntKind.wrap_u8, HE1.out]; omega
                  have hi2 : IntKind.i64.wrap ((k : Int) + 1) = (k : Int) + 1 := by rw [IntKind.wrap_i64]; omega
                  have ix2 : ∀ u, (Instr.index 9 (.string (ba y)) (.int .i64 (k : Int))).run Tryz.prog u = .ok (.int .u8 (b2.toNat : Int)) u := fun u => by
                    rw [run_index_string u 9 (ba y) .i64 _ Tryz.underlying9, dif_pos ⟨by omega, by rw [sy]; omega⟩]
                    have : ((k : Int)).toNat = k := by omega
                    simp only [this, hy2]
                  have ix3 : ∀ u, (Instr.index 9 (.string (ba y)) (.int .i64 ((k : Int) + 1))).run Tryz.prog u = .ok (.int .u8 (b3.toNat : Int)) u := fun u => by
                    rw [run_index_string u 9 (ba y) .i64 _ Tryz.underlying9, dif_pos ⟨by omega, by rw [sy]; omega⟩]
                    have : ((k : Int) + 1).toNat = k + 1 := by omega
                    simp only [this, hy3]
                  have z11 := HS.out.x.cm.c11
                  have hBs : B ≤ wr.heap.size := HBB.out
                  obtain ⟨N, hN⟩ : ∃ N, b.length = N := ⟨_, rfl⟩
                  have HNN := mkH hN
                  rw [hN] at z11
                  clear hN HE1 HK
                  have hbD : Below wr.heap.size wr wr.drew := (Below.refl _ wr).drew
                  have hbA : ∀ n : Int, Below wr.heap.size wr (wr.drew.alloc (.cells #[.int .u8 n] 5)) := fun n => hbD.alloc (Nat.le_refl _) _
                  have s01 : wr.drew.cell? ⟨X, 11, none⟩ = some (.slice a N cap) := (hbD.cell (cell_lt z11)).trans z11
                  have s02 : wr.drew.cell? ⟨bl, o', none⟩ = some (.string (ba y)) := (hbD.cell (cell_lt cy)).trans cy
                  have s11 : ∀ n : Int, (wr.drew.alloc (.cells #[.int .u8 n] 5)).cell? ⟨X, 11, none⟩ = some (.slice a N cap) := fun n => ((hbA n).cell (cell_lt z11)).trans z11
                  have s12 : ∀ n : Int, (wr.drew.alloc (.cells #[.int .u8 n] 5)).cell? ⟨bl, o', none⟩ = some (.string (ba y)) := fun n => ((hbA n).cell (cell_lt cy)).trans cy
                  have HBA := mkH hbA
                  clear hbA hbD
                  go_wp2_with fail
                  refine wp_region_noPanic ?_
                  refine Till.start 20 (S := fun u => u.cell? ⟨X, 11, none⟩ = some (.slice a N cap) ∧ u.cell? ⟨bl, o', none⟩ = some (.string (ba y))) (by kernel_rfl) ⟨s01, s02⟩ (fun hHeld => ?_)
                  refine' Till.take 0 rfl (by kernel_rfl) (by kernel_rfl) (by kernel_rfl) (by kernel_rfl) (fun _ _ _ h => h) (Or.inl ⟨by rfl, ?_⟩) (by assumption) ?_
                  rotate_left
                  · (intro w hSw; (try dsimp only at hSw); go_simp <;> with_reducible rfl)
                  try simp only [Act.put, List.setIfInBounds_toArray, List.set_cons_zero, List.set_cons_succ]
                  refine' Till.take 1 rfl (by kernel_rfl) (by kernel_rfl) (by kernel_rfl) (by kernel_rfl) (fun _ _ _ h => h) (Or.inl ⟨by rfl, ?_⟩) (by assumption) ?_
                  rotate_left
                  · (intro w hSw; (try dsimp only at hSw); go_simp <;> with_reducible rfl)
                  try simp only [Act.put, List.setIfInBounds_toArray, List.set_cons_zero, List.set_cons_succ]
                  refine' Till.take 2 rfl (by kernel_rfl) (by kernel_rfl) (by kernel_rfl) (by kernel_rfl) (fun _ _ _ h => h) (Or.inl ⟨by rfl, ?_⟩) (by assumption) ?_
                  rotate_left
                  · (intro w hSw; (try dsimp only at hSw); go_simp <;> with_reducible rfl)
                  try simp only [Act.put, List.setIfInBounds_toArray, List.set_cons_zero, List.set_cons_succ]
                  refine' Till.take 3 rfl (by kernel_rfl) (by kernel_rfl) (by kernel_rfl) (by kernel_rfl) (fun _ _ _ h => h) (Or.inl ⟨by rfl, ?_⟩) (by assumption) ?_
                  rotate_left
                  · (intro w hSw; (try dsimp only at hSw); go_simp <;> with_reducible rfl)
                  try simp only [Act.put, List.setIfInBounds_toArray, List.set_cons_zero, List.set_cons_succ]
                  refine' Till.take 4 rfl (by kernel_rfl) (by kernel_rfl) (by kernel_rfl) (by kernel_rfl) (fun _ _ _ h => h) (Or.inl ⟨by rfl, ?_⟩) (by assumption) ?_
                  rotate_left
                  · (intro w hSw; (try dsimp only at hSw); go_simp <;> with_reducible rfl)
                  try simp only [Act.put, List.setIfInBounds_toArray, List.set_cons_zero, List.set_cons_succ]
                  refine' Till.take 5 rfl (by kernel_rfl) (by kernel_rfl) (by kernel_rfl) (by kernel_rfl) (fun _ _ _ h => h) (Or.inl ⟨by rfl, ?_⟩) (by assumption) ?_
                  rotate_left
                  · (intro w hSw; (try dsimp only at hSw); go_simp <;> with_reducible rfl)
                  try simp only [Act.put, List.setIfInBounds_toArray, List.set_cons_zero, List.set_cons_succ]
                  refine' Till.take 6 rfl (by kernel_rfl) (by kernel_rfl) (by kernel_rfl) (by kernel_rfl) (fun _ _ _ h => h) (Or.inl ⟨by rfl, ?_⟩) (by assumption) ?_
                  rotate_left
                  · (intro w hSw; (try dsimp only at hSw); go_simp <;> with_reducible rfl)
                  try simp only [Act.put, List.setIfInBounds_toArray, List.set_cons_zero, List.set_cons_succ]
                  refine' Till.take 9 rfl (by kernel_rfl) (by kernel_rfl) (by kernel_rfl) (by kernel_rfl) (fun _ _ _ h => h) (Or.inl ⟨by rfl, ?_⟩) (by assumption) ?_
                  rotate_left
                  · (intro w hSw; (try dsimp only at hSw); go_simp <;> with_reducible rfl)
                  try simp only [Act.put, List.setIfInBounds_toArray, List.set_cons_zero, List.set_cons_succ]
                  refine' Till.take 10 rfl (by kernel_rfl) (by kernel_rfl) (by kernel_rfl) (by kernel_rfl) (fun _ _ _ h => h) (Or.inl ⟨by rfl, ?_⟩) (by assumption) ?_
                  rotate_left
                  · (intro w hSw; (try dsimp only at hSw); go_simp <;> with_reducible rfl)
                  try simp only [Act.put, List.setIfInBounds_toArray, List.set_cons_zero, List.set_cons_succ]
                  refine' Till.take 11 rfl (by kernel_rfl) (by kernel_rfl) (by kernel_rfl) (by kernel_rfl) (fun _ _ _ h => h) (Or.inl ⟨by rfl, ?_⟩) (by assumption) ?_
                  rotate_left
                  · (intro w hSw; (try dsimp only at hSw); go_simp <;> with_reducible rfl)
                  try simp only [Act.put, List.setIfInBounds_toArray, List.set_cons_zero, List.set_cons_succ]
                  refine' Till.take 12 rfl (by kernel_rfl) (by kernel_rfl) (by kernel_rfl) (by kernel_rfl) (fun _ _ _ h => h) (Or.inl ⟨by rfl, ?_⟩) (by assumption) ?_
                  rotate_left
                  · (intro w hSw; (try dsimp only at hSw); go_simp <;> with_reducible rfl)
                  try simp only [Act.put, List.setIfInBounds_toArray, List.set_cons_zero, List.set_cons_succ]
                  refine' Till.take 13 rfl (by kernel_rfl) (by kernel_rfl) (by kernel_rfl) (by kernel_rfl) (fun _ _ _ h => h) (Or.inl ⟨by rfl, ?_⟩) (by assumption) ?_
                  rotate_left
                  · (intro w hSw; (try dsimp only at hSw); go_simp <;> with_reducible rfl)
                  try simp only [Act.put, List.setIfInBounds_toArray, List.set_cons_zero, List.set_cons_succ]
                  refine' Till.take 14 rfl (by kernel_rfl) (by kernel_rfl) (by kernel_rfl) (by kernel_rfl) (fun _ _ _ h => h) (Or.inl ⟨by rfl, ?_⟩) (by assumption) ?_
                  rotate_left
                  · (intro w hSw; (try dsimp only at hSw); go_simp <;> with_reducible rfl)
                  try simp only [Act.put, List.setIfInBounds_toArray, List.set_cons_zero, List.set_cons_succ]
                  refine Till.one 7 (by kernel_rfl) rfl (fun K hK => ?_)
                  go_simp
                  go_at_call 56
                  refine (D2.out _).mono ?_
                  rintro e w9 ⟨rfl, rfl⟩
                  refine hK.out _ _ ?_ (fun hHeld => ?_)
                  · exact ⟨s01, s02⟩
                  clear hK K
                  try simp only [Act.put, List.setIfInBounds_toArray, List.set_cons_zero, List.set_cons_succ]
                  refine' Till.take 8 rfl (by kernel_rfl) (by kernel_rfl) (by kernel_rfl) (by kernel_rfl) (fun _ _ _ h => h) (Or.inl ⟨by rfl, ?_⟩) (by assumption) ?_
                  rotate_left
                  · (intro w hSw; (try dsimp only at hSw); go_simp <;> with_reducible rfl)
                  try simp only [Act.put, List.setIfInBounds_toArray, List.set_cons_zero, List.set_cons_succ]
                  refine Till.one 15 (by kernel_rfl) rfl (fun K hK => ?_)
                  go_simp
                  go_at_call 56
                  refine (D3.out _).mono ?_
                  rintro e w9 ⟨rfl, rfl⟩
                  refine hK.out _ _ ?_ (fun hHeld => ?_)
                  · exact ⟨s01, s02⟩
                  clear hK K
                  try simp only [Act.put, List.setIfInBounds_toArray, List.set_cons_zero, List.set_cons_succ]
                  refine' Till.take 16 rfl (by kernel_rfl) (by kernel_rfl) (by kernel_rfl) (by kernel_rfl) (fun _ _ _ h => h) (Or.inl ⟨by rfl, ?_⟩) (by assumption) ?_
                  rotate_left
                  · (intro w hSw; (try dsimp only at hSw); go_simp <;> with_reducible rfl)
                  try simp only [Act.put, List.setIfInBounds_toArray, List.set_cons_zero, List.set_cons_succ]
                  refine Till.one 17 (by kernel_rfl) rfl (fun K hK => ?_)
                  go_simp
                  refine hK.out _ _ ?_ (fun hHeld => ?_)
                  · exact ⟨s11 _, s12 _⟩
                  clear hK K
                  try simp only [Act.put, List.setIfInBounds_toArray, List.set_cons_zero, List.set_cons_succ]
                  refine Till.one 18 (by kernel_rfl) rfl (fun K hK => ?_)
                  refine step_append_gy (B := B) (w := wr) rfl (.tmp 100) (.tmp 116) rfl (.slice a N cap) (.slice (some ⟨wr.heap.size, 0, none⟩) 1 1) b e1 (by first | rfl | simp [Act.eval, Act.put]) (by first | rfl | simp [Act.eval, Act.put]) (by rw [← HNN.out]; exact HG.out) (HBA.out _) (by simp; omega) (src_gb wr.drew e1 5) (by have := HBL.out; omega) ?_
                  intro v' w7 r7 hg7 hgr hr7
                  have HS7 : Hid (CmS w w1 w7 X R ⟨3, z, Rq.zero, b, 0, []⟩ (.slice a N cap) nilV) := by
                    unfold Hid
                    rw [← HNN.out]
                    exact (HS.out.later (HBA.out _)).grown hgr HXB.out hr7
                  obtain ⟨a7, c7, rfl⟩ := hg7.slice
                  have y11 := HS7.out.x.cm.c11
                  have f11 := HS7.out.x.fz 11 (by simp [cmLst])
                  have cy7 := HCY.out _ HS7.out.be
                  have HG7 := mkH hg7
                  have HB7 : Hid (B ≤ w7.heap.size) := by
                    have := hgr.size
                    have h8 : wr.heap.size + 1 ≤ w7.heap.size := by simpa using this
                    exact (by omega : B ≤ w7.heap.size)
                  clear hg7 hgr hr7
                  refine hK.out _ _ ?_ (fun hHeld => ?_)
                  · exact ⟨y11, cy7⟩
                  clear hK K
                  try simp only [Act.put, List.setIfInBounds_toArray, List.set_cons_zero, List.set_cons_succ]
                  refine' Till.take 19 rfl (by kernel_rfl) (by kernel_rfl) (by kernel_rfl) (by kernel_rfl) (fun _ _ _ h => h) (Or.inl ⟨by rfl, ?_⟩) (by assumption) ?_
                  rotate_left
                  · (intro w hSw; (try dsimp only at hSw); go_simp <;> with_reducible rfl)
                  try simp only [Act.put, List.setIfInBounds_toArray, List.set_cons_zero, List.set_cons_succ]
                  refine Till.last (by kernel_rfl) (by kernel_rfl) rfl (fun K hK => ?_)
                  go_simp
                  refine hK.out _ _ ?_
                  clear hK K
                  try simp only [Act.put, List.setIfInBounds_toArray, List.set_cons_zero, List.set_cons_succ]
                  refine NoPanic.normal ?_
                  all_goals
                    have hl1 : (b ++ [e1]).length = b.length + 1 := by simp
                    have HS8 : Hid (CmS w w1 (w7.setCell ⟨X, 11, none⟩ (.slice a7 (b.length + 1) c7)) X R ⟨3, z, Rq.zero, b ++ [e1], 0, []⟩ (.slice a7 (b.length + 1) c7) nilV) := HS7.out.put (i := 11) (by omega) _ rfl
                    have HG8 : Hid (Gy B (w7.setCell ⟨X, 11, none⟩ (.slice a7 (b.length + 1) c7)) (.slice a7 (b.length + 1) c7) (b ++ [e1])) := by
                      have := HG7.out.kept (grow_set w7 X 11 (.slice a7 (b.length + 1) c7)) HXB.out
                      rw [hl1] at this
                      exact this
                    have HB8 : Hid (B ≤ (w7.setCell ⟨X, 11, none⟩ (.slice a7 (b.length + 1) c7)).heap.size) := Nat.le_trans HB7.out (grow_set w7 X 11 _).size
                    have HL1 := mkH hl1
                    have HBL8 : Hid ((b ++ [e1]).length ≤ k + 2) := by unfold Hid; rw [hl1]; have := HBL.out; omega
                    clear HS7 HG7 HB7 hl1 y11 f11 z11 cy cy7 s01 s02 s11 s12 HBA hHeld
                    go_wp2
                    go_roundw
                    case rel => exact ⟨k + 2, b ++ [e1], a7, c7, by omega, by first | go_num | exact congrArg (Value.int .i64) (by omega), HKN, HBL8, by rw [HL1.out]; exact HS8, by rw [HL1.out]; exact HG8, HB8⟩
                    case measure => simp [intOf]; omega
                · have hki2 : ¬ (k : Int) + 1 < (y.length : Int) := by omega
                  have HE : Hid (RdE line w w1 wr X R) := ⟨⟨3, z, Rq.zero, b, 0, []⟩, _, _, ⟨ho64, hz64, wf_zero, i0, by simp⟩, sz_zero _ _ _ _ _, HRR.out b (HK.out.done hp2), fun u' hg => ⟨(HG.out.up hg (by have := HS.out.rl; have := HS.out.x.ge; have := HXB.out; omega)).reads (by have := HBL.out; omega), pks_nil u'⟩, HS.out⟩
                  clear HS HG HK
                  go_wp2_with fail
                  go_meet
                  case rel => exact ⟨rfl, HE⟩
            · have n3 : (o == 3) = false := by simpa using h3
              by_cases h58 : o = 5 ∨ o = 8
              · have HRP : Hid (∀ l, PkR (y :: T2) (y :: T2).length l → RdC line ⟨o, z, Rq.zero, [], 0, l⟩) := fun l hl => rd_picks HS2.out h58 hl
                have hc5 : ((o == 5) || (o == 8)) = true := by simp; omega
                have HXB : Hid (X < wc.heap.size) := HS'.out.x.lt
                obtain ⟨B, hB⟩ : ∃ B, wc.heap.size = B := ⟨_, rfl⟩
                rw [hB] at HXB
                have HBB : Hid (B ≤ wc.heap.size) := by unfold Hid; omega
                have hcase : ((o == 5) = true) ∨ ((o == 5) = false ∧ (o == 8) = true) := by
                  rcases h58 with e | e
                  · exact .inl (by rw [e]; rfl)
                  · exact .inr ⟨by rw [e]; rfl, by rw [e]; rfl⟩
                clear HN HS2 h58 hc5 cy hyl hlb hB
                obtain ⟨TT, hTT⟩ : ∃ TT, y :: T2 = TT := ⟨_, rfl⟩
                rw [hTT] at HT' HRP
                have hTTl : TT.length = T2.length + 1 := by rw [← hTT]; simp
                rw [← hTTl]
                have hTT4 : TT.length ≤ 4097 := by omega
                have hTT0 : (((TT.length : Nat) : Int) == 0) = false := by rw [beq_eq_false_iff_ne]; omega
                have HTT := mkH hTT
                clear hTTl hTT hll hlen' hcap'
                rcases hcase with e5 | ⟨e5, e8⟩
                · go_wp2_with fail
                  go_loopw [7] (fun i wl => ∃ (k : Nat) (l : List Int) (a : Option Addr) (cap : Nat), k ≤ TT.length ∧ i = .int .i64 k ∧ Hid (PkR TT k l) ∧ Hid (CmS w w1 wl X R ⟨o, z, Rq.zero, [], 0, l⟩ nilV (.slice a l.length cap)) ∧ Hid (Gi B wl (.slice a l.length cap) l) ∧ Hid (B ≤ wl.heap.size)) (fun i _ => TT.length - (intOf i).toNat)
                  case atStart => exact ⟨0, [], none, 0, Nat.zero_le _, rfl, PkR.start TT, HS', Gi.nil B wc, HBB⟩
                  case round =>
                    clear HS' HBB
                    obtain ⟨k, l, a, cap, hk, rfl, HK, HS, HG, HBB⟩ := hrel
                    have hll2 : l.length = k := HK.out.len
                    by_cases hp2 : k < TT.length
                    · have hki2 : (k : Int) < (TT.length : Int) := by omega
                      have cx := HT'.out.c _ HS.out.be k hp2
                      have hxl : (TT.getD k []).length ≤ 4096 := HT'.out.sz _ (by rw [List.getD_eq_getElem?_getD, List.getElem?_eq_getElem hp2]; exact List.getElem_mem hp2)
                      have HKN : Hid (∀ n, I64 n → (∀ m, I64 m → TT.getD k [] = Lib.itoa m → n = m) → PkR TT (k + 1) (l ++ [n])) := fun n h1 h2 => HK.out.next h1 h2
                      generalize TT.getD k [] = q at *
                      have HNq := mkH (rreadNumberOf q (by omega))
                      have z13 := HS.out.x.cm.c13
                      have hBs : B ≤ wr.heap.size := HBB.out
                      have HLL := mkH hll2
                      obtain ⟨N, hN⟩ : ∃ N, l.length = N := ⟨_, rfl⟩
                      have HNN := mkH hN
                      rw [hN] at z13
                      clear hll2 hN
                      have z13a : ∀ n : Int, (wr.alloc (.cells #[.int .i64 n] 3)).cell? ⟨X, 13, none⟩ = some (.slice a N cap) := fun n => by rw [((Below.refl _ wr).alloc (Nat.le_refl _) _ : Below wr.heap.size wr _).cell (cell_lt z13)]; exact z13
                      go_wp2_with fail
                      go_region_law (first
                        | (refine step_append_gi (B := B) (w := wr) rfl (.tmp 135) (.tmp 141) rfl (.slice a N cap) (.slice (some ⟨wr.heap.size, 0, none⟩) 1 1) l _ (by first | rfl | simp [Act.eval, Act.put]) (by first | rfl | simp [Act.eval, Act.put]) (by rw [← HNN.out]; exact HG.out) (by first | exact ((Below.refl _ wr).drew).alloc (Nat.le_refl _) _ | exact ((Below.refl _ wr).alloc (Nat.le_refl _) _).drew) (by simp; omega) (by first | exact srcOne wr.drew _ | exact srcOne wr _) (by have := HLL.out; omega) ?_
                           intro v' w7 r7 hg7 hgr hr7
                           have HS7 : Hid (CmS w w1 w7 X R ⟨o, z, Rq.zero, [], 0, l⟩ nilV (.slice a N cap)) := by
                             unfold Hid
                             rw [← HNN.out]
                             exact (HS.out.later (by first | exact ((Below.refl _ wr).drew).alloc (Nat.le_refl _) _ | exact ((Below.refl _ wr).alloc (Nat.le_refl _) _).drew)).grown hgr HXB.out hr7
                           obtain ⟨a7, c7, rfl⟩ := hg7.slice
                           have y13 := HS7.out.x.cm.c13
                           have f13 := HS7.out.x.fz 13 (by simp [cmLst])
                           have HG7 := mkH hg7
                           have HB7 : Hid (B ≤ w7.heap.size) := by
                             have := hgr.size
                             have h8 : wr.heap.size + 1 ≤ w7.heap.size := by simpa using this
                             exact (by omega : B ≤ w7.heap.size)
                           clear hg7 hgr hr7)
                        | (go_simp; go_at_call_of 54 (Value.string (ba q)); refine (HNq.out _).mono ?_; rintro e w9 ⟨⟨n, rfl, hn64, hn⟩, rfl⟩))
                      all_goals
                        have hl1 : (l ++ [n]).length = l.length + 1 := by simp
                        have HS8 : Hid (CmS w w1 (w7.setCell ⟨X, 13, none⟩ (.slice a7 (l.length + 1) c7)) X R ⟨o, z, Rq.zero, [], 0, l ++ [n]⟩ nilV (.slice a7 (l.length + 1) c7)) := HS7.out.put (i := 13) (by omega) _ rfl
                        have HG8 : Hid (Gi B (w7.setCell ⟨X, 13, none⟩ (.slice a7 (l.length + 1) c7)) (.slice a7 (l.length + 1) c7) (l ++ [n])) := by
                          have := HG7.out.kept (grow_set w7 X 13 (.slice a7 (l.length + 1) c7)) HXB.out
                          rw [hl1] at this
                          exact this
                        have HB8 : Hid (B ≤ (w7.setCell ⟨X, 13, none⟩ (.slice a7 (l.length + 1) c7)).heap.size) := Nat.le_trans HB7.out (grow_set w7 X 13 _).size
                        have HK8 := mkH (HKN.out n hn64 hn)
                        have HL1 := mkH hl1
                        clear HS7 HG7 HB7 HKN hn hl1 y13 f13 z13a z13 cx
                        go_wp2
                        go_roundw
                        case rel => exact ⟨k + 1, l ++ [n], a7, c7, by omega, by go_num, HK8, by rw [HL1.out]; exact HS8, by rw [HL1.out]; exact HG8, HB8⟩
                        case measure => simp [intOf]; omega
                    · have hki2 : ¬ (k : Int) < (TT.length : Int) := by omega
                      have hkT : k = TT.length := by omega
                      have HE : Hid (RdE line w w1 wr X R) := ⟨⟨o, z, Rq.zero, [], 0, l⟩, _, _, ⟨ho64, hz64, wf_zero, i0, HK.out.i64⟩, sz_zero _ _ _ _ _, HRP.out l (by rw [← hkT]; exact HK.out), fun u' hg => ⟨bys_nil u', (HG.out.up hg (by have := HS.out.rl; have := HS.out.x.ge; have := HXB.out; omega)).reads (by omega)⟩, HS.out⟩
                      clear HS HG HK hkT
                      go_wp2_with fail
                      rw [← HTT.out]
                      go_meet
                      case rel => exact ⟨rfl, HE⟩
                · go_wp2_with fail
                  go_loopw [7] (fun i wl => ∃ (k : Nat) (l : List Int) (a : Option Addr) (cap : Nat), k ≤ TT.length ∧ i = .int .i64 k ∧ Hid (PkR TT k l) ∧ Hid (CmS w w1 wl X R ⟨o, z, Rq.zero, [], 0, l⟩ nilV (.slice a l.length cap)) ∧ Hid (Gi B wl (.slice a l.length cap) l) ∧ Hid (B ≤ wl.heap.size)) (fun i _ => TT.length - (intOf i).toNat)
                  case atStart => exact ⟨0, [], none, 0, Nat.zero_le _, rfl, PkR.start TT, HS', Gi.nil B wc, HBB⟩
                  case round =>
                    clear HS' HBB
                    obtain ⟨k, l, a, cap, hk, rfl, HK, HS, HG, HBB⟩ := hrel
                    have hll2 : l.length = k := HK.out.len
                    by_cases hp2 : k < TT.length
                    · have hki2 : (k : Int) < (TT.length : Int) := by omega
                      have cx := HT'.out.c _ HS.out.be k hp2
                      have hxl : (TT.getD k []).length ≤ 4096 := HT'.out.sz _ (by rw [List.getD_eq_getElem?_getD, List.getElem?_eq_getElem hp2]; exact List.getElem_mem hp2)
                      have HKN : Hid (∀ n, I64 n → (∀ m, I64 m → TT.getD k [] = Lib.itoa m → n = m) → PkR TT (k + 1) (l ++ [n])) := fun n h1 h2 => HK.out.next h1 h2
                      generalize TT.getD k [] = q at *
                      have HNq := mkH (rreadNumberOf q (by omega))
                      have z13 := HS.out.x.cm.c13
                      have hBs : B ≤ wr.heap.size := HBB.out
                      have HLL := mkH hll2
                      obtain ⟨N, hN⟩ : ∃ N, l.length = N := ⟨_, rfl⟩
                      have HNN := mkH hN
                      rw [hN] at z13
                      clear hll2 hN
                      have z13a : ∀ n : Int, (wr.alloc (.cells #[.int .i64 n] 3)).cell? ⟨X, 13, none⟩ = some (.slice a N cap) := fun n => by rw [((Below.refl _ wr).alloc (Nat.le_refl _) _ : Below wr.heap.size wr _).cell (cell_lt z13)]; exact z13
                      go_wp2_with fail
                      go_region_law (first
                        | (refine step_append_gi (B := B) (w := wr) rfl (.tmp 135) (.tmp 141) rfl (.slice a N cap) (.slice (some ⟨wr.heap.size, 0, none⟩) 1 1) l _ (by first | rfl | simp [Act.eval, Act.put]) (by first | rfl | simp [Act.eval, Act.put]) (by rw [← HNN.out]; exact HG.out) (by first | exact ((Below.refl _ wr).drew).alloc (Nat.le_refl _) _ | exact ((Below.refl _ wr).alloc (Nat.le_refl _) _).drew) (by simp; omega) (by first | exact srcOne wr.drew _ | exact srcOne wr _) (by have := HLL.out; omega) ?_
                           intro v' w7 r7 hg7 hgr hr7
                           have HS7 : Hid (CmS w w1 w7 X R ⟨o, z, Rq.zero, [], 0, l⟩ nilV (.slice a N cap)) := by
                             unfold Hid
                             rw [← HNN.out]
                             exact (HS.out.later (by first | exact ((Below.refl _ wr).drew).alloc (Nat.le_refl _) _ | exact ((Below.refl _ wr).alloc (Nat.le_refl _) _).drew)).grown hgr HXB.out hr7
                           obtain ⟨a7, c7, rfl⟩ := hg7.slice
                           have y13 := HS7.out.x.cm.c13
                           have f13 := HS7.out.x.fz 13 (by simp [cmLst])
                           have HG7 := mkH hg7
                           have HB7 : Hid (B ≤ w7.heap.size) := by
                             have := hgr.size
                             have h8 : wr.heap.size + 1 ≤ w7.heap.size := by simpa using this
                             exact (by omega : B ≤ w7.heap.size)
                           clear hg7 hgr hr7)
                        | (go_simp; go_at_call_of 54 (Value.string (ba q)); refine (HNq.out _).mono ?_; rintro e w9 ⟨⟨n, rfl, hn64, hn⟩, rfl⟩))
                      all_goals
                        have hl1 : (l ++ [n]).length = l.length + 1 := by simp
                        have HS8 : Hid (CmS w w1 (w7.setCell ⟨X, 13, none⟩ (.slice a7 (l.length + 1) c7)) X R ⟨o, z, Rq.zero, [], 0, l ++ [n]⟩ nilV (.slice a7 (l.length + 1) c7)) := HS7.out.put (i := 13) (by omega) _ rfl
                        have HG8 : Hid (Gi B (w7.setCell ⟨X, 13, none⟩ (.slice a7 (l.length + 1) c7)) (.slice a7 (l.length + 1) c7) (l ++ [n])) := by
                          have := HG7.out.kept (grow_set w7 X 13 (.slice a7 (l.length + 1) c7)) HXB.out
                          rw [hl1] at this
                          exact this
                        have HB8 : Hid (B ≤ (w7.setCell ⟨X, 13, none⟩ (.slice a7 (l.length + 1) c7)).heap.size) := Nat.le_trans HB7.out (grow_set w7 X 13 _).size
                        have HK8 := mkH (HKN.out n hn64 hn)
                        have HL1 := mkH hl1
                        clear HS7 HG7 HB7 HKN hn hl1 y13 f13 z13a z13 cx
                        go_wp2
                        go_roundw
                        case rel => exact ⟨k + 1, l ++ [n], a7, c7, by omega, by go_num, HK8, by rw [HL1.out]; exact HS8, by rw [HL1.out]; exact HG8, HB8⟩
                        case measure => simp [intOf]; omega
                    · have hki2 : ¬ (k : Int) < (TT.length : Int) := by omega
                      have hkT : k = TT.length := by omega
                      have HE : Hid (RdE line w w1 wr X R) := ⟨⟨o, z, Rq.zero, [], 0, l⟩, _, _, ⟨ho64, hz64, wf_zero, i0, HK.out.i64⟩, sz_zero _ _ _ _ _, HRP.out l (by rw [← hkT]; exact HK.out), fun u' hg => ⟨bys_nil u', (HG.out.up hg (by have := HS.out.rl; have := HS.out.x.ge; have := HXB.out; omega)).reads (by omega)⟩, HS.out⟩
                      clear HS HG HK hkT
                      go_wp2_with fail
                      rw [← HTT.out]
                      go_meet
                      case rel => exact ⟨rfl, HE⟩
              · have n5 : (o == 5) = false := by simp; omega
                have n8 : (o == 8) = false := by simp; omega
                have HRN : Hid (∀ n, (∀ m, I64 m → y = Lib.itoa m → n = m) → RdC line ⟨o, z, Rq.zero, [], n, []⟩) := fun n hn => rd_n HS2.out h2 h3 (by omega) (by omega) hn
                have z12 := HS'.out.x.cm.c12
                have f12 := HS'.out.x.fz 12 (by simp [cmLst])
                go_wp2_with fail
                refine (HN.out _).mono ?_
                rintro e w3 ⟨⟨n, rfl, hn64, hn⟩, hw3⟩
                obtain rfl : wc = w3 := hw3.symm
                have HE : Hid (RdE line w w1 (wc.setCell ⟨X, 12, none⟩ (.int .i64 n)) X R) := ⟨⟨o, z, Rq.zero, [], n, []⟩, _, _, ⟨ho64, hz64, wf_zero, hn64, by simp⟩, sz_zero _ _ _ _ _, HRN.out n hn, fun u' _ => ⟨bys_nil u', pks_nil u'⟩, HS'.out.put (by omega) _ rfl⟩
                clear HRN HN hn HS2 HS' hw3
                go_wp2_with fail
                go_meet
                case rel => exact ⟨rfl, HE⟩
      case rest =>
      obtain ⟨rfl, HE⟩ := hcut
      clear HS' HS2 HT' z0
      obtain ⟨c, vr, vp, hwf, hsz, hrd, hrow, hS⟩ := HE.out
      obtain ⟨⟨ar, cr, er, _⟩, ⟨ap, cp, ep, _⟩⟩ := hrow wc (Up.refl _ _)
      obtain ⟨nr, hnr⟩ : ∃ n, c.raw.length = n := ⟨_, rfl⟩
      obtain ⟨np, hnp⟩ : ∃ n, c.picks.length = n := ⟨_, rfl⟩
      rw [hnr] at er
      rw [hnp] at ep
      subst er ep
      clear hnr hnp
      have HS := mkH hS
      have HRow := mkH hrow
      have HRd := mkH hrd
      have HWf := mkH hwf
      have HSz := mkH hsz
      clear hwf hsz hrd hrow hS HE
      obtain ⟨hB9, hb9, hg9⟩ := HS.out.r.putCm (below_on HBW.out HS.out.be) c (.slice ar nr cr) (.slice ap np cp)
      obtain ⟨U9, hU9⟩ : ∃ u, cmPut wc R c (.slice ar nr cr) (.slice ap np cp) = u := ⟨_, rfl⟩
      rw [hU9] at hB9 hb9 hg9
      simp only [cmPut] at hU9
      have HB9 := mkH hB9
      have HE9 : Hid (Below w.heap.size w U9) := hb9
      have HR9 : Hid (∀ u', Up (w.heap.size + 1) U9 u' → BysAt u' (.slice ar nr cr) c.raw ∧ PksAt u' (.slice ap np cp) c.picks) := fun u' hu => HRow.out u' ((Up.grown hg9 (fun g e => by cases e; omega)).trans (by first | exact hu | (rw [← hRd]; exact hu)))
      clear hB9 hb9 hg9 HRow
      obtain ⟨a0, a1, a2, a3, a4, a5, a6, a7, a8, a9, a10, a11, a12, a13⟩ := HS.out.x.cm
      obtain ⟨b0, b1, b2, b3, b4, b5, b6, b7, b8, b9, b10, b11, b12, b13⟩ := HS.out.r.cm
      have f0 := HS.out.r.fz 0 (by simp [cmLst])
      have f1 := HS.out.r.fz 1 (by simp [cmLst])
      have f2 := HS.out.r.fz 2 (by simp [cmLst])
      have f3 := HS.out.r.fz 3 (by simp [cmLst])
      have f4 := HS.out.r.fz 4 (by simp [cmLst])
      have f5 := HS.out.r.fz 5 (by simp [cmLst])
      have f6 := HS.out.r.fz 6 (by simp [cmLst])
      have f7 := HS.out.r.fz 7 (by simp [cmLst])
      have f8 := HS.out.r.fz 8 (by simp [cmLst])
      have f9 := HS.out.r.fz 9 (by simp [cmLst])
      have f10 := HS.out.r.fz 10 (by simp [cmLst])
      have f11 := HS.out.r.fz 11 (by simp [cmLst])
      have f12 := HS.out.r.fz 12 (by simp [cmLst])
      have f13 := HS.out.r.fz 13 (by simp [cmLst])
      clear HS
      go_wp2
      clear a0 a1 a2 a3 a4 a5 a6 a7 a8 a9 a10 a11 a12 a13 b0 b1 b2 b3 b4 b5 b6 b7 b8 b9 b10 b11 b12 b13 f0 f1 f2 f3 f4 f5 f6 f7 f8 f9 f10 f11 f12 f13
      try rw [hU9]
      obtain ⟨a0, a1, a2, a3, a4, a5, a6, a7, a8, a9, a10, a11, a12, a13⟩ := HB9.out.cm
      clear hU9
      refine bodyPost_ret (v := cmV c (.slice ar nr cr) (.slice ap np cp)) ?hres rfl ?_
      case hres =>
        rw [results_cell1 rfl]
        go_simp
      exact ⟨⟨c, _, _, rfl, HWf.out, HSz.out, HRd.out, fun u' hu => HR9.out u' (by first | exact hu | (rw [hRd]; exact hu))⟩, by first | exact HE9.out | (rw [← hRd]; exact HE9.out)⟩
end Go.Proofs.YtlnppgjppfkocaaGreatDoor.Xs
