import Derived.Test.YtlnppgjppfkocaaGreatDoorGq15
import Derived.Test.YtlnppgjppfkocaaGreatDoorGq10
import Derived.Deep.RegionHeld3
/-! Lines: what the document's read finds, plainly. -/
namespace Go.Proofs.YtlnppgjppfkocaaGreatDoor.Xs
open Go.RowKit Plain
set_option linter.unusedVariables false
set_option linter.unusedSimpArgs false

/-- What stands behind the connection's label. -/
def restA (d : Cm) : List By :=
  if d.verb = 2 then Lib.itoa d.req.id :: opT d.req.op :: (fldL d.req.op).map (fldT d.req)
  else if d.verb = 3 then [rawT d.raw]
  else if d.verb = 4 ∨ d.verb = 6 ∨ d.verb = 7 then [Lib.itoa d.n]
  else if d.verb = 5 ∨ d.verb = 8 then d.picks.map Lib.itoa
  else []
theorem args_rest {d : Cm} (h : OkC d) : argsL d = (if cnB d.verb = true then [Lib.itoa d.conn] else []) ++ restA d := by
  have h1 := h.v1
  have h2 := h.v2
  unfold argsL restA cnB
  have hcases : d.verb = 0 ∨ d.verb = 1 ∨ d.verb = 2 ∨ d.verb = 3 ∨ d.verb = 4 ∨ d.verb = 5 ∨ d.verb = 6 ∨ d.verb = 7 ∨ d.verb = 8 ∨ d.verb = 9 ∨ d.verb = 10 := by omega
  rcases hcases with e | e | e | e | e | e | e | e | e | e | e <;> simp [e]
/-- d is a command whose line this is. -/
def Of (line : By) (d : Cm) : Prop := WfC d ∧ OkC d ∧ lineL d = line
structure VbF (s : By) (k : Nat) (o : Int) : Prop where
  lo : -1 ≤ o
  hi : o ≤ 10
  is : ∀ j : Nat, j < k → verbT j = s → o = j
theorem VbF.start (s : By) : VbF s 0 (-1) := ⟨by omega, by omega, fun j h1 => by omega⟩
theorem VbF.hit {s : By} {k : Nat} {o : Int} (h : VbF s k o) (hk2 : k ≤ 10) (e : verbT k = s) : VbF s (k + 1) k :=
  ⟨by omega, by omega, fun j h2 e2 => by
    have := verb_inj (v := (k : Int)) (u := (j : Int)) (by omega) (by omega) (by omega) (by omega) (e.trans e2.symm); omega⟩
theorem VbF.miss {s : By} {k : Nat} {o : Int} (h : VbF s k o) (e : verbT k ≠ s) : VbF s (k + 1) o :=
  ⟨h.lo, h.hi, fun j h2 e2 => by
    by_cases hj : j = k
    · exact absurd (by rw [← hj]; exact e2) e
    · exact h.is j (by omega) e2⟩
theorem of_parts {line : By} {d : Cm} (h : Of line d) : cutL false [] line = verbT d.verb :: argsL d := by rw [← h.2.2]; exact line_cut d
theorem VbF.done {line x : By} {T : List By} {o : Int} (h : VbF x 11 o) (hP : cutL false [] line = x :: T) : ∀ d, Of line d → o = d.verb ∧ T = argsL d := fun d hd => by
  have e := hP.symm.trans (of_parts hd)
  have h1 := hd.2.1.v1
  have h2 := hd.2.1.v2
  refine ⟨?_, (List.cons.inj e).2⟩
  have := h.is d.verb.toNat (by omega) (by rw [Int.toNat_of_nonneg h1]; exact (List.cons.inj e).1.symm)
  omega
/-- Behind the label: the verb, the label, and the parts that are left. -/
def St2 (line : By) (vb z : Int) (T : List By) : Prop := ∀ d, Of line d → vb = d.verb ∧ z = d.conn ∧ T = restA d
theorem st2_conn {line x : By} {T : List By} {vb z : Int} (h : ∀ d, Of line d → vb = d.verb ∧ x :: T = argsL d) (hc : cnB vb = true) (hz : ∀ n, I64 n → x = Lib.itoa n → z = n) : St2 line vb z T := fun d hd => by
  obtain ⟨e1, e2⟩ := h d hd
  rw [args_rest hd.2.1, ← e1, if_pos hc] at e2
  have e3 := List.cons.inj e2
  exact ⟨e1, hz _ hd.1.conn e3.1, e3.2⟩
theorem st2_none {line : By} {T : List By} {vb : Int} (h : ∀ d, Of line d → vb = d.verb ∧ T = argsL d) (hc : cnB vb ≠ true) : St2 line vb 0 T := fun d hd => by
  obtain ⟨e1, e2⟩ := h d hd
  rw [args_rest hd.2.1, ← e1, if_neg hc] at e2
  refine ⟨e1, ?_, e2⟩
  rcases hd.2.1.conn with e | e
  · exact e.symm
  · exfalso
    apply hc
    rw [e1]
    unfold usesConn at e
    unfold cnB
    simp; omega
theorem st2_empty {line : By} {vb : Int} (h : ∀ d, Of line d → vb = d.verb ∧ ([] : List By) = argsL d) (hc : cnB vb = true) : St2 line vb 0 [] := fun d hd => by
  obtain ⟨e1, e2⟩ := h d hd
  rw [args_rest hd.2.1, ← e1, if_pos hc] at e2
  cases e2
/-- The command that was read is every command whose line this is. -/
def RdC (line : By) (c : Cm) : Prop := ∀ d, Of line d → c = d
theorem cm_ext {c d : Cm} (h1 : c.verb = d.verb) (h2 : c.conn = d.conn) (h3 : c.req = d.req) (h4 : c.raw = d.raw) (h5 : c.n = d.n) (h6 : c.picks = d.picks) : c = d := by
  cases c; cases d; simp_all
theorem rd_empty {line : By} {vb z : Int} (h : St2 line vb z []) : RdC line ⟨vb, z, Rq.zero, [], 0, []⟩ := fun d hd => by
  obtain ⟨e1, e2, e3⟩ := h d hd
  have ok := hd.2.1
  unfold restA at e3
  have n2 : d.verb ≠ 2 := fun e => by rw [if_pos e] at e3; cases e3
  rw [if_neg n2] at e3
  have n3 : d.verb ≠ 3 := fun e => by rw [if_pos e] at e3; cases e3
  rw [if_neg n3] at e3
  have n4 : ¬ (d.verb = 4 ∨ d.verb = 6 ∨ d.verb = 7) := fun e => by rw [if_pos e] at e3; cases e3
  rw [if_neg n4] at e3
  refine cm_ext e1 e2 (ok.req n2).symm (ok.raw.resolve_right n3).symm (ok.n (by omega) (by omega) (by omega)).symm ?_
  rcases ok.picks with e | e
  · exact e.symm
  · unfold usesPicks at e
    rw [if_pos e] at e3
    exact (List.map_eq_nil_iff.1 e3.symm).symm
theorem rd_say {line x : By} {T : List By} {z i : Int} {r : Rq} (h : St2 line 2 z (x :: T)) (hi : ∀ n, 0 ≤ n → n ≤ 4294967295 → x = Lib.itoa n → i = n) (hr : RrP T i r) : RdC line ⟨2, z, r, [], 0, []⟩ := fun d hd => by
  obtain ⟨e1, e2, e3⟩ := h d hd
  have ok := hd.2.1
  have wf := hd.1.req
  unfold restA at e3
  rw [if_pos e1.symm] at e3
  obtain ⟨e4, e5⟩ := List.cons.inj e3
  have hid := hi _ wf.id1 wf.id2 e4
  refine cm_ext e1 e2 (hr.is d.req (ok.say e1.symm) wf hid.symm e5) (ok.raw.resolve_right (by omega)).symm (ok.n (by omega) (by omega) (by omega)).symm (ok.picks.resolve_right (by unfold usesPicks; omega)).symm
theorem rd_raw {line x b : By} {T : List By} {z : Int} (h : St2 line 3 z (x :: T)) (hb : ∀ y, x = rawT y → b = y) : RdC line ⟨3, z, Rq.zero, b, 0, []⟩ := fun d hd => by
  obtain ⟨e1, e2, e3⟩ := h d hd
  have ok := hd.2.1
  unfold restA at e3
  rw [if_neg (by omega), if_pos e1.symm] at e3
  exact cm_ext e1 e2 (ok.req (by omega)).symm (hb _ (List.cons.inj e3).1) (ok.n (by omega) (by omega) (by omega)).symm (ok.picks.resolve_right (by unfold usesPicks; omega)).symm
/-- Numbers that the parts say. -/
structure PkR (T : List By) (k : Nat) (l : List Int) : Prop where
  len : l.length = k
  i64 : ∀ x ∈ l, I64 x
  is : ∀ j, j < k → ∀ n, I64 n → T.getD j [] = Lib.itoa n → l.getD j 0 = n
theorem PkR.start (T : List By) : PkR T 0 [] := ⟨rfl, fun x h => (by cases h), fun j h => absurd h (Nat.not_lt_zero _)⟩
theorem PkR.next {T : List By} {k : Nat} {l : List Int} {z : Int} (h : PkR T k l) (hz : I64 z) (hn : ∀ n, I64 n → T.getD k [] = Lib.itoa n → z = n) : PkR T (k + 1) (l ++ [z]) := by
  refine ⟨by rw [List.length_append, h.len]; rfl, fun x hx => ?_, fun j hj n h1 h2 => ?_⟩
  · rcases List.mem_append.1 hx with e | e
    · exact h.i64 x e
    · rw [List.mem_singleton.1 e]; exact hz
  · by_cases e : j = k
    · subst e
      rw [List.getD_eq_getElem?_getD, List.getElem?_append_right (by rw [h.len]; exact Nat.le_refl _), h.len, Nat.sub_self]
      exact hn n h1 h2
    · rw [List.getD_eq_getElem?_getD, List.getElem?_append_left (by rw [h.len]; omega), ← List.getD_eq_getElem?_getD]
      exact h.is j (by omega) n h1 h2
theorem PkR.all {T : List By} {l ps : List Int} (h : PkR T T.length l) (e : T = ps.map Lib.itoa) (hp : ∀ x ∈ ps, I64 x) : l = ps := by
  have hlen : l.length = ps.length := by rw [h.len, e, List.length_map]
  refine List.ext_getElem hlen fun j h1 h2 => ?_
  have := h.is j (by rw [e, List.length_map]; exact h2) ps[j] (hp _ (List.getElem_mem h2)) (by rw [e, List.getD_eq_getElem?_getD, List.getElem?_map, List.getElem?_eq_getElem h2]; rfl)
  rw [List.getD_eq_getElem?_getD, List.getElem?_eq_getElem h1] at this
  exact this
theorem rd_picks {line : By} {T : List By} {vb z : Int} {l : List Int} (h : St2 line vb z T) (hv : vb = 5 ∨ vb = 8) (hl : PkR T T.length l) : RdC line ⟨vb, z, Rq.zero, [], 0, l⟩ := fun d hd => by
  obtain ⟨e1, e2, e3⟩ := h d hd
  have ok := hd.2.1
  unfold restA at e3
  rw [if_neg (by omega), if_neg (by omega), if_neg (by omega), if_pos (by omega)] at e3
  exact cm_ext e1 e2 (ok.req (by omega)).symm (ok.raw.resolve_right (by omega)).symm (ok.n (by omega) (by omega) (by omega)).symm (hl.all e3 hd.1.picks)
theorem rd_n {line x : By} {T : List By} {vb z n : Int} (h : St2 line vb z (x :: T)) (h2 : vb ≠ 2) (h3 : vb ≠ 3) (h5 : vb ≠ 5) (h8 : vb ≠ 8) (hn : ∀ m, I64 m → x = Lib.itoa m → n = m) : RdC line ⟨vb, z, Rq.zero, [], n, []⟩ := fun d hd => by
  obtain ⟨e1, e2, e3⟩ := h d hd
  have ok := hd.2.1
  unfold restA at e3
  rw [if_neg (by omega), if_neg (by omega)] at e3
  by_cases hq : d.verb = 4 ∨ d.verb = 6 ∨ d.verb = 7
  · rw [if_pos hq] at e3
    exact cm_ext e1 e2 (ok.req (by omega)).symm (ok.raw.resolve_right (by omega)).symm (hn _ hd.1.n (List.cons.inj e3).1) (ok.picks.resolve_right (by unfold usesPicks; omega)).symm
  · rw [if_neg hq, if_neg (by omega)] at e3
    cases e3
end Go.Proofs.YtlnppgjppfkocaaGreatDoor.Xs

/-! A region whose last operation may break what is held of the world: behind it nothing is read any more. -/
namespace Go.Proofs.YtlnppgjppfkocaaGreatDoor
open Go
set_option linter.unusedVariables false

section
variable {P : Program} {ops : Array Oper} {Q : Exit → Act → World → Prop} {md : Region.Mode} {S : World → Prop}

/-- Whatever order the rest comes in; S is held till operation n. -/
def Till (P : Program) (md : Region.Mode) (ops : Array Oper) (Q : Exit → Act → World → Prop) (S : World → Prop) (n : Nat) : Nat → Array Bool → Act → World → Prop
  | 0, l, a, w => Region.ready md ops l = [] ∧ Q .normal a w
  | f + 1, l, a, w => (Region.ready md ops l = [] → Q .normal a w) ∧ ∀ j ∈ Region.ready md ops l, wpOp P ops Q j (fun a' w' => (j ≠ n → S w') ∧ Till P md ops Q S n f (l.setIfInBounds j true) a' w') a w
theorem Till.any {n : Nat} : ∀ (f : Nat) (l : Array Bool) (a : Act) (w : World), Till P md ops Q S n f l a w → wpAny P md ops Q f l a w
  | 0, _, _, _, h => h
  | f + 1, _, _, _, h => ⟨h.1, fun j hj => wpOp_mono (fun a' w' h' => Till.any f _ a' w' h'.2) (h.2 j hj)⟩
/-- What waits for operation i. -/
def waits (md : Region.Mode) (ops : Array Oper) (i : Nat) : List Nat :=
  (List.range ops.size).foldl (fun D j => if ((ops[j]?).map fun o => o.after.toList.any fun e => Region.binds md e && (e.on == i || D.contains e.on)).getD false then j :: D else D) []
theorem waits_step (md : Region.Mode) (ops : Array Oper) (i : Nat) : ∀ (js : List Nat) (D : List Nat), (∀ d ∈ D, ∃ o, ops[d]? = some o ∧ ∃ e ∈ o.after, Region.binds md e = true ∧ (e.on = i ∨ e.on ∈ D)) →
    ∀ d ∈ js.foldl (fun D j => if ((ops[j]?).map fun o => o.after.toList.any fun e => Region.binds md e && (e.on == i || D.contains e.on)).getD false then j :: D else D) D, ∃ o, ops[d]? = some o ∧ ∃ e ∈ o.after, Region.binds md e = true ∧ (e.on = i ∨ e.on ∈ js.foldl (fun D j => if ((ops[j]?).map fun o => o.after.toList.any fun e => Region.binds md e && (e.on == i || D.contains e.on)).getD false then j :: D else D) D)
  | [], D, h => h
  | j :: js, D, h => by
    rw [List.foldl_cons]
    refine waits_step md ops i js _ ?_
    split
    · rename_i hj
      intro d hd
      rcases List.mem_cons.mp hd with e | e
      · subst e
        cases ho : ops[d]? with
        | none => rw [ho] at hj; simp at hj
        | some o =>
          rw [ho] at hj
          simp only [Option.map_some, Option.getD_some, List.any_eq_true, Bool.and_eq_true, Bool.or_eq_true, beq_iff_eq, List.contains_iff_mem] at hj
          obtain ⟨e, he, h1, h2⟩ := hj
          exact ⟨o, rfl, e, by simpa using he, h1, h2.imp id (fun h3 => List.mem_cons_of_mem _ h3)⟩
      · obtain ⟨o, h1, e', h2, h3, h4⟩ := h d e
        exact ⟨o, h1, e', h2, h3, h4.imp id (fun h5 => List.mem_cons_of_mem _ h5)⟩
    · exact h
theorem waits_spec {i d : Nat} (h : d ∈ waits md ops i) : ∃ o, ops[d]? = some o ∧ ∃ e ∈ o.after, Region.binds md e = true ∧ (e.on = i ∨ e.on ∈ waits md ops i) :=
  waits_step md ops i (List.range ops.size) [] (fun d hd => by cases hd) d h
/-- All that waits for i has not come up, and n is among it. -/
def ahead (md : Region.Mode) (ops : Array Oper) (l : Array Bool) (i n : Nat) : Bool := (waits md ops i).contains n && (waits md ops i).all fun d => !(l.getD d true)
/-- Nothing that waits for i may come up ahead of it. -/
theorem not_ahead {l : Array Bool} {i j : Nat} (hi : l.getD i true = false) (hD : ∀ d ∈ waits md ops i, l.getD d true = false) (hj : j ∈ Region.ready md ops l) : j ∉ waits md ops i := fun h => by
  have hf : ∀ x, l.getD x true = false → l.getD x false = true → False := fun x h1 h2 => by
    rcases Nat.lt_or_ge x l.size with h' | h'
    · simp [h'] at h1 h2; rw [h1] at h2; cases h2
    · simp [Array.getElem?_eq_none h'] at h2
  obtain ⟨o, ho, e, he, hb, hx⟩ := waits_spec h
  obtain ⟨-, o', ho', hall⟩ := mem_ready.1 hj
  rw [ho] at ho'
  cases ho'
  have h1 := hall e he hb
  rcases hx with hx | hx
  · exact hf i hi (by rw [← hx]; exact h1)
  · exact hf _ (hD _ hx) h1
theorem Till.first {i n : Nat} {oi : Oper} {v : Value} (hi : ops[i]? = some oi) (hsel : ∀ (j : Nat) (o : Oper) cs b, ops[j]? = some o → o.op ≠ .select cs b) (hQ : ∀ c a w, Q (.panic c) (a.put oi.dst v) w → Q (.panic c) a w) (hn : n ∈ waits md ops i) :
    ∀ (f : Nat) (l : Array Bool) (a : Act) (w : World), (∀ d ∈ waits md ops i, l.getD d true = false) →
      (∀ j oj, ops[j]? = some oj → j ≠ i → l.getD j true = false → (∀ e ∈ oj.after, Region.binds md e = true → e.on ≠ i) → oi.apart ops oj = true) →
      i ∈ Region.ready md ops l → YieldsIf P ops S oi v a → S w → Till P md ops Q S n f (l.setIfInBounds i true) (a.put oi.dst v) w → Till P md ops Q S n (f + 1) l a w := by
  intro f
  induction f with
  | zero =>
    intro l a w hD hfree hr hy hS H
    refine ⟨fun h => (by rw [h] at hr; cases hr), fun j hj => ?_⟩
    by_cases e : j = i
    · subst e; exact hy.wpOp hi hS ⟨fun _ => hS, H⟩
    · have := ready_mono hj e
      rw [H.1] at this
      cases this
  | succ f ih =>
    intro l a w hD hfree hr hy hS H
    refine ⟨fun h => (by rw [h] at hr; cases hr), fun j hj => ?_⟩
    have hil := (mem_ready.1 hr).1
    have hjn := not_ahead hil hD hj
    by_cases e : j = i
    · subst e; exact hy.wpOp hi hS ⟨fun _ => hS, H⟩
    obtain ⟨hjl, oj, hoj, -⟩ := mem_ready.1 hj
    have hno : ∀ x ∈ oj.after, Region.binds md x = true → x.on ≠ i := fun x hx hb hxi => by
      obtain ⟨-, o2, ho2, hall⟩ := mem_ready.1 hj
      rw [hoj] at ho2
      cases ho2
      have h1 := hall x hx hb
      rw [hxi] at h1
      rcases Nat.lt_or_ge i l.size with h' | h'
      · simp [h'] at hil h1; rw [hil] at h1; cases h1
      · simp [Array.getElem?_eq_none h'] at h1
    have h2 := wpOp_putIf hoj (hfree j oj hoj e hjl hno) (fun cs b => hsel i oi cs b hi) (fun cs b => hsel j oj cs b hoj) hQ hy (H.2 j (ready_mono hj e))
    have hne : j ≠ n := fun e2 => hjn (by rw [e2]; exact hn)
    have hun : ∀ d, (l.setIfInBounds j true).getD d true = false → l.getD d true = false := fun d hd => by
      by_cases e3 : j = d
      · subst e3; exact hjl
      · rw [getD_set_ne true e3] at hd; exact hd
    refine wpOp_mono (fun a' w' h3 => ⟨h3.2.1, ?_⟩) h2
    refine ih (l.setIfInBounds j true) a' w' (fun d hd => ?_) (fun m om hm hmi hml hmn => hfree m om hm hmi (hun m hml) hmn) (ready_mono hr (fun e3 => e e3.symm)) h3.1 (h3.2.1 hne) ?_
    · have : j ≠ d := fun e3 => hjn (by rw [e3]; exact hd)
      rw [getD_set_ne true this]; exact hD d hd
    · rw [Array.setIfInBounds_comm _ _ e]
      exact h3.2.2
theorem Till.take {n : Nat} (i : Nat) {oi : Oper} {v : Value} {f : Nat} {l : Array Bool} {a : Act} {w : World} (hi : ops[i]? = some oi) (hs : Region.noSelect ops = true) (hf : Region.free md ops l i = true) (hr : (Region.ready md ops l).contains i = true) (ha : ahead md ops l i n = true)
    (hQ : ∀ c a w, Q (.panic c) (a.put oi.dst v) w → Q (.panic c) a w) (hy : YieldsIf P ops S oi v a) (hS : S w) (h : Till P md ops Q S n f (l.setIfInBounds i true) (a.put oi.dst v) w) : Till P md ops Q S n (f + 1) l a w := by
  unfold ahead at ha
  rw [Bool.and_eq_true, List.contains_iff_mem, List.all_eq_true] at ha
  exact Till.first hi (Region.noSelect_spec hs) hQ ha.1 f l a w (fun d hd => by simpa using ha.2 d hd) (Region.free_spec hi hf) (by simpa using hr) hy hS h
/-- The one operation that may come up. -/
theorem Till.one {n : Nat} (j : Nat) {o : Oper} {f : Nat} {l : Array Bool} {a : Act} {w : World} (hr : Region.ready md ops l = [j]) (ho : ops[j]? = some o)
    (h : ∀ K : Act → World → Prop, Shut (∀ a w, S w → (S w → Till P md ops Q S n f (l.setIfInBounds j true) a w) → K a w) → if Region.wanted o (yielded ops a.tmps) = true then Oper.wp P o a w K Q else K (a.put o.dst undef) w) : Till P md ops Q S n (f + 1) l a w := by
  refine ⟨fun h0 => (by rw [hr] at h0; cases h0), fun k hk => ?_⟩
  rw [hr] at hk
  rw [List.mem_singleton.1 hk]
  exact wpOp_step ho (fun K hK => h K (fun a w hS hW => hK a w ⟨fun _ => hS, hW hS⟩))
/-- One of the two that may come up. -/
theorem Till.two {n : Nat} (i j : Nat) {oi oj : Oper} {f : Nat} {l : Array Bool} {a : Act} {w : World} (hr : Region.ready md ops l = [i, j]) (hi : ops[i]? = some oi) (hj : ops[j]? = some oj)
    (h1 : ∀ K : Act → World → Prop, Shut (∀ a w, S w → (S w → Till P md ops Q S n f (l.setIfInBounds i true) a w) → K a w) → if Region.wanted oi (yielded ops a.tmps) = true then Oper.wp P oi a w K Q else K (a.put oi.dst undef) w)
    (h2 : ∀ K : Act → World → Prop, Shut (∀ a w, S w → (S w → Till P md ops Q S n f (l.setIfInBounds j true) a w) → K a w) → if Region.wanted oj (yielded ops a.tmps) = true then Oper.wp P oj a w K Q else K (a.put oj.dst undef) w) : Till P md ops Q S n (f + 1) l a w := by
  refine ⟨fun h0 => (by rw [hr] at h0; cases h0), fun k hk => ?_⟩
  rw [hr] at hk
  rcases List.mem_cons.1 hk with e | e
  · rw [e]; exact wpOp_step hi (fun K hK => h1 K (fun a w hS hW => hK a w ⟨fun _ => hS, hW hS⟩))
  · rw [List.mem_singleton.1 e]; exact wpOp_step hj (fun K hK => h2 K (fun a w hS hW => hK a w ⟨fun _ => hS, hW hS⟩))
/-- The last one. -/
theorem Till.last {n : Nat} {o : Oper} {f : Nat} {l : Array Bool} {a : Act} {w : World} (hr : Region.ready md ops l = [n]) (he : Region.ready md ops (l.setIfInBounds n true) = []) (ho : ops[n]? = some o)
    (h : ∀ K : Act → World → Prop, Shut (∀ a w, Q .normal a w → K a w) → if Region.wanted o (yielded ops a.tmps) = true then Oper.wp P o a w K Q else K (a.put o.dst undef) w) : Till P md ops Q S n (f + 1) l a w := by
  refine ⟨fun h0 => (by rw [hr] at h0; cases h0), fun k hk => ?_⟩
  rw [hr] at hk
  rw [List.mem_singleton.1 hk]
  refine wpOp_step ho (fun K hK => h K (fun a w hq => hK a w ⟨fun hne => absurd rfl hne, ?_⟩))
  cases f with
  | zero => exact ⟨he, hq⟩
  | succ f => exact ⟨fun _ => hq, fun j hj => by rw [he] at hj; cases hj⟩
theorem Till.start (n : Nat) {id : Nat} {a : Act} {w : World} (hm : P.follows .mixedOrders = true) (hS : S w.drew) (h : S w.drew → Till P .any ops Q S n ops.size (Array.replicate ops.size false) a w.drew) : (Code.region id ops true).wp P Q a w :=
  wp_region_any hm (Till.any _ _ _ _ (h hS))
end
end Go.Proofs.YtlnppgjppfkocaaGreatDoor
