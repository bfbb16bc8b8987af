import Derived.Test.YtlnppgjppfkocaaDoorXsD
/-! What is read out of a line's parts, plainly: a request, a command. -/
namespace Go.Proofs.YtlnppgjppfkocaaDoor.Xs
set_option linter.unusedVariables false
set_option linter.unusedSimpArgs false

/-- The field of the letter c says what the part s says. -/
structure FIs (r : Rq) (c : UInt8) (s : By) : Prop where
  T : c = 84 → ∀ x, s = txt x → r.topic = x
  K : c = 75 → ∀ x, s = txt x → r.key = x
  V : c = 86 → ∀ x, s = txt x → r.value = x
  O : c = 79 → ∀ n, I64 n → s = Lib.itoa n → r.offset = n
  N : c = 78 → ∀ n, I64 n → s = Lib.itoa n → r.number = n
  P : c = 80 → ∀ n, I64 n → s = Lib.itoa n → r.pid = n
  S : c = 83 → ∀ n, I64 n → s = Lib.itoa n → r.seq = n
/-- The field of the letter c is zero. -/
structure FZ (r : Rq) (c : UInt8) : Prop where
  T : c = 84 → r.topic = []
  K : c = 75 → r.key = []
  V : c = 86 → r.value = []
  O : c = 79 → r.offset = 0
  N : c = 78 → r.number = 0
  P : c = 80 → r.pid = 0
  S : c = 83 → r.seq = 0
/-- Two requests have the same in the field of the letter c. -/
structure FEq (r s : Rq) (c : UInt8) : Prop where
  T : c = 84 → r.topic = s.topic
  K : c = 75 → r.key = s.key
  V : c = 86 → r.value = s.value
  O : c = 79 → r.offset = s.offset
  N : c = 78 → r.number = s.number
  P : c = 80 → r.pid = s.pid
  S : c = 83 → r.seq = s.seq
theorem FIs.eq {r s : Rq} {c : UInt8} {p : By} (h : FIs r c p) (e : FEq s r c) : FIs s c p :=
  ⟨fun k x hx => (e.T k).trans (h.T k x hx), fun k x hx => (e.K k).trans (h.K k x hx), fun k x hx => (e.V k).trans (h.V k x hx), fun k x a b => (e.O k).trans (h.O k x a b), fun k x a b => (e.N k).trans (h.N k x a b), fun k x a b => (e.P k).trans (h.P k x a b), fun k x a b => (e.S k).trans (h.S k x a b)⟩
theorem FZ.eq {r s : Rq} {c : UInt8} (h : FZ r c) (e : FEq s r c) : FZ s c :=
  ⟨fun k => (e.T k).trans (h.T k), fun k => (e.K k).trans (h.K k), fun k => (e.V k).trans (h.V k), fun k => (e.O k).trans (h.O k), fun k => (e.N k).trans (h.N k), fun k => (e.P k).trans (h.P k), fun k => (e.S k).trans (h.S k)⟩
/-- Within readRequest: i of the fields have been read. -/
structure RdQ (u : By) (l : List By) (i : Nat) (r0 r : Rq) : Prop where
  id : r.id = r0.id
  op : r.op = r0.op
  did : ∀ j, j < i → FIs r (u.getD j 0) (l.getD (j + 1) [])
  zero : ∀ c, c ∉ u.take i → FZ r c
theorem RdQ.start (u : By) (l : List By) (i o : Int) : RdQ u l 0 ⟨i, o, [], [], [], 0, 0, 0, 0⟩ ⟨i, o, [], [], [], 0, 0, 0, 0⟩ :=
  ⟨rfl, rfl, fun j hj => absurd hj (Nat.not_lt_zero _), fun c _ => ⟨fun _ => rfl, fun _ => rfl, fun _ => rfl, fun _ => rfl, fun _ => rfl, fun _ => rfl, fun _ => rfl⟩⟩
theorem nodup_at {u : By} (h : u.Nodup) {i j : Nat} (hj : j < i) (hi : i < u.length) : u.getD j 0 ≠ u.getD i 0 := by
  rw [List.getD_eq_getElem?_getD, List.getD_eq_getElem?_getD, List.getElem?_eq_getElem hi, List.getElem?_eq_getElem (by omega)]
  show u[j] ≠ u[i]
  exact List.pairwise_iff_getElem.1 h j i (by omega) hi hj
/-- One field more: nothing but the field of the i-th letter has turned, and that one says what the part says. -/
theorem RdQ.next {u : By} {l : List By} {i : Nat} {r0 r r' : Rq} (h : RdQ u l i r0 r) (hn : u.Nodup) (hi : i < u.length) (hid : r'.id = r.id) (hop : r'.op = r.op)
    (he : ∀ c, c ≠ u.getD i 0 → FEq r' r c) (hf : FIs r' (u.getD i 0) (l.getD (i + 1) [])) : RdQ u l (i + 1) r0 r' := by
  refine ⟨hid.trans h.id, hop.trans h.op, fun j hj => ?_, fun c hc => ?_⟩
  · by_cases e : j = i
    · rw [e]; exact hf
    · exact (h.did j (by omega)).eq (he _ (nodup_at hn (by omega) hi))
  · rw [take_at hi] at hc
    have h1 : c ∉ u.take i := fun k => hc (List.mem_append_left _ k)
    have h2 : c ≠ u.getD i 0 := fun k => hc (by rw [k]; simp)
    exact (h.zero c h1).eq (he c h2)
theorem fld_nodup (op : Int) : (fldL op).Nodup := by
  unfold fldL
  split
  · decide
  · split
    · decide
    · split
      · decide
      · split
        · decide
        · split
          · decide
          · split
            · decide
            · split
              · decide
              · split
                · decide
                · split
                  · decide
                  · exact List.nodup_nil
theorem fld_letters (op : Int) : ∀ u ∈ fldL op, u = 84 ∨ u = 75 ∨ u = 86 ∨ u = 79 ∨ u = 78 ∨ u = 80 ∨ u = 83 := by
  unfold fldL
  split
  · decide
  · split
    · decide
    · split
      · decide
      · split
        · decide
        · split
          · decide
          · split
            · decide
            · split
              · decide
              · split
                · decide
                · split
                  · decide
                  · intro u hu; cases hu
/-- Numbers of a request that the machine can hold. -/
structure WfR (r : Rq) : Prop where
  id1 : 0 ≤ r.id
  id2 : r.id ≤ 4294967295
  op : I64 r.op
  offset : I64 r.offset
  number : I64 r.number
  pid : I64 r.pid
  seq : I64 r.seq
structure WfC (c : Cm) : Prop where
  verb : I64 c.verb
  conn : I64 c.conn
  req : WfR c.req
  n : I64 c.n
  picks : ∀ x ∈ c.picks, I64 x
theorem RdQ.done {r0 r s : Rq} {l : List By} {i : Nat} (h : RdQ (fldL r0.op) l i r0 r) (hi : ¬ (i < (fldL r0.op).length ∧ i + 1 < l.length)) (hil : i ≤ (fldL r0.op).length)
    (hs : OkR s) (hw : WfR s) (hid : s.id = r0.id) (hop : s.op = r0.op) (hl : l = opT s.op :: (fldL s.op).map (fldT s)) : r = s := by
  have hlen : l.length = (fldL r0.op).length + 1 := by rw [hl, hop]; simp
  have hi' : i = (fldL r0.op).length := by omega
  have key : ∀ c, usesB s.op c = true → FIs r c (fldT s c) := fun c hc => by
    unfold usesB at hc
    rw [hop] at hc
    have hm : c ∈ fldL r0.op := by simpa using hc
    obtain ⟨j, hj, e⟩ := List.mem_iff_getElem.1 hm
    have hg : (fldL r0.op).getD j 0 = c := by rw [List.getD_eq_getElem?_getD, List.getElem?_eq_getElem hj, ← e]; rfl
    have := h.did j (by omega)
    rw [hg] at this
    have hp : l.getD (j + 1) [] = fldT s c := by
      rw [hl, List.getD_cons_succ, hop, List.getD_eq_getElem?_getD, List.getElem?_map, List.getElem?_eq_getElem hj, e]; rfl
    rwa [hp] at this
  have zero : ∀ c, usesB s.op c ≠ true → FZ r c := fun c hc => h.zero c fun hm => hc (by
    unfold usesB
    rw [hop]
    simpa using List.mem_of_mem_take hm)
  obtain ⟨i1, o1, t1, k1, v1, f1, n1, p1, q1⟩ := r
  obtain ⟨i2, o2, t2, k2, v2, f2, n2, p2, q2⟩ := s
  obtain ⟨b1, b2, b3, b4, b5, b6, b7, b8, b9, bT, bK, bV, bO, bN, bP, bS⟩ := hs
  obtain ⟨w1, w2, w3, w4, w5, w6, w7⟩ := hw
  have e1 := h.id
  have e2 := h.op
  simp only at *
  have eT : t1 = t2 := by
    by_cases hu : usesB o2 84 = true
    · exact (key 84 hu).T rfl t2 rfl
    · exact ((zero 84 hu).T rfl).trans (bT.resolve_right hu).symm
  have eK : k1 = k2 := by
    by_cases hu : usesB o2 75 = true
    · exact (key 75 hu).K rfl k2 rfl
    · exact ((zero 75 hu).K rfl).trans (bK.resolve_right hu).symm
  have eV : v1 = v2 := by
    by_cases hu : usesB o2 86 = true
    · exact (key 86 hu).V rfl v2 rfl
    · exact ((zero 86 hu).V rfl).trans (bV.resolve_right hu).symm
  have eO : f1 = f2 := by
    by_cases hu : usesB o2 79 = true
    · exact (key 79 hu).O rfl f2 w4 rfl
    · exact ((zero 79 hu).O rfl).trans (bO.resolve_right hu).symm
  have eN : n1 = n2 := by
    by_cases hu : usesB o2 78 = true
    · exact (key 78 hu).N rfl n2 w5 rfl
    · exact ((zero 78 hu).N rfl).trans (bN.resolve_right hu).symm
  have eP : p1 = p2 := by
    by_cases hu : usesB o2 80 = true
    · exact (key 80 hu).P rfl p2 w6 rfl
    · exact ((zero 80 hu).P rfl).trans (bP.resolve_right hu).symm
  have eS : q1 = q2 := by
    by_cases hu : usesB o2 83 = true
    · exact (key 83 hu).S rfl q2 w7 rfl
    · exact ((zero 83 hu).S rfl).trans (bS.resolve_right hu).symm
  rw [eT, eK, eV, eO, eN, eP, eS, e1, e2, ← hid, ← hop]
/-- What Parse tells of a line: its command, or that there is none. -/
def ParA (l : By) (c : Cm) (e : Int) : Prop := (IsLine c l ∧ e = 0) ∨ ((∀ d, WfC d → ¬ IsLine d l) ∧ c = Cm.zero ∧ e = 230)
theorem ParA.one {l : By} {c d : Cm} {e f : Int} (h : ParA l c e) (hc : WfC c) (k : ParA l d f) (hd : WfC d) : c = d ∧ e = f := by
  rcases h with ⟨h1, h2⟩ | ⟨h1, h2, h3⟩
  · rcases k with ⟨k1, k2⟩ | ⟨k1, k2, k3⟩
    · exact ⟨h1.one k1, by rw [h2, k2]⟩
    · exact (k1 c hc h1).elim
  · rcases k with ⟨k1, k2⟩ | ⟨k1, k2, k3⟩
    · exact (h1 d hd k1).elim
    · exact ⟨by rw [h2, k2], by rw [h3, k3]⟩
/-- What Print tells of a command: its line, or that there is none. -/
def PriA (c : Cm) (l : By) (e : Int) : Prop := (IsLine c l ∧ e = 0) ∨ ((∀ k, ¬ IsLine c k) ∧ l = [] ∧ e = 230)
theorem PriA.one {c : Cm} {l k : By} {e f : Int} (h : PriA c l e) (g : PriA c k f) : l = k ∧ e = f := by
  rcases h with ⟨h1, h2⟩ | ⟨h1, h2, h3⟩
  · rcases g with ⟨k1, k2⟩ | ⟨k1, k2, k3⟩
    · exact ⟨h1.2.1.symm.trans k1.2.1, by rw [h2, k2]⟩
    · exact (k1 l h1).elim
  · rcases g with ⟨k1, k2⟩ | ⟨k1, k2, k3⟩
    · exact (h1 k k1).elim
    · exact ⟨by rw [h2, k2], by rw [h3, k3]⟩
end Go.Proofs.YtlnppgjppfkocaaDoor.Xs
