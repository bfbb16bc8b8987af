import Derived.Test.YtlnppgjppfkocaaGreatDoorGq00
/-! Lines of commands and of responses, plainly: each has one line, and no two the same. -/
namespace Go.Proofs.YtlnppgjppfkocaaGreatDoor.Xs
set_option linter.unusedVariables false
set_option linter.unusedSimpArgs false

structure Rq where
  id : Int
  op : Int
  topic : By
  key : By
  value : By
  offset : Int
  number : Int
  pid : Int
  seq : Int
def Rq.zero : Rq := ⟨0, 0, [], [], [], 0, 0, 0, 0⟩
structure Cm where
  verb : Int
  conn : Int
  req : Rq
  raw : By
  n : Int
  picks : List Int
def Cm.zero : Cm := ⟨0, 0, Rq.zero, [], 0, []⟩

/-- The fields that an operation uses: letters T K V O N P S. -/
def fldL (op : Int) : By :=
  if op = 2 then [84, 78] else if op = 3 ∨ op = 15 then [84] else if op = 4 ∨ op = 12 then [75] else if op = 5 then [84, 75, 86, 80, 83]
  else if op = 6 then [84, 75, 80, 83] else if op = 7 ∨ op = 9 ∨ op = 14 then [84, 75] else if op = 8 ∨ op = 10 then [84, 79]
  else if op = 11 then [78] else if op = 13 then [84, 75, 79, 78] else []
def fldT (r : Rq) (u : UInt8) : By :=
  if u = 84 then txt r.topic else if u = 75 then txt r.key else if u = 86 then txt r.value else if u = 79 then Lib.itoa r.offset
  else if u = 78 then Lib.itoa r.number else if u = 80 then Lib.itoa r.pid else if u = 83 then Lib.itoa r.seq else []
def usesB (op : Int) (u : UInt8) : Bool := (fldL op).contains u
/-- May the request be (wire.CheckRequest)? -/
structure OkR (r : Rq) : Prop where
  op1 : 1 ≤ r.op
  op2 : r.op ≤ 15
  topic : r.topic.length ≤ 24
  key : r.key.length ≤ 64
  value : r.value.length ≤ 1024
  offset : 0 ≤ r.offset
  number : 0 ≤ r.number
  pid : 0 ≤ r.pid
  seq : 0 ≤ r.seq
  uT : r.topic = [] ∨ usesB r.op 84 = true
  uK : r.key = [] ∨ usesB r.op 75 = true
  uV : r.value = [] ∨ usesB r.op 86 = true
  uO : r.offset = 0 ∨ usesB r.op 79 = true
  uN : r.number = 0 ∨ usesB r.op 78 = true
  uP : r.pid = 0 ∨ usesB r.op 80 = true
  uS : r.seq = 0 ∨ usesB r.op 83 = true

def argsL (c : Cm) : List By :=
  if c.verb = 0 ∨ c.verb = 1 then [Lib.itoa c.conn]
  else if c.verb = 2 then Lib.itoa c.conn :: Lib.itoa c.req.id :: opT c.req.op :: (fldL c.req.op).map (fldT c.req)
  else if c.verb = 3 then [Lib.itoa c.conn, rawT c.raw]
  else if c.verb = 4 ∨ c.verb = 7 then [Lib.itoa c.n]
  else if c.verb = 5 ∨ c.verb = 8 then c.picks.map Lib.itoa
  else if c.verb = 6 then [Lib.itoa c.conn, Lib.itoa c.n]
  else []
def lineL (c : Cm) : By := joinL (verbT c.verb) (argsL c)

def usesConn (v : Int) : Prop := v = 0 ∨ v = 1 ∨ v = 2 ∨ v = 3 ∨ v = 6
def usesPicks (v : Int) : Prop := v = 5 ∨ v = 8
/-- May the command be, its line's length aside? -/
structure OkC (c : Cm) : Prop where
  v1 : 0 ≤ c.verb
  v2 : c.verb < 11
  c1 : 0 ≤ c.conn
  c2 : c.conn ≤ 999
  conn : c.conn = 0 ∨ usesConn c.verb
  raw : c.raw = [] ∨ c.verb = 3
  picks : c.picks = [] ∨ usesPicks c.verb
  say : c.verb = 2 → OkR c.req
  req : c.verb ≠ 2 → c.req = Rq.zero
  tick : c.verb = 4 → 0 ≤ c.n ∧ c.n ≤ 1125899906842624
  take : c.verb = 6 → 0 ≤ c.n ∧ c.n ≤ 1073741824
  fuse : c.verb = 7 → -1 ≤ c.n ∧ c.n ≤ 1073741824
  n : c.verb ≠ 4 → c.verb ≠ 6 → c.verb ≠ 7 → c.n = 0
/-- l is the line of c. -/
def IsLine (c : Cm) (l : By) : Prop := OkC c ∧ lineL c = l ∧ l.length ≤ 4096

/-! ### Words -/
theorem vW_tok : ∀ i : Fin 11, ∀ c ∈ vW.getD i.val [], c ≠ 34 ∧ c ≠ 32 := by decide +kernel
theorem oW_tok : ∀ i : Fin 15, ∀ c ∈ oW.getD i.val [], c ≠ 34 ∧ c ≠ 32 := by decide +kernel
theorem cW_tok : ∀ i : Fin 12, ∀ c ∈ cW.getD i.val [], c ≠ 34 ∧ c ≠ 32 := by decide +kernel
theorem vW_vis : ∀ i : Fin 11, ∀ c ∈ vW.getD i.val [], 32 ≤ c.toNat ∧ c.toNat ≤ 126 := by decide +kernel
theorem oW_vis : ∀ i : Fin 15, ∀ c ∈ oW.getD i.val [], 32 ≤ c.toNat ∧ c.toNat ≤ 126 := by decide +kernel
theorem cW_vis : ∀ i : Fin 12, ∀ c ∈ cW.getD i.val [], 32 ≤ c.toNat ∧ c.toNat ≤ 126 := by decide +kernel
theorem vW_inj : ∀ i j : Fin 11, vW.getD i.val [] = vW.getD j.val [] → i = j := by decide +kernel
theorem oW_inj : ∀ i j : Fin 15, oW.getD i.val [] = oW.getD j.val [] → i = j := by decide +kernel
theorem cW_inj : ∀ i j : Fin 12, cW.getD i.val [] = cW.getD j.val [] → i = j := by decide +kernel
theorem vW_ne : ∀ i : Fin 11, vW.getD i.val [] ≠ [] := by decide +kernel
theorem oW_ne : ∀ i : Fin 15, oW.getD i.val [] ≠ [] := by decide +kernel

theorem verb_at {v : Int} (h1 : 0 ≤ v) (h2 : v < 11) : verbT v = vW.getD v.toNat [] := if_pos ⟨h1, h2⟩
theorem verb_tok (v : Int) : Tok (verbT v) := by
  unfold verbT
  split
  case isTrue h => exact tok_of _ (vW_tok ⟨v.toNat, by omega⟩)
  case isFalse h => exact tok_of _ (fun c hc => by cases hc)
theorem verb_inj {v u : Int} (h1 : 0 ≤ v) (h2 : v < 11) (k1 : 0 ≤ u) (k2 : u < 11) (e : verbT v = verbT u) : v = u := by
  rw [verb_at h1 h2, verb_at k1 k2] at e
  have := congrArg Fin.val (vW_inj ⟨v.toNat, by omega⟩ ⟨u.toNat, by omega⟩ e)
  simp only at this
  omega
theorem opP_tok (l : By) (h : Tok l) : Tok (opP ++ l) := Tok.app (tok_of _ (by decide)) h
theorem op_tok (op : Int) : Tok (opT op) := by
  unfold opT
  split
  case isTrue h => exact tok_of _ (oW_tok ⟨op.toNat - 1, by omega⟩)
  case isFalse h =>
    split
    · exact tok_of _ (by decide)
    · exact opP_tok _ (itoa_tok op)
theorem code_tok (c : Int) : Tok (codeT c) := by
  unfold codeT
  split
  case isTrue h => exact tok_of _ (cW_tok ⟨c.toNat, by omega⟩)
  case isFalse h => exact Tok.app (tok_of _ (by decide)) (itoa_tok c)
theorem kind_tok (k : Int) : Tok (kindT k) := by
  unfold kindT
  split
  · exact tok_of _ (by decide)
  · split
    · exact tok_of _ (by decide)
    · exact Tok.app (tok_of _ (by decide)) (itoa_tok k)
theorem verb_vis (v : Int) : Vis (verbT v) := by
  unfold verbT
  split
  case isTrue h => exact vW_vis ⟨v.toNat, by omega⟩
  case isFalse h => exact vis_nil
theorem op_vis (op : Int) : Vis (opT op) := by
  unfold opT
  split
  case isTrue h => exact oW_vis ⟨op.toNat - 1, by omega⟩
  case isFalse h =>
    split
    · show ∀ c ∈ delW, _
      decide
    · exact Vis.app (by show ∀ c ∈ opP, _; decide) (itoa_vis op)
theorem code_vis (c : Int) : Vis (codeT c) := by
  unfold codeT
  split
  case isTrue h => exact cW_vis ⟨c.toNat, by omega⟩
  case isFalse h => exact Vis.app (by show ∀ c ∈ codeP, _; decide) (itoa_vis c)
theorem kind_vis (k : Int) : Vis (kindT k) := by
  unfold kindT
  split
  · show ∀ c ∈ valueW, _
    decide
  · split
    · show ∀ c ∈ tombW, _
      decide
    · exact Vis.app (by show ∀ c ∈ kindP, _; decide) (itoa_vis k)

/-- A numeral's last sign is a digit; no word ends in one. -/
def lastD (l : By) : Bool := match l.getLast? with
  | some c => decide (48 ≤ c.toNat) && decide (c.toNat ≤ 57)
  | none => false
theorem dec_last (n : Nat) : ∃ l c, Lib.decDigits n = l ++ [c] ∧ 48 ≤ c.toNat ∧ c.toNat ≤ 57 := by
  by_cases h : n < 10
  · refine ⟨[], UInt8.ofNat (48 + n), by rw [Lib.decDigits, dif_pos h]; rfl, ?_⟩
    rw [UInt8.toNat_ofNat_of_lt' (by show 48 + n < 256; omega)]; omega
  · refine ⟨Lib.decDigits (n / 10), UInt8.ofNat (48 + n % 10), by rw [Lib.decDigits, dif_neg h], ?_⟩
    rw [UInt8.toNat_ofNat_of_lt' (by show 48 + n % 10 < 256; omega)]; omega
theorem itoa_last (n : Int) : ∃ l c, Lib.itoa n = l ++ [c] ∧ 48 ≤ c.toNat ∧ c.toNat ≤ 57 := by
  unfold Lib.itoa
  split
  · obtain ⟨l, c, e, h⟩ := dec_last n.natAbs
    exact ⟨45 :: l, c, by rw [e]; rfl, h⟩
  · exact dec_last _
theorem lastD_itoa (p : By) (n : Int) : lastD (p ++ Lib.itoa n) = true := by
  obtain ⟨l, c, e, h1, h2⟩ := itoa_last n
  unfold lastD
  rw [e, ← List.append_assoc, List.getLast?_concat]
  simp [h1, h2]
theorem oW_last : ∀ i : Fin 15, lastD (oW.getD i.val []) = false := by decide +kernel
theorem cW_last : ∀ i : Fin 12, lastD (cW.getD i.val []) = false := by decide +kernel
theorem oW_del : ∀ i : Fin 15, oW.getD i.val [] ≠ delW := by decide +kernel
theorem op_inj {a b : Int} (e : opT a = opT b) : a = b := by
  have key : ∀ x y : Int, (1 ≤ x ∧ x ≤ 15) → ¬ (1 ≤ y ∧ y ≤ 15) → opT x = opT y → False := fun x y hx hy e => by
    unfold opT at e
    rw [if_pos hx, if_neg hy] at e
    split at e
    · exact oW_del ⟨x.toNat - 1, by omega⟩ e
    · have h1 := oW_last ⟨x.toNat - 1, by omega⟩
      simp only at h1
      rw [e, lastD_itoa] at h1
      exact absurd h1 (by simp)
  by_cases ha : 1 ≤ a ∧ a ≤ 15
  · by_cases hb : 1 ≤ b ∧ b ≤ 15
    · unfold opT at e
      rw [if_pos ha, if_pos hb] at e
      have := congrArg Fin.val (oW_inj ⟨a.toNat - 1, by omega⟩ ⟨b.toNat - 1, by omega⟩ e)
      simp only at this
      omega
    · exact (key a b ha hb e).elim
  · by_cases hb : 1 ≤ b ∧ b ≤ 15
    · exact (key b a hb ha e.symm).elim
    · unfold opT at e
      rw [if_neg ha, if_neg hb] at e
      have hdel : lastD delW = false := by decide +kernel
      by_cases h1 : a = 64
      · by_cases h2 : b = 64
        · rw [h1, h2]
        · rw [if_pos h1, if_neg h2] at e
          rw [e, lastD_itoa] at hdel
          exact absurd hdel (by simp)
      · by_cases h2 : b = 64
        · rw [if_neg h1, if_pos h2] at e
          rw [← e, lastD_itoa] at hdel
          exact absurd hdel (by simp)
        · rw [if_neg h1, if_neg h2] at e
          exact itoa_inj (List.append_cancel_left e)
theorem code_inj {a b : Int} (e : codeT a = codeT b) : a = b := by
  have key : ∀ x y : Int, (0 ≤ x ∧ x < 12) → ¬ (0 ≤ y ∧ y < 12) → codeT x = codeT y → False := fun x y hx hy e => by
    unfold codeT at e
    rw [if_pos hx, if_neg hy] at e
    have h1 := cW_last ⟨x.toNat, by omega⟩
    simp only at h1
    rw [e, lastD_itoa] at h1
    exact absurd h1 (by simp)
  by_cases ha : 0 ≤ a ∧ a < 12
  · by_cases hb : 0 ≤ b ∧ b < 12
    · unfold codeT at e
      rw [if_pos ha, if_pos hb] at e
      have := congrArg Fin.val (cW_inj ⟨a.toNat, by omega⟩ ⟨b.toNat, by omega⟩ e)
      simp only at this
      omega
    · exact (key a b ha hb e).elim
  · by_cases hb : 0 ≤ b ∧ b < 12
    · exact (key b a hb ha e.symm).elim
    · unfold codeT at e
      rw [if_neg ha, if_neg hb] at e
      exact itoa_inj (List.append_cancel_left e)
theorem kind_inj {a b : Int} (e : kindT a = kindT b) : a = b := by
  have hv : lastD valueW = false := by decide +kernel
  have ht : lastD tombW = false := by decide +kernel
  unfold kindT at e
  by_cases a1 : a = 1
  · rw [if_pos a1] at e
    by_cases b1 : b = 1
    · rw [a1, b1]
    · rw [if_neg b1] at e
      split at e
      · exact absurd e (by decide)
      · rw [e, lastD_itoa] at hv; exact absurd hv (by simp)
  · rw [if_neg a1] at e
    by_cases a2 : a = 2
    · rw [if_pos a2] at e
      by_cases b1 : b = 1
      · rw [if_pos b1] at e; exact absurd e (by decide)
      · rw [if_neg b1] at e
        by_cases b2 : b = 2
        · rw [a2, b2]
        · rw [if_neg b2] at e
          rw [e, lastD_itoa] at ht; exact absurd ht (by simp)
    · rw [if_neg a2] at e
      by_cases b1 : b = 1
      · rw [if_pos b1] at e
        rw [← e, lastD_itoa] at hv; exact absurd hv (by simp)
      · rw [if_neg b1] at e
        by_cases b2 : b = 2
        · rw [if_pos b2] at e
          rw [← e, lastD_itoa] at ht; exact absurd ht (by simp)
        · rw [if_neg b2] at e
          exact itoa_inj (List.append_cancel_left e)
theorem kind_name (k : Int) : kindT k ≠ nameW := by
  intro e
  have hn : lastD nameW = false := by decide +kernel
  unfold kindT at e
  split at e
  · exact absurd e (by decide)
  · split at e
    · exact absurd e (by decide)
    · rw [← e, lastD_itoa] at hn; exact absurd hn (by simp)

/-! ### Lines of commands -/
theorem raw_tok (l : By) : Tok (rawT l) := by
  unfold rawT
  split
  · exact tok_of _ (by decide)
  · refine tok_of _ fun c hc => ?_
    obtain ⟨a, _, ha⟩ := List.mem_flatMap.1 hc
    have : ∀ x : UInt8, ∀ d ∈ hxB x, d ≠ 34 ∧ d ≠ 32 := all256 (by decide +kernel)
    exact this a c ha
theorem fld_tok (r : Rq) (u : UInt8) : Tok (fldT r u) := by
  unfold fldT
  split
  · exact txt_tok _
  · split
    · exact txt_tok _
    · split
      · exact txt_tok _
      · split
        · exact itoa_tok _
        · split
          · exact itoa_tok _
          · split
            · exact itoa_tok _
            · split
              · exact itoa_tok _
              · exact tok_of _ (fun c hc => by cases hc)
theorem fld_vis (r : Rq) (u : UInt8) : Vis (fldT r u) := by
  unfold fldT
  split
  · exact txt_vis _
  · split
    · exact txt_vis _
    · split
      · exact txt_vis _
      · split
        · exact itoa_vis _
        · split
          · exact itoa_vis _
          · split
            · exact itoa_vis _
            · split
              · exact itoa_vis _
              · exact vis_nil
theorem args_all {P : By → Prop} (hi : ∀ n, P (Lib.itoa n)) (ho : ∀ n, P (opT n)) (hr : ∀ l, P (rawT l)) (hf : ∀ r u, P (fldT r u)) (c : Cm) : ∀ x ∈ argsL c, P x := by
  unfold argsL
  intro x hx
  split at hx
  · rw [List.mem_singleton.1 hx]; exact hi _
  · split at hx
    · rcases List.mem_cons.1 hx with e | hx
      · rw [e]; exact hi _
      · rcases List.mem_cons.1 hx with e | hx
        · rw [e]; exact hi _
        · rcases List.mem_cons.1 hx with e | hx
          · rw [e]; exact ho _
          · obtain ⟨u, _, e⟩ := List.mem_map.1 hx
            rw [← e]; exact hf _ _
    · split at hx
      · rcases List.mem_cons.1 hx with e | hx
        · rw [e]; exact hi _
        · rw [List.mem_singleton.1 hx]; exact hr _
      · split at hx
        · rw [List.mem_singleton.1 hx]; exact hi _
        · split at hx
          · obtain ⟨u, _, e⟩ := List.mem_map.1 hx
            rw [← e]; exact hi _
          · split at hx
            · rcases List.mem_cons.1 hx with e | hx
              · rw [e]; exact hi _
              · rw [List.mem_singleton.1 hx]; exact hi _
            · cases hx
theorem args_tok (c : Cm) : ∀ x ∈ argsL c, Tok x := args_all itoa_tok op_tok raw_tok fld_tok c
theorem line_vis (c : Cm) : Vis (lineL c) := join_vis (verb_vis _) (args_all itoa_vis op_vis raw_vis fld_vis c)
theorem line_cut (c : Cm) : cutL false [] (lineL c) = verbT c.verb :: argsL c := cut_join _ _ (verb_tok _) (args_tok c)

theorem map_itoa_inj : ∀ (a b : List Int), a.map Lib.itoa = b.map Lib.itoa → a = b
  | [], [], _ => rfl
  | [], y :: b, h => by simp at h
  | x :: a, [], h => by simp at h
  | x :: a, y :: b, h => by
    rw [List.map_cons, List.map_cons] at h
    rw [itoa_inj (List.cons.inj h).1, map_itoa_inj a b (List.cons.inj h).2]
/-- Requests that tell the same fields are the same. -/
theorem req_same {r s : Rq} (hr : OkR r) (hs : OkR s) (hi : r.id = s.id) (ho : r.op = s.op) (h : ∀ u, usesB r.op u = true → fldT r u = fldT s u) : r = s := by
  obtain ⟨i1, o1, t1, k1, v1, f1, n1, p1, q1⟩ := r
  obtain ⟨i2, o2, t2, k2, v2, f2, n2, p2, q2⟩ := s
  obtain ⟨a1, a2, a3, a4, a5, a6, a7, a8, a9, aT, aK, aV, aO, aN, aP, aS⟩ := hr
  obtain ⟨b1, b2, b3, b4, b5, b6, b7, b8, b9, bT, bK, bV, bO, bN, bP, bS⟩ := hs
  simp only at *
  subst hi ho
  have eT : t1 = t2 := by
    by_cases hu : usesB o1 84 = true
    · have := h 84 hu; exact txt_inj (by simpa [fldT] using this)
    · rw [aT.resolve_right hu, bT.resolve_right hu]
  have eK : k1 = k2 := by
    by_cases hu : usesB o1 75 = true
    · have := h 75 hu; exact txt_inj (by simpa [fldT] using this)
    · rw [aK.resolve_right hu, bK.resolve_right hu]
  have eV : v1 = v2 := by
    by_cases hu : usesB o1 86 = true
    · have := h 86 hu; exact txt_inj (by simpa [fldT] using this)
    · rw [aV.resolve_right hu, bV.resolve_right hu]
  have eO : f1 = f2 := by
    by_cases hu : usesB o1 79 = true
    · have := h 79 hu; exact itoa_inj (by simpa [fldT] using this)
    · rw [aO.resolve_right hu, bO.resolve_right hu]
  have eN : n1 = n2 := by
    by_cases hu : usesB o1 78 = true
    · have := h 78 hu; exact itoa_inj (by simpa [fldT] using this)
    · rw [aN.resolve_right hu, bN.resolve_right hu]
  have eP : p1 = p2 := by
    by_cases hu : usesB o1 80 = true
    · have := h 80 hu; exact itoa_inj (by simpa [fldT] using this)
    · rw [aP.resolve_right hu, bP.resolve_right hu]
  have eS : q1 = q2 := by
    by_cases hu : usesB o1 83 = true
    · have := h 83 hu; exact itoa_inj (by simpa [fldT] using this)
    · rw [aS.resolve_right hu, bS.resolve_right hu]
  rw [eT, eK, eV, eO, eN, eP, eS]
theorem map_fld : ∀ (l : By) (r s : Rq), l.map (fldT r) = l.map (fldT s) → ∀ u, l.contains u = true → fldT r u = fldT s u
  | [], r, s, _, u, hu => by simp at hu
  | x :: l, r, s, h, u, hu => by
    rw [List.map_cons, List.map_cons] at h
    by_cases e : u = x
    · rw [e]; exact (List.cons.inj h).1
    · refine map_fld l r s (List.cons.inj h).2 u ?_
      simp [e] at hu
      simpa using hu
/-- Two commands that may be and have one line are the same. -/
theorem line_inj {c d : Cm} (hc : OkC c) (hd : OkC d) (e : lineL c = lineL d) : c = d := by
  obtain ⟨ev, ea⟩ := join_inj (verb_tok _) (verb_tok _) (args_tok c) (args_tok d) e
  have ev := verb_inj hc.v1 hc.v2 hd.v1 hd.v2 ev
  obtain ⟨v, n1, r1, b1, m1, p1⟩ := c
  obtain ⟨v', n2, r2, b2, m2, p2⟩ := d
  simp only at ev
  subst ev
  obtain ⟨a1, a2, a3, a4, a5, a6, a7, a8, a9, a10, a11, a12, a13⟩ := hc
  obtain ⟨d1, d2, d3, d4, d5, d6, d7, d8, d9, d10, d11, d12, d13⟩ := hd
  simp only at *
  have hcases : v = 0 ∨ v = 1 ∨ v = 2 ∨ v = 3 ∨ v = 4 ∨ v = 5 ∨ v = 6 ∨ v = 7 ∨ v = 8 ∨ v = 9 ∨ v = 10 := by omega
  by_cases h2 : v = 2
  · subst h2
    simp only [argsL] at ea
    simp at ea
    obtain ⟨e1, e2, e3, e4⟩ := ea
    have ho := op_inj e3
    have hr := req_same (a8 rfl) (d8 rfl) (itoa_inj e2) ho (by
      rw [← ho] at e4
      exact map_fld _ _ _ (by simpa using e4))
    rw [itoa_inj e1, hr, a6.resolve_right (by omega), d6.resolve_right (by omega), a13 (by omega) (by omega) (by omega), d13 (by omega) (by omega) (by omega),
      a7.resolve_right (by unfold usesPicks; omega), d7.resolve_right (by unfold usesPicks; omega)]
  · rw [a9 h2, d9 h2]
    have hraw : v ≠ 3 → b1 = b2 := fun h => by rw [a6.resolve_right h, d6.resolve_right h]
    have hpk : ¬ usesPicks v → p1 = p2 := fun h => by rw [a7.resolve_right h, d7.resolve_right h]
    have hcn : ¬ usesConn v → n1 = n2 := fun h => by rw [a5.resolve_right h, d5.resolve_right h]
    have hn : v ≠ 4 → v ≠ 6 → v ≠ 7 → m1 = m2 := fun x y z => by rw [a13 x y z, d13 x y z]
    unfold usesPicks at hpk
    unfold usesConn at hcn
    rcases hcases with h | h | h | h | h | h | h | h | h | h | h
    · subst h; simp [argsL] at ea
      rw [itoa_inj ea, hraw (by omega), hpk (by omega), hn (by omega) (by omega) (by omega)]
    · subst h; simp [argsL] at ea
      rw [itoa_inj ea, hraw (by omega), hpk (by omega), hn (by omega) (by omega) (by omega)]
    · exact absurd h h2
    · subst h; simp [argsL] at ea
      rw [itoa_inj ea.1, raw_inj ea.2, hpk (by omega), hn (by omega) (by omega) (by omega)]
    · subst h; simp [argsL] at ea
      rw [itoa_inj ea, hraw (by omega), hpk (by omega), hcn (by omega)]
    · subst h
      have k1 : ∀ n r b m p, argsL ⟨5, n, r, b, m, p⟩ = p.map Lib.itoa := fun n r b m p => by simp [argsL]
      rw [k1, k1] at ea
      rw [map_itoa_inj _ _ ea, hraw (by omega), hcn (by omega), hn (by omega) (by omega) (by omega)]
    · subst h; simp [argsL] at ea
      rw [itoa_inj ea.1, itoa_inj ea.2, hraw (by omega), hpk (by omega)]
    · subst h; simp [argsL] at ea
      rw [itoa_inj ea, hraw (by omega), hpk (by omega), hcn (by omega)]
    · subst h
      have k1 : ∀ n r b m p, argsL ⟨8, n, r, b, m, p⟩ = p.map Lib.itoa := fun n r b m p => by simp [argsL]
      rw [k1, k1] at ea
      rw [map_itoa_inj _ _ ea, hraw (by omega), hcn (by omega), hn (by omega) (by omega) (by omega)]
    · subst h
      rw [hraw (by omega), hpk (by omega), hcn (by omega), hn (by omega) (by omega) (by omega)]
    · subst h
      rw [hraw (by omega), hpk (by omega), hcn (by omega), hn (by omega) (by omega) (by omega)]
theorem IsLine.one {c d : Cm} {l : By} (hc : IsLine c l) (hd : IsLine d l) : c = d := line_inj hc.1 hd.1 (hc.2.1.trans hd.2.1.symm)
theorem IsLine.vis {c : Cm} {l : By} (h : IsLine c l) : Vis l := by rw [← h.2.1]; exact line_vis c
theorem IsLine.ne {c : Cm} {l : By} (h : IsLine c l) : l ≠ [] := by
  rw [← h.2.1]
  intro e
  have := vW_ne ⟨c.verb.toNat, by have := h.1.v1; have := h.1.v2; omega⟩
  unfold lineL joinL at e
  rw [verb_at h.1.v1 h.1.v2] at e
  exact this (List.append_eq_nil_iff.1 e).1

/-! ### Lines of responses -/
structure Sr where
  kind : Int
  offset : Int
  time : Int
  pid : Int
  seq : Int
  key : By
  value : By
structure Rp where
  id : Int
  op : Int
  code : Int
  offset : Int
  number : Int
  more : Bool
  recs : List Sr
  names : List By
def recT (x : Sr) : List By := [kindT x.kind, Lib.itoa x.offset, Lib.itoa x.time, Lib.itoa x.pid, Lib.itoa x.seq, txt x.key, txt x.value]
def nameT (s : By) : List By := [nameW, txt s]
def restT (r : Rp) : List By := r.names.flatMap nameT ++ r.recs.flatMap recT
def showT (r : Rp) : List By := [opT r.op, codeT r.code, Lib.itoa r.offset, Lib.itoa r.number, if r.more = true then moreW else lastW] ++ restT r
def showL (r : Rp) : By := joinL (Lib.itoa r.id) (showT r)
theorem show_all {P : By → Prop} (hi : ∀ n, P (Lib.itoa n)) (ho : ∀ n, P (opT n)) (hc : ∀ n, P (codeT n)) (hk : ∀ n, P (kindT n)) (ht : ∀ s, P (txt s)) (hm : P moreW) (hl : P lastW) (hn : P nameW) (r : Rp) : ∀ x ∈ showT r, P x := by
  intro x hx
  unfold showT at hx
  rcases List.mem_append.1 hx with hx | hx
  · simp only [List.mem_cons, List.not_mem_nil, or_false] at hx
    rcases hx with e | e | e | e | e
    · rw [e]; exact ho _
    · rw [e]; exact hc _
    · rw [e]; exact hi _
    · rw [e]; exact hi _
    · rw [e]; split
      · exact hm
      · exact hl
  · unfold restT at hx
    rcases List.mem_append.1 hx with hx | hx
    · obtain ⟨s, _, hs⟩ := List.mem_flatMap.1 hx
      simp only [nameT, List.mem_cons, List.not_mem_nil, or_false] at hs
      rcases hs with e | e
      · rw [e]; exact hn
      · rw [e]; exact ht _
    · obtain ⟨s, _, hs⟩ := List.mem_flatMap.1 hx
      simp only [recT, List.mem_cons, List.not_mem_nil, or_false] at hs
      rcases hs with e | e | e | e | e | e | e
      · rw [e]; exact hk _
      · rw [e]; exact hi _
      · rw [e]; exact hi _
      · rw [e]; exact hi _
      · rw [e]; exact hi _
      · rw [e]; exact ht _
      · rw [e]; exact ht _
theorem show_tok (r : Rp) : ∀ x ∈ showT r, Tok x := show_all itoa_tok op_tok code_tok kind_tok txt_tok (tok_of _ (by decide)) (tok_of _ (by decide)) (tok_of _ (by decide)) r
theorem show_vis (r : Rp) : Vis (showL r) := join_vis (itoa_vis _) (show_all itoa_vis op_vis code_vis kind_vis txt_vis (by show ∀ c ∈ moreW, _; decide) (by show ∀ c ∈ lastW, _; decide) (by show ∀ c ∈ nameW, _; decide) r)
theorem show_ne (r : Rp) : showL r ≠ [] := fun e => itoa_nonempty r.id (List.append_eq_nil_iff.1 e).1
theorem recs_inj : ∀ (a b : List Sr), a.flatMap recT = b.flatMap recT → a = b
  | [], [], _ => rfl
  | [], y :: b, h => by simp [recT] at h
  | x :: a, [], h => by simp [recT] at h
  | x :: a, y :: b, h => by
    rw [List.flatMap_cons, List.flatMap_cons] at h
    have := List.append_inj h rfl
    rw [recs_inj a b this.2]
    obtain ⟨k1, o1, t1, p1, q1, a1, b1⟩ := x
    obtain ⟨k2, o2, t2, p2, q2, a2, b2⟩ := y
    have h1 := this.1
    simp only [recT, List.cons.injEq, and_true] at h1
    obtain ⟨e1, e2, e3, e4, e5, e6, e7⟩ := h1
    rw [kind_inj e1, itoa_inj e2, itoa_inj e3, itoa_inj e4, itoa_inj e5, txt_inj e6, txt_inj e7]
theorem rest_inj : ∀ (m n : List By) (a b : List Sr), m.flatMap nameT ++ a.flatMap recT = n.flatMap nameT ++ b.flatMap recT → m = n ∧ a = b
  | [], [], a, b, h => ⟨rfl, recs_inj a b (by simpa using h)⟩
  | [], y :: n, [], b, h => by simp [nameT] at h
  | [], y :: n, x :: a, b, h => by
    simp only [List.flatMap_cons, List.flatMap_nil, List.nil_append, recT, nameT, List.cons_append] at h
    exact absurd (List.cons.inj h).1 (kind_name _)
  | x :: m, [], a, [], h => by simp [nameT] at h
  | x :: m, [], a, y :: b, h => by
    simp only [List.flatMap_cons, List.flatMap_nil, List.nil_append, recT, nameT, List.cons_append] at h
    exact absurd (List.cons.inj h).1.symm (kind_name _)
  | x :: m, y :: n, a, b, h => by
    simp only [List.flatMap_cons, nameT, List.cons_append, List.nil_append, List.cons.injEq, true_and] at h
    obtain ⟨h1, h2⟩ := rest_inj m n a b h.2
    exact ⟨by rw [txt_inj h.1, h1], h2⟩
theorem show_inj {r s : Rp} (e : showL r = showL s) : r = s := by
  obtain ⟨e1, e2⟩ := join_inj (itoa_tok _) (itoa_tok _) (show_tok r) (show_tok s) e
  obtain ⟨i1, o1, c1, f1, n1, m1, r1, s1⟩ := r
  obtain ⟨i2, o2, c2, f2, n2, m2, r2, s2⟩ := s
  simp only [showT, List.cons_append, List.nil_append, List.cons.injEq] at e2
  obtain ⟨h1, h2, h3, h4, h5, h6⟩ := e2
  obtain ⟨k1, k2⟩ := rest_inj _ _ _ _ h6
  have hm : m1 = m2 := by
    cases m1 <;> cases m2
    · rfl
    · exact absurd h5 (by rw [if_neg (by simp), if_pos rfl]; decide)
    · exact absurd h5 (by rw [if_pos rfl, if_neg (by simp)]; decide)
    · rfl
  simp only at k1 k2 e1
  rw [itoa_inj e1, op_inj h1, code_inj h2, itoa_inj h3, itoa_inj h4, hm, k1, k2]
end Go.Proofs.YtlnppgjppfkocaaGreatDoor.Xs

/-! A blank more makes no line of a line, plainly. -/
namespace Go.Proofs.YtlnppgjppfkocaaGreatDoor.Xs
set_option linter.unusedVariables false
set_option linter.unusedSimpArgs false

/-- A part without blanks and quotes. -/
def Bare (l : By) : Prop := ∀ c ∈ l, c ≠ 34 ∧ c ≠ 32
theorem Bare.tok {l : By} (h : Bare l) : Tok l := tok_of l h
theorem Bare.take {l : By} (h : Bare l) (k : Nat) : Bare (l.take k) := fun c hc => h c (List.mem_of_mem_take hc)
theorem Bare.drop {l : By} (h : Bare l) (k : Nat) : Bare (l.drop k) := fun c hc => h c (List.mem_of_mem_drop hc)
/-- Between two signs that are no blanks. -/
def Inside (s : By) (k : Nat) : Prop := 0 < k ∧ k < s.length ∧ s.getD (k - 1) 32 ≠ 32 ∧ s.getD k 32 ≠ 32
theorem join_cons (p q : By) (qs : List By) : joinL p (q :: qs) = p ++ 32 :: joinL q qs := by
  unfold joinL; simp
theorem getD_left (a b : By) (i : Nat) (d : UInt8) (h : i < a.length) : (a ++ b).getD i d = a.getD i d := by
  rw [List.getD_eq_getElem?_getD, List.getD_eq_getElem?_getD, List.getElem?_append_left h]
theorem getD_right (a b : By) (i : Nat) (d : UInt8) : (a ++ b).getD (a.length + i) d = b.getD i d := by
  rw [List.getD_eq_getElem?_getD, List.getD_eq_getElem?_getD, List.getElem?_append_right (Nat.le_add_right _ _), Nat.add_sub_cancel_left]
theorem blank_split : ∀ (ps : List By) (p : By) (k : Nat), Bare p → (∀ x ∈ ps, Bare x) → k ≤ (joinL p ps).length →
    ∃ p1 x y p2, p :: ps = p1 ++ (x ++ y) :: p2 ∧ cutL false [] ((joinL p ps).take k ++ 32 :: (joinL p ps).drop k) = p1 ++ x :: y :: p2 ∧ (x ≠ [] → y ≠ [] → Inside (joinL p ps) k) := by
  have first : ∀ (ps : List By) (p : By) (k : Nat), Bare p → (∀ x ∈ ps, Bare x) → k ≤ p.length →
    ∃ p1 x y p2, p :: ps = p1 ++ (x ++ y) :: p2 ∧ cutL false [] ((joinL p ps).take k ++ 32 :: (joinL p ps).drop k) = p1 ++ x :: y :: p2 ∧ (x ≠ [] → y ≠ [] → Inside (joinL p ps) k) := by
    intro ps p k hp hps hk
    refine ⟨[], p.take k, p.drop k, ps, by simp, ?_, fun hx hy => ?_⟩
    · have e1 : (joinL p ps).take k = p.take k := by unfold joinL; rw [List.take_append_of_le_length hk]
      have e2 : (joinL p ps).drop k = joinL (p.drop k) ps := by unfold joinL; rw [List.drop_append_of_le_length hk]
      rw [e1, e2, (hp.take k).tok [] _, cut_blank, cut_join _ _ (hp.drop k).tok (fun x hx => (hps x hx).tok)]
      rfl
    · have h0 : 0 < k := Nat.pos_of_ne_zero fun e => hx (by rw [e]; rfl)
      have h1 : k < p.length := Nat.lt_of_not_le fun h => hy (List.drop_eq_nil_of_le h)
      have hget : ∀ i, i < p.length → (joinL p ps).getD i 32 ≠ 32 := fun i hi => by
        unfold joinL
        rw [getD_left _ _ _ _ hi, List.getD_eq_getElem?_getD, List.getElem?_eq_getElem hi]
        exact (hp _ (List.getElem_mem hi)).2
      refine ⟨h0, ?_, hget _ (by omega), hget _ h1⟩
      unfold joinL
      rw [List.length_append]; omega
  intro ps
  induction ps with
  | nil =>
    intro p k hp hps hk
    exact first [] p k hp hps (by simpa [joinL] using hk)
  | cons q qs ih =>
    intro p k hp hps hk
    by_cases hkp : k ≤ p.length
    · exact first (q :: qs) p k hp hps hkp
    · obtain ⟨m, rfl⟩ : ∃ m, k = p.length + (m + 1) := ⟨k - p.length - 1, by omega⟩
      have hk' : m ≤ (joinL q qs).length := by
        rw [join_cons, List.length_append, List.length_cons] at hk; omega
      obtain ⟨p1, x, y, p2, e1, e2, e3⟩ := ih q m (hps q (by simp)) (fun z hz => hps z (by simp [hz])) hk'
      refine ⟨p :: p1, x, y, p2, by rw [e1]; rfl, ?_, fun hx hy => ?_⟩
      · rw [join_cons, List.take_length_add_append, List.drop_length_add_append, List.take_succ_cons, List.drop_succ_cons, List.append_assoc, hp.tok, List.cons_append, cut_blank, e2]
        rfl
      · obtain ⟨i1, i2, i3, i4⟩ := e3 hx hy
        refine ⟨by omega, ?_, ?_, ?_⟩
        · rw [join_cons, List.length_append, List.length_cons]; omega
        · rw [join_cons, show p.length + (m + 1) - 1 = p.length + ((m - 1) + 1) by omega, getD_right, List.getD_cons_succ]
          exact i3
        · rw [join_cons, getD_right, List.getD_cons_succ]
          exact i4

theorem vW_bare (v : Int) : Bare (verbT v) := by
  unfold verbT
  split
  case isTrue h => exact vW_tok ⟨v.toNat, by omega⟩
  case isFalse h => exact fun c hc => by cases hc
theorem itoa_bare (n : Int) : Bare (Lib.itoa n) := fun c hc => by
  rcases itoa_sign n c hc with h | h
  · exact ⟨fun e => by subst e; simp at h, fun e => by subst e; simp at h⟩
  · exact ⟨fun e => by subst e; simp at h, fun e => by subst e; simp at h⟩
theorem raw_bare (l : By) : Bare (rawT l) := by
  unfold rawT
  split
  · exact (by decide : ∀ c ∈ ([45] : By), c ≠ 34 ∧ c ≠ 32)
  · intro c hc
    obtain ⟨a, _, ha⟩ := List.mem_flatMap.1 hc
    have : ∀ x : UInt8, ∀ d ∈ hxB x, d ≠ 34 ∧ d ≠ 32 := all256 (by decide +kernel)
    exact this a c ha
theorem args_bare (c : Cm) (h : c.verb ≠ 2) : ∀ x ∈ argsL c, Bare x := by
  unfold argsL
  rw [if_neg h]
  intro x hx
  split at hx
  · rw [List.mem_singleton.1 hx]; exact itoa_bare _
  · split at hx
    · rcases List.mem_cons.1 hx with e | hx
      · rw [e]; exact itoa_bare _
      · rw [List.mem_singleton.1 hx]; exact raw_bare _
    · split at hx
      · rw [List.mem_singleton.1 hx]; exact itoa_bare _
      · split at hx
        · obtain ⟨u, _, e⟩ := List.mem_map.1 hx
          rw [← e]; exact itoa_bare _
        · split at hx
          · rcases List.mem_cons.1 hx with e | hx
            · rw [e]; exact itoa_bare _
            · rw [List.mem_singleton.1 hx]; exact itoa_bare _
          · cases hx
theorem txt_nonempty (s : By) : txt s ≠ [] := by
  unfold txt
  split
  case isTrue h => exact h.1
  case isFalse h => simp
theorem raw_nonempty (l : By) : rawT l ≠ [] := by
  unfold rawT
  split
  · simp
  case isFalse h => cases l with
    | nil => exact absurd rfl h
    | cons a l => simp [hxB]
theorem op_nonempty (o : Int) : opT o ≠ [] := by
  unfold opT
  split
  case isTrue h => exact oW_ne ⟨o.toNat - 1, by omega⟩
  case isFalse h =>
    split
    · decide
    · exact fun e => absurd (List.append_eq_nil_iff.1 e).1 (by decide)
theorem fld_nonempty (r : Rq) : ∀ u ∈ fldL r.op, fldT r u ≠ [] := by
  have hl : ∀ u ∈ fldL r.op, u = 84 ∨ u = 75 ∨ u = 86 ∨ u = 79 ∨ u = 78 ∨ u = 80 ∨ u = 83 := by
    unfold fldL
    split
    · decide
    · split
      · decide
      · split
        · decide
        · split
          · decide
          · split
            · decide
            · split
              · decide
              · split
                · decide
                · split
                  · decide
                  · split
                    · decide
                    · intro u hu; cases hu
  intro u hu
  rcases hl u hu with e | e | e | e | e | e | e <;> subst e
  · exact txt_nonempty _
  · exact txt_nonempty _
  · exact txt_nonempty _
  · exact itoa_nonempty _
  · exact itoa_nonempty _
  · exact itoa_nonempty _
  · exact itoa_nonempty _
theorem args_nonempty (c : Cm) : ∀ x ∈ argsL c, x ≠ [] := by
  unfold argsL
  intro x hx
  split at hx
  · rw [List.mem_singleton.1 hx]; exact itoa_nonempty _
  · split at hx
    · rcases List.mem_cons.1 hx with e | hx
      · rw [e]; exact itoa_nonempty _
      · rcases List.mem_cons.1 hx with e | hx
        · rw [e]; exact itoa_nonempty _
        · rcases List.mem_cons.1 hx with e | hx
          · rw [e]; exact op_nonempty _
          · obtain ⟨u, hu, e⟩ := List.mem_map.1 hx
            rw [← e]; exact fld_nonempty _ u hu
    · split at hx
      · rcases List.mem_cons.1 hx with e | hx
        · rw [e]; exact itoa_nonempty _
        · rw [List.mem_singleton.1 hx]; exact raw_nonempty _
      · split at hx
        · rw [List.mem_singleton.1 hx]; exact itoa_nonempty _
        · split at hx
          · obtain ⟨u, _, e⟩ := List.mem_map.1 hx
            rw [← e]; exact itoa_nonempty _
          · split at hx
            · rcases List.mem_cons.1 hx with e | hx
              · rw [e]; exact itoa_nonempty _
              · rw [List.mem_singleton.1 hx]; exact itoa_nonempty _
            · cases hx
theorem verb_nonempty {v : Int} (h1 : 0 ≤ v) (h2 : v < 11) : verbT v ≠ [] := by
  rw [verb_at h1 h2]; exact vW_ne ⟨v.toNat, by omega⟩
/-- No verb's word begins another one. -/
theorem vW_pre : ∀ i j : Fin 11, ∀ k : Fin 6, (vW.getD i.val []).take k.val = vW.getD j.val [] → (vW.getD i.val []).length ≤ k.val := by decide +kernel
theorem vW_len : ∀ i : Fin 11, (vW.getD i.val []).length ≤ 5 := by decide +kernel

theorem args_count {c d : Cm} (e : c.verb = d.verb) (h2 : c.verb ≠ 2) (h5 : c.verb ≠ 5) (h8 : c.verb ≠ 8) : (argsL c).length = (argsL d).length := by
  unfold argsL
  rw [← e, if_neg h2, if_neg h2, if_neg (by omega : ¬ (c.verb = 5 ∨ c.verb = 8)), if_neg (by omega : ¬ (c.verb = 5 ∨ c.verb = 8))]
  split
  · rfl
  · split
    · rfl
    · split
      · rfl
      · split <;> rfl
/-- A line with a blank more is none, but where the blank parts a number of several. -/
theorem no_line {c : Cm} {s : By} (hc : IsLine c s) (h2 : c.verb ≠ 2) (k : Nat) (hk : k ≤ s.length) (hi : Inside s k → c.verb ≠ 5 ∧ c.verb ≠ 8) (d : Cm) : ¬ IsLine d (s.take k ++ 32 :: s.drop k) := by
  intro hd
  obtain ⟨ok, e, _⟩ := hc
  obtain ⟨od, ed, _⟩ := hd
  subst e
  obtain ⟨p1, x, y, p2, e1, e2, e3⟩ := blank_split (argsL c) (verbT c.verb) k (vW_bare _) (args_bare c h2) hk
  have hcut := line_cut d
  rw [ed] at hcut
  change cutL false [] ((joinL (verbT c.verb) (argsL c)).take k ++ 32 :: (joinL (verbT c.verb) (argsL c)).drop k) = _ at hcut
  rw [e2] at hcut
  have hne : ∀ z ∈ verbT d.verb :: argsL d, z ≠ [] := fun z hz => by
    rcases List.mem_cons.1 hz with e | hz
    · rw [e]; exact verb_nonempty od.v1 od.v2
    · exact args_nonempty d z hz
  have hx : x ≠ [] := hne x (by rw [← hcut]; simp)
  have hy : y ≠ [] := hne y (by rw [← hcut]; simp)
  obtain ⟨n5, n8⟩ := hi (e3 hx hy)
  cases p1 with
  | nil =>
    rw [List.nil_append] at e1 hcut
    have hv := (List.cons.inj e1).1
    have hw := (List.cons.inj hcut).1
    rw [verb_at ok.v1 ok.v2] at hv
    rw [verb_at od.v1 od.v2] at hw
    have h5 := vW_len ⟨c.verb.toNat, by have := ok.v1; have := ok.v2; omega⟩
    simp only at h5
    have hl : x.length + y.length ≤ 5 := by rw [hv, List.length_append] at h5; exact h5
    have hy0 : 0 < y.length := List.length_pos_iff.2 hy
    have := vW_pre ⟨c.verb.toNat, by have := ok.v1; have := ok.v2; omega⟩ ⟨d.verb.toNat, by have := od.v1; have := od.v2; omega⟩ ⟨x.length, by omega⟩ (by
      simp only
      rw [hv, ← hw, List.take_left])
    simp only at this
    rw [hv, List.length_append] at this
    omega
  | cons z p1 =>
    rw [List.cons_append] at e1 hcut
    have hv := (List.cons.inj e1).1
    have hw := (List.cons.inj hcut).1
    have hvd := verb_inj ok.v1 ok.v2 od.v1 od.v2 (hv.trans hw)
    have := args_count hvd h2 n5 n8
    rw [(List.cons.inj e1).2, ← (List.cons.inj hcut).2] at this
    simp at this
theorem no_line_end {c : Cm} {s : By} (hc : IsLine c s) (h2 : c.verb ≠ 2) (d : Cm) : ¬ IsLine d (s ++ [32]) := by
  have := no_line hc h2 s.length (Nat.le_refl _) (fun h => absurd h.2.1 (Nat.lt_irrefl _)) d
  rwa [List.take_length, List.drop_length] at this
theorem no_line_head {c : Cm} {s : By} (hc : IsLine c s) (h2 : c.verb ≠ 2) (d : Cm) : ¬ IsLine d (32 :: s) :=
  no_line hc h2 0 (Nat.zero_le _) (fun h => absurd h.1 (Nat.lt_irrefl _)) d
end Go.Proofs.YtlnppgjppfkocaaGreatDoor.Xs
