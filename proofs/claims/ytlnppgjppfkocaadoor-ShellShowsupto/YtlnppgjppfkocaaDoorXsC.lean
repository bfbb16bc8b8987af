import Derived.Test.YtlnppgjppfkocaaDoorXsB
/-! A blank more makes no line of a line, plainly. -/
namespace Go.Proofs.YtlnppgjppfkocaaDoor.Xs
set_option linter.unusedVariables false
set_option linter.unusedSimpArgs false

/-- A part without blanks and quotes. -/
def Bare (l : By) : Prop := ∀ c ∈ l, c ≠ 34 ∧ c ≠ 32
theorem Bare.tok {l : By} (h : Bare l) : Tok l := tok_of l h
theorem Bare.take {l : By} (h : Bare l) (k : Nat) : Bare (l.take k) := fun c hc => h c (List.mem_of_mem_take hc)
theorem Bare.drop {l : By} (h : Bare l) (k : Nat) : Bare (l.drop k) := fun c hc => h c (List.mem_of_mem_drop hc)
/-- Between two signs that are no blanks. -/
def Inside (s : By) (k : Nat) : Prop := 0 < k ∧ k < s.length ∧ s.getD (k - 1) 32 ≠ 32 ∧ s.getD k 32 ≠ 32
theorem join_cons (p q : By) (qs : List By) : joinL p (q :: qs) = p ++ 32 :: joinL q qs := by
  unfold joinL; simp
theorem getD_left (a b : By) (i : Nat) (d : UInt8) (h : i < a.length) : (a ++ b).getD i d = a.getD i d := by
  rw [List.getD_eq_getElem?_getD, List.getD_eq_getElem?_getD, List.getElem?_append_left h]
theorem getD_right (a b : By) (i : Nat) (d : UInt8) : (a ++ b).getD (a.length + i) d = b.getD i d := by
  rw [List.getD_eq_getElem?_getD, List.getD_eq_getElem?_getD, List.getElem?_append_right (Nat.le_add_right _ _), Nat.add_sub_cancel_left]
theorem blank_split : ∀ (ps : List By) (p : By) (k : Nat), Bare p → (∀ x ∈ ps, Bare x) → k ≤ (joinL p ps).length →
    ∃ p1 x y p2, p :: ps = p1 ++ (x ++ y) :: p2 ∧ cutL false [] ((joinL p ps).take k ++ 32 :: (joinL p ps).drop k) = p1 ++ x :: y :: p2 ∧ (x ≠ [] → y ≠ [] → Inside (joinL p ps) k) := by
  have first : ∀ (ps : List By) (p : By) (k : Nat), Bare p → (∀ x ∈ ps, Bare x) → k ≤ p.length →
    ∃ p1 x y p2, p :: ps = p1 ++ (x ++ y) :: p2 ∧ cutL false [] ((joinL p ps).take k ++ 32 :: (joinL p ps).drop k) = p1 ++ x :: y :: p2 ∧ (x ≠ [] → y ≠ [] → Inside (joinL p ps) k) := by
    intro ps p k hp hps hk
    refine ⟨[], p.take k, p.drop k, ps, by simp, ?_, fun hx hy => ?_⟩
    · have e1 : (joinL p ps).take k = p.take k := by unfold joinL; rw [List.take_append_of_le_length hk]
      have e2 : (joinL p ps).drop k = joinL (p.drop k) ps := by unfold joinL; rw [List.drop_append_of_le_length hk]
      rw [e1, e2, (hp.take k).tok [] _, cut_blank, cut_join _ _ (hp.drop k).tok (fun x hx => (hps x hx).tok)]
      rfl
    · have h0 : 0 < k := Nat.pos_of_ne_zero fun e => hx (by rw [e]; rfl)
      have h1 : k < p.length := Nat.lt_of_not_le fun h => hy (List.drop_eq_nil_of_le h)
      have hget : ∀ i, i < p.length → (joinL p ps).getD i 32 ≠ 32 := fun i hi => by
        unfold joinL
        rw [getD_left _ _ _ _ hi, List.getD_eq_getElem?_getD, List.getElem?_eq_getElem hi]
        exact (hp _ (List.getElem_mem hi)).2
      refine ⟨h0, ?_, hget _ (by omega), hget _ h1⟩
      unfold joinL
      rw [List.length_append]; omega
  intro ps
  induction ps with
  | nil =>
    intro p k hp hps hk
    exact first [] p k hp hps (by simpa [joinL] using hk)
  | cons q qs ih =>
    intro p k hp hps hk
    by_cases hkp : k ≤ p.length
    · exact first (q :: qs) p k hp hps hkp
    · obtain ⟨m, rfl⟩ : ∃ m, k = p.length + (m + 1) := ⟨k - p.length - 1, by omega⟩
      have hk' : m ≤ (joinL q qs).length := by
        rw [join_cons, List.length_append, List.length_cons] at hk; omega
      obtain ⟨p1, x, y, p2, e1, e2, e3⟩ := ih q m (hps q (by simp)) (fun z hz => hps z (by simp [hz])) hk'
      refine ⟨p :: p1, x, y, p2, by rw [e1]; rfl, ?_, fun hx hy => ?_⟩
      · rw [join_cons, List.take_length_add_append, List.drop_length_add_append, List.take_succ_cons, List.drop_succ_cons, List.append_assoc, hp.tok, List.cons_append, cut_blank, e2]
        rfl
      · obtain ⟨i1, i2, i3, i4⟩ := e3 hx hy
        refine ⟨by omega, ?_, ?_, ?_⟩
        · rw [join_cons, List.length_append, List.length_cons]; omega
        · rw [join_cons, show p.length + (m + 1) - 1 = p.length + ((m - 1) + 1) by omega, getD_right, List.getD_cons_succ]
          exact i3
        · rw [join_cons, getD_right, List.getD_cons_succ]
          exact i4

theorem vW_bare (v : Int) : Bare (verbT v) := by
  unfold verbT
  split
  case isTrue h => exact vW_tok ⟨v.toNat, by omega⟩
  case isFalse h => exact fun c hc => by cases hc
theorem itoa_bare (n : Int) : Bare (Lib.itoa n) := fun c hc => by
  rcases itoa_sign n c hc with h | h
  · exact ⟨fun e => by subst e; simp at h, fun e => by subst e; simp at h⟩
  · exact ⟨fun e => by subst e; simp at h, fun e => by subst e; simp at h⟩
theorem raw_bare (l : By) : Bare (rawT l) := by
  unfold rawT
  split
  · exact (by decide : ∀ c ∈ ([45] : By), c ≠ 34 ∧ c ≠ 32)
  · intro c hc
    obtain ⟨a, _, ha⟩ := List.mem_flatMap.1 hc
    have : ∀ x : UInt8, ∀ d ∈ hxB x, d ≠ 34 ∧ d ≠ 32 := all256 (by decide +kernel)
    exact this a c ha
theorem args_bare (c : Cm) (h : c.verb ≠ 2) : ∀ x ∈ argsL c, Bare x := by
  unfold argsL
  rw [if_neg h]
  intro x hx
  split at hx
  · rw [List.mem_singleton.1 hx]; exact itoa_bare _
  · split at hx
    · rcases List.mem_cons.1 hx with e | hx
      · rw [e]; exact itoa_bare _
      · rw [List.mem_singleton.1 hx]; exact raw_bare _
    · split at hx
      · rw [List.mem_singleton.1 hx]; exact itoa_bare _
      · split at hx
        · obtain ⟨u, _, e⟩ := List.mem_map.1 hx
          rw [← e]; exact itoa_bare _
        · split at hx
          · rcases List.mem_cons.1 hx with e | hx
            · rw [e]; exact itoa_bare _
            · rw [List.mem_singleton.1 hx]; exact itoa_bare _
          · cases hx
theorem txt_nonempty (s : By) : txt s ≠ [] := by
  unfold txt
  split
  case isTrue h => exact h.1
  case isFalse h => simp
theorem raw_nonempty (l : By) : rawT l ≠ [] := by
  unfold rawT
  split
  · simp
  case isFalse h => cases l with
    | nil => exact absurd rfl h
    | cons a l => simp [hxB]
theorem op_nonempty (o : Int) : opT o ≠ [] := by
  unfold opT
  split
  case isTrue h => exact oW_ne ⟨o.toNat - 1, by omega⟩
  case isFalse h =>
    split
    · decide
    · exact fun e => absurd (List.append_eq_nil_iff.1 e).1 (by decide)
theorem fld_nonempty (r : Rq) : ∀ u ∈ fldL r.op, fldT r u ≠ [] := by
  have hl : ∀ u ∈ fldL r.op, u = 84 ∨ u = 75 ∨ u = 86 ∨ u = 79 ∨ u = 78 ∨ u = 80 ∨ u = 83 := by
    unfold fldL
    split
    · decide
    · split
      · decide
      · split
        · decide
        · split
          · decide
          · split
            · decide
            · split
              · decide
              · split
                · decide
                · split
                  · decide
                  · split
                    · decide
                    · intro u hu; cases hu
  intro u hu
  rcases hl u hu with e | e | e | e | e | e | e <;> subst e
  · exact txt_nonempty _
  · exact txt_nonempty _
  · exact txt_nonempty _
  · exact itoa_nonempty _
  · exact itoa_nonempty _
  · exact itoa_nonempty _
  · exact itoa_nonempty _
theorem args_nonempty (c : Cm) : ∀ x ∈ argsL c, x ≠ [] := by
  unfold argsL
  intro x hx
  split at hx
  · rw [List.mem_singleton.1 hx]; exact itoa_nonempty _
  · split at hx
    · rcases List.mem_cons.1 hx with e | hx
      · rw [e]; exact itoa_nonempty _
      · rcases List.mem_cons.1 hx with e | hx
        · rw [e]; exact itoa_nonempty _
        · rcases List.mem_cons.1 hx with e | hx
          · rw [e]; exact op_nonempty _
          · obtain ⟨u, hu, e⟩ := List.mem_map.1 hx
            rw [← e]; exact fld_nonempty _ u hu
    · split at hx
      · rcases List.mem_cons.1 hx with e | hx
        · rw [e]; exact itoa_nonempty _
        · rw [List.mem_singleton.1 hx]; exact raw_nonempty _
      · split at hx
        · rw [List.mem_singleton.1 hx]; exact itoa_nonempty _
        · split at hx
          · obtain ⟨u, _, e⟩ := List.mem_map.1 hx
            rw [← e]; exact itoa_nonempty _
          · split at hx
            · rcases List.mem_cons.1 hx with e | hx
              · rw [e]; exact itoa_nonempty _
              · rw [List.mem_singleton.1 hx]; exact itoa_nonempty _
            · cases hx
theorem verb_nonempty {v : Int} (h1 : 0 ≤ v) (h2 : v < 11) : verbT v ≠ [] := by
  rw [verb_at h1 h2]; exact vW_ne ⟨v.toNat, by omega⟩
/-- No verb's word begins another one. -/
theorem vW_pre : ∀ i j : Fin 11, ∀ k : Fin 6, (vW.getD i.val []).take k.val = vW.getD j.val [] → (vW.getD i.val []).length ≤ k.val := by decide +kernel
theorem vW_len : ∀ i : Fin 11, (vW.getD i.val []).length ≤ 5 := by decide +kernel

theorem args_count {c d : Cm} (e : c.verb = d.verb) (h2 : c.verb ≠ 2) (h5 : c.verb ≠ 5) (h8 : c.verb ≠ 8) : (argsL c).length = (argsL d).length := by
  unfold argsL
  rw [← e, if_neg h2, if_neg h2, if_neg (by omega : ¬ (c.verb = 5 ∨ c.verb = 8)), if_neg (by omega : ¬ (c.verb = 5 ∨ c.verb = 8))]
  split
  · rfl
  · split
    · rfl
    · split
      · rfl
      · split <;> rfl
/-- A line with a blank more is none, but where the blank parts a number of several. -/
theorem no_line {c : Cm} {s : By} (hc : IsLine c s) (h2 : c.verb ≠ 2) (k : Nat) (hk : k ≤ s.length) (hi : Inside s k → c.verb ≠ 5 ∧ c.verb ≠ 8) (d : Cm) : ¬ IsLine d (s.take k ++ 32 :: s.drop k) := by
  intro hd
  obtain ⟨ok, e, _⟩ := hc
  obtain ⟨od, ed, _⟩ := hd
  subst e
  obtain ⟨p1, x, y, p2, e1, e2, e3⟩ := blank_split (argsL c) (verbT c.verb) k (vW_bare _) (args_bare c h2) hk
  have hcut := line_cut d
  rw [ed] at hcut
  change cutL false [] ((joinL (verbT c.verb) (argsL c)).take k ++ 32 :: (joinL (verbT c.verb) (argsL c)).drop k) = _ at hcut
  rw [e2] at hcut
  have hne : ∀ z ∈ verbT d.verb :: argsL d, z ≠ [] := fun z hz => by
    rcases List.mem_cons.1 hz with e | hz
    · rw [e]; exact verb_nonempty od.v1 od.v2
    · exact args_nonempty d z hz
  have hx : x ≠ [] := hne x (by rw [← hcut]; simp)
  have hy : y ≠ [] := hne y (by rw [← hcut]; simp)
  obtain ⟨n5, n8⟩ := hi (e3 hx hy)
  cases p1 with
  | nil =>
    rw [List.nil_append] at e1 hcut
    have hv := (List.cons.inj e1).1
    have hw := (List.cons.inj hcut).1
    rw [verb_at ok.v1 ok.v2] at hv
    rw [verb_at od.v1 od.v2] at hw
    have h5 := vW_len ⟨c.verb.toNat, by have := ok.v1; have := ok.v2; omega⟩
    simp only at h5
    have hl : x.length + y.length ≤ 5 := by rw [hv, List.length_append] at h5; exact h5
    have hy0 : 0 < y.length := List.length_pos_iff.2 hy
    have := vW_pre ⟨c.verb.toNat, by have := ok.v1; have := ok.v2; omega⟩ ⟨d.verb.toNat, by have := od.v1; have := od.v2; omega⟩ ⟨x.length, by omega⟩ (by
      simp only
      rw [hv, ← hw, List.take_left])
    simp only at this
    rw [hv, List.length_append] at this
    omega
  | cons z p1 =>
    rw [List.cons_append] at e1 hcut
    have hv := (List.cons.inj e1).1
    have hw := (List.cons.inj hcut).1
    have hvd := verb_inj ok.v1 ok.v2 od.v1 od.v2 (hv.trans hw)
    have := args_count hvd h2 n5 n8
    rw [(List.cons.inj e1).2, ← (List.cons.inj hcut).2] at this
    simp at this
theorem no_line_end {c : Cm} {s : By} (hc : IsLine c s) (h2 : c.verb ≠ 2) (d : Cm) : ¬ IsLine d (s ++ [32]) := by
  have := no_line hc h2 s.length (Nat.le_refl _) (fun h => absurd h.2.1 (Nat.lt_irrefl _)) d
  rwa [List.take_length, List.drop_length] at this
theorem no_line_head {c : Cm} {s : By} (hc : IsLine c s) (h2 : c.verb ≠ 2) (d : Cm) : ¬ IsLine d (32 :: s) :=
  no_line hc h2 0 (Nat.zero_le _) (fun h => absurd h.1 (Nat.lt_irrefl _)) d
end Go.Proofs.YtlnppgjppfkocaaDoor.Xs
