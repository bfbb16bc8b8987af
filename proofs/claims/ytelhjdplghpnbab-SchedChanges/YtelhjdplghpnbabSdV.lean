import Derived.Test.YtelhjdplghpnbabSdL
/-! Who comes and goes, plainly. -/
namespace Go.Proofs.Ytelhjdplghpnbab
set_option linter.unusedVariables false
set_option linter.unusedSimpArgs false

theorem badQ_no {t : Tr} {i : Nat} (h1 : 0 ≤ (t.q i).id) (h2 : 0 < i → (t.q (i - 1)).id < (t.q i).id) (h3 : 1 ≤ (t.q i).quantum) (h4 : (t.q i).quantum ≤ 65536) (h5 : 0 ≤ (t.q i).deficit) (h6 : (t.q i).deficit ≤ t.most i) (h7 : (t.q i).costs = [] → (t.q i).deficit = 0) : badQ t i = false := by
  unfold badQ
  simp only [Bool.or_eq_false_iff, decide_eq_false_iff_not, Bool.and_eq_false_iff]
  refine ⟨⟨⟨⟨⟨⟨by omega, ?_⟩, by omega⟩, by omega⟩, by omega⟩, by omega⟩, ?_⟩
  · by_cases hi0 : 0 < i
    · right; have := h2 hi0; omega
    · left; exact hi0
  · cases hc : (t.q i).costs with
    | nil => right; have := h7 hc; omega
    | cons c cs => left; simp
/-- Ids rise. -/
theorem OkR.rise {t : Tr} (h : OkR t) : ∀ (k j : Nat), j < k → k < t.qs.length → (t.q j).id < (t.q k).id
  | 0, j, hj, hk => by omega
  | k + 1, j, hj, hk => by
    have h1 := (badQ_is (h.q (k + 1) hk)).2.1 (by omega)
    rw [show k + 1 - 1 = k by omega] at h1
    by_cases e : j = k
    · rw [e]; exact h1
    · have := OkR.rise h k j (by omega) (by omega); omega
def cutI (l : List Qu) (id : Int) : Nat := (l.takeWhile (fun q => decide (q.id < id))).length
theorem cut_le (l : List Qu) (id : Int) : cutI l id ≤ l.length := by
  unfold cutI
  induction l with
  | nil => simp
  | cons x l ih =>
    rw [List.takeWhile_cons]
    split <;> simp
    exact ih
theorem cut_take (l : List Qu) (id : Int) : l.takeWhile (fun q => decide (q.id < id)) = l.take (cutI l id) ∧ l.dropWhile (fun q => decide (q.id < id)) = l.drop (cutI l id) := by
  unfold cutI
  induction l with
  | nil => simp
  | cons x l ih =>
    rw [List.takeWhile_cons, List.dropWhile_cons]
    by_cases h : decide (x.id < id) = true
    · rw [if_pos h, if_pos h]
      simp
      exact ih
    · rw [if_neg h, if_neg h]
      simp
theorem cut_lo (l : List Qu) (id : Int) : ∀ (k : Nat), k < cutI l id → (l.getD k Qu.zero).id < id := by
  unfold cutI
  induction l with
  | nil => intro k hk; simp at hk
  | cons x l ih =>
    intro k hk
    rw [List.takeWhile_cons] at hk
    by_cases h : decide (x.id < id) = true
    · rw [if_pos h] at hk
      cases k with
      | zero => simpa using h
      | succ k => exact ih k (by simpa using hk)
    · rw [if_neg h] at hk; simp at hk
theorem cut_hi (l : List Qu) (id : Int) : cutI l id < l.length → id ≤ (l.getD (cutI l id) Qu.zero).id := by
  unfold cutI
  induction l with
  | nil => intro h; simp at h
  | cons x l ih =>
    intro hk
    rw [List.takeWhile_cons] at hk ⊢
    by_cases h : decide (x.id < id) = true
    · rw [if_pos h] at hk ⊢
      simp only [List.length_cons] at hk ⊢
      simpa using ih (by omega)
    · rw [if_neg h]
      simp at h ⊢
      exact h
theorem getD_ins (l : List Qu) (x : Qu) (i k : Nat) (hi : i ≤ l.length) : (l.take i ++ x :: l.drop i).getD k Qu.zero = if k < i then l.getD k Qu.zero else if k = i then x else l.getD (k - 1) Qu.zero := by
  have hl : (l.take i).length = i := by simp; omega
  by_cases h : k < i
  · rw [if_pos h, List.getD_eq_getElem?_getD, List.getElem?_append_left (by omega), List.getElem?_take, if_pos h]
    simp [List.getD_eq_getElem?_getD]
  · rw [if_neg h, List.getD_eq_getElem?_getD, List.getElem?_append_right (by omega), hl]
    by_cases e : k = i
    · rw [if_pos e, e]; simp
    · rw [if_neg e, show k - i = (k - i - 1) + 1 by omega, List.getElem?_cons_succ, List.getElem?_drop, List.getD_eq_getElem?_getD]
      congr 2
      omega
theorem place_lt {l : List Qu} {id : Int} (h : ¬ 0 ≤ placeL l id) : ∀ j, j < l.length → (l.getD j Qu.zero).id ≠ id := by
  intro j hj e
  unfold placeL at h
  cases hf : l.findIdx? (fun q => q.id == id) with
  | none =>
    rw [List.findIdx?_eq_none_iff] at hf
    have := hf (l.getD j Qu.zero) (getD_mem hj)
    rw [e] at this
    simp at this
  | some i => rw [hf] at h; simp at h
/-- What Enter's OK means. -/
theorem ent_ok {t : Tr} {id q : Int} (h : (entT t id q).2 = 0) : chkT t = 0 ∧ (∀ j, j < t.qs.length → (t.qs.getD j Qu.zero).id ≠ id) ∧ t.qs.length < 32 ∧ 0 ≤ id ∧ 1 ≤ q ∧ q ≤ 65536 ∧ (entT t id q).1 = ⟨entL t.qs id q, entAt t id, t.fresh⟩ := by
  unfold entT at h ⊢
  by_cases h0 : chkT t ≠ 0
  · rw [if_pos h0] at h; exact absurd h h0
  · rw [if_neg h0] at h ⊢
    by_cases h1 : 0 ≤ placeL t.qs id ∨ 32 ≤ t.qs.length ∨ id < 0 ∨ q < 1 ∨ 65536 < q
    · rw [if_pos h1] at h; simp at h
    · rw [if_neg h1]
      simp only [ne_eq, Decidable.not_not] at h0
      simp only [not_or] at h1
      obtain ⟨a1, a2, a3, a4, a5⟩ := h1
      exact ⟨h0, place_lt a1, by omega, by omega, by omega, by omega, rfl⟩
theorem ent_bad {t : Tr} {id q : Int} (h : (entT t id q).2 ≠ 0) : (entT t id q).1 = Tr.zero := by
  unfold entT at h ⊢
  by_cases h0 : chkT t ≠ 0
  · rw [if_pos h0]
  · rw [if_neg h0] at h ⊢
    by_cases h1 : 0 ≤ placeL t.qs id ∨ 32 ≤ t.qs.length ∨ id < 0 ∨ q < 1 ∨ 65536 < q
    · rw [if_pos h1]
    · rw [if_neg h1] at h; simp at h
/-- The queues behind an Enter. -/
structure Ins (t a : Tr) (id q : Int) (i : Nat) : Prop where
  le : i ≤ t.qs.length
  qs : a.qs = t.qs.take i ++ ⟨id, q, 0, []⟩ :: t.qs.drop i
  at_ : a.at' = if t.qs ≠ [] ∧ (i : Int) ≤ t.at' then t.at' + 1 else t.at'
  fr : a.fresh = t.fresh
  lo : ∀ k, k < i → (t.q k).id < id
  hi : ∀ k, i ≤ k → k < t.qs.length → id < (t.q k).id
theorem ent_ins {t : Tr} {id q : Int} (h : (entT t id q).2 = 0) : Ins t (entT t id q).1 id q (cutI t.qs id) := by
  obtain ⟨h0, h1, h2, h3, h4, h5, h6⟩ := ent_ok h
  have ok := chk_ok.mp h0
  obtain ⟨e1, e2⟩ := cut_take t.qs id
  rw [h6]
  refine ⟨cut_le _ _, ?_, ?_, rfl, cut_lo _ _, fun k hk hkl => ?_⟩
  · show entL t.qs id q = _
    unfold entL
    rw [e1, e2]
  · show entAt t id = _
    unfold entAt cutI
    rfl
  · have hc : cutI t.qs id < t.qs.length := by omega
    have a1 := cut_hi t.qs id hc
    have a2 := h1 _ hc
    by_cases e : k = cutI t.qs id
    · rw [e]
      show id < (t.qs.getD _ Qu.zero).id
      omega
    · have := ok.rise k (cutI t.qs id) (by omega) hkl
      have e3 : (t.q (cutI t.qs id)).id = (t.qs.getD (cutI t.qs id) Qu.zero).id := rfl
      omega
theorem Ins.len {t a : Tr} {id q : Int} {i : Nat} (h : Ins t a id q i) : a.qs.length = t.qs.length + 1 := by
  have := h.le
  rw [h.qs]
  simp
  omega
theorem Ins.q' {t a : Tr} {id q : Int} {i : Nat} (h : Ins t a id q i) (k : Nat) : a.q k = if k < i then t.q k else if k = i then ⟨id, q, 0, []⟩ else t.q (k - 1) := by
  unfold Tr.q
  rw [h.qs, getD_ins _ _ _ _ h.le]
theorem Ins.ok {t a : Tr} {id q : Int} {i : Nat} (h : Ins t a id q i) (ok : OkR t) (hl : t.qs.length < 32) (h0 : 0 ≤ id) (h1 : 1 ≤ q) (h2 : q ≤ 65536) : OkR a := by
  have hlen := h.len
  have hat := h.at_
  have hle := h.le
  have lo := ok.lo
  have hi := ok.hi
  have hne : t.qs = [] ∨ t.qs ≠ [] := by by_cases e : t.qs = [] <;> simp [e]
  have hz : t.qs = [] → t.qs.length = 0 := fun e => by rw [e]; rfl
  have hp : t.qs ≠ [] → 0 < t.qs.length := fun e => List.length_pos_iff.mpr e
  have mm : ∀ k, k < t.qs.length → ∀ k', (k' = if k < i then k else k + 1) → t.most k ≤ a.most k' := fun k hk k' e => by
    unfold Tr.most
    rw [h.fr]
    by_cases c : t.fresh = true ∧ (k : Int) = t.at'
    · have hne2 : t.qs ≠ [] := fun e2 => by rw [e2] at hk; simp at hk
      have c2 := c.2
      have hh : (k' : Int) = a.at' := by
        by_cases d : k < i
        · rw [if_pos d] at e
          rw [hat, if_neg (by rintro ⟨-, x⟩; omega)]
          omega
        · rw [if_neg d] at e
          rw [hat, if_pos ⟨hne2, by omega⟩]
          omega
      rw [if_pos c, if_pos (show t.fresh = true ∧ (k' : Int) = a.at' from ⟨c.1, hh⟩)]
      exact Int.le_refl _
    · rw [if_neg c]; split <;> omega
  have zz : ∀ k, 1048575 ≤ a.most k := fun k => by unfold Tr.most; split <;> omega
  refine ⟨by omega, ?_, ?_, fun _ => by omega, fun k hk => ?_, fun k hk => ?_⟩
  · rw [hat]; split <;> omega
  · rw [hat, hlen]
    split
    · rename_i c; have := hp c.1; omega
    · rcases hne with e | e
      · have := hz e; omega
      · have := hp e; omega
  · have e1 := h.q' k
    have e2 := h.q' (k - 1)
    by_cases c : k < i
    · rw [if_pos c] at e1
      have b := badQ_is (ok.q k (by omega))
      refine badQ_no ?_ (fun h0 => ?_) ?_ ?_ ?_ ?_ ?_
      · rw [e1]; exact b.1
      · rw [e1, e2, if_pos (by omega)]; exact b.2.1 h0
      · rw [e1]; exact b.2.2.1
      · rw [e1]; exact b.2.2.2.1
      · rw [e1]; exact b.2.2.2.2.1
      · rw [e1]; exact Int.le_trans b.2.2.2.2.2.1 (mm k (by omega) k (by rw [if_pos c]))
      · rw [e1]; exact b.2.2.2.2.2.2
    · rw [if_neg c] at e1
      by_cases d : k = i
      · rw [if_pos d] at e1
        refine badQ_no ?_ (fun h0 => ?_) ?_ ?_ ?_ ?_ ?_
        · rw [e1]; exact h0
        · rw [e1, e2, if_pos (by omega)]
          exact h.lo (k - 1) (by omega)
        · rw [e1]; exact h1
        · rw [e1]; exact h2
        · rw [e1]; exact Int.le_refl 0
        · rw [e1]
          show (0 : Int) ≤ _
          have := zz k; omega
        · rw [e1]; exact fun _ => rfl
      · rw [if_neg d] at e1
        have b := badQ_is (ok.q (k - 1) (by omega))
        refine badQ_no ?_ (fun h0 => ?_) ?_ ?_ ?_ ?_ ?_
        · rw [e1]; exact b.1
        · rw [e1, e2]
          by_cases c2 : k - 1 < i
          · omega
          · rw [if_neg c2]
            by_cases d2 : k - 1 = i
            · rw [if_pos d2]
              exact h.hi (k - 1) (by omega) (by omega)
            · rw [if_neg d2]; exact b.2.1 (by omega)
        · rw [e1]; exact b.2.2.1
        · rw [e1]; exact b.2.2.2.1
        · rw [e1]; exact b.2.2.2.2.1
        · rw [e1]; exact Int.le_trans b.2.2.2.2.2.1 (mm (k - 1) (by omega) k (by rw [if_neg (by omega)]; omega))
        · rw [e1]; exact b.2.2.2.2.2.2
  · have e1 := h.q' k
    rw [e1]
    split
    · exact ok.c k (by omega)
    · split
      · simp
      · exact ok.c (k - 1) (by omega)
theorem Ins.place {t a : Tr} {id q : Int} {i : Nat} (h : Ins t a id q i) : placeL a.qs id = i := by
  have hlen := h.len
  have hle := h.le
  refine place_hit (by omega) ?_ (fun j hj => ?_)
  · have := h.q' i
    rw [if_neg (by omega), if_pos rfl] at this
    show (a.q i).id = id
    rw [this]
  · have := h.q' j
    rw [if_pos hj] at this
    show (a.q j).id ≠ id
    rw [this]
    have := h.lo j hj
    omega
/-- It leaves again. -/
theorem turn_leave {t : Tr} {id q : Int} (h : (entT t id q).2 = 0) : (levT (entT t id q).1 id).2 = 0 ∧ (t.qs ≠ [] → (levT (entT t id q).1 id).1 = t) ∧ (entT t id q).1.qs.length = t.qs.length + 1 := by
  obtain ⟨h0, h1, h2, h3, h4, h5, h6⟩ := ent_ok h
  have I := ent_ins h
  generalize (entT t id q).1 = a at *
  generalize cutI t.qs id = i at *
  have ok := chk_ok.mp h0
  have oka := chk_ok.mpr (I.ok ok h2 h3 h4 h5)
  have hp := I.place
  unfold levT
  rw [if_neg (by simp [oka]), hp, if_neg (by omega)]
  refine ⟨rfl, fun hne => ?_, I.len⟩
  have hle := I.le
  have hat := I.at_
  have lo := ok.lo
  have hi := ok.hi
  have hl : 0 < t.qs.length := List.length_pos_iff.mpr hne
  obtain ⟨l, z, f⟩ := t
  simp only at *
  have hlen := I.len
  simp only at hlen
  have e1 : a.qs.eraseIdx ((i : Int).toNat) = l := by
    rw [I.qs, Int.toNat_natCast]
    simp only
    have hl : (l.take i).length = i := by simp; omega
    rw [List.eraseIdx_append_of_length_le (by omega), hl, Nat.sub_self, List.eraseIdx_cons_zero, List.take_append_drop]
  have e2 : levAt a (i : Int) = z := by
    unfold levAt
    by_cases c : (i : Int) ≤ z
    · rw [if_pos ⟨hne, c⟩] at hat
      rw [hat, if_pos (by omega)]
      omega
    · rw [if_neg (by rintro ⟨-, x⟩; exact c x)] at hat
      rw [hat, if_neg (by omega), if_neg (by omega)]
  have e3 : (if (i : Int) = a.at' then false else a.fresh) = f := by
    have hne3 : ¬ (i : Int) = a.at' := by
      rw [hat]
      by_cases c : (i : Int) ≤ z
      · rw [if_pos ⟨hne, c⟩]; omega
      · rw [if_neg (by rintro ⟨-, x⟩; exact c x)]; omega
    rw [if_neg hne3, I.fr]
  rw [e1, e2, e3]
/-- It asks for something. -/
theorem turn_ask {t : Tr} {id q cost : Int} (h : (entT t id q).2 = 0) : ((askT (entT t id q).1 id cost).2 ≠ 0 → cost < 1 ∨ 1048576 < cost) ∧ ((askT (entT t id q).1 id cost).2 = 0 → ∃ i, i < (askT (entT t id q).1 id cost).1.qs.length ∧ (askT (entT t id q).1 id cost).1.qs.getD i Qu.zero = ⟨id, q, 0, [cost]⟩ ∧ ∀ j, j < i → ((askT (entT t id q).1 id cost).1.qs.getD j Qu.zero).id ≠ id) := by
  obtain ⟨h0, h1, h2, h3, h4, h5, h6⟩ := ent_ok h
  have I := ent_ins h
  generalize (entT t id q).1 = a at *
  generalize cutI t.qs id = i at *
  have ok := chk_ok.mp h0
  have oka := chk_ok.mpr (I.ok ok h2 h3 h4 h5)
  have hp := I.place
  have hlen := I.len
  have hle := I.le
  unfold askT
  rw [if_neg (by simp [oka]), hp, if_neg (by omega)]
  by_cases c : cost < 1 ∨ 1048576 < cost
  · rw [if_pos c]
    exact ⟨fun _ => c, fun e => by simp at e⟩
  · rw [if_neg c]
    refine ⟨fun e => by simp at e, fun _ => ⟨i, ?_, ?_, fun j hj => ?_⟩⟩
    · simp; omega
    · simp only [Int.toNat_natCast]
      have := I.q' i
      rw [if_neg (by omega), if_pos rfl] at this
      rw [this]
      simp [List.getD_eq_getElem?_getD, show i < a.qs.length by omega, Qu.more]
    · simp only [Int.toNat_natCast]
      have := I.q' j
      rw [if_pos hj] at this
      have e : (a.qs.set i ((a.q i).more cost)).getD j Qu.zero = a.q j := by
        simp [List.getD_eq_getElem?_getD, show i ≠ j by omega, Tr.q]
      rw [e, this]
      have := I.lo j hj
      omega
end Go.Proofs.Ytelhjdplghpnbab
