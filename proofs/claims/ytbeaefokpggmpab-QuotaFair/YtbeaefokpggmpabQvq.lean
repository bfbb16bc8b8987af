import Derived.Test.YtbeaefokpggmpabQvp
/-! quota: the level, by the sorted asks. -/
namespace Go.Proofs.Ytbeaefokpggmpab
open Go.RowKit
set_option linter.unusedVariables false

theorem sum_nn : ∀ k : List Int, (∀ a ∈ k, 0 ≤ a) → 0 ≤ k.sum
  | [], _ => by simp
  | a :: k, hk => by
    rw [List.sum_cons]
    have := sum_nn k (fun b hb => hk b (List.mem_cons_of_mem _ hb))
    have := hk a (List.mem_cons_self ..)
    omega
theorem capsum_perm {l k : List Int} (h : l.Perm k) (L : Int) : capsum l L = capsum k L := by
  induction h with
  | nil => rfl
  | cons x _ ih => rw [capsum_cons, capsum_cons, ih]
  | swap x y l => rw [capsum_cons, capsum_cons, capsum_cons, capsum_cons]; omega
  | trans _ _ h1 h2 => rw [h1, h2]
theorem capsum_low {l : List Int} {L : Int} (h : ∀ a ∈ l, a ≤ L) : capsum l L = l.sum := by
  induction l with
  | nil => rfl
  | cons a l ih =>
    rw [capsum_cons, ih (fun b hb => h b (List.mem_cons_of_mem _ hb)), List.sum_cons]
    have := h a (List.mem_cons_self ..)
    omega
theorem capsum_high {l : List Int} {L : Int} (h : ∀ a ∈ l, L ≤ a) : capsum l L = (l.length : Int) * L := by
  induction l with
  | nil => simp [capsum]
  | cons a l ih =>
    rw [capsum_cons, ih (fun b hb => h b (List.mem_cons_of_mem _ hb)), List.length_cons]
    have := h a (List.mem_cons_self ..)
    rw [show min a L = L by omega, show ((l.length + 1 : Nat) : Int) = (l.length : Int) + 1 by omega, Int.add_mul]
    omega
theorem sharesL_id {L : Int} : ∀ (l : List Int) (left : Int), (∀ a ∈ l, a ≤ L) → sharesL L left l = l
  | [], _, _ => rfl
  | a :: l, left, h => by
    have h1 := h a (List.mem_cons_self ..)
    rw [sharesL_down _ (by omega), sharesL_id l left (fun b hb => h b (List.mem_cons_of_mem _ hb)), show min a L = a by omega]
/-- What the level is good for. -/
structure LvP (total : Int) (l : List Int) (V : Int) : Prop where
  v0 : 0 ≤ V
  v1 : V ≤ 1099511627776
  le : capsum l V ≤ total
  same : ∃ L, IsLvl total l L ∧ sharesL V (total - capsum l V) l = sharesL L (total - capsum l L) l
/-- The asks ahead of the place i are met whole. -/
structure Lev (total : Int) (s : List Int) (i : Nat) (left : Int) : Prop where
  eq : left = total - (s.take i).sum
  pos : 0 ≤ left
  met : ∀ j, j < i → s.getD j 0 * ((s.length : Int) - (i : Int)) ≤ left
theorem Lev.start {total : Int} (h : 0 ≤ total) (s : List Int) : Lev total s 0 total := ⟨by simp, h, fun j hj => by omega⟩
theorem Lev.step {total : Int} {s : List Int} {i : Nat} {left : Int} (h : Lev total s i left) (hi : i < s.length) (hr : s.Pairwise (fun a b => a ≤ b)) (hp : ∀ a ∈ s, 0 ≤ a) (hle : s.getD i 0 * ((s.length : Int) - (i : Int)) ≤ left) : Lev total s (i + 1) (left - s.getD i 0) := by
  have h0 := hp _ (getD_mem hi)
  have hm : s.getD i 0 * ((s.length : Int) - (i : Int)) = s.getD i 0 * ((s.length : Int) - ((i + 1 : Nat) : Int)) + s.getD i 0 := by
    rw [show (s.length : Int) - (i : Int) = ((s.length : Int) - ((i + 1 : Nat) : Int)) + 1 by omega, Int.mul_add]; omega
  have hq : 0 ≤ s.getD i 0 * ((s.length : Int) - ((i + 1 : Nat) : Int)) := Int.mul_nonneg h0 (by omega)
  refine ⟨by rw [sum_snoc s i hi, h.eq]; omega, by omega, fun j hj => ?_⟩
  by_cases e : j = i
  · rw [e]; omega
  · have hji : s.getD j 0 ≤ s.getD i 0 := by
      rw [List.getD_eq_getElem?_getD, List.getD_eq_getElem?_getD, List.getElem?_eq_getElem hi, List.getElem?_eq_getElem (show j < s.length by omega)]
      exact List.pairwise_iff_getElem.mp hr j i (by omega) hi (by omega)
    have := Int.mul_le_mul_of_nonneg_right hji (show 0 ≤ (s.length : Int) - ((i + 1 : Nat) : Int) by omega)
    omega
theorem Lev.found {total : Int} {l s : List Int} {i : Nat} {left : Int} (h : Lev total s i left) (ht : total ≤ 1099511627776) (hs : s.Perm l) (hi : i < s.length) (hr : s.Pairwise (fun a b => a ≤ b)) (hp : ∀ a ∈ s, 0 ≤ a) (hgt : left < s.getD i 0 * ((s.length : Int) - (i : Int))) : LvP total l (left / ((s.length : Int) - (i : Int))) := by
  obtain ⟨d, hd⟩ : ∃ d, (s.length : Int) - (i : Int) = d := ⟨_, rfl⟩
  rw [hd] at hgt ⊢
  have hd0 : 0 < d := by omega
  have hpos := h.pos
  obtain ⟨V, hV⟩ : ∃ V, left / d = V := ⟨_, rfl⟩
  have e1 := Int.mul_ediv_add_emod left d
  have e2 := Int.emod_nonneg left (show d ≠ 0 by omega)
  have e3 := Int.emod_lt_of_pos left hd0
  have hV0 : 0 ≤ V := by rw [← hV]; exact Int.ediv_nonneg hpos (by omega)
  have hVl : V ≤ left := by rw [← hV]; exact Int.ediv_le_self _ hpos
  rw [hV] at e1 ⊢
  have hVs : V < s.getD i 0 := by
    refine Int.not_le.mp fun hc => ?_
    have := Int.mul_le_mul_of_nonneg_left hc (show 0 ≤ d by omega)
    rw [Int.mul_comm d (s.getD i 0)] at this
    omega
  have hlow : ∀ a ∈ s.take i, a ≤ V := fun a ha => by
    obtain ⟨j, hj, rfl⟩ := List.mem_iff_getElem.mp ha
    have hj2 : j < i := by simp at hj; omega
    have := h.met j hj2
    rw [hd] at this
    have hg : (s.take i)[j] = s.getD j 0 := by simp [List.getD_eq_getElem?_getD, show j < s.length by omega]
    rw [hg]
    refine Int.not_lt.mp fun hc => ?_
    have := Int.mul_le_mul_of_nonneg_right (show V + 1 ≤ s.getD j 0 by omega) (show 0 ≤ d by omega)
    rw [Int.add_mul, Int.mul_comm V d] at this
    omega
  have hhigh : ∀ a ∈ s.drop i, V + 1 ≤ a := fun a ha => by
    obtain ⟨j, hj, rfl⟩ := List.mem_iff_getElem.mp ha
    have hj2 : i + j < s.length := by simp at hj; omega
    rw [List.getElem_drop]
    have : s.getD i 0 ≤ s[i + j] := by
      rw [List.getD_eq_getElem?_getD, List.getElem?_eq_getElem hi]
      by_cases e : j = 0
      · subst e; simp
      · exact List.pairwise_iff_getElem.mp hr i (i + j) hi hj2 (by omega)
    omega
  have hcs : ∀ M, V ≤ M → M ≤ V + 1 → capsum l M = (s.take i).sum + d * M := fun M h1 h2 => by
    rw [← capsum_perm hs M]
    conv => lhs; rw [← List.take_append_drop i s]
    rw [capsum_app, capsum_low (fun a ha => by have := hlow a ha; omega), capsum_high (fun a ha => by have := hhigh a ha; omega)]
    rw [show ((s.drop i).length : Int) = d by simp; omega]
  have hle : capsum l V ≤ total := by rw [hcs V (Int.le_refl _) (by omega)]; have := h.eq; omega
  have hsn : 0 ≤ (s.take i).sum := sum_nn _ (fun a ha => hp a (List.mem_of_mem_take ha))
  have heq := h.eq
  refine ⟨hV0, by omega, hle, V, ⟨hV0, by omega, hle, .inr ?_⟩, rfl⟩
  rw [hcs (V + 1) (by omega) (Int.le_refl _), Int.mul_add]
  omega
theorem Lev.whole {total : Int} {l s : List Int} {left : Int} (h : Lev total s s.length left) (ht : 0 ≤ total) (ht1 : total ≤ 1099511627776) (hs : s.Perm l) (ho : AskOk l) : LvP total l total := by
  have hsum : l.sum ≤ total := by
    have e1 := h.eq
    have e2 := h.pos
    rw [List.take_length] at e1
    have e3 : capsum s 1099511627776 = s.sum := capsum_low (fun a ha => (ho a (hs.mem_iff.mp ha)).2)
    have e4 : capsum l 1099511627776 = l.sum := capsum_low (fun a ha => (ho a ha).2)
    rw [capsum_perm hs] at e3
    omega
  have hmem : ∀ a ∈ l, a ≤ l.sum := by
    have hnn : ∀ k : List Int, (∀ a ∈ k, 0 ≤ a) → 0 ≤ k.sum := fun k => by
      induction k with
      | nil => intro _; simp
      | cons a k ih => intro hk; rw [List.sum_cons]; have := ih (fun b hb => hk b (List.mem_cons_of_mem _ hb)); have := hk a (List.mem_cons_self ..); omega
    have : ∀ k : List Int, (∀ a ∈ k, 0 ≤ a) → ∀ a ∈ k, a ≤ k.sum := fun k => by
      induction k with
      | nil => intro _ a ha; simp at ha
      | cons b k ih =>
        intro hk a ha
        have h1 := hnn k (fun c hc => hk c (List.mem_cons_of_mem _ hc))
        have h2 := hk b (List.mem_cons_self ..)
        rw [List.sum_cons]
        rcases List.mem_cons.mp ha with rfl | hc
        · omega
        · have := ih (fun c hc => hk c (List.mem_cons_of_mem _ hc)) a hc; omega
    exact this l (fun a ha => (ho a ha).1)
  have hat : ∀ a ∈ l, a ≤ total := fun a ha => by have := hmem a ha; omega
  have hle : capsum l total ≤ total := by rw [capsum_low hat]; exact hsum
  refine ⟨ht, ht1, hle, 1099511627776, ⟨by omega, Int.le_refl _, by rw [capsum_low (fun a ha => (ho a ha).2)]; exact hsum, .inl rfl⟩, ?_⟩
  rw [sharesL_id l _ hat, sharesL_id l _ (fun a ha => (ho a ha).2)]
end Go.Proofs.Ytbeaefokpggmpab
