import Derived.Test.YtklfmgkfcacfkaaTg
namespace Go.Proofs.Ytklfmgkfcacfkaa
open Go.RowKit Plain
set_option linter.unusedVariables false
set_option linter.unusedSimpArgs false

/-- n bytes more, each the one d places ahead of the end. -/
def cpy (x : List Nat) (d : Nat) : Nat → List Nat
  | 0 => x
  | n + 1 => cpy x d n ++ [(cpy x d n).getD ((cpy x d n).length - d) 0]
theorem cpy_len (x : List Nat) (d : Nat) : ∀ n, (cpy x d n).length = x.length + n
  | 0 => rfl
  | n + 1 => by rw [cpy, List.length_append, cpy_len x d n, List.length_singleton]; omega

def Tg.grow (x : List Nat) (t : Tg) : List Nat := cpy (x ++ t.l) t.d.toNat t.n.toNat
def expd (ts : List Tg) : List Nat := ts.foldl Tg.grow []
theorem Tg.grow_len (x : List Nat) (t : Tg) : (Tg.grow x t).length = x.length + t.add := by
  unfold Tg.grow Tg.add; rw [cpy_len, List.length_append]; omega
theorem expd_take {ts : List Tg} {k : Nat} (h : k < ts.length) : expd (ts.take (k + 1)) = Tg.grow (expd (ts.take k)) ts[k] := by
  unfold expd; rw [List.take_succ_eq_append_getElem h, List.foldl_append]; rfl

theorem tlen_le : ∀ (ts : List Tg) (m : Nat), (tlen ts m).2 = 0 → m ≤ (tlen ts m).1
  | [], m, _ => Nat.le_refl _
  | t :: ts, m, h => by
    rw [tlen] at h ⊢
    split at h
    · simp at h
    · rename_i h1
      rw [if_neg h1]
      split at h
      · simp at h
      · rename_i h2
        rw [if_neg h2]
        have := tlen_le ts _ h
        omega

theorem Own.set {w : World} {g m cap : Nat} {l : List Nat} (h : Own w (.slice (some ⟨g, 0, none⟩) m cap) l (some g)) (k c : Nat) (hk : k < l.length) (hc : c < 256) : Own (w.setCell ⟨g, k, none⟩ (.int .u8 (c : Int))) (.slice (some ⟨g, 0, none⟩) m cap) (l.set k c) (some g) := by
  obtain ⟨hb, h0 | ⟨g', cap', e1, e2, hg, h1, h2, h3, h4, h5⟩⟩ := h
  · obtain ⟨_, _, h⟩ := h0; simp at h
  simp only [Option.some.injEq] at e1
  subst e1
  simp only [Value.slice.injEq] at e2
  obtain ⟨_, rfl, rfl⟩ := e2
  refine ⟨fun x hx => ?_, .inr ⟨g, cap, rfl, by rw [List.length_set], by simpa using hg, by rw [List.length_set]; exact h1, h2, fun j hj => ?_, fun j hj => ?_, fun j hj => ?_⟩⟩
  · rcases List.mem_or_eq_of_mem_set hx with h | h
    · exact hb x h
    · omega
  · rw [World.frozen?_setCell]; exact h3 j hj
  · obtain ⟨u, hu⟩ := Option.isSome_iff_exists.mp (h4 j hj)
    obtain ⟨u', hu'⟩ := cell?_setCell_some (p := ⟨g, k, none⟩) (x := .int .u8 (c : Int)) hu
    rw [hu']; rfl
  · rw [List.length_set] at hj
    by_cases e : j = k
    · subst e
      rw [World.cell?_setCell_same _ _ _ (h5 j hj)]
      simp [List.getD_eq_getElem?_getD, hj]
    · rw [World.cell?_setCell_other _ _ _ _ (by simp only [ne_eq, Addr.mk.injEq]; omega), h5 j hj]
      congr 2
      simp [List.getD_eq_getElem?_getD, Ne.symm e]

/-- A row of zeros, just made. -/
theorem own_made {w : World} {g base n : Nat} {xs : List Value} (hx : ∀ j, j < n → xs[j]? = some (.int .u8 0)) (ho : w.ownsRow base 5 1 (.slice (some ⟨g, 0, none⟩) n n) n xs) : Own w (.slice (some ⟨g, 0, none⟩) n n) (List.replicate n 0) (some g) ∧ base ≤ g := by
  rcases ho.2 with ⟨h, _⟩ | ⟨g', cap', cur, e, hg, hh, hle, hm, hs, ht⟩
  · simp at h
  · simp only [Value.slice.injEq, Option.some.injEq, Addr.mk.injEq] at e
    obtain ⟨⟨rfl, _, _⟩, _, rfl⟩ := e
    have hlt : g < w.heap.size := (Array.getElem?_eq_some_iff.mp hh).1
    refine ⟨⟨fun c hc => by rw [List.mem_replicate] at hc; omega, .inr ⟨g, n, rfl, by rw [List.length_replicate], hlt, by rw [List.length_replicate]; exact Nat.le_refl _, hm, fun j hj => ?_, fun j hj => ?_, fun j hj => ?_⟩⟩, hg⟩
    · simp only [World.frozen?, hh]; simp
    · simp only [World.cell?, hh]
      have hsz : j < cur.size := by omega
      simp [hsz]
    · rw [List.length_replicate] at hj
      have h1 := hx j hj
      rw [← ht, List.getElem?_take_of_lt (by omega)] at h1
      simp only [World.cell?, hh]
      rw [Array.getElem?_toList] at h1
      rw [h1]
      simp [List.getD_eq_getElem?_getD, hj]

/-- What copy does into the middle of a row. -/
theorem copy_mid {w : World} {g n at' : Nat} {cur l : List Nat} {u : Value} (ho : Own w (.slice (some ⟨g, 0, none⟩) n n) cur (some g)) (hl : 0 < l.length) (hfit : at' + l.length ≤ n) (hu : BytesAt w u l) :
    ∃ w', (∀ ty, (Builtin.copy_ #[22, 22] ty #[.slice (some ⟨g, at', none⟩) (n - at') (n - at'), u]).run Try.prog w = .ok (goInt l.length) w') ∧ Own w' (.slice (some ⟨g, 0, none⟩) n n) (cur.take at' ++ l ++ cur.drop (at' + l.length)) (some g) ∧ w.grownBy w' (some g) := by
  obtain ⟨a, cap, rfl, h1, h2, h3, h4⟩ := hu
  obtain ⟨b, off, rfl, h5⟩ := h4 (by rintro rfl; simp at hl)
  obtain ⟨hb, h0 | ⟨g', cap', e1, e2, hg, k1, k2, k3, k4, k5⟩⟩ := ho
  · obtain ⟨_, _, h⟩ := h0; simp at h
  simp only [Option.some.injEq] at e1
  subst e1
  simp only [Value.slice.injEq] at e2
  obtain ⟨_, hlen, rfl⟩ := e2
  have hl2 : (cur.take at' ++ l ++ cur.drop (at' + l.length)).length = n := by simp; omega
  refine ⟨w.setCells g at' (cellsOf l), fun ty => ?_, ⟨fun c hc => ?_, .inr ⟨g, n, rfl, by rw [hl2], ?_, by rw [hl2]; exact Nat.le_refl _, k2, fun j hj => ?_, fun j hj => ?_, fun j hj => ?_⟩⟩, grow_setCells _ _ _ _⟩
  · have := run_copy_cells (P := Try.prog) w 22 22 ty 5 g at' (n - at') (n - at') ⟨b, off, none⟩ l.length cap (cellsOf l) Try.underlying22 size5 (by rw [cellsOf_len]; exact (Nat.min_eq_left (by omega)).symm)
      (fun j v hj => by
        have hjl : j < l.length := by
          have := (List.getElem?_eq_some_iff.mp hj).1
          rwa [cellsOf_len] at this
        rw [WideShapes.add_plain, h5 j hjl, ← cellsOf_get l j hjl, hj])
      (fun j hj => by rw [cellsOf_len] at hj; exact k4 _ (by omega)) (fun j hj => by rw [cellsOf_len] at hj; exact k3 _ (by omega)) (cellsOf_one l)
    rw [this, cellsOf_len]
  · rcases List.mem_append.mp hc with hc | hc
    · rcases List.mem_append.mp hc with hc | hc
      · exact hb c (List.mem_of_mem_take hc)
      · exact h3 c hc
    · exact hb c (List.mem_of_mem_drop hc)
  · rw [setCells_size]; exact hg
  · rw [World.frozen?_setCells]; exact k3 j hj
  · exact isSome_setCells g _ _ w _ (k4 j hj)
  · rw [hl2] at hj
    by_cases e : at' ≤ j ∧ j < at' + l.length
    · have := World.cell?_setCells_in g (cellsOf l) at' w (fun m hm => k4 _ (by rw [cellsOf_len] at hm; omega)) (j - at') (by rw [cellsOf_len]; omega)
      rw [show at' + (j - at') = j by omega] at this
      rw [this]
      have hg2 : (cur.take at' ++ l ++ cur.drop (at' + l.length)).getD j 0 = l.getD (j - at') 0 := by
        rw [getD_left _ _ (by simp; omega), getD_right _ _ (by simp; omega)]
        congr 1
        simp; omega
      rw [hg2, ← cellsOf_get l _ (by omega), List.getElem?_eq_getElem (by rw [cellsOf_len]; omega)]
    · rw [World.cell?_setCells_out g _ _ w _ (fun m hm => by
        simp only [cellsOf_len] at hm ⊢
        omega)]
      rw [k5 j (by omega)]
      congr 2
      by_cases e2 : j < at'
      · rw [getD_left _ _ (by simp; omega), getD_left _ _ (by simp; omega), getD_take _ _ _ e2]
      · rw [getD_right _ _ (by simp; omega), getD_drop']
        congr 1
        congr 1
        simp; omega
end Go.Proofs.Ytklfmgkfcacfkaa
