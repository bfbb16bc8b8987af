import Derived.Test.YtklfmgkfcacfkaaRu
namespace Go.Proofs.Ytklfmgkfcacfkaa
open Go.RowKit Plain
set_option linter.unusedVariables false
set_option linter.unusedSimpArgs false

theorem tk_add (t : Tk) : t.g.add = t.len := by cases t using Tk.elim <;> simp [Tk.g_lit, Tk.g_mat, Tg.add, Tk.len_lit, Tk.len_mat]
theorem tk_pos {t : Tk} {n : Nat} (h : t.g.right n = true) : 0 < t.len := by
  cases t using Tk.elim with
  | lit g b => exact List.length_pos_iff.mpr (tk_right_lit.mp h)
  | mat d m => have := tk_right_mat.mp h; simp only [Tk.len_lit, Tk.len_mat]; omega
theorem enc_ne (t : Tk) : t.enc ≠ [] := by
  cases t using Tk.elim with
  | lit g b => have := uv_pos (2 * b.length); intro h; simp [Tk.enc_lit, Tk.enc_mat] at h; rw [h.1] at this; simp at this
  | mat d m => have := uv_pos (2 * m + 1); intro h; simp [Tk.enc_lit, Tk.enc_mat] at h; rw [h.1] at this; simp at this

theorem tlen_max : ∀ (ts : List Tg) (m : Nat), m ≤ 4096 → (tlen ts m).2 = 0 → (tlen ts m).1 ≤ 4096
  | [], m, h, _ => h
  | t :: ts, m, h, h0 => by
    rw [tlen] at h0 ⊢
    split at h0
    · simp at h0
    · rename_i h1
      rw [if_neg h1]
      split at h0
      · simp at h0
      · rename_i h2
        rw [if_neg h2]
        exact tlen_max ts _ (by omega) h0

theorem tlen_cons {t : Tg} {ts : List Tg} {m k : Nat} (h : tlen (t :: ts) m = (k, 0)) : t.right m = true ∧ m + t.add ≤ 4096 ∧ tlen ts (m + t.add) = (k, 0) ∧ m + t.add ≤ k := by
  rw [tlen] at h
  split at h
  · simp at h
  · rename_i h1
    split at h
    · simp at h
    · have := tlen_le ts (m + t.add) (by rw [h])
      rw [h] at this
      exact ⟨by simpa using h1, by omega, h, this⟩

theorem tlen_snoc {ts : List Tg} {t : Tg} {m k : Nat} (h : tlen ts m = (k, 0)) (hr : t.right k = true) (hk : k + t.add ≤ 4096) : tlen (ts ++ [t]) m = (k + t.add, 0) := by
  induction ts generalizing m with
  | nil =>
    simp only [tlen, Prod.mk.injEq, and_true] at h
    subst h
    rw [List.nil_append, tlen, if_neg (by rw [hr]; simp), if_neg (by omega), tlen]
  | cons a ts ih =>
    obtain ⟨h1, h2, h3, _⟩ := tlen_cons h
    rw [List.cons_append, tlen, if_neg (by rw [h1]; simp), if_neg (by omega)]
    exact ih h3

/-- A token's bytes begin no other's. -/
theorem enc_apart {t s : Tk} {x y : List Nat} (ht : t.fits) (hs : s.fits) (h : t.enc ++ x = s.enc ++ y) : t.enc = s.enc ∧ t.len = s.len := by
  have e1 := enc_head t x ht
  rw [h, enc_head s y hs] at e1
  simp only [Prod.mk.injEq] at e1
  obtain ⟨e1, _⟩ := e1
  cases t using Tk.elim with
  | lit g b =>
    cases s using Tk.elim with
    | lit g' b' =>
      simp only [Tk.head_lit, Tk.head_mat] at e1
      have hl : b.length = b'.length := by omega
      simp only [Tk.enc_lit, Tk.enc_mat, List.append_assoc, hl] at h
      have h2 := List.append_cancel_left h
      have h3 := (List.append_inj h2 hl).1
      exact ⟨by simp only [Tk.enc_lit, Tk.enc_mat]; rw [h3], by simp only [Tk.len_lit, Tk.len_mat]; exact hl⟩
    | mat d m => simp only [Tk.head_lit, Tk.head_mat] at e1; omega
  | mat d m =>
    cases s using Tk.elim with
    | lit g' b' => simp only [Tk.head_lit, Tk.head_mat] at e1; omega
    | mat d' m' =>
      simp only [Tk.head_lit, Tk.head_mat] at e1
      obtain rfl : m = m' := by omega
      simp only [Tk.enc_lit, Tk.enc_mat, List.append_assoc] at h
      have h2 := List.append_cancel_left h
      simp only [Tk.fits_lit, Tk.fits_mat] at ht hs
      have e2 := rd_pre d x (by omega)
      rw [h2, rd_pre d' y (by omega)] at e2
      simp only [Prod.mk.injEq] at e2
      exact ⟨by simp only [Tk.enc_lit, Tk.enc_mat]; rw [e2.1], rfl⟩

/-- The bytes are the block of these tokens, which are right. -/
def Sol (l : List Nat) (n : Nat) (ts : List Tk) : Prop := tlen (ts.map Tk.g) 0 = (n, 0) ∧ l = blk n ts

/-- What is left, if there are such tokens at all. -/
def Left (l R : List Nat) (whole n : Nat) : Prop := (∃ k ts, Sol l k ts) → ∃ tail : List Tk, R = tail.flatMap Tk.enc ∧ tlen (tail.map Tk.g) n = (whole, 0)

theorem left_start {l : List Nat} {whole u : Nat} (h : rd l = (whole, u, 0)) : Left l (l.drop u) whole 0 := by
  rintro ⟨k, ts, h1, h2⟩
  have hk := tlen_max _ 0 (by omega) (by rw [h1])
  rw [h1] at hk
  unfold blk at h2
  have h3 := rd_pre k (ts.flatMap Tk.enc) (by simp only at hk; omega)
  rw [← h2, h] at h3
  simp only [Prod.mk.injEq, and_true] at h3
  obtain ⟨rfl, rfl⟩ := h3
  refine ⟨ts, ?_, h1⟩
  conv => lhs; rw [h2]
  rw [List.drop_left]

theorem left_none {l : List Nat} (h : (rd l).2.2 ≠ 0 ∨ 4096 < (rd l).1) : ∀ k ts, ¬ Sol l k ts := by
  rintro k ts ⟨h1, h2⟩
  have hk := tlen_max _ 0 (by omega) (by rw [h1])
  rw [h1] at hk
  simp only at hk
  unfold blk at h2
  have h3 := rd_pre k (ts.flatMap Tk.enc) (by omega)
  rw [← h2] at h3
  rw [h3] at h
  simp at h
  omega

theorem left_stop {l R : List Nat} {whole n : Nat} (h : Left l R whole n) (hw : whole ≤ 4096) (hR : R ≠ []) (hn : NotTold R n (whole - n)) : ∀ k ts, ¬ Sol l k ts := by
  intro k ts hs
  obtain ⟨tail, e, ht⟩ := h ⟨k, ts, hs⟩
  cases tail with
  | nil => exact hR (by simpa using e)
  | cons t tail =>
    rw [List.map_cons] at ht
    obtain ⟨h1, h2, h3, h4⟩ := tlen_cons ht
    rw [tk_add] at h4
    exact hn t (tail.flatMap Tk.enc) h1 (by omega) (by rw [e]; rfl)

theorem left_step {l R : List Nat} {whole n u : Nat} {t : Tk} (h : Left l R whole n) (hw : whole ≤ 4096) (hn : n ≤ whole) (ht : Told R n (whole - n) u t) : Left l (R.drop u) whole (n + t.len) := by
  intro hs
  obtain ⟨tail, e, htl⟩ := h hs
  obtain ⟨a1, a2, a3, a4, a5⟩ := ht
  have hRs : R = t.enc ++ R.drop u := by rw [← a3, List.take_append_drop]
  cases tail with
  | nil =>
    simp at e
    rw [e] at a2
    simp at a2
    omega
  | cons s tail =>
    rw [List.map_cons] at htl
    obtain ⟨h1, h2, h3, h4⟩ := tlen_cons htl
    rw [tk_add] at h3 h4
    have e' : t.enc ++ R.drop u = s.enc ++ tail.flatMap Tk.enc := by rw [← hRs, e]; rfl
    obtain ⟨q1, q2⟩ := enc_apart (fits_of a4 a5 (by omega)) (fits_of h1 (room := whole) (by omega) hw) e'
    refine ⟨tail, ?_, by rw [q2]; exact h3⟩
    rw [q1] at e'
    exact List.append_cancel_left e'

theorem left_end {l : List Nat} {whole n : Nat} (h : Left l [] whole n) (hne : n ≠ whole) : ∀ k ts, ¬ Sol l k ts := by
  intro k ts hs
  obtain ⟨tail, e, ht⟩ := h ⟨k, ts, hs⟩
  cases tail with
  | nil => simp [tlen] at ht; exact hne ht
  | cons t tail =>
    rw [List.flatMap_cons] at e
    have := enc_ne t
    have e2 := (List.append_eq_nil_iff.mp e.symm).1
    exact this e2

theorem TRow.push {base : Nat} {w w1 w' : World} {v v' : Value} {ts : List Tk} {r : Option Nat} {g : Nat} {t : Tk} (h : TRow base w v ts r) (hb : base ≤ w.heap.size) (k : Below w.heap.size w w1) (ht : ∀ gl l, t = .lit gl l → l ≠ [] ∧ w.heap.size ≤ gl ∧ Own w1 (.slice (some ⟨gl, 0, none⟩) l.length l.length) l (some gl))
    (ho : OwnT w' v' (ts ++ [t]) (some g)) (hg : w1.grownBy w' r) (hgr : some g = r ∨ w1.heap.size ≤ g) : TRow base w' v' (ts ++ [t]) (some g) := by
  cases t using Tk.elim with
  | lit gl l =>
    obtain ⟨h1, h2, h3⟩ := ht gl l rfl
    exact TRow.lit h hb h1 h2 k h3 ho hg hgr
  | mat d n =>
    refine TRow.mat h hb ho (grow_trans (below_grow k r) hg (.inl rfl)) ?_
    rcases hgr with h | h
    · exact .inl h
    · right; have := k.size; omega
end Go.Proofs.Ytklfmgkfcacfkaa
