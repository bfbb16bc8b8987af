import Derived.Test.YtklfmgkfcacfkaaSh4
/-! The document's Read: plain facts. -/
namespace Go.Proofs.Ytklfmgkfcacfkaa
open Go.RowKit Plain
set_option linter.unusedVariables false
set_option linter.unusedSimpArgs false

theorem rdGo_ge : ∀ (l : List Nat) (i acc : Nat), (rdGo l i acc).2.2 = 0 → i + 1 ≤ (rdGo l i acc).2.1
  | [], _, _, h => by simp [rdGo] at h
  | c :: cs, i, acc, h => by
    simp only [rdGo] at h ⊢
    by_cases h1 : (0 < i ∧ c = 0) ∨ (i = 9 ∧ c ≠ 1)
    · rw [if_pos h1] at h; simp at h
    · rw [if_neg h1] at h ⊢
      by_cases h2 : c < 128
      · rw [if_pos h2]; exact Nat.le_refl _
      · rw [if_neg h2] at h ⊢
        have := rdGo_ge cs _ _ h
        omega

/-- A number of at most three bytes begins there. -/
def Num3 (R : List Nat) (v u : Nat) : Prop := rd R = (v, u, 0) ∧ 1 ≤ u ∧ u ≤ 3
def NoNum (R : List Nat) : Prop := (rd R).2.2 ≠ 0 ∨ 3 < (rd R).2.1
theorem Num3.not {R : List Nat} {v u : Nat} (h : Num3 R v u) (k : NoNum R) : False := by
  obtain ⟨h1, h2, h3⟩ := h
  unfold NoNum at k
  rw [h1] at k
  rcases k with k | k
  · simp at k
  · simp at k; omega
theorem num3_uv (v : Nat) (t : List Nat) (hv : v < 2097152) : Num3 (uv v ++ t) v (uv v).length :=
  ⟨rd_pre v t (by omega), uv_pos v, uv_len v 2 (by simpa using hv)⟩
theorem Num3.one {R : List Nat} {v u v' u' : Nat} (h : Num3 R v u) (k : Num3 R v' u') : v = v' ∧ u = u' := by
  have := h.1.symm.trans k.1
  simp only [Prod.mk.injEq, and_true] at this
  exact this
/-- What is told of a block, if it is one: these tokens so far, and the rest from the place on. -/
def Lf (l : List Nat) (p : Nat) (tg : List Tg) : Prop := ∀ k ts, Sol l k ts → ∃ j, j ≤ ts.length ∧ l.drop p = (ts.drop j).flatMap Tk.enc ∧ Sims tg (ts.take j)

theorem Sol.n4 {l : List Nat} {k : Nat} {ts : List Tk} (h : Sol l k ts) : k ≤ 4096 ∧ ∀ t ∈ ts, t.fits := by
  have hk := tlen_max _ 0 (by omega) (by rw [h.1])
  rw [h.1] at hk
  have hf : ∀ (ts : List Tk) (m n : Nat), m ≤ 4096 → tlen (ts.map Tk.g) m = (n, 0) → ∀ t ∈ ts, t.fits := by
    intro ts
    induction ts with
    | nil => intro m n _ _ t ht; simp at ht
    | cons a ts ih =>
      intro m n hm h t ht
      rw [List.map_cons] at h
      obtain ⟨h1, h2, h3, h4⟩ := tlen_cons h
      rw [tk_add] at h2 h3
      rcases List.mem_cons.mp ht with rfl | ht
      · exact fits_of h1 (room := 4096) (by omega) (by omega)
      · exact ih _ n h2 h3 t ht
  exact ⟨hk, hf ts 0 k (by omega) h.1⟩

theorem lf_none {l : List Nat} (h : NoNum l) : ∀ k ts, ¬ Sol l k ts := by
  intro k ts hs
  have h4 := hs.n4.1
  have := num3_uv k (ts.flatMap Tk.enc) (by omega)
  have e : uv k ++ ts.flatMap Tk.enc = l := hs.2.symm
  rw [e] at this
  exact this.not h
theorem lf_start {l : List Nat} {v u : Nat} (h : Num3 l v u) : Lf l u [] := by
  intro k ts hs
  have h4 := hs.n4.1
  have h1 := num3_uv k (ts.flatMap Tk.enc) (by omega)
  have e : uv k ++ ts.flatMap Tk.enc = l := hs.2.symm
  rw [e] at h1
  obtain ⟨rfl, rfl⟩ := h.one h1
  refine ⟨0, by omega, ?_, ?_⟩
  · rw [← e]; simp
  · simp [Sims]

theorem head_lt {t : Tk} (h : t.fits) : t.head < 2097152 := by
  cases t using Tk.elim with
  | lit g b => rw [Tk.fits_lit] at h; rw [Tk.head_lit]; omega
  | mat d n => rw [Tk.fits_mat] at h; rw [Tk.head_mat]; omega
theorem enc_num (t : Tk) (tail : List Nat) (h : t.fits) : Num3 (t.enc ++ tail) t.head (uv t.head).length :=
  ⟨enc_head t tail h, uv_pos _, uv_len _ 2 (by simpa using head_lt h)⟩
/-- The next token, if there is a rest. -/
theorem lf_next {l : List Nat} {p : Nat} {tg : List Tg} (h : Lf l p tg) (hp : p < l.length) {k : Nat} {ts : List Tk} (hs : Sol l k ts) :
    ∃ j t, j < ts.length ∧ ts[j]? = some t ∧ t.fits ∧ (∀ g b, t = .lit g b → b ≠ []) ∧ l.drop p = t.enc ++ (ts.drop (j + 1)).flatMap Tk.enc ∧ Sims tg (ts.take j) := by
  obtain ⟨j, h1, h2, h3⟩ := h k ts hs
  have hj : j < ts.length := by
    apply Classical.byContradiction
    intro hge
    rw [List.drop_eq_nil_of_le (show ts.length ≤ j by omega)] at h2
    have := congrArg List.length h2
    simp at this
    omega
  have hmem : ts[j] ∈ ts := List.getElem_mem hj
  refine ⟨j, ts[j], hj, List.getElem?_eq_getElem hj, hs.n4.2 _ hmem, ?_, ?_, h3⟩
  · have hr : ∀ (ts : List Tk) (m n : Nat), tlen (ts.map Tk.g) m = (n, 0) → ∀ t ∈ ts, ∃ q, t.g.right q = true := by
      intro ts
      induction ts with
      | nil => intro m n _ t ht; simp at ht
      | cons a ts ih =>
        intro m n h t ht
        rw [List.map_cons] at h
        obtain ⟨h1, h2, h3, h4⟩ := tlen_cons h
        rcases List.mem_cons.mp ht with rfl | ht
        · exact ⟨m, h1⟩
        · exact ih _ n h3 t ht
    intro g b e
    obtain ⟨q, hq⟩ := hr ts 0 k hs.1 _ hmem
    rw [e] at hq
    exact tk_right_lit.mp hq
  · rw [h2, List.drop_eq_getElem_cons hj, List.flatMap_cons]
theorem sims_take {tg : List Tg} {ts : List Tk} {j : Nat} {t : Tk} {x : Tg} (h : Sims tg (ts.take j)) (hj : j < ts.length) (ht : ts[j]? = some t) (hx : x.c3 = t.g.c3) : Sims (tg ++ [x]) (ts.take (j + 1)) := by
  unfold Sims at h ⊢
  rw [List.getElem?_eq_getElem hj] at ht
  simp only [Option.some.injEq] at ht
  rw [List.take_succ_eq_append_getElem hj, List.map_append, List.map_append, h, ht]
  simp [hx]
theorem lf_bad {l : List Nat} {p : Nat} {tg : List Tg} (h : Lf l p tg) (hp : p < l.length) (hn : NoNum (l.drop p)) : ∀ k ts, ¬ Sol l k ts := by
  intro k ts hs
  obtain ⟨j, t, _, _, h3, _, h4, _⟩ := lf_next h hp hs
  have := enc_num t ((ts.drop (j + 1)).flatMap Tk.enc) h3
  rw [← h4] at this
  exact this.not hn
theorem drop_uv {l R : List Nat} {p v : Nat} (h : l.drop p = uv v ++ R) : l.drop (p + (uv v).length) = R := by
  rw [← List.drop_drop, h, List.drop_left]
theorem lf_litbad {l : List Nat} {p h u : Nat} {tg : List Tg} (hl : Lf l p tg) (hp : p < l.length) (hn : Num3 (l.drop p) h u) (he : h % 2 = 0) (hbad : l.length < p + u + h / 2) : ∀ k ts, ¬ Sol l k ts := by
  intro k ts hs
  obtain ⟨j, t, _, _, h3, h4, h5, _⟩ := lf_next hl hp hs
  have h6 := enc_num t ((ts.drop (j + 1)).flatMap Tk.enc) h3
  rw [← h5] at h6
  obtain ⟨rfl, rfl⟩ := hn.one h6
  cases t using Tk.elim with
  | lit g b =>
    rw [Tk.head_lit] at *
    rw [Tk.enc_lit, List.append_assoc] at h5
    have := congrArg List.length h5
    simp at this
    omega
  | mat d m => rw [Tk.head_mat] at he; omega
theorem lf_lit {l : List Nat} {p h u : Nat} {tg : List Tg} (lv : Value) (hl : Lf l p tg) (hp : p < l.length) (hn : Num3 (l.drop p) h u) (he : h % 2 = 0) : Lf l (p + u + h / 2) (tg ++ [⟨lv, (l.drop (p + u)).take (h / 2), 0, 0⟩]) := by
  intro k ts hs
  obtain ⟨j, t, h1, h2, h3, h4, h5, hsim⟩ := lf_next hl hp hs
  have h6 := enc_num t ((ts.drop (j + 1)).flatMap Tk.enc) h3
  rw [← h5] at h6
  obtain ⟨rfl, rfl⟩ := hn.one h6
  cases t using Tk.elim with
  | lit g b =>
    rw [Tk.head_lit] at *
    rw [Tk.enc_lit, List.append_assoc] at h5
    have h7 := drop_uv h5
    have e2 : 2 * b.length / 2 = b.length := by omega
    rw [e2]
    refine ⟨j + 1, by omega, ?_, sims_take hsim h1 h2 ?_⟩
    · rw [← List.drop_drop, h7, List.drop_left]
    · rw [h7, Tk.g_lit]; simp [Tg.c3]
  | mat d m => rw [Tk.head_mat] at he; omega
theorem lf_matbad {l : List Nat} {p h u : Nat} {tg : List Tg} (hl : Lf l p tg) (hp : p < l.length) (hn : Num3 (l.drop p) h u) (he : h % 2 = 1) (hbad : NoNum (l.drop (p + u))) : ∀ k ts, ¬ Sol l k ts := by
  intro k ts hs
  obtain ⟨j, t, _, _, h3, h4, h5, _⟩ := lf_next hl hp hs
  have h6 := enc_num t ((ts.drop (j + 1)).flatMap Tk.enc) h3
  rw [← h5] at h6
  obtain ⟨rfl, rfl⟩ := hn.one h6
  cases t using Tk.elim with
  | lit g b => rw [Tk.head_lit] at he; omega
  | mat d m =>
    rw [Tk.head_mat] at *
    rw [Tk.fits_mat] at h3
    rw [Tk.enc_mat, List.append_assoc] at h5
    have h7 := drop_uv h5
    have h8 := num3_uv d ((ts.drop (j + 1)).flatMap Tk.enc) (by omega)
    rw [← h7] at h8
    exact h8.not hbad
theorem lf_mat {l : List Nat} {p h u d x : Nat} {tg : List Tg} (hl : Lf l p tg) (hp : p < l.length) (hn : Num3 (l.drop p) h u) (he : h % 2 = 1) (hd : Num3 (l.drop (p + u)) d x) : Lf l (p + u + x) (tg ++ [⟨.slice none 0 0, [], (d : Nat), ((h / 2 : Nat) : Int)⟩]) := by
  intro k ts hs
  obtain ⟨j, t, h1, h2, h3, h4, h5, hsim⟩ := lf_next hl hp hs
  have h6 := enc_num t ((ts.drop (j + 1)).flatMap Tk.enc) h3
  rw [← h5] at h6
  obtain ⟨rfl, rfl⟩ := hn.one h6
  cases t using Tk.elim with
  | lit g b => rw [Tk.head_lit] at he; omega
  | mat dd m =>
    rw [Tk.head_mat] at *
    rw [Tk.fits_mat] at h3
    rw [Tk.enc_mat, List.append_assoc] at h5
    have h7 := drop_uv h5
    have h8 := num3_uv dd ((ts.drop (j + 1)).flatMap Tk.enc) (by omega)
    rw [← h7] at h8
    obtain ⟨rfl, rfl⟩ := hd.one h8
    have e2 : (2 * m + 1) / 2 = m := by omega
    rw [e2]
    refine ⟨j + 1, by omega, ?_, sims_take hsim h1 h2 ?_⟩
    · exact drop_uv h7
    · rw [Tk.g_mat]
theorem lf_end {l : List Nat} {p : Nat} {tg : List Tg} (hl : Lf l p tg) (hp : l.length ≤ p) {k : Nat} {ts : List Tk} (hs : Sol l k ts) : Sims tg ts := by
  obtain ⟨j, h1, h2, h3⟩ := hl k ts hs
  rw [List.drop_eq_nil_of_le hp] at h2
  have hj : j = ts.length := by
    apply Classical.byContradiction
    intro hne
    rw [List.drop_eq_getElem_cons (show j < ts.length by omega), List.flatMap_cons] at h2
    exact enc_ne _ (List.append_eq_nil_iff.mp h2.symm).1
  subst hj
  rwa [List.take_length] at h3
theorem Sol.full {l : List Nat} {k : Nat} {ts : List Tk} (h : Sol l k ts) : ∀ g b, Tk.lit g b ∈ ts → b ≠ [] := by
  have hr : ∀ (ts : List Tk) (m n : Nat), tlen (ts.map Tk.g) m = (n, 0) → ∀ t ∈ ts, ∃ q, t.g.right q = true := by
    intro ts
    induction ts with
    | nil => intro m n _ t ht; simp at ht
    | cons a ts ih =>
      intro m n h t ht
      rw [List.map_cons] at h
      obtain ⟨h1, h2, h3, h4⟩ := tlen_cons h
      rcases List.mem_cons.mp ht with rfl | ht
      · exact ⟨m, h1⟩
      · exact ih _ n h3 t ht
  intro g b hm
  obtain ⟨q, hq⟩ := hr ts 0 k h.1 _ hm
  exact tk_right_lit.mp hq
/-- Where the bytes are not those that are written for the tokens, they are no block. -/
theorem fin_bad {l : List Nat} {p : Nat} {tg : List Tg} (hl : Lf l p tg) (hp : l.length ≤ p) (hbad : (tlen tg 0).2 ≠ 0 ∨ blkG (tlen tg 0).1 tg ≠ l) : ∀ k ts, ¬ Sol l k ts := by
  intro k ts hs
  have h1 := lf_end hl hp hs
  have h2 := h1.tlen 0
  rw [hs.1] at h2
  rw [h2] at hbad
  rcases hbad with h | h
  · simp at h
  · exact h ((h1.blk hs.full k).trans hs.2.symm)
/-- A token of any make, as one of ours. -/
def Tg.k (t : Tg) : Tk := if t.l = [] then .mat t.d.toNat t.n.toNat else .lit 0 t.l
theorem Tg.k_c3 {t : Tg} (h : t.fine) : t.k.g.c3 = t.c3 := by
  unfold Tg.k
  rcases h with ⟨h0, h1, h2, h3, h4⟩ | ⟨h0, h1, h2, h3⟩
  · rw [if_pos h0, Tk.g_mat]
    simp only [Tg.c3, h0, Prod.mk.injEq, true_and]
    omega
  · rw [if_neg h0, Tk.g_lit]
    simp only [Tg.c3, h1, h2]
theorem sims_k : ∀ (tg : List Tg), (∀ t ∈ tg, t.fine) → Sims tg (tg.map Tg.k)
  | [], _ => rfl
  | t :: tg, h => by
    have h1 := sims_k tg (fun x hx => h x (by simp [hx]))
    unfold Sims at h1 ⊢
    simp only [List.map_cons, h1, Tg.k_c3 (h t (by simp))]
theorem fin_ok {l : List Nat} {tg : List Tg} {M : Nat} (h : tlen tg 0 = (M, 0)) (hb : blkG M tg = l) : ∃ ts, Sims tg ts ∧ Sol l M ts := by
  obtain ⟨_, _, hf⟩ := tlen_fine tg 0 (by omega) (by rw [h])
  have hs := sims_k tg hf
  refine ⟨_, hs, ?_, ?_⟩
  · rw [← hs.tlen]; exact h
  · rw [← hb]
    refine hs.blk (fun g b hm => ?_) M
    obtain ⟨t, ht, e⟩ := List.mem_map.mp hm
    unfold Tg.k at e
    by_cases h0 : t.l = []
    · rw [if_pos h0] at e; simp at e
    · rw [if_neg h0] at e; simp at e; rw [← e.2]; exact h0
end Go.Proofs.Ytklfmgkfcacfkaa
