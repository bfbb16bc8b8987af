import Derived.Test.YtklfmgkfcacfkaaRx
namespace Go.Proofs.Ytklfmgkfcacfkaa
open Go.RowKit Plain
set_option linter.unusedVariables false
set_option linter.unusedSimpArgs false

/-- A token without its block. -/
def Tk.c (t : Tk) : Tk := t.pick (fun _ l => Tk.lit 0 l) (fun d n => Tk.mat d n)
theorem Tk.c_lit (g : Nat) (l : List Nat) : (Tk.lit g l).c = Tk.lit 0 l := rfl
theorem Tk.c_mat (d n : Nat) : (Tk.mat d n).c = Tk.mat d n := rfl
def Tk.two (t : Tk) : Nat := t.pick (fun _ _ => 0) (fun _ _ => 2)
@[simp] theorem Tk.two_lit (g : Nat) (l : List Nat) : (Tk.lit g l).two = 0 := rfl
@[simp] theorem Tk.two_mat (d n : Nat) : (Tk.mat d n).two = 2 := rfl
theorem enc_c (t : Tk) : t.c.enc = t.enc := by cases t using Tk.elim <;> rfl
theorem len_c (t : Tk) : t.c.len = t.len := by cases t using Tk.elim <;> rfl
theorem blk_c {n : Nat} {ts ss : List Tk} (h : ts.map Tk.c = ss.map Tk.c) : blk n ts = blk n ss := by
  have : ∀ xs : List Tk, xs.flatMap Tk.enc = (xs.map Tk.c).flatMap Tk.enc := fun xs => by
    rw [List.flatMap_map]; congr 1; funext t; rw [enc_c]
  unfold blk
  rw [this ts, this ss, h]
theorem grow_c (x : List Nat) (t : Tk) : Tg.grow x t.c.g = Tg.grow x t.g := by cases t using Tk.elim <;> rfl
theorem expd_c {ts ss : List Tk} (h : ts.map Tk.c = ss.map Tk.c) : expd (ts.map Tk.g) = expd (ss.map Tk.g) := by
  have : ∀ (xs : List Tk) (x : List Nat), (xs.map Tk.g).foldl Tg.grow x = ((xs.map Tk.c).map Tk.g).foldl Tg.grow x := fun xs => by
    induction xs with
    | nil => intro x; rfl
    | cons t xs ih => intro x; simp only [List.map_cons, List.foldl_cons]; rw [grow_c, ih]
  unfold expd
  rw [this ts, this ss, h]

theorem Best.unique {l : List Nat} {i d n d' n' : Nat} (h : Best l i d n) (k : Best l i d' n') : d = d' ∧ n = n' := by
  rcases h with ⟨h1, h2, h3⟩ | ⟨h0, h1, h2, h3, h4, h5, h6, h7⟩
  · rcases k with ⟨k1, k2, k3⟩ | ⟨k0, k1, k2, k3, k4, k5, k6, k7⟩
    · omega
    · have := h3 d' n' k3 k4 k5 k6; omega
  · rcases k with ⟨k1, k2, k3⟩ | ⟨k0, k1, k2, k3, k4, k5, k6, k7⟩
    · have := k3 d n h3 h4 h5 h6; omega
    · have a := h7 d' n' k3 k4 k5 k6
      have b := k7 d n h3 h4 h5 h6
      omega

/-- Literals are as long as they can be. -/
theorem lit_le {l : List Nat} {ts : List Tk} {k i g : Nat} {b b' : List Nat} (h : PreP l ts l.length) (hk : k < ts.length) (hi : PreP l (ts.take k) i) (he : ts[k] = .lit g b) (hb' : i + b'.length ≤ l.length) (hn' : ∀ j, i ≤ j → j < i + b'.length → Best l j 0 0) : b'.length ≤ b.length := by
  apply Classical.byContradiction
  intro hlt
  obtain ⟨hN, hC⟩ := h.at hk hi
  rw [he] at hN
  change PreP l (ts.take (k + 1)) (i + b.length) at hN
  by_cases hlast : k + 1 < ts.length
  · obtain ⟨_, hC2⟩ := h.at hlast hN
    rcases hC2 with ⟨g2, b2, e2, hl2, _⟩ | ⟨d2, n2, e2, h5, hB⟩
    · refine hl2 g b ?_
      rw [List.take_succ_eq_append_getElem hk, List.getLast?_concat, he]
    · have := (Best.unique hB (hn' (i + b.length) (by omega) (by omega))).2
      omega
  · have e : ts.take (k + 1) = ts := List.take_of_length_le (by omega)
    rw [e] at hN
    have := hN.same h
    omega

/-- A text has one list of tokens. -/
theorem PreP.unique {l : List Nat} {ts ss : List Tk} (h : PreP l ts l.length) (k : PreP l ss l.length) : ts.map Tk.c = ss.map Tk.c := by
  have key : ∀ m, m ≤ ts.length → m ≤ ss.length ∧ (ts.take m).map Tk.c = (ss.take m).map Tk.c := by
    intro m
    induction m with
    | zero => intro _; simp
    | succ m ih =>
      intro hm
      obtain ⟨h1, h2⟩ := ih (by omega)
      obtain ⟨i, hi⟩ := h.take m (by omega)
      obtain ⟨i', hi'⟩ := k.take m h1
      have hlen : ∀ xs : List Tk, (xs.map Tk.len).sum = ((xs.map Tk.c).map Tk.len).sum := fun xs => by
        rw [List.map_map]; congr 1; apply List.map_congr_left; intro t _; exact (len_c t).symm
      have hii : i = i' := by rw [hi.sum, hi'.sum, hlen, hlen (ss.take m), h2]
      subst hii
      obtain ⟨hN, hC⟩ := h.at (k := m) (by omega) hi
      have hlt : m < ss.length := by
        apply Classical.byContradiction
        intro hge
        have e : ss.take m = ss := List.take_of_length_le (by omega)
        rw [e] at hi'
        have hil := hi'.same k
        have hle := hN.le
        have hp : 0 < ts[m].len := by
          rcases hC with ⟨g, b, e, _, hb, _⟩ | ⟨d, n, e, h5, _⟩
          · rw [e]; exact List.length_pos_iff.mpr hb
          · rw [e]; simp only [Tk.len_lit, Tk.len_mat]; omega
        omega
      refine ⟨by omega, ?_⟩
      rw [List.take_succ_eq_append_getElem (by omega), List.take_succ_eq_append_getElem hlt, List.map_append, List.map_append, h2]
      congr 1
      obtain ⟨hN', hC'⟩ := k.at hlt hi'
      rcases hC with ⟨g, b, e, hl, hb, hib, hbe, hbest⟩ | ⟨d, n, e, h5, hB⟩
      · rcases hC' with ⟨g', b', e', hl', hb', hib', hbe', hbest'⟩ | ⟨d', n', e', h5', hB'⟩
        · have q1 := lit_le h (by omega) hi e hib' hbest'
          have q2 := lit_le k hlt hi' e' hib hbest
          have q3 : b.length = b'.length := by omega
          have q4 : b = b' := by rw [hbe, hbe', q3]
          rw [e, e', q4]; rfl
        · have := (Best.unique hB' (hbest i (Nat.le_refl _) (by have := List.length_pos_iff.mpr hb; omega))).2
          omega
      · rcases hC' with ⟨g', b', e', hl', hb', hib', hbe', hbest'⟩ | ⟨d', n', e', h5', hB'⟩
        · have := (Best.unique hB (hbest' i (Nat.le_refl _) (by have := List.length_pos_iff.mpr hb'; omega))).2
          omega
        · obtain ⟨rfl, rfl⟩ := Best.unique hB hB'
          rw [e, e']
  obtain ⟨h1, h2⟩ := key ts.length (Nat.le_refl _)
  rw [List.take_length] at h2
  have hi' := k.take ts.length h1
  obtain ⟨i, hi⟩ := hi'
  have hlen : ∀ xs : List Tk, (xs.map Tk.len).sum = ((xs.map Tk.c).map Tk.len).sum := fun xs => by
    rw [List.map_map]; congr 1; apply List.map_congr_left; intro t _; exact (len_c t).symm
  have hil : i = l.length := by rw [hi.sum, hlen, ← h2, ← hlen, ← h.sum]
  subst hil
  have hss : ss.length = ts.length := by
    apply Classical.byContradiction
    intro hne
    have hlt : ts.length < ss.length := by omega
    obtain ⟨hN, hC⟩ := k.at hlt hi
    have hle := hN.le
    have hp : 0 < ss[ts.length].len := by
      rcases hC with ⟨g, b, e, _, hb, _⟩ | ⟨d, n, e, h5, _⟩
      · rw [e]; exact List.length_pos_iff.mpr hb
      · rw [e]; simp only [Tk.len_lit, Tk.len_mat]; omega
    omega
  rw [h2, List.take_of_length_le (by omega)]

/-- A text's tokens add up to it. -/
theorem PreP.sound {l : List Nat} (hl : l.length ≤ 4096) {ts : List Tk} {i : Nat} (h : PreP l ts i) : tlen (ts.map Tk.g) 0 = (i, 0) ∧ expd (ts.map Tk.g) = l.take i := by
  induction h using PreP.ind with
  | nil => exact ⟨rfl, by simp [expd]⟩
  | @lit ts i g b h hlast hb hi he hn ih =>
    obtain ⟨h1, h2⟩ := ih
    rw [List.map_append, List.map_singleton]
    have := tlen_snoc (t := (Tk.lit g b).g) h1 (tk_right_lit.mpr hb) (by rw [tk_add]; simp only [Tk.len_lit, Tk.len_mat]; omega)
    rw [tk_add] at this
    refine ⟨this, ?_⟩
    have e : expd (ts.map Tk.g ++ [(Tk.lit g b).g]) = Tg.grow (expd (ts.map Tk.g)) (Tk.lit g b).g := by simp [expd]
    rw [e, h2]
    show cpy (l.take i ++ b) 0 0 = _
    rw [cpy, List.take_add]
    conv => lhs; rw [he]
  | @mat ts i d n h hn hb ih =>
    obtain ⟨h1, h2⟩ := ih
    rcases hb with ⟨z, _⟩ | ⟨_, z1, z2, z3, z4, z5, z6, _⟩
    · omega
    rw [List.map_append, List.map_singleton]
    have := tlen_snoc h1 (tk_right_mat.mpr ⟨hn, z1, z3, z5, z4⟩) (by rw [tk_add]; simp only [Tk.len_lit, Tk.len_mat]; omega)
    rw [tk_add] at this
    refine ⟨this, ?_⟩
    have e : expd (ts.map Tk.g ++ [(Tk.mat d n).g]) = Tg.grow (expd (ts.map Tk.g)) (Tk.mat d n).g := by simp [expd]
    rw [e, h2]
    show cpy (l.take i ++ []) (d : Int).toNat (n : Int).toNat = _
    rw [List.append_nil, Int.toNat_natCast, Int.toNat_natCast]
    have key : ∀ m, m ≤ n → cpy (l.take i) d m = l.take (i + m) := by
      intro m
      induction m with
      | zero => intro _; rfl
      | succ m ihm =>
        intro hm
        rw [cpy, ihm (by omega), ← Nat.add_assoc, List.take_succ_eq_append_getElem (by omega)]
        congr 2
        have hq := z6.2.1 m (by omega)
        unfold Eqv at hq
        rw [List.length_take, Nat.min_eq_left (by omega), getD_take' _ _ _ (by omega), ← hq]
        simp [List.getD_eq_getElem?_getD, List.getElem?_eq_getElem (show i + m < l.length by omega)]
    exact key n (Nat.le_refl _)

theorem PreP.sol {l : List Nat} (hl : l.length ≤ 4096) {ts : List Tk} (h : PreP l ts l.length) : Sol (blk l.length ts) l.length ts := ⟨(h.sound hl).1, rfl⟩

/-- The bytes of a block tell the tokens. -/
theorem encs_unique : ∀ (ts ss : List Tk) (m n : Nat), tlen (ts.map Tk.g) m = (n, 0) → tlen (ss.map Tk.g) m = (n, 0) → ts.flatMap Tk.enc = ss.flatMap Tk.enc → ts.map Tk.c = ss.map Tk.c
  | [], [], _, _, _, _, _ => rfl
  | [], s :: ss, m, n, _, _, e => by
    simp only [List.flatMap_nil, List.flatMap_cons] at e
    exact absurd (List.append_eq_nil_iff.mp e.symm).1 (enc_ne s)
  | t :: ts, [], m, n, _, _, e => by
    simp only [List.flatMap_nil, List.flatMap_cons] at e
    exact absurd (List.append_eq_nil_iff.mp e).1 (enc_ne t)
  | t :: ts, s :: ss, m, n, h, k, e => by
    rw [List.map_cons] at h k
    obtain ⟨h1, h2, h3, h4⟩ := tlen_cons h
    obtain ⟨k1, k2, k3, k4⟩ := tlen_cons k
    rw [tk_add] at h2 h3 k2 k3
    have ft : t.fits := fits_of h1 (room := 4096) (by omega) (by omega)
    have fs : s.fits := fits_of k1 (room := 4096) (by omega) (by omega)
    simp only [List.flatMap_cons] at e
    obtain ⟨q1, q2⟩ := enc_apart ft fs e
    rw [q1] at e
    have e2 := List.append_cancel_left e
    rw [q2] at h3
    have ih := encs_unique ts ss _ n h3 k3 e2
    rw [List.map_cons, List.map_cons, ih]
    congr 1
    have hx := enc_head t [] ft
    rw [q1, enc_head s [] fs] at hx
    simp only [Prod.mk.injEq] at hx
    cases t using Tk.elim with
    | lit g b =>
      cases s using Tk.elim with
      | lit g' b' =>
        simp only [Tk.len_lit, Tk.len_mat] at q2
        simp only [Tk.enc_lit, Tk.enc_mat, q2] at q1
        have := List.append_cancel_left q1
        simp only [Tk.c_lit, Tk.c_mat, this]
      | mat d n => simp only [Tk.head_lit, Tk.head_mat] at hx; omega
    | mat d n =>
      cases s using Tk.elim with
      | lit g' b' => simp only [Tk.head_lit, Tk.head_mat] at hx; omega
      | mat d' n' =>
        simp only [Tk.len_lit, Tk.len_mat] at q2
        subst q2
        simp only [Tk.enc_lit, Tk.enc_mat] at q1
        have q3 := List.append_cancel_left q1
        have : d = d' := uv_apart d d' (by rw [q3]; exact List.prefix_refl _)
        rw [this]

theorem Sol.unique {l : List Nat} {n m : Nat} {ts ss : List Tk} (h : Sol l n ts) (k : Sol l m ss) : n = m ∧ ts.map Tk.c = ss.map Tk.c := by
  obtain ⟨h1, h2⟩ := h
  obtain ⟨k1, k2⟩ := k
  have hn := tlen_max _ 0 (by omega) (by rw [h1])
  have km := tlen_max _ 0 (by omega) (by rw [k1])
  rw [h1] at hn
  rw [k1] at km
  simp only at hn km
  unfold blk at h2 k2
  have e1 := rd_pre n (ts.flatMap Tk.enc) (by omega)
  have e2 := rd_pre m (ss.flatMap Tk.enc) (by omega)
  rw [← h2] at e1
  rw [← k2, e1] at e2
  simp only [Prod.mk.injEq] at e2
  obtain ⟨rfl, _⟩ := e2
  refine ⟨rfl, ?_⟩
  rw [h2] at k2
  exact encs_unique ts ss 0 n h1 k1 (List.append_cancel_left k2)

/-- A block is never longer than one literal's. -/
theorem PreP.short {l : List Nat} (hl : l.length ≤ 4096) {ts : List Tk} {i : Nat} (h : PreP l ts i) : ts = [] ∨ ∃ b1, b1 ≤ i ∧ (ts.flatMap Tk.enc).length + ((ts.getLast?.map Tk.two).getD 0) ≤ (uv (2 * b1)).length + i := by
  induction h using PreP.ind with
  | nil => exact .inl rfl
  | @lit ts i g b h hlast hb hi he hn ih =>
    right
    have e : ((ts ++ [Tk.lit g b]).flatMap Tk.enc).length = (ts.flatMap Tk.enc).length + (uv (2 * b.length)).length + b.length := by simp [Tk.enc_lit, Tk.enc_mat]; omega
    rw [e, List.getLast?_concat]
    by_cases hts : ts = []
    · subst hts
      have := h.zero
      subst this
      exact ⟨b.length, by omega, by simp⟩
    · rcases ih with hx | ⟨b1, h1, h2⟩
      · exact absurd hx hts
      refine ⟨b1, by omega, ?_⟩
      have h3 : (uv (2 * b.length)).length ≤ 2 := uv_len _ 1 (by simp; omega)
      cases hx : ts.getLast? with
      | none => exact absurd (by simpa using hx) hts
      | some t =>
        cases t using Tk.elim with
        | lit g' b' => exact absurd hx (hlast g' b')
        | mat d n => rw [hx] at h2; simp at h2 ⊢; omega
  | @mat ts i d n h hn hb ih =>
    right
    rcases hb with ⟨z, _⟩ | ⟨_, z1, z2, z3, z4, z5, z6, _⟩
    · omega
    have e : ((ts ++ [Tk.mat d n]).flatMap Tk.enc).length = (ts.flatMap Tk.enc).length + (uv (2 * n + 1)).length + (uv d).length := by simp [Tk.enc_lit, Tk.enc_mat]; omega
    rw [e, List.getLast?_concat]
    have h4 : (uv d).length ≤ 2 := uv_len _ 1 (by simp; omega)
    have h5 : (uv (2 * n + 1)).length ≤ 2 := uv_len _ 1 (by simp; omega)
    have h6 : (uv (2 * n + 1)).length + (uv d).length + 2 ≤ n := by
      by_cases hs : 2 * n + 1 < 128
      · rw [uv_lt hs]; simp; omega
      · omega
    rcases ih with rfl | ⟨b1, h1, h2⟩
    · have := h.zero
      omega
    · refine ⟨b1, by omega, ?_⟩
      simp only [Option.map_some, Option.getD_some, Tk.two_mat]
      omega

theorem PreP.bound {l : List Nat} (hl : l.length ≤ 4096) {ts : List Tk} (h : PreP l ts l.length) (h0 : 0 < l.length) : (blk l.length ts).length ≤ (uv l.length).length + (uv (2 * l.length)).length + l.length := by
  unfold blk
  rw [List.length_append]
  rcases h.short hl with rfl | ⟨b1, h1, h2⟩
  · simp; omega
  · have := uv_mono (2 * b1) (2 * l.length) (by omega)
    omega
end Go.Proofs.Ytklfmgkfcacfkaa
