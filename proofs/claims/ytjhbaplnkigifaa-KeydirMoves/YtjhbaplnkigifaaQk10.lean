import Derived.Test.YtjhbaplnkigifaaQk09
/-! keydir: four dirs beside one another. -/
namespace Go.Proofs.Ytjhbaplnkigifaa
open Go.RowKit Plain
set_option linter.unusedVariables false
set_option linter.unusedSimpArgs false

/-- The blocks of four dirs. -/
structure Qd where
  d : Nat
  x : Nat
  f : Nat
  y : Nat
def Qd.D (q : Qd) : Nat → Prop := fun g => g = q.d ∨ g = q.x ∨ g = q.f ∨ g = q.y
structure Qd.Ok (q : Qd) : Prop where
  dx : q.d ≠ q.x
  df : q.d ≠ q.f
  dy : q.d ≠ q.y
  xf : q.x ≠ q.f
  xy : q.x ≠ q.y
  fy : q.f ≠ q.y

/-- Four dirs, and what they hold. -/
structure Fs (q : Qd) (K B : Nat) (w u : World) (l1 l2 l3 l4 : List Ke) : Prop where
  below : Below w.heap.size w u
  size : B ≤ u.heap.size
  d : DirAt q.D u q.d l1
  x : DirAt q.D u q.x l2
  f : DirAt q.D u q.f l3
  y : DirAt q.D u q.y l4
  n1 : l1.length ≤ K
  n2 : l2.length ≤ K
  n3 : l3.length ≤ K
  n4 : l4.length ≤ K
theorem Fs.later {q : Qd} {K B : Nat} {w u u' : World} {l1 l2 l3 l4 : List Ke} (h : Fs q K B w u l1 l2 l3 l4) (hb : Below u.heap.size u u') : Fs q K B w u' l1 l2 l3 l4 :=
  ⟨below_step' h.below hb, Nat.le_trans h.size hb.size, h.d.later hb, h.x.later hb, h.f.later hb, h.y.later hb, h.n1, h.n2, h.n3, h.n4⟩
theorem Fs.more {q : Qd} {K K' B : Nat} {w u : World} {l1 l2 l3 l4 : List Ke} (h : Fs q K B w u l1 l2 l3 l4) (hk : K ≤ K') : Fs q K' B w u l1 l2 l3 l4 :=
  ⟨h.below, h.size, h.d, h.x, h.f, h.y, Nat.le_trans h.n1 hk, Nat.le_trans h.n2 hk, Nat.le_trans h.n3 hk, Nat.le_trans h.n4 hk⟩
theorem Fs.drew {q : Qd} {K B : Nat} {w u : World} {l1 l2 l3 l4 : List Ke} (h : Fs q K B w u l1 l2 l3 l4) : Fs q K B w u.drew l1 l2 l3 l4 := h.later (Below.drew (Below.refl _ _))
theorem layK_len (l : List Ke) (x : Kr) : (layK l x).length ≤ l.length + 1 := by
  unfold layK
  split
  · exact insL_len _ _ _
  · omega
theorem pointL_len (key : ByteArray) (o s a : Int) (l : List Ke) (h : Srt l) : (pointL key o s a l).length ≤ l.length := by
  unfold pointL
  cases hf : findL key l with
  | none => simp
  | some k =>
    simp only
    split
    · have hm := findL_is hf
      have hk : kc key k.key = 0 := by rw [hm.2]; exact kc_self _
      obtain ⟨ll, lr, e⟩ := List.append_of_mem hm.1
      subst e
      rw [insL_eq h hk]
      simp
    · exact Nat.le_refl _

/-- Put of whatever key. -/
theorem putAny {D : Nat → Prop} {gd : Nat} {l : List Ke} (x : Kr) (u : World) (hD : ∀ g, u.heap.size ≤ g → ¬ D g) (h : DirAt D u gd l) (hx : x.key.size ≤ maxLen) (hl : l.length ≤ 1125899906842600) :
    Calls Try.prog 11 #[.pointer (some ⟨gd, 0, none⟩), .string x.key, x.ke.e.v] u fun e w' => (∃ v, e = .returned v) ∧ u.grownBy w' (some gd) ∧ DirAt D w' gd (layK l x) := by
  unfold layK
  by_cases hk : okKey x.key = true
  · have hsz : 1 ≤ x.key.size ∧ x.key.size ≤ 64 := by simpa [okKey] using hk
    rw [if_pos hk]
    exact (putOf x.key x.ke.e u hD h hsz.1 hsz.2 hl).mono fun e w' ⟨h1, h2, h3⟩ => ⟨⟨_, h1⟩, h2, h3⟩
  · rw [if_neg hk]
    exact (putBad x.key x.ke.e u hx (by simpa using hk)).mono fun e w' ⟨h1, h2⟩ => ⟨⟨_, h1⟩, below_grow h2 _, h.later h2⟩
theorem Fs.new {q : Qd} {K B : Nat} {w u : World} {l1 l2 l3 l4 : List Ke} (h : Fs q K B w u l1 l2 l3 l4) (hq : q.d < B ∧ q.x < B ∧ q.f < B ∧ q.y < B) : ∀ g, u.heap.size ≤ g → ¬ q.D g := fun g hg hd => by
  have := h.size
  rcases hd with hd | hd | hd | hd <;> omega
theorem below_grown {w u u' : World} {g : Nat} (h : Below w.heap.size w u) (hg : u.grownBy u' (some g)) (hl : w.heap.size ≤ g) : Below w.heap.size w u' := h.trans (grow_below hg h.size (fun j e => by cases e; exact hl))
structure Qd.In (q : Qd) (w : World) (B : Nat) : Prop where
  ok : q.Ok
  lo : w.heap.size ≤ q.d ∧ w.heap.size ≤ q.x ∧ w.heap.size ≤ q.f ∧ w.heap.size ≤ q.y
  hi : q.d < B ∧ q.x < B ∧ q.f < B ∧ q.y < B
theorem Fs.putD {q : Qd} {K B : Nat} {w u : World} {l1 l2 l3 l4 : List Ke} (x : Kr) (h : Fs q K B w u l1 l2 l3 l4) (hq : q.In w B) (hx : x.key.size ≤ maxLen) (hK : K ≤ 1125899906842600) :
    Calls Try.prog 11 #[.pointer (some ⟨q.d, 0, none⟩), .string x.key, x.ke.e.v] u fun e w' => (∃ v, e = .returned v) ∧ Fs q (K + 1) B w w' (layK l1 x) l2 l3 l4 := by
  have hq0 := hq.ok
  refine (putAny x u (h.new hq.hi) h.d hx (Nat.le_trans h.n1 hK)).mono fun e w' ⟨h1, h2, h3⟩ => ⟨h1, ?_⟩
  exact ⟨below_grown h.below h2 hq.lo.1, Nat.le_trans h.size h2.size, h3, h.x.other h2 (.inl rfl) (hq0.dx.symm), h.f.other h2 (.inl rfl) (hq0.df.symm), h.y.other h2 (.inl rfl) (hq0.dy.symm), Nat.le_trans (layK_len _ _) (Nat.succ_le_succ h.n1), Nat.le_succ_of_le h.n2, Nat.le_succ_of_le h.n3, Nat.le_succ_of_le h.n4⟩
theorem Fs.remD {q : Qd} {K B : Nat} {w u : World} {l1 l2 l3 l4 : List Ke} (key : ByteArray) (h : Fs q K B w u l1 l2 l3 l4) (hq : q.In w B) (hx : key.size ≤ maxLen) (hK : K ≤ 1125899906842600) :
    Calls Try.prog 19 #[.pointer (some ⟨q.d, 0, none⟩), .string key] u fun e w' => (∃ v, e = .returned v) ∧ Fs q (K + 1) B w w' (delL key l1) l2 l3 l4 := by
  have hq0 := hq.ok
  refine (removeOf key u (h.new hq.hi) h.d hx (Nat.le_trans h.n1 hK)).mono fun e w' ⟨h1, h2, h3⟩ => ⟨⟨_, h1⟩, ?_⟩
  exact ⟨below_grown h.below h2 hq.lo.1, Nat.le_trans h.size h2.size, h3, h.x.other h2 (.inl rfl) (hq0.dx.symm), h.f.other h2 (.inl rfl) (hq0.df.symm), h.y.other h2 (.inl rfl) (hq0.dy.symm), Nat.le_succ_of_le (Nat.le_trans (delL_len _ _) h.n1), Nat.le_succ_of_le h.n2, Nat.le_succ_of_le h.n3, Nat.le_succ_of_le h.n4⟩
theorem Fs.putX {q : Qd} {K B : Nat} {w u : World} {l1 l2 l3 l4 : List Ke} (x : Kr) (h : Fs q K B w u l1 l2 l3 l4) (hq : q.In w B) (hx : x.key.size ≤ maxLen) (hK : K ≤ 1125899906842600) :
    Calls Try.prog 11 #[.pointer (some ⟨q.x, 0, none⟩), .string x.key, x.ke.e.v] u fun e w' => (∃ v, e = .returned v) ∧ Fs q (K + 1) B w w' l1 (layK l2 x) l3 l4 := by
  have hq0 := hq.ok
  refine (putAny x u (h.new hq.hi) h.x hx (Nat.le_trans h.n2 hK)).mono fun e w' ⟨h1, h2, h3⟩ => ⟨h1, ?_⟩
  exact ⟨below_grown h.below h2 hq.lo.2.1, Nat.le_trans h.size h2.size, h.d.other h2 (.inr (.inl rfl)) (hq0.dx), h3, h.f.other h2 (.inr (.inl rfl)) (hq0.xf.symm), h.y.other h2 (.inr (.inl rfl)) (hq0.xy.symm), Nat.le_succ_of_le h.n1, Nat.le_trans (layK_len _ _) (Nat.succ_le_succ h.n2), Nat.le_succ_of_le h.n3, Nat.le_succ_of_le h.n4⟩
theorem Fs.remX {q : Qd} {K B : Nat} {w u : World} {l1 l2 l3 l4 : List Ke} (key : ByteArray) (h : Fs q K B w u l1 l2 l3 l4) (hq : q.In w B) (hx : key.size ≤ maxLen) (hK : K ≤ 1125899906842600) :
    Calls Try.prog 19 #[.pointer (some ⟨q.x, 0, none⟩), .string key] u fun e w' => (∃ v, e = .returned v) ∧ Fs q (K + 1) B w w' l1 (delL key l2) l3 l4 := by
  have hq0 := hq.ok
  refine (removeOf key u (h.new hq.hi) h.x hx (Nat.le_trans h.n2 hK)).mono fun e w' ⟨h1, h2, h3⟩ => ⟨⟨_, h1⟩, ?_⟩
  exact ⟨below_grown h.below h2 hq.lo.2.1, Nat.le_trans h.size h2.size, h.d.other h2 (.inr (.inl rfl)) (hq0.dx), h3, h.f.other h2 (.inr (.inl rfl)) (hq0.xf.symm), h.y.other h2 (.inr (.inl rfl)) (hq0.xy.symm), Nat.le_succ_of_le h.n1, Nat.le_succ_of_le (Nat.le_trans (delL_len _ _) h.n2), Nat.le_succ_of_le h.n3, Nat.le_succ_of_le h.n4⟩
theorem Fs.putF {q : Qd} {K B : Nat} {w u : World} {l1 l2 l3 l4 : List Ke} (x : Kr) (h : Fs q K B w u l1 l2 l3 l4) (hq : q.In w B) (hx : x.key.size ≤ maxLen) (hK : K ≤ 1125899906842600) :
    Calls Try.prog 11 #[.pointer (some ⟨q.f, 0, none⟩), .string x.key, x.ke.e.v] u fun e w' => (∃ v, e = .returned v) ∧ Fs q (K + 1) B w w' l1 l2 (layK l3 x) l4 := by
  have hq0 := hq.ok
  refine (putAny x u (h.new hq.hi) h.f hx (Nat.le_trans h.n3 hK)).mono fun e w' ⟨h1, h2, h3⟩ => ⟨h1, ?_⟩
  exact ⟨below_grown h.below h2 hq.lo.2.2.1, Nat.le_trans h.size h2.size, h.d.other h2 (.inr (.inr (.inl rfl))) (hq0.df), h.x.other h2 (.inr (.inr (.inl rfl))) (hq0.xf), h3, h.y.other h2 (.inr (.inr (.inl rfl))) (hq0.fy.symm), Nat.le_succ_of_le h.n1, Nat.le_succ_of_le h.n2, Nat.le_trans (layK_len _ _) (Nat.succ_le_succ h.n3), Nat.le_succ_of_le h.n4⟩
theorem Fs.poiF {q : Qd} {K B : Nat} {w u : World} {l1 l2 l3 l4 : List Ke} (key : ByteArray) (o s p : Int) (h : Fs q K B w u l1 l2 l3 l4) (hq : q.In w B) (hx : key.size ≤ maxLen) (hK : K ≤ 1125899906842600) :
    Calls Try.prog 15 #[.pointer (some ⟨q.f, 0, none⟩), .string key, .int .i64 o, .int .i64 s, .int .i64 p] u fun e w' => (∃ v, e = .returned v) ∧ Fs q (K + 1) B w w' l1 l2 (pointL key o s p l3) l4 := by
  have hq0 := hq.ok
  refine (pointOf key o s p u (h.new hq.hi) h.f hx (Nat.le_trans h.n3 hK)).mono fun e w' ⟨⟨b, h1⟩, h2, h3⟩ => ⟨⟨_, h1⟩, ?_⟩
  exact ⟨below_grown h.below h2 hq.lo.2.2.1, Nat.le_trans h.size h2.size, h.d.other h2 (.inr (.inr (.inl rfl))) (hq0.df), h.x.other h2 (.inr (.inr (.inl rfl))) (hq0.xf), h3, h.y.other h2 (.inr (.inr (.inl rfl))) (hq0.fy.symm), Nat.le_succ_of_le h.n1, Nat.le_succ_of_le h.n2, Nat.le_succ_of_le (Nat.le_trans (pointL_len _ _ _ _ _ h.f.srt) h.n3), Nat.le_succ_of_le h.n4⟩
theorem Fs.putY {q : Qd} {K B : Nat} {w u : World} {l1 l2 l3 l4 : List Ke} (x : Kr) (h : Fs q K B w u l1 l2 l3 l4) (hq : q.In w B) (hx : x.key.size ≤ maxLen) (hK : K ≤ 1125899906842600) :
    Calls Try.prog 11 #[.pointer (some ⟨q.y, 0, none⟩), .string x.key, x.ke.e.v] u fun e w' => (∃ v, e = .returned v) ∧ Fs q (K + 1) B w w' l1 l2 l3 (layK l4 x) := by
  have hq0 := hq.ok
  refine (putAny x u (h.new hq.hi) h.y hx (Nat.le_trans h.n4 hK)).mono fun e w' ⟨h1, h2, h3⟩ => ⟨h1, ?_⟩
  exact ⟨below_grown h.below h2 hq.lo.2.2.2, Nat.le_trans h.size h2.size, h.d.other h2 (.inr (.inr (.inr rfl))) (hq0.dy), h.x.other h2 (.inr (.inr (.inr rfl))) (hq0.xy), h.f.other h2 (.inr (.inr (.inr rfl))) (hq0.fy), h3, Nat.le_succ_of_le h.n1, Nat.le_succ_of_le h.n2, Nat.le_succ_of_le h.n3, Nat.le_trans (layK_len _ _) (Nat.succ_le_succ h.n4)⟩
theorem Fs.poiY {q : Qd} {K B : Nat} {w u : World} {l1 l2 l3 l4 : List Ke} (key : ByteArray) (o s p : Int) (h : Fs q K B w u l1 l2 l3 l4) (hq : q.In w B) (hx : key.size ≤ maxLen) (hK : K ≤ 1125899906842600) :
    Calls Try.prog 15 #[.pointer (some ⟨q.y, 0, none⟩), .string key, .int .i64 o, .int .i64 s, .int .i64 p] u fun e w' => (∃ v, e = .returned v) ∧ Fs q (K + 1) B w w' l1 l2 l3 (pointL key o s p l4) := by
  have hq0 := hq.ok
  refine (pointOf key o s p u (h.new hq.hi) h.y hx (Nat.le_trans h.n4 hK)).mono fun e w' ⟨⟨b, h1⟩, h2, h3⟩ => ⟨⟨_, h1⟩, ?_⟩
  exact ⟨below_grown h.below h2 hq.lo.2.2.2, Nat.le_trans h.size h2.size, h.d.other h2 (.inr (.inr (.inr rfl))) (hq0.dy), h.x.other h2 (.inr (.inr (.inr rfl))) (hq0.xy), h.f.other h2 (.inr (.inr (.inr rfl))) (hq0.fy), h3, Nat.le_succ_of_le h.n1, Nat.le_succ_of_le h.n2, Nat.le_succ_of_le h.n3, Nat.le_succ_of_le (Nat.le_trans (pointL_len _ _ _ _ _ h.y.srt) h.n4)⟩
end Go.Proofs.Ytjhbaplnkigifaa

/-! keydir: lists that were handed out, held against one another. -/
namespace Go.Proofs.Ytjhbaplnkigifaa
open Go.RowKit Plain
set_option linter.unusedVariables false
set_option linter.unusedSimpArgs false

/-- v is a slice of keys with entries that reads as st, whatever numbers stand in them. -/
def KrRow (w : World) (v : Value) (st : List Kr) : Prop :=
  ∃ a cap, v = .slice a st.length cap ∧ st.length ≤ 2199023255500 ∧ (st ≠ [] → ∃ b off, a = some ⟨b, off, none⟩ ∧ ∀ j, j < st.length → Kr.CellsAt w b (off + j * 7) (st.getD j Kr.zero))
theorem KrRow.later {w w' : World} {v : Value} {st : List Kr} (h : KrRow w v st) (hb : Below w.heap.size w w') : KrRow w' v st := by
  obtain ⟨a, cap, e, h1, h3⟩ := h
  refine ⟨a, cap, e, h1, fun hne => ?_⟩
  obtain ⟨b, off, e2, hc⟩ := h3 hne
  exact ⟨b, off, e2, fun j hj => (hc j hj).block (hb.block b (hc j hj).lt)⟩
theorem OwnKr.row {w : World} {v : Value} {ts : List Kr} {r : Option Nat} (h : OwnKr w v ts r) (hl : ts.length ≤ 2199023255500) : KrRow w v ts := by
  obtain ⟨a, cap, e, h1, h2⟩ := h.shape
  refine ⟨a, cap, e, hl, fun hne => ?_⟩
  have h' := h
  rcases h with ⟨_, h0, _⟩ | ⟨g, c', e1, e2, _⟩
  · exact absurd h0 hne
  · subst e1
    rw [e] at e2
    injection e2 with e3 _ _
    refine ⟨g, 0, e3, fun j hj => ?_⟩
    rw [Nat.zero_add]
    exact h'.at hj
theorem rangeRow {D : Nat → Prop} {gd : Nat} {ks : List Ke} (lim : Int) (w : World) (h : DirAt D w gd ks) (hl : ks.length ≤ 2199023255500) :
    Calls Try.prog 27 #[.pointer (some ⟨gd, 0, none⟩), .string ⟨#[]⟩, .string ⟨#[]⟩, .int .i64 lim] w fun e w' => ∃ v, e = .returned v ∧ KrRow w' v ((ks.take lim.toNat).map Ke.r) ∧ Below w.heap.size w w' := by
  refine (rangeOf ⟨#[]⟩ ⟨#[]⟩ lim w h (by decide) (by decide) hl).mono ?_
  rintro e w' ⟨v, r, rfl, ho, -, hb⟩
  rw [rng_all rfl rfl] at ho
  exact ⟨v, rfl, ho.row (by simp; omega), hb⟩
theorem sameRow (va vb : Value) (st : List Kr) (w : World) (ha : KrRow w va st) (hb : KrRow w vb st) :
    Calls Try.prog 28 #[va, vb] w fun e w' => e = .returned (.bool true) ∧ ∃ n, w' = w.drewN n := by
  obtain ⟨a, cap, rfl, hcl, hcells⟩ := ha
  obtain ⟨a', cap', rfl, -, hcells'⟩ := hb
  by_cases hnil : st = []
  · subst hnil
    clear hcells hcells'
    go_enter Try.func28, Try.ntmps28
    go_wp2
    refine wp_loop_rounds 1 ?_
    rw [rounds_succ]
    go_wp2
    go_ret
    exact ⟨rfl, 0, rfl⟩
  · obtain ⟨b, off, rfl, hc⟩ := hcells hnil
    obtain ⟨b', off', rfl, hc'⟩ := hcells' hnil
    have HC : Hid (∀ j, j < st.length → Kr.CellsAt w b (off + j * 7) (st.getD j Kr.zero)) := hc
    have HC' : Hid (∀ j, j < st.length → Kr.CellsAt w b' (off' + j * 7) (st.getD j Kr.zero)) := hc'
    clear hcells hcells' hc hc' hnil
    go_enter Try.func28, Try.ntmps28
    go_wp2
    go_loopw [5] (fun i w' => ∃ k n : Nat, w' = w.drewN n ∧ k ≤ st.length ∧ i = .int .i64 k) (fun i _ => st.length - (intOf i).toNat)
    case atStart => exact ⟨0, 0, rfl, by omega, rfl⟩
    case round =>
      obtain ⟨k, n, rfl, hk, rfl⟩ := hrel
      by_cases hlt : k < st.length
      · have hx := HC.out k hlt
        have hy := HC'.out k hlt
        generalize st.getD k Kr.zero = x at hx hy
        obtain ⟨xkey, xa, xb, xc, xd, xt, xm⟩ := x
        obtain ⟨c0, c1, c2, c3, c4, c5, c6⟩ := hx
        obtain ⟨d0, d1, d2, d3, d4, d5, d6⟩ := hy
        simp only at c0 c1 c2 c3 c4 c5 c6 d0 d1 d2 d3 d4 d5 d6
        go_wp2
        go_quiet (fail)
        go_wp2
        go_roundw
        case rel => exact ⟨k + 1, _, rfl, by omega, by go_num⟩
        case measure => simp [intOf]; omega
      · go_wp2
        go_ret
        exact ⟨rfl, _, rfl⟩
end Go.Proofs.Ytjhbaplnkigifaa

/-! keydir: dirs without keys, and the dir that there is not. -/
namespace Go.Proofs.Ytjhbaplnkigifaa
open Go.RowKit Go.Shelf Plain
set_option linter.unusedVariables false
set_option linter.unusedSimpArgs false

/-- A dir that there is not, or one without keys. -/
def EmptyAt (w : World) (da : Option Addr) : Prop := da = none ∨ ∃ gd : Nat, da = some ⟨gd, 0, none⟩ ∧ w.cell? ⟨gd, 0, none⟩ = some (.pointer none)
theorem EmptyAt.later {w w' : World} {da : Option Addr} (h : EmptyAt w da) (hb : Below w.heap.size w w') : EmptyAt w' da := by
  rcases h with h | ⟨gd, h, hc⟩
  · exact .inl h
  · exact .inr ⟨gd, h, (hb.cell (p := ⟨gd, 0, none⟩) (cell_lt hc)).trans hc⟩
theorem topE {w : World} {da : Option Addr} (h : EmptyAt w da) : Calls Try.prog 43 #[.pointer da] w fun e w' => e = .returned (.pointer none) ∧ w' = w := by
  rcases h with rfl | ⟨gd, rfl, hc⟩
  · exact topNil w
  · exact topOf gd none w hc

theorem findNil (key : ByteArray) (w : World) : Calls Try.prog 44 #[.pointer none, .string key] w fun e w' => e = .returned (.pointer none) ∧ w' = w := by
  go_enter Try.func44, Try.ntmps44
  go_wp2
  go_loopg [0] 0 (fun gk s0 wx => s0 = .pointer none ∧ wx = w)
  case atStart => exact ⟨rfl, rfl⟩
  case round =>
    obtain ⟨rfl, rfl⟩ := hrel
    go_wp2
    go_ret
    exact ⟨rfl, rfl⟩
theorem sizeNil (w : World) : Calls Try.prog 47 #[.pointer none] w fun e w' => e = .returned (.int .i64 0) ∧ w' = w := sizeOf (P := fun _ => True) (n := 0) (l := []) w ⟨rfl, rfl⟩

set_option maxHeartbeats 2000000 in
theorem getE {da : Option Addr} (key : ByteArray) (w : World) (h : EmptyAt w da) : Calls Try.prog 17 #[.pointer da, .string key] w fun e w' => e = .returned (.tuple #[En.zero.v, .bool false]) ∧ Below w.heap.size w w' := by
  obtain ⟨w0, hw0⟩ : ∃ w0, w.alloc (.cells #[.int .i64 0, .int .i64 0, .int .i64 0, .int .i64 0, .int .i64 0, .bool false] 38) = w0 := ⟨_, rfl⟩
  have hb0 : Below w.heap.size w w0 := by rw [← hw0]; exact (Below.refl _ _).alloc (Nat.le_refl _) _
  have HT : Hid (Calls Try.prog 43 #[.pointer da] w0 fun e w' => e = .returned (.pointer none) ∧ w' = w0) := topE (h.later hb0)
  have HF : Hid (Calls Try.prog 44 #[.pointer none, .string key] w0 fun e w' => e = .returned (.pointer none) ∧ w' = w0) := findNil key w0
  have HE : Hid (Below w.heap.size w (putEn w0 w.heap.size En.zero)) := putEn_below En.zero hb0 (Nat.le_refl _)
  obtain ⟨r0, r1, r2, r3, r4, r5⟩ : EnAt w0 w.heap.size En.zero := by rw [← hw0]; exact EnAt.new w En.zero
  have hfr : ∀ j, w0.frozen? ⟨w.heap.size, j, none⟩ = false := fun j => by rw [← hw0]; exact World.frozen?_alloc_at _ _ _ _ rfl
  have f0 := hfr 0
  have f1 := hfr 1
  have f2 := hfr 2
  have f3 := hfr 3
  have f4 := hfr 4
  have f5 := hfr 5
  simp only [En.zero] at r0 r1 r2 r3 r4 r5
  clear hfr hb0 h
  go_enter Try.func17, Try.ntmps17
  go_wp2_with fail
  refine HT.out.mono ?_
  rintro e wk ⟨rfl, hwk⟩
  obtain rfl := hwk.symm
  go_wp2_with fail
  refine HF.out.mono ?_
  rintro e wk ⟨rfl, hwk⟩
  obtain rfl := hwk.symm
  go_wp2
  refine bodyPost_ret (v := .tuple #[En.zero.v, .bool false]) ?_ rfl ⟨rfl, HE.out⟩
  simp only [results, hresGet, En.zero]
  go_simp

theorem lenE {da : Option Addr} (w : World) (h : EmptyAt w da) : Calls Try.prog 23 #[.pointer da] w fun e w' => e = .returned (.int .i64 0) ∧ w' = w := by
  have HT : Hid (Calls Try.prog 43 #[.pointer da] w fun e w' => e = .returned (.pointer none) ∧ w' = w) := topE h
  have HZ : Hid (Calls Try.prog 47 #[.pointer none] w fun e w' => e = .returned (.int .i64 0) ∧ w' = w) := sizeNil w
  go_enter Try.func23, Try.ntmps23
  go_wp2_with fail
  refine HT.out.mono ?_
  rintro e w1 ⟨rfl, rfl⟩
  go_wp2_with fail
  refine HZ.out.mono ?_
  rintro e w2 ⟨rfl, rfl⟩
  go_wp2
  go_ret
  exact ⟨rfl, rfl⟩

theorem rankE {da : Option Addr} (key : ByteArray) (w : World) (h : EmptyAt w da) : Calls Try.prog 21 #[.pointer da, .string key] w fun e w' => e = .returned (.int .i64 0) ∧ w' = w := by
  have HT : Hid (Calls Try.prog 43 #[.pointer da] w fun e w' => e = .returned (.pointer none) ∧ w' = w) := topE h
  go_enter Try.func21, Try.ntmps21
  go_wp2_with fail
  refine HT.out.mono ?_
  rintro e wk ⟨rfl, hwk⟩
  obtain rfl := hwk.symm
  go_wp2
  go_loopg [5, 6] 0 (fun gk s5 s6 wx => s5 = .int .i64 0 ∧ s6 = .pointer none ∧ wx = w)
  case atStart => exact ⟨rfl, rfl, rfl⟩
  case round =>
    obtain ⟨rfl, rfl, rfl⟩ := hrel
    go_wp2
    go_ret
    exact ⟨rfl, rfl⟩

set_option maxHeartbeats 2000000 in
theorem removeE {da : Option Addr} (key : ByteArray) (w : World) (h : EmptyAt w da) : Calls Try.prog 19 #[.pointer da, .string key] w fun e w' => e = .returned (.tuple #[En.zero.v, .bool false]) ∧ Below w.heap.size w w' := by
  obtain ⟨w0, hw0⟩ : ∃ w0, w.alloc (.cells #[.int .i64 0, .int .i64 0, .int .i64 0, .int .i64 0, .int .i64 0, .bool false] 38) = w0 := ⟨_, rfl⟩
  have hb0 : Below w.heap.size w w0 := by rw [← hw0]; exact (Below.refl _ _).alloc (Nat.le_refl _) _
  have HG : Hid (Calls Try.prog 17 #[.pointer da, .string key] w0 fun e w' => e = .returned (.tuple #[En.zero.v, .bool false]) ∧ Below w0.heap.size w0 w') := getE key w0 (h.later hb0)
  have HR0 : EnAt w0 w.heap.size En.zero := by rw [← hw0]; exact EnAt.new w En.zero
  have hfr : ∀ j, w0.frozen? ⟨w.heap.size, j, none⟩ = false := fun j => by rw [← hw0]; exact World.frozen?_alloc_at _ _ _ _ rfl
  have HRS : Hid (∀ u, Below w0.heap.size w0 u → EnAt u w.heap.size En.zero ∧ ∀ j, u.frozen? ⟨w.heap.size, j, none⟩ = false) := fun u hu => ⟨HR0.block (hu.block _ HR0.lt), fun j => (hu.frozen (p := ⟨w.heap.size, j, none⟩) HR0.lt).trans (hfr j)⟩
  obtain ⟨old, hold⟩ : ∃ old, En.zero = old := ⟨_, rfl⟩
  have HOLD : Hid (En.zero = old) := hold
  rw [hold] at HG
  clear h hfr HR0 hold
  go_enter Try.func19, Try.ntmps19
  go_wp2_with fail
  refine HG.out.mono ?_
  rintro e w1 ⟨rfl, hb1⟩
  obtain ⟨w2, hw2⟩ : ∃ w2, w1.alloc (.cells #[.int .i64 old.seg, .int .i64 old.pos, .int .i64 old.size, .int .i64 old.off, .int .i64 old.time, .bool old.tomb] 38) = w2 := ⟨_, rfl⟩
  have hb12 : Below w1.heap.size w1 w2 := by rw [← hw2]; exact (Below.refl _ _).alloc (Nat.le_refl _) _
  have hb02 : Below w0.heap.size w0 w2 := hb1.trans (hb12.mono hb1.size)
  have hb2 : Below w.heap.size w w2 := hb0.trans (hb02.mono hb0.size)
  have HE : Hid (Below w.heap.size w (putEn w2 w.heap.size old)) := putEn_below old hb2 (Nat.le_refl _)
  obtain ⟨o0, o1, o2, o3, o4, o5⟩ : EnAt w2 w1.heap.size old := by rw [← hw2]; exact EnAt.new w1 old
  obtain ⟨⟨r0, r1, r2, r3, r4, r5⟩, hfr⟩ := HRS.out w2 hb02
  have f0 := hfr 0
  have f1 := hfr 1
  have f2 := hfr 2
  have f3 := hfr 3
  have f4 := hfr 4
  have f5 := hfr 5
  simp only [En.zero] at r0 r1 r2 r3 r4 r5
  clear hfr hb0 hb1 hb12 hb02 hb2 HRS
  go_wp2
  refine bodyPost_ret (v := .tuple #[old.v, .bool false]) ?_ rfl ⟨by rw [HOLD.out], HE.out⟩
  simp only [results, hresRemove]
  go_simp
end Go.Proofs.Ytjhbaplnkigifaa

/-! keydir: the rest of what is asked of dirs without keys. -/
namespace Go.Proofs.Ytjhbaplnkigifaa
open Go.RowKit Go.Shelf Plain
attribute [local go_sem] Oper.semAt_some
set_option linter.unusedVariables false
set_option linter.unusedSimpArgs false

theorem rangeE {da : Option Addr} (w : World) (h : EmptyAt w da) (lim : Int) : Calls Try.prog 27 #[.pointer da, .string ⟨#[]⟩, .string ⟨#[]⟩, .int .i64 lim] w fun e w' => (∃ a c, e = .returned (.slice a 0 c)) ∧ Below w.heap.size w w' := by
  refine (rangeG (ks := []) da none 0 ⟨#[]⟩ ⟨#[]⟩ lim w ⟨rfl, rfl⟩ Srt.nil (fun u hu => topE (h.later hu)) (by decide) (by decide) (by simp)).mono ?_
  rintro e w' ⟨v, r, rfl, ho, -, hb⟩
  obtain ⟨a, c, hv, -, -⟩ := ho.shape
  refine ⟨⟨a, c, ?_⟩, hb⟩
  rw [hv]
  simp [rngL]

theorem hresNth : Try.f25.results = #[.cell 4 58, .tmp 5] := by kernel_rfl
set_option maxHeartbeats 2000000 in
theorem nthE {da : Option Addr} (n : Int) (w : World) (h : EmptyAt w da) : Calls Try.prog 25 #[.pointer da, .int .i64 n] w fun e w' => e = .returned (.tuple #[Ke.zero.v, .bool false]) ∧ Below w.heap.size w w' := by
  obtain ⟨w0, hw0⟩ : ∃ w0, w.alloc (.cells #[.string ⟨#[]⟩, .int .i64 0, .int .i64 0, .int .i64 0, .int .i64 0, .int .i64 0, .bool false] 58) = w0 := ⟨_, rfl⟩
  have hb0 : Below w.heap.size w w0 := by rw [← hw0]; exact (Below.refl _ _).alloc (Nat.le_refl _) _
  have HT : Hid (Calls Try.prog 43 #[.pointer da] w0 fun e w' => e = .returned (.pointer none) ∧ w' = w0) := topE (h.later hb0)
  have HG : Hid (Below w.heap.size w (putKe w0 w.heap.size Ke.zero)) := hb0.trans (grow_below (putKe_grow w0 w.heap.size Ke.zero) hb0.size (fun g e => by cases e; exact Nat.le_refl _))
  obtain ⟨r0, r1, r2, r3, r4, r5, r6⟩ : KeAt w0 w.heap.size Ke.zero := by rw [← hw0]; exact KeAt.new w Ke.zero
  simp only [Ke.zero, En.zero] at r0 r1 r2 r3 r4 r5 r6
  have hfr : ∀ j, w0.frozen? ⟨w.heap.size, j, none⟩ = false := fun j => by rw [← hw0]; exact World.frozen?_alloc_at _ _ _ _ rfl
  have f0 := hfr 0
  have f1 := hfr 1
  have f2 := hfr 2
  have f3 := hfr 3
  have f4 := hfr 4
  have f5 := hfr 5
  have f6 := hfr 6
  clear hfr h hb0
  go_enter Try.func25, Try.ntmps25
  go_wp2_with fail
  refine HT.out.mono ?_
  rintro e wk ⟨rfl, hwk⟩
  obtain rfl := hwk.symm
  go_wp2
  go_loopg [1, 6] 0 (fun gk s1 s6 wx => s1 = .int .i64 n ∧ s6 = .pointer none ∧ wx = w0)
  case atStart => exact ⟨rfl, rfl, rfl⟩
  case round =>
    obtain ⟨rfl, rfl, hwr⟩ := hrel
    obtain rfl := hwr.symm
    go_wp2
    refine bodyPost_ret (v := .tuple #[Ke.zero.v, .bool false]) ?_ rfl ⟨rfl, HG.out⟩
    simp only [results, hresNth, Ke.zero, En.zero]
    go_simp

set_option maxHeartbeats 2000000 in
theorem pointE {da : Option Addr} (key : ByteArray) (o s a : Int) (w : World) (h : EmptyAt w da) : Calls Try.prog 15 #[.pointer da, .string key, .int .i64 o, .int .i64 s, .int .i64 a] w fun e w' => e = .returned (.bool false) ∧ Below w.heap.size w w' := by
  have HG : Hid (Calls Try.prog 17 #[.pointer da, .string key] w fun e w' => e = .returned (.tuple #[En.zero.v, .bool false]) ∧ Below w.heap.size w w') := getE key w h
  obtain ⟨old, hold⟩ : ∃ old, En.zero = old := ⟨_, rfl⟩
  rw [hold] at HG
  clear hold h
  go_enter Try.func15, Try.ntmps15
  go_wp2_with fail
  refine HG.out.mono ?_
  rintro e w1 ⟨rfl, hb1⟩
  go_wp2
  go_ret
  exact ⟨rfl, hb1.alloc hb1.size _⟩

theorem freezeNil (w : World) : Calls Try.prog 35 #[.pointer none] w fun e w' => e = .returned (.pointer none) ∧ w' = w := by
  go_enter Try.func35, Try.ntmps35
  go_wp2
  go_ret
  exact ⟨rfl, rfl⟩

set_option maxHeartbeats 2000000 in
theorem putNil (key : ByteArray) (en : En) (w : World) : Calls Try.prog 11 #[.pointer none, .string key, en.v] w fun e w' => e = .returned (.tuple #[En.zero.v, .bool false, .int .i64 1]) ∧ Below w.heap.size w w' := by
  obtain ⟨w0, hw0⟩ : ∃ w0, (w.alloc (.cells #[.int .i64 en.seg, .int .i64 en.pos, .int .i64 en.size, .int .i64 en.off, .int .i64 en.time, .bool en.tomb] 38)).alloc (.cells #[.int .i64 0, .int .i64 0, .int .i64 0, .int .i64 0, .int .i64 0, .bool false] 38) = w0 := ⟨_, rfl⟩
  have hb0 : Below w.heap.size w w0 := by rw [← hw0]; exact ((Below.refl _ _).alloc (Nat.le_refl _) _).alloc (by simp) _
  have HRS : EnAt w0 (w.heap.size + 1) En.zero ∧ ∀ j, w0.frozen? ⟨w.heap.size + 1, j, none⟩ = false := by
    have hq : (w.alloc (.cells #[.int .i64 en.seg, .int .i64 en.pos, .int .i64 en.size, .int .i64 en.off, .int .i64 en.time, .bool en.tomb] 38)).heap.size = w.heap.size + 1 := by simp
    refine ⟨by rw [← hw0, ← hq]; exact EnAt.new _ En.zero, fun j => ?_⟩
    rw [← hw0, ← hq]
    exact World.frozen?_alloc_at _ _ _ _ rfl
  have HEND : Hid (Below w.heap.size w (putEn w0 (w.heap.size + 1) En.zero)) := putEn_below En.zero hb0 (by omega)
  obtain ⟨⟨r0, r1, r2, r3, r4, r5⟩, hfr⟩ := HRS
  have f0 := hfr 0
  have f1 := hfr 1
  have f2 := hfr 2
  have f3 := hfr 3
  have f4 := hfr 4
  have f5 := hfr 5
  simp only [En.zero] at r0 r1 r2 r3 r4 r5
  clear hfr hb0
  go_enter Try.func11, Try.ntmps11
  go_wp2
  refine bodyPost_ret (v := .tuple #[En.zero.v, .bool false, .int .i64 1]) ?_ rfl ⟨rfl, HEND.out⟩
  simp only [results, hresPut, En.zero]
  go_simp

set_option maxHeartbeats 2000000 in
theorem noteNil (key : ByteArray) (en : En) (w : World) : Calls Try.prog 13 #[.pointer none, .string key, en.v] w fun e w' => e = .returned (.tuple #[.bool false, .int .i64 1]) ∧ Below w.heap.size w w' := by
  obtain ⟨w0, hw0⟩ : ∃ w0, w.alloc (.cells #[.int .i64 en.seg, .int .i64 en.pos, .int .i64 en.size, .int .i64 en.off, .int .i64 en.time, .bool en.tomb] 38) = w0 := ⟨_, rfl⟩
  have hb0 : Below w.heap.size w w0 := by rw [← hw0]; exact (Below.refl _ _).alloc (Nat.le_refl _) _
  have HEN : Hid (∀ u, Below w0.heap.size w0 u → EnAt u w.heap.size en) := fun u hu => by
    have h : EnAt w0 w.heap.size en := by rw [← hw0]; exact EnAt.new w en
    exact h.block (hu.block _ h.lt)
  have HG : Hid (Calls Try.prog 17 #[.pointer none, .string key] w0 fun e w' => e = .returned (.tuple #[En.zero.v, .bool false]) ∧ Below w0.heap.size w0 w') := getE key w0 (.inl rfl)
  have HP : Hid (∀ u, Calls Try.prog 11 #[.pointer none, .string key, en.v] u fun e w' => e = .returned (.tuple #[En.zero.v, .bool false, .int .i64 1]) ∧ Below u.heap.size u w') := fun u => putNil key en u
  obtain ⟨old, hold⟩ : ∃ old, En.zero = old := ⟨_, rfl⟩
  rw [hold] at HG HP
  clear hold
  go_enter Try.func13, Try.ntmps13
  go_wp2_with fail
  refine HG.out.mono ?_
  rintro e w1 ⟨rfl, hb1⟩
  obtain ⟨w2, hw2⟩ : ∃ w2, w1.alloc (.cells #[.int .i64 old.seg, .int .i64 old.pos, .int .i64 old.size, .int .i64 old.off, .int .i64 old.time, .bool old.tomb] 38) = w2 := ⟨_, rfl⟩
  have hb12 : Below w1.heap.size w1 w2 := by rw [← hw2]; exact (Below.refl _ _).alloc (Nat.le_refl _) _
  have hb02 : Below w0.heap.size w0 w2 := hb1.trans (hb12.mono hb1.size)
  have HB2 : Hid (Below w.heap.size w w2) := hb0.trans (hb02.mono hb0.size)
  obtain ⟨d0, d1, d2, d3, d4, d5⟩ := HEN.out w2 hb02
  clear hb1 hb12 hb02
  go_wp2_with fail
  refine (HP.out w2).mono ?_
  rintro e w3 ⟨rfl, hb3⟩
  have HB3 : Hid (Below w.heap.size w w3) := HB2.out.trans (hb3.mono HB2.out.size)
  clear hb3
  go_wp2
  refine bodyPost_ret (v := .tuple #[.bool false, .int .i64 1]) ?_ rfl ⟨rfl, ?_⟩
  · simp only [results, hresNote]
    go_simp
  · exact HB3.out.alloc HB3.out.size _
end Go.Proofs.Ytjhbaplnkigifaa
