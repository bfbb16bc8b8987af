import Derived.Test.YthfnbcicpcbgjaaKfa
/-! keydir: four dirs beside one another. -/
namespace Go.Proofs.Ythfnbcicpcbgjaa
open Go.RowKit Plain
set_option linter.unusedVariables false
set_option linter.unusedSimpArgs false

/-- The blocks of four dirs. -/
structure Qd where
  d : Nat
  x : Nat
  f : Nat
  y : Nat
def Qd.D (q : Qd) : Nat → Prop := fun g => g = q.d ∨ g = q.x ∨ g = q.f ∨ g = q.y
structure Qd.Ok (q : Qd) : Prop where
  dx : q.d ≠ q.x
  df : q.d ≠ q.f
  dy : q.d ≠ q.y
  xf : q.x ≠ q.f
  xy : q.x ≠ q.y
  fy : q.f ≠ q.y

/-- Four dirs, and what they hold. -/
structure Fs (q : Qd) (K B : Nat) (w u : World) (l1 l2 l3 l4 : List Ke) : Prop where
  below : Below w.heap.size w u
  size : B ≤ u.heap.size
  d : DirAt q.D u q.d l1
  x : DirAt q.D u q.x l2
  f : DirAt q.D u q.f l3
  y : DirAt q.D u q.y l4
  n1 : l1.length ≤ K
  n2 : l2.length ≤ K
  n3 : l3.length ≤ K
  n4 : l4.length ≤ K
theorem Fs.later {q : Qd} {K B : Nat} {w u u' : World} {l1 l2 l3 l4 : List Ke} (h : Fs q K B w u l1 l2 l3 l4) (hb : Below u.heap.size u u') : Fs q K B w u' l1 l2 l3 l4 :=
  ⟨below_step' h.below hb, Nat.le_trans h.size hb.size, h.d.later hb, h.x.later hb, h.f.later hb, h.y.later hb, h.n1, h.n2, h.n3, h.n4⟩
theorem Fs.more {q : Qd} {K K' B : Nat} {w u : World} {l1 l2 l3 l4 : List Ke} (h : Fs q K B w u l1 l2 l3 l4) (hk : K ≤ K') : Fs q K' B w u l1 l2 l3 l4 :=
  ⟨h.below, h.size, h.d, h.x, h.f, h.y, Nat.le_trans h.n1 hk, Nat.le_trans h.n2 hk, Nat.le_trans h.n3 hk, Nat.le_trans h.n4 hk⟩
theorem Fs.drew {q : Qd} {K B : Nat} {w u : World} {l1 l2 l3 l4 : List Ke} (h : Fs q K B w u l1 l2 l3 l4) : Fs q K B w u.drew l1 l2 l3 l4 := h.later (Below.drew (Below.refl _ _))
theorem layK_len (l : List Ke) (x : Kr) : (layK l x).length ≤ l.length + 1 := by
  unfold layK
  split
  · exact insL_len _ _ _
  · omega
theorem pointL_len (key : ByteArray) (o s a : Int) (l : List Ke) (h : Srt l) : (pointL key o s a l).length ≤ l.length := by
  unfold pointL
  cases hf : findL key l with
  | none => simp
  | some k =>
    simp only
    split
    · have hm := findL_is hf
      have hk : kc key k.key = 0 := by rw [hm.2]; exact kc_self _
      obtain ⟨ll, lr, e⟩ := List.append_of_mem hm.1
      subst e
      rw [insL_eq h hk]
      simp
    · exact Nat.le_refl _

/-- Put of whatever key. -/
theorem putAny {D : Nat → Prop} {gd : Nat} {l : List Ke} (x : Kr) (u : World) (hD : ∀ g, u.heap.size ≤ g → ¬ D g) (h : DirAt D u gd l) (hx : x.key.size ≤ maxLen) (hl : l.length ≤ 1125899906842600) :
    Calls Try.prog 27 #[.pointer (some ⟨gd, 0, none⟩), .string x.key, x.ke.e.v] u fun e w' => (∃ v, e = .returned v) ∧ u.grownBy w' (some gd) ∧ DirAt D w' gd (layK l x) := by
  unfold layK
  by_cases hk : okKey x.key = true
  · have hsz : 1 ≤ x.key.size ∧ x.key.size ≤ 64 := by simpa [okKey] using hk
    rw [if_pos hk]
    exact (putOf x.key x.ke.e u hD h hsz.1 hsz.2 hl).mono fun e w' ⟨h1, h2, h3⟩ => ⟨⟨_, h1⟩, h2, h3⟩
  · rw [if_neg hk]
    exact (putBad x.key x.ke.e u hx (by simpa using hk)).mono fun e w' ⟨h1, h2⟩ => ⟨⟨_, h1⟩, below_grow h2 _, h.later h2⟩
theorem Fs.new {q : Qd} {K B : Nat} {w u : World} {l1 l2 l3 l4 : List Ke} (h : Fs q K B w u l1 l2 l3 l4) (hq : q.d < B ∧ q.x < B ∧ q.f < B ∧ q.y < B) : ∀ g, u.heap.size ≤ g → ¬ q.D g := fun g hg hd => by
  have := h.size
  rcases hd with hd | hd | hd | hd <;> omega
theorem below_grown {w u u' : World} {g : Nat} (h : Below w.heap.size w u) (hg : u.grownBy u' (some g)) (hl : w.heap.size ≤ g) : Below w.heap.size w u' := h.trans (grow_below hg h.size (fun j e => by cases e; exact hl))
structure Qd.In (q : Qd) (w : World) (B : Nat) : Prop where
  ok : q.Ok
  lo : w.heap.size ≤ q.d ∧ w.heap.size ≤ q.x ∧ w.heap.size ≤ q.f ∧ w.heap.size ≤ q.y
  hi : q.d < B ∧ q.x < B ∧ q.f < B ∧ q.y < B
theorem Fs.putD {q : Qd} {K B : Nat} {w u : World} {l1 l2 l3 l4 : List Ke} (x : Kr) (h : Fs q K B w u l1 l2 l3 l4) (hq : q.In w B) (hx : x.key.size ≤ maxLen) (hK : K ≤ 1125899906842600) :
    Calls Try.prog 27 #[.pointer (some ⟨q.d, 0, none⟩), .string x.key, x.ke.e.v] u fun e w' => (∃ v, e = .returned v) ∧ Fs q (K + 1) B w w' (layK l1 x) l2 l3 l4 := by
  have hq0 := hq.ok
  refine (putAny x u (h.new hq.hi) h.d hx (Nat.le_trans h.n1 hK)).mono fun e w' ⟨h1, h2, h3⟩ => ⟨h1, ?_⟩
  exact ⟨below_grown h.below h2 hq.lo.1, Nat.le_trans h.size h2.size, h3, h.x.other h2 (.inl rfl) (hq0.dx.symm), h.f.other h2 (.inl rfl) (hq0.df.symm), h.y.other h2 (.inl rfl) (hq0.dy.symm), Nat.le_trans (layK_len _ _) (Nat.succ_le_succ h.n1), Nat.le_succ_of_le h.n2, Nat.le_succ_of_le h.n3, Nat.le_succ_of_le h.n4⟩
theorem Fs.remD {q : Qd} {K B : Nat} {w u : World} {l1 l2 l3 l4 : List Ke} (key : ByteArray) (h : Fs q K B w u l1 l2 l3 l4) (hq : q.In w B) (hx : key.size ≤ maxLen) (hK : K ≤ 1125899906842600) :
    Calls Try.prog 19 #[.pointer (some ⟨q.d, 0, none⟩), .string key] u fun e w' => (∃ v, e = .returned v) ∧ Fs q (K + 1) B w w' (delL key l1) l2 l3 l4 := by
  have hq0 := hq.ok
  refine (removeOf key u (h.new hq.hi) h.d hx (Nat.le_trans h.n1 hK)).mono fun e w' ⟨h1, h2, h3⟩ => ⟨⟨_, h1⟩, ?_⟩
  exact ⟨below_grown h.below h2 hq.lo.1, Nat.le_trans h.size h2.size, h3, h.x.other h2 (.inl rfl) (hq0.dx.symm), h.f.other h2 (.inl rfl) (hq0.df.symm), h.y.other h2 (.inl rfl) (hq0.dy.symm), Nat.le_succ_of_le (Nat.le_trans (delL_len _ _) h.n1), Nat.le_succ_of_le h.n2, Nat.le_succ_of_le h.n3, Nat.le_succ_of_le h.n4⟩
theorem Fs.putX {q : Qd} {K B : Nat} {w u : World} {l1 l2 l3 l4 : List Ke} (x : Kr) (h : Fs q K B w u l1 l2 l3 l4) (hq : q.In w B) (hx : x.key.size ≤ maxLen) (hK : K ≤ 1125899906842600) :
    Calls Try.prog 27 #[.pointer (some ⟨q.x, 0, none⟩), .string x.key, x.ke.e.v] u fun e w' => (∃ v, e = .returned v) ∧ Fs q (K + 1) B w w' l1 (layK l2 x) l3 l4 := by
  have hq0 := hq.ok
  refine (putAny x u (h.new hq.hi) h.x hx (Nat.le_trans h.n2 hK)).mono fun e w' ⟨h1, h2, h3⟩ => ⟨h1, ?_⟩
  exact ⟨below_grown h.below h2 hq.lo.2.1, Nat.le_trans h.size h2.size, h.d.other h2 (.inr (.inl rfl)) (hq0.dx), h3, h.f.other h2 (.inr (.inl rfl)) (hq0.xf.symm), h.y.other h2 (.inr (.inl rfl)) (hq0.xy.symm), Nat.le_succ_of_le h.n1, Nat.le_trans (layK_len _ _) (Nat.succ_le_succ h.n2), Nat.le_succ_of_le h.n3, Nat.le_succ_of_le h.n4⟩
theorem Fs.remX {q : Qd} {K B : Nat} {w u : World} {l1 l2 l3 l4 : List Ke} (key : ByteArray) (h : Fs q K B w u l1 l2 l3 l4) (hq : q.In w B) (hx : key.size ≤ maxLen) (hK : K ≤ 1125899906842600) :
    Calls Try.prog 19 #[.pointer (some ⟨q.x, 0, none⟩), .string key] u fun e w' => (∃ v, e = .returned v) ∧ Fs q (K + 1) B w w' l1 (delL key l2) l3 l4 := by
  have hq0 := hq.ok
  refine (removeOf key u (h.new hq.hi) h.x hx (Nat.le_trans h.n2 hK)).mono fun e w' ⟨h1, h2, h3⟩ => ⟨⟨_, h1⟩, ?_⟩
  exact ⟨below_grown h.below h2 hq.lo.2.1, Nat.le_trans h.size h2.size, h.d.other h2 (.inr (.inl rfl)) (hq0.dx), h3, h.f.other h2 (.inr (.inl rfl)) (hq0.xf.symm), h.y.other h2 (.inr (.inl rfl)) (hq0.xy.symm), Nat.le_succ_of_le h.n1, Nat.le_succ_of_le (Nat.le_trans (delL_len _ _) h.n2), Nat.le_succ_of_le h.n3, Nat.le_succ_of_le h.n4⟩
theorem Fs.putF {q : Qd} {K B : Nat} {w u : World} {l1 l2 l3 l4 : List Ke} (x : Kr) (h : Fs q K B w u l1 l2 l3 l4) (hq : q.In w B) (hx : x.key.size ≤ maxLen) (hK : K ≤ 1125899906842600) :
    Calls Try.prog 27 #[.pointer (some ⟨q.f, 0, none⟩), .string x.key, x.ke.e.v] u fun e w' => (∃ v, e = .returned v) ∧ Fs q (K + 1) B w w' l1 l2 (layK l3 x) l4 := by
  have hq0 := hq.ok
  refine (putAny x u (h.new hq.hi) h.f hx (Nat.le_trans h.n3 hK)).mono fun e w' ⟨h1, h2, h3⟩ => ⟨h1, ?_⟩
  exact ⟨below_grown h.below h2 hq.lo.2.2.1, Nat.le_trans h.size h2.size, h.d.other h2 (.inr (.inr (.inl rfl))) (hq0.df), h.x.other h2 (.inr (.inr (.inl rfl))) (hq0.xf), h3, h.y.other h2 (.inr (.inr (.inl rfl))) (hq0.fy.symm), Nat.le_succ_of_le h.n1, Nat.le_succ_of_le h.n2, Nat.le_trans (layK_len _ _) (Nat.succ_le_succ h.n3), Nat.le_succ_of_le h.n4⟩
theorem Fs.poiF {q : Qd} {K B : Nat} {w u : World} {l1 l2 l3 l4 : List Ke} (key : ByteArray) (o s p : Int) (h : Fs q K B w u l1 l2 l3 l4) (hq : q.In w B) (hx : key.size ≤ maxLen) (hK : K ≤ 1125899906842600) :
    Calls Try.prog 28 #[.pointer (some ⟨q.f, 0, none⟩), .string key, .int .i64 o, .int .i64 s, .int .i64 p] u fun e w' => (∃ v, e = .returned v) ∧ Fs q (K + 1) B w w' l1 l2 (pointL key o s p l3) l4 := by
  have hq0 := hq.ok
  refine (pointOf key o s p u (h.new hq.hi) h.f hx (Nat.le_trans h.n3 hK)).mono fun e w' ⟨⟨b, h1⟩, h2, h3⟩ => ⟨⟨_, h1⟩, ?_⟩
  exact ⟨below_grown h.below h2 hq.lo.2.2.1, Nat.le_trans h.size h2.size, h.d.other h2 (.inr (.inr (.inl rfl))) (hq0.df), h.x.other h2 (.inr (.inr (.inl rfl))) (hq0.xf), h3, h.y.other h2 (.inr (.inr (.inl rfl))) (hq0.fy.symm), Nat.le_succ_of_le h.n1, Nat.le_succ_of_le h.n2, Nat.le_succ_of_le (Nat.le_trans (pointL_len _ _ _ _ _ h.f.srt) h.n3), Nat.le_succ_of_le h.n4⟩
theorem Fs.putY {q : Qd} {K B : Nat} {w u : World} {l1 l2 l3 l4 : List Ke} (x : Kr) (h : Fs q K B w u l1 l2 l3 l4) (hq : q.In w B) (hx : x.key.size ≤ maxLen) (hK : K ≤ 1125899906842600) :
    Calls Try.prog 27 #[.pointer (some ⟨q.y, 0, none⟩), .string x.key, x.ke.e.v] u fun e w' => (∃ v, e = .returned v) ∧ Fs q (K + 1) B w w' l1 l2 l3 (layK l4 x) := by
  have hq0 := hq.ok
  refine (putAny x u (h.new hq.hi) h.y hx (Nat.le_trans h.n4 hK)).mono fun e w' ⟨h1, h2, h3⟩ => ⟨h1, ?_⟩
  exact ⟨below_grown h.below h2 hq.lo.2.2.2, Nat.le_trans h.size h2.size, h.d.other h2 (.inr (.inr (.inr rfl))) (hq0.dy), h.x.other h2 (.inr (.inr (.inr rfl))) (hq0.xy), h.f.other h2 (.inr (.inr (.inr rfl))) (hq0.fy), h3, Nat.le_succ_of_le h.n1, Nat.le_succ_of_le h.n2, Nat.le_succ_of_le h.n3, Nat.le_trans (layK_len _ _) (Nat.succ_le_succ h.n4)⟩
theorem Fs.poiY {q : Qd} {K B : Nat} {w u : World} {l1 l2 l3 l4 : List Ke} (key : ByteArray) (o s p : Int) (h : Fs q K B w u l1 l2 l3 l4) (hq : q.In w B) (hx : key.size ≤ maxLen) (hK : K ≤ 1125899906842600) :
    Calls Try.prog 28 #[.pointer (some ⟨q.y, 0, none⟩), .string key, .int .i64 o, .int .i64 s, .int .i64 p] u fun e w' => (∃ v, e = .returned v) ∧ Fs q (K + 1) B w w' l1 l2 l3 (pointL key o s p l4) := by
  have hq0 := hq.ok
  refine (pointOf key o s p u (h.new hq.hi) h.y hx (Nat.le_trans h.n4 hK)).mono fun e w' ⟨⟨b, h1⟩, h2, h3⟩ => ⟨⟨_, h1⟩, ?_⟩
  exact ⟨below_grown h.below h2 hq.lo.2.2.2, Nat.le_trans h.size h2.size, h.d.other h2 (.inr (.inr (.inr rfl))) (hq0.dy), h.x.other h2 (.inr (.inr (.inr rfl))) (hq0.xy), h.f.other h2 (.inr (.inr (.inr rfl))) (hq0.fy), h3, Nat.le_succ_of_le h.n1, Nat.le_succ_of_le h.n2, Nat.le_succ_of_le h.n3, Nat.le_succ_of_le (Nat.le_trans (pointL_len _ _ _ _ _ h.y.srt) h.n4)⟩
end Go.Proofs.Ythfnbcicpcbgjaa
