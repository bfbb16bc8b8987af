import Derived.Test.YtadflolbgcdncaaShG
import Derived.Test.YtadflolbgcdncaaRows
import Derived.ProofKit
/-! The law on Rename: its walk. -/
namespace Go.Proofs.Ytadflolbgcdncaa
open Go.RowKit Go.Maps Plain
set_option linter.unusedVariables false
set_option linter.unusedSimpArgs false

theorem op1 {W w1 : World} {d : Nat} (h : Dsk W d s0 w1) : Calls Try.prog 10 #[.pointer (some ⟨d, 0, none⟩), .string ⟨#[110, 97, 109, 101]⟩] w1 fun e w2 => ∃ G, e = .returned (.int .i64 0) ∧ Dsk W d (s1 G) w2 := by
  refine (createD (s := nmA) h szA (fresh_dok _) (by omega)).mono ?_
  rintro e w2 ⟨G, _, rfl, h2⟩
  rw [t1] at h2 ⊢
  exact ⟨G, rfl, h2⟩
theorem op2 {W w1 : World} {d G : Nat} {v : Value} {o : List Nat} (h : Dsk W d (s1 G) w1) (ho : o.length ≤ 1000) (hb : BytesAt W v o) : Calls Try.prog 11 #[.pointer (some ⟨d, 0, none⟩), .string ⟨#[110, 97, 109, 101]⟩, v] w1 fun e w2 => e = .returned (.int .i64 0) ∧ Dsk W d (s2 G o) w2 := by
  have := appendD (s := nmA) h szA hb (d1 G) (u1 G) (by omega)
  rw [t2 G o ho] at this
  exact this
theorem op3 {W w1 : World} {d G : Nat} {o : List Nat} (h : Dsk W d (s2 G o) w1) (ho : o.length ≤ 1000) : Calls Try.prog 12 #[.pointer (some ⟨d, 0, none⟩), .string ⟨#[110, 97, 109, 101]⟩] w1 fun e w2 => e = .returned (.int .i64 0) ∧ Dsk W d (s3 G o) w2 := by
  have := syncD (s := nmA) h szA (d2 G o ho) (by omega)
  rw [t3] at this
  exact this
theorem op4 {W w1 : World} {d G : Nat} {o : List Nat} (h : Dsk W d (s3 G o) w1) (ho : o.length ≤ 1000) : Calls Try.prog 10 #[.pointer (some ⟨d, 0, none⟩), .string ⟨#[110, 97, 109, 101, 46, 116, 109, 112]⟩] w1 fun e w2 => ∃ H, G ≠ H ∧ e = .returned (.int .i64 0) ∧ Dsk W d (s4 G o H) w2 := by
  have hG := h.liveLt (G := G) (.inr rfl)
  refine (createD (s := nmT) h szT (d3 G o ho) (by omega)).mono ?_
  rintro e w2 ⟨H, hH, rfl, h2⟩
  rw [t4] at h2 ⊢
  exact ⟨H, by omega, rfl, h2⟩
theorem op5 {W w1 : World} {d G H : Nat} {v : Value} {o f : List Nat} (h : Dsk W d (s4 G o H) w1) (ho : o.length ≤ 1000) (hf : f.length ≤ 1000) (hne : G ≠ H) (hb : BytesAt W v f) : Calls Try.prog 11 #[.pointer (some ⟨d, 0, none⟩), .string ⟨#[110, 97, 109, 101, 46, 116, 109, 112]⟩, v] w1 fun e w2 => e = .returned (.int .i64 0) ∧ Dsk W d (s5 G o H f) w2 := by
  have := appendD (s := nmT) h szT hb (d4 G H o ho) (u4 G H o ho hne) (by omega)
  rw [t5 G H o f ho hf] at this
  exact this
theorem op6 {W w1 : World} {d G H : Nat} {o f : List Nat} (h : Dsk W d (s5 G o H f) w1) (ho : o.length ≤ 1000) (hf : f.length ≤ 1000) (hne : G ≠ H) : Calls Try.prog 12 #[.pointer (some ⟨d, 0, none⟩), .string ⟨#[110, 97, 109, 101, 46, 116, 109, 112]⟩] w1 fun e w2 => e = .returned (.int .i64 0) ∧ Dsk W d (s6 G o H f) w2 := by
  have := syncD (s := nmT) h szT (d5 G H o f ho hf hne) (by omega)
  rw [t6] at this
  exact this
theorem op7 {W w1 : World} {d G H : Nat} {o f : List Nat} (h : Dsk W d (s6 G o H f) w1) (ho : o.length ≤ 1000) (hf : f.length ≤ 1000) (hne : G ≠ H) : Calls Try.prog 13 #[.pointer (some ⟨d, 0, none⟩)] w1 fun e w2 => e = .returned (.int .i64 0) ∧ Dsk W d (s7 G o H f) w2 := by
  have := syncDirD h (d6 G H o f ho hf hne) (by omega)
  rw [t7] at this
  exact this
theorem op8 {W w1 : World} {d G H : Nat} {o f : List Nat} (h : Dsk W d (s7 G o H f) w1) (ho : o.length ≤ 1000) (hf : f.length ≤ 1000) (hne : G ≠ H) : Calls Try.prog 14 #[.pointer (some ⟨d, 0, none⟩), .string ⟨#[110, 97, 109, 101, 46, 116, 109, 112]⟩, .string ⟨#[110, 97, 109, 101]⟩] w1 fun e w2 => e = .returned (.int .i64 0) ∧ Dsk W d (s8 G o H f) w2 := by
  have := renameD (s := nmT) (t := nmA) h szT szA (d7 G H o f ho hf hne) (u7 G H o f ho hf hne) (by omega)
  rw [t8 G H o f hne] at this
  exact this
theorem op9 {W w1 : World} {d G H : Nat} {o f : List Nat} (h : Dsk W d (s8 G o H f) w1) (ho : o.length ≤ 1000) (hf : f.length ≤ 1000) (hne : G ≠ H) : Calls Try.prog 13 #[.pointer (some ⟨d, 0, none⟩)] w1 fun e w2 => e = .returned (.int .i64 0) ∧ Dsk W d (s9 G o H f) w2 := by
  have := syncDirD h (d8 G H o f ho hf hne) (by omega)
  rw [t9] at this
  exact this
theorem op10 {W w1 : World} {d G H : Nat} {o f : List Nat} (h : Dsk W d (s9 G o H f) w1) (ho : o.length ≤ 1000) (hf : f.length ≤ 1000) (hne : G ≠ H) : Calls Try.prog 17 #[.pointer (some ⟨d, 0, none⟩), .string ⟨#[110, 97, 109, 101]⟩, .int .i64 0, .int .i64 ((f.length : Int) + 1)] w1 fun e w2 => ∃ a l c, e = .returned (.tuple #[.slice a l c, .int .i64 0]) ∧ BytesAt w2 (.slice a l c) f ∧ Below w1.heap.size w1 w2 := by
  refine (readD (s := nmA) h szA (d9 G H o f ho hf hne) 0 (f.length + 1) (by omega) rfl (Nat.zero_le _)).mono ?_
  rintro e w2 ⟨a, l, c, r, rfl, hw, hb⟩
  have e1 : rdB (s9 G o H f) nmA 0 (f.length + 1) = f := by
    show ((F6 G o H f H).seen.drop 0).take (f.length + 1) = f
    rw [F6H, List.drop_zero, List.take_of_length_le (by simp)]
  rw [e1] at hw
  exact ⟨a, l, c, rfl, hw.bytes, hb⟩

/-- What an image of one file, or of two, looks like. -/
structure Pic (w : World) (a : Option Addr) (l c : Nat) (g : Nat) : Prop where
  at' : a = some ⟨g, 0, none⟩
  cap : l ≤ c
  lim : c ≤ 2 ^ 63 - 1
structure Ent (w : World) (g j : Nat) (k : Nm) (b : List Nat) (a : Option Addr) (n c : Nat) : Prop where
  name : w.cell? ⟨g, j * 2, none⟩ = some (.string (str k))
  data : w.cell? ⟨g, j * 2 + 1, none⟩ = some (.slice a n c)
  row : BytesAt w (.slice a n c) b
theorem Ent.later {w w' : World} {g j n c : Nat} {k : Nm} {b : List Nat} {a : Option Addr} (h : Ent w g j k b a n c) (hb : Below w.heap.size w w') : Ent w' g j k b a n c :=
  ⟨by rw [hb.cell (cell_lt h.name)]; exact h.name, by rw [hb.cell (cell_lt h.data)]; exact h.data, h.row.later hb⟩
theorem ImgAt.ent {w : World} {a : Option Addr} {l c base : Nat} {im : List (Nm × List Nat)} (h : ImgAt w (.slice a l c) im base) (h0 : 0 < im.length) : l = im.length ∧ ∃ g, Pic w a l c g ∧ ∀ j k b, im[j]? = some (k, b) → ∃ a' n' c', Ent w g j k b a' n' c' := by
  obtain ⟨ts, r, blk, hm⟩ := h
  have hl := hm.len
  rcases hm.row with ⟨_, rfl, _⟩ | ⟨g, cap, hr, e, hg, h1, h2, h3, h4, h5⟩
  · simp at hl; omega
  · simp only [Value.slice.injEq] at e
    obtain ⟨rfl, rfl, rfl⟩ := e
    unfold maxLen at h2
    refine ⟨hl, g, ⟨rfl, h1, by omega⟩, fun j k b hj => ?_⟩
    have hjl := (List.getElem?_eq_some_iff.mp hj).1
    obtain ⟨dv, e1, ho⟩ := hm.one j (k, b) hj
    have hrow := hm.row
    rw [hr] at hrow
    obtain ⟨c0, c1⟩ := hrow.at (j := j) (by omega)
    have e2 : ts.getD j Fi.none = ⟨str k, dv⟩ := by simp [List.getD_eq_getElem?_getD, e1]
    rw [e2] at c0 c1
    obtain ⟨a', n', c', rfl⟩ := isSliceO ho
    exact ⟨a', n', c', c0, c1, ho.bytes⟩
theorem op8c {W w1 : World} {d G H : Nat} {o f : List Nat} {a : Option Addr} {m c : Nat} {ps : List Int} (h : Dsk W d (s8 G o H f) w1) (ho : o.length ≤ 1000) (hf : f.length ≤ 1000) (hne : G ≠ H) (hp : PicksAt W (.slice a m c) ps) (hpo : PicksOff W.heap.size (.slice a m c)) :
    Calls Try.prog 15 #[.pointer (some ⟨d, 0, none⟩), .slice a m c] w1 fun e w2 => ∃ l c g, e = .returned (.slice (some ⟨g, 0, none⟩) l c) ∧ l ≤ c ∧ c ≤ 2 ^ 63 - 1 ∧ Dsk W d (s8 G o H f) w2 ∧
      ((l = 2 ∧ ∃ a1 n1 c1 a2 n2 c2, Ent w2 g 0 kA o a1 n1 c1 ∧ Ent w2 g 1 kT f a2 n2 c2) ∨ (l = 1 ∧ ∃ a1 n1 c1, Ent w2 g 0 kA f a1 n1 c1)) := by
  refine (crashD h (d8 G H o f ho hf hne) hp hpo ?_ ?_).mono ?_
  · intro p hp
    rcases crL8 G H o f ps with e | e <;> rw [e] at hp
    · simp only [List.mem_cons, List.not_mem_nil, or_false] at hp
      rcases hp with rfl | rfl
      · exact .inl (.inr rfl)
      · exact .inr rfl
    · simp only [List.mem_cons, List.not_mem_nil, or_false] at hp
      subst hp
      exact .inr rfl
  · rcases crL8 G H o f ps with e | e <;> rw [e] <;> simp
  · rintro e w2 ⟨a', l', c', rfl, hi, hd⟩
    rcases cr8 G H o f hne ps with e | e <;> rw [e] at hi
    · obtain ⟨hl, g, ⟨rfl, q1, q2⟩, he⟩ := hi.ent (by simp)
      obtain ⟨a1, n1, c1, h1⟩ := he 0 _ _ rfl
      obtain ⟨a2, n2, c2, h2⟩ := he 1 _ _ rfl
      exact ⟨l', c', g, rfl, q1, q2, hd, .inl ⟨hl, a1, n1, c1, a2, n2, c2, h1, h2⟩⟩
    · obtain ⟨hl, g, ⟨rfl, q1, q2⟩, he⟩ := hi.ent (by simp)
      obtain ⟨a1, n1, c1, h1⟩ := he 0 _ _ rfl
      exact ⟨l', c', g, rfl, q1, q2, hd, .inr ⟨hl, a1, n1, c1, h1⟩⟩
theorem op9c {W w1 : World} {d G H : Nat} {o f : List Nat} {a : Option Addr} {m c : Nat} {ps : List Int} (h : Dsk W d (s9 G o H f) w1) (ho : o.length ≤ 1000) (hf : f.length ≤ 1000) (hne : G ≠ H) (hp : PicksAt W (.slice a m c) ps) (hpo : PicksOff W.heap.size (.slice a m c)) :
    Calls Try.prog 15 #[.pointer (some ⟨d, 0, none⟩), .slice a m c] w1 fun e w2 => ∃ c g a1 n1 c1, e = .returned (.slice (some ⟨g, 0, none⟩) 1 c) ∧ 1 ≤ c ∧ c ≤ 2 ^ 63 - 1 ∧ Dsk W d (s9 G o H f) w2 ∧ Ent w2 g 0 kA f a1 n1 c1 := by
  refine (crashD h (d9 G H o f ho hf hne) hp hpo ?_ ?_).mono ?_
  · intro p hp
    rw [crL9] at hp
    simp only [List.mem_cons, List.not_mem_nil, or_false] at hp
    subst hp
    exact .inr rfl
  · rw [crL9]; simp
  · rintro e w2 ⟨a', l', c', rfl, hi, hd⟩
    rw [cr9] at hi
    obtain ⟨hl, g, ⟨rfl, q1, q2⟩, he⟩ := hi.ent (by simp)
    obtain ⟨a1, n1, c1, h1⟩ := he 0 _ _ rfl
    have hl' : l' = 1 := hl
    subst hl'
    exact ⟨c', g, a1, n1, c1, rfl, q1, q2, hd, h1⟩
theorem below_drewN' (w : World) (n : Nat) : Below w.heap.size w (w.drewN n) := ⟨rfl, rfl, rfl, Nat.le_refl _, fun _ _ => rfl⟩
theorem sameB (va vb : Value) (la lb : List Nat) (w : World) (ha : BytesAt w va la) (hb : BytesAt w vb lb) : Calls Try.prog 16 #[va, vb] w fun e w' => e = .returned (.bool (decide (la = lb))) ∧ Below w.heap.size w w' := by
  refine (sameBytes va vb la lb w ha hb).mono ?_
  rintro e w' ⟨rfl, n, rfl⟩
  exact ⟨rfl, below_drewN' w n⟩
end Go.Proofs.Ytadflolbgcdncaa
