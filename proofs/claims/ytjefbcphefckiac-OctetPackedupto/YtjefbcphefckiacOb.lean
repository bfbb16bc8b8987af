import Derived.Test.YtjefbcphefckiacOa
/-! Two readers that stand for the same one: the program's and the document's. -/
namespace Go.Proofs.Ytjefbcphefckiac
open Go.RowKit Plain
set_option linter.unusedVariables false

theorem strOf_nil : strOf [] = ⟨#[]⟩ := rfl
theorem Rs.num_dead (s : Rs) (h : s.e ≠ 0) : s.num = (0, 0, 10) := by unfold Rs.num; rw [if_pos h]
theorem Rs.textOut_bad (s : Rs) (m : Int) (h : s.e ≠ 0 ∨ s.textE m ≠ 0) : s.textOut m = [] := by unfold Rs.textOut; rw [if_pos h]
theorem Rs.textOn_dead (s : Rs) (m : Int) (h : s.e ≠ 0) : s.textOn m = s := by unfold Rs.textOn; rw [if_pos h]
theorem Rs.textOn_bad (s : Rs) (m : Int) (h : s.e = 0) (ht : s.textE m ≠ 0) : s.textOn m = s.fail (s.textE m) := by
  unfold Rs.textOn
  rw [if_neg (by simp [h]), if_pos ht, s.fail_live _ h (by omega)]
theorem Rs.textOn_ok (s : Rs) (m : Int) (h : s.e = 0) (ht : s.textE m = 0) : s.textOn m = ⟨s.l, s.p + s.num.2.1 + s.num.1, 0⟩ := by
  unfold Rs.textOn
  rw [if_neg (by simp [h]), if_neg (by simp [ht])]
theorem Rs.textOut_ok (s : Rs) (m : Int) (h : s.e = 0) (ht : s.textE m = 0) : s.textOut m = (s.l.drop (s.p + s.num.2.1)).take s.num.1 := by
  unfold Rs.textOut
  rw [if_neg (by simp [h, ht])]

theorem paText (w : World) (b : Nat) (s : Rs) (r : Option Nat) (most : Int) (hm1 : -9223372036854775808 ≤ most) (hm2 : most ≤ 9223372036854775807) (h : PA w b s r) :
    Calls Try.prog 38 #[.pointer (some ⟨b, 0, none⟩), .int .i64 most] w fun x w' => x = .returned (.string (strOf (s.textOut most))) ∧ PA w' b (s.textOn most) r ∧ w.grownBy w' (some b) := by
  by_cases h0 : s.e = 0
  · have hrest : s.rest = s.l.length - s.p := by unfold Rs.rest; rw [if_pos h0]
    by_cases hz : s.num.2.2 = 0
    · by_cases hv : max most 0 < (s.num.1 : Int)
      · have ht : s.textE most = 14 := by unfold Rs.textE; rw [if_neg (by simp [hz]), if_pos hv]
        rw [s.textOut_bad most (.inr (by omega)), s.textOn_bad most h0 (by omega), ht, strOf_nil]
        exact paTextMuch w b s r most hm1 hm2 h hz hv
      · by_cases hs : s.rest - s.num.2.1 < s.num.1
        · have ht : s.textE most = 10 := by unfold Rs.textE; rw [if_neg (by simp [hz]), if_neg hv, if_pos hs]
          rw [s.textOut_bad most (.inr (by omega)), s.textOn_bad most h0 (by omega), ht, strOf_nil]
          exact paTextShort w b s r most hm1 hm2 h hz (by omega) hs
        · have ht : s.textE most = 0 := by unfold Rs.textE; rw [if_neg (by simp [hz]), if_neg hv, if_neg hs]
          have hn1 := h.num_le.1
          have e1 : s.on s.num.2.1 = ⟨s.l, s.p + s.num.2.1, 0⟩ := s.on_k _ h0 (by omega)
          have e2 : (s.on s.num.2.1).on s.num.1 = ⟨s.l, s.p + s.num.2.1 + s.num.1, 0⟩ := by
            rw [e1]
            exact Rs.on_k ⟨s.l, s.p + s.num.2.1, 0⟩ _ rfl (by show s.num.1 ≤ s.l.length - (s.p + s.num.2.1); omega)
          have e3 : (s.on s.num.2.1).out s.num.1 = (s.l.drop (s.p + s.num.2.1)).take s.num.1 := by
            rw [e1]
            exact Rs.out_ok ⟨s.l, s.p + s.num.2.1, 0⟩ _ rfl (by show s.num.1 ≤ s.l.length - (s.p + s.num.2.1); omega)
          rw [s.textOut_ok most h0 ht, s.textOn_ok most h0 ht, ← e2, ← e3]
          exact paTextOk w b s r most hm1 hm2 h hz (by omega) (by omega)
    · have ht : s.textE most = s.num.2.2 := by unfold Rs.textE; rw [if_pos hz]
      rw [s.textOut_bad most (.inr (by omega)), s.textOn_bad most h0 (by omega), ht, strOf_nil]
      exact paTextDead w b s _ r most hm1 hm2 h (h.num_le.2.2.2.1 hz) rfl (by rw [s.fail_live _ h0 (by omega)]; simp; omega)
  · rw [s.textOut_bad most (.inl h0), s.textOn_dead most h0, strOf_nil]
    exact paTextDead w b s s r most hm1 hm2 h (by rw [s.num_dead h0]; exact ⟨rfl, rfl⟩) (s.fail_dead _ h0) h0

theorem qaText (w : World) (b g : Nat) (s : Rs) (most : Int) (hm1 : -9223372036854775808 ≤ most) (hm2 : most ≤ 9223372036854775807) (h : QA w b s (some g)) :
    Calls Try.prog 30 #[.pointer (some ⟨b, 0, none⟩), .int .i64 most] w fun x w' => x = .returned (.string (strOf (s.textOut most))) ∧ QA w' b (s.textOn most) (some g) ∧ w.grownBy w' (some b) := by
  by_cases h0 : s.e = 0
  · have hrest : s.rest = s.l.length - s.p := by unfold Rs.rest; rw [if_pos h0]
    have hN : s.num = (s.num.1, s.num.2.1, s.num.2.2) := rfl
    rcases h with ⟨_, dv, h⟩ | ⟨h1, _⟩
    · obtain ⟨cap, rfl, hc1, hc2⟩ := h.ow.shape
      by_cases hz : s.num.2.2 = 0
      · have hN0 : s.num = (s.num.1, s.num.2.1, 0) := by rw [← hz]
        by_cases hv : max most 0 < (s.num.1 : Int)
        · have ht : s.textE most = 14 := by unfold Rs.textE; rw [if_neg (by simp [hz]), if_pos hv]
          rw [s.textOut_bad most (.inr (by omega)), s.textOn_bad most h0 (by omega), ht, strOf_nil]
          exact qaTextMuch w b g cap s most hm1 hm2 _ _ hN0 h0 h hv
        · by_cases hs : s.rest - s.num.2.1 < s.num.1
          · have ht : s.textE most = 10 := by unfold Rs.textE; rw [if_neg (by simp [hz]), if_neg hv, if_pos hs]
            rw [s.textOut_bad most (.inr (by omega)), s.textOn_bad most h0 (by omega), ht, strOf_nil]
            exact qaTextShort w b g cap s most hm1 hm2 _ _ hN0 h0 h (by omega) (by omega)
          · have ht : s.textE most = 0 := by unfold Rs.textE; rw [if_neg (by simp [hz]), if_neg hv, if_neg hs]
            rw [s.textOut_ok most h0 ht, s.textOn_ok most h0 ht]
            exact qaTextOk w b g cap s most hm1 hm2 _ _ hN0 h0 h (by omega) (by omega)
      · have ht : s.textE most = s.num.2.2 := by unfold Rs.textE; rw [if_pos hz]
        rw [s.textOut_bad most (.inr (by omega)), s.textOn_bad most h0 (by omega), ht, strOf_nil]
        exact qaTextBad w b g cap s most hm1 hm2 _ _ _ hN h0 h hz
    · exact absurd h0 h1
  · rw [s.textOut_bad most (.inl h0), s.textOn_dead most h0, strOf_nil]
    refine (qaTextDead w b g s most h0 h).mono ?_
    rintro x w1 ⟨rfl, rfl⟩
    exact ⟨rfl, h, ⟨rfl, rfl, rfl, Nat.le_refl _, fun _ _ _ => rfl⟩⟩

/-- Nothing has turned but the blocks b and c, and what is new. -/
structure Fr (w w' : World) (b c : Nat) : Prop where
  os : w'.os = w.os
  tape : w'.tape = w.tape
  output : w'.output = w.output
  size : w.heap.size ≤ w'.heap.size
  block : ∀ k, k < w.heap.size → k ≠ b → k ≠ c → w'.heap[k]? = w.heap[k]?

theorem Fr.of_below {w w' : World} (h : Below w.heap.size w w') (b c : Nat) : Fr w w' b c := ⟨h.os, h.tape, h.output, h.size, fun k hk _ _ => h.block k hk⟩
theorem Fr.of_left {w w' : World} {b : Nat} (h : w.grownBy w' (some b)) (c : Nat) : Fr w w' b c := ⟨h.os, h.tape, h.output, h.size, fun k hk h1 _ => h.block k hk (by simpa using h1)⟩
theorem Fr.of_right {w w' : World} {c : Nat} (h : w.grownBy w' (some c)) (b : Nat) : Fr w w' b c := ⟨h.os, h.tape, h.output, h.size, fun k hk _ h1 => h.block k hk (by simpa using h1)⟩
theorem Fr.trans {u v w : World} {b c : Nat} (h : Fr u v b c) (k : Fr v w b c) : Fr u w b c :=
  ⟨k.os.trans h.os, k.tape.trans h.tape, k.output.trans h.output, Nat.le_trans h.size k.size, fun i hi h1 h2 => (k.block i (Nat.lt_of_lt_of_le hi h.size) h1 h2).trans (h.block i hi h1 h2)⟩
theorem Fr.below {w w' : World} {b c B : Nat} (h : Fr w w' b c) (hB : B ≤ w.heap.size) (hb : B ≤ b) (hc : B ≤ c) : Below B w w' :=
  ⟨h.os, h.tape, h.output, h.size, fun k hk => h.block k (by omega) (by omega) (by omega)⟩

structure Pair (w : World) (b : Nat) (r : Option Nat) (c g : Nat) (s : Rs) : Prop where
  p : PA w b s r
  q : QA w c s (some g)
  bc : b ≠ c
  bg : b ≠ g
  rc : r ≠ some c
  rl : ∀ q, r = some q → q < w.heap.size

theorem QA.glt {w : World} {b g : Nat} {s : Rs} (h : QA w b s (some g)) : g < w.heap.size := by
  rcases h with ⟨_, dv, h⟩ | ⟨_, dv, h⟩
  · exact h.ow.lt
  · exact h.ow.lt

theorem Pair.later {w w' : World} {b : Nat} {r : Option Nat} {c g : Nat} {s : Rs} (h : Pair w b r c g s) (k : Below w.heap.size w w') : Pair w' b r c g s := ⟨h.p.later k, h.q.later k, h.bc, h.bg, h.rc, fun q hq => Nat.lt_of_lt_of_le (h.rl q hq) k.size⟩

/-- Other blocks are written. -/
theorem Pair.fr {w w' : World} {b : Nat} {r : Option Nat} {c g x y : Nat} {s : Rs} (h : Pair w b r c g s) (k : Fr w w' x y) (h1 : b ≠ x) (h2 : b ≠ y) (h3 : c ≠ x) (h4 : c ≠ y) (h5 : g ≠ x) (h6 : g ≠ y) (h7 : r ≠ some x) (h8 : r ≠ some y) : Pair w' b r c g s := by
  refine ⟨?_, ?_, h.bc, h.bg, h.rc, fun q hq => Nat.lt_of_lt_of_le (h.rl q hq) k.size⟩
  · have hbl := k.block b h.p.lt h1 h2
    rcases h.p with ⟨h0, dv, h⟩ | ⟨h0, h⟩
    · exact .inl ⟨h0, dv, h.kept k.size hbl (fun q hq => by subst hq; exact k.block q h.ow.lt (fun e => h7 (by rw [e])) (fun e => h8 (by rw [e])))⟩
    · exact .inr ⟨h0, h.kept k.size hbl (by simp)⟩
  · have hbl := k.block c h.q.lt h3 h4
    have hgl := k.block g h.q.glt h5 h6
    rcases h.q with ⟨h0, dv, h⟩ | ⟨h0, dv, h⟩
    · exact .inl ⟨h0, dv, h.kept k.size hbl (fun q hq => by simp at hq; subst hq; exact hgl)⟩
    · exact .inr ⟨h0, dv, h.kept k.size hbl (fun q hq => by simp at hq; subst hq; exact hgl)⟩

theorem Pair.left {w w' : World} {b : Nat} {r : Option Nat} {c g : Nat} {s : Rs} (h : Pair w b r c g s) (k : w.grownBy w' (some b)) : QA w' c s (some g) :=
  h.q.kept k (by simpa using Ne.symm h.bc) (fun q hq => by simp at hq; subst hq; simpa using Ne.symm h.bg)
theorem Pair.right {w0 w w' : World} {b : Nat} {r : Option Nat} {c g : Nat} {s s' : Rs} (h : Pair w0 b r c g s) (hp : PA w b s' r) (hq : QA w' c s' (some g)) (k : w.grownBy w' (some c)) (hs : w0.heap.size ≤ w.heap.size) : Pair w' b r c g s' :=
  ⟨hp.kept k (by simpa using h.bc) (fun q hq => by subst hq; exact h.rc), hq, h.bc, h.bg, h.rc, fun q hq => Nat.lt_of_lt_of_le (h.rl q hq) (Nat.le_trans hs k.size)⟩

/-- Only what lies above B has turned. -/
theorem Pair.low {w w' : World} {b : Nat} {r : Option Nat} {c g B : Nat} {s : Rs} (h : Pair w b r c g s) (k : Below B w w') (hb : b < B) (hc : c < B) (hg : g < B) (hr : ∀ q, r = some q → q < B) : Pair w' b r c g s := by
  refine ⟨?_, ?_, h.bc, h.bg, h.rc, fun q hq => Nat.lt_of_lt_of_le (h.rl q hq) k.size⟩
  · have hbl := k.block b hb
    rcases h.p with ⟨h0, dv, h⟩ | ⟨h0, h⟩
    · exact .inl ⟨h0, dv, h.kept k.size hbl (fun q hq => k.block q (hr q hq))⟩
    · exact .inr ⟨h0, h.kept k.size hbl (by simp)⟩
  · have hbl := k.block c hc
    have hgl := k.block g hg
    rcases h.q with ⟨h0, dv, h⟩ | ⟨h0, dv, h⟩
    · exact .inl ⟨h0, dv, h.kept k.size hbl (fun q hq => by simp at hq; subst hq; exact hgl)⟩
    · exact .inr ⟨h0, dv, h.kept k.size hbl (fun q hq => by simp at hq; subst hq; exact hgl)⟩
end Go.Proofs.Ytjefbcphefckiac
