import Derived.Test.YtklfmgkfcacfkaaTok
namespace Go.Proofs.Ytklfmgkfcacfkaa
open Go.RowKit Plain
set_option linter.unusedVariables false
set_option linter.unusedSimpArgs false

theorem OwnT.later {w w' : World} {v : Value} {ts : List Tk} {r : Option Nat} (h : OwnT w v ts r) (k : Below w.heap.size w w') : OwnT w' v ts r := by
  cases r with
  | none => exact h.kept (below_grow k none) (.inl rfl)
  | some g => exact h.kept (below_grow k none) (.inr (by simp))

/-- v is a slice of tokens of the call's own; the bytes of each literal lie in a block of their own; all blocks from base on. -/
structure TRow (base : Nat) (w : World) (v : Value) (ts : List Tk) (r : Option Nat) : Prop where
  own : OwnT w v ts r
  rb : ∀ g, r = some g → base ≤ g
  lits : ∀ g l, Tk.lit g l ∈ ts → l ≠ [] ∧ base ≤ g ∧ r ≠ some g ∧ Own w (.slice (some ⟨g, 0, none⟩) l.length l.length) l (some g)
  apart : ts.Pairwise fun a b => ∀ g l g' l', a = .lit g l → b = .lit g' l' → g ≠ g'

theorem TRow.nil (base : Nat) (w : World) : TRow base w (.slice none 0 0) [] none :=
  ⟨.inl ⟨rfl, rfl, rfl⟩, fun _ h => by simp at h, fun _ _ h => by simp at h, List.Pairwise.nil⟩

theorem TRow.kept {base : Nat} {w w' : World} {v : Value} {ts : List Tk} {r r' : Option Nat} (h : TRow base w v ts r) (k : w.grownBy w' r') (hr : ∀ g, r' = some g → g < base ∨ w.heap.size ≤ g) : TRow base w' v ts r := by
  refine ⟨h.own.kept k ?_, h.rb, fun g l hm => ?_, h.apart⟩
  · cases r with
    | none => exact .inl rfl
    | some g =>
      refine .inr fun e => ?_
      have h1 := h.rb g rfl
      have h2 := h.own.lt
      have := hr g e.symm
      omega
  · obtain ⟨h1, h2, h3, h4⟩ := h.lits g l hm
    refine ⟨h1, h2, h3, h4.kept k (.inr fun e => ?_)⟩
    have := h4.lt
    have := hr g e.symm
    omega

/-- A match is appended. -/
theorem TRow.mat {base : Nat} {w w' : World} {v v' : Value} {ts : List Tk} {r : Option Nat} {g d n : Nat} (h : TRow base w v ts r) (hb : base ≤ w.heap.size) (ho : OwnT w' v' (ts ++ [.mat d n]) (some g)) (hg : w.grownBy w' r) (hgr : some g = r ∨ w.heap.size ≤ g) : TRow base w' v' (ts ++ [.mat d n]) (some g) := by
  refine ⟨ho, fun g' e => ?_, fun g' l hm => ?_, ?_⟩
  · simp only [Option.some.injEq] at e
    subst e
    rcases hgr with hgr | hgr
    · exact h.rb g hgr.symm
    · omega
  · have hm' : Tk.lit g' l ∈ ts := by simpa using hm
    obtain ⟨h1, h2, h3, h4⟩ := h.lits g' l hm'
    refine ⟨h1, h2, ?_, h4.kept hg (.inr (Ne.symm h3))⟩
    rcases hgr with hgr | hgr
    · rw [hgr]; exact h3
    · have := h4.lt
      simp; omega
  · rw [List.pairwise_append]
    refine ⟨h.apart, List.pairwise_singleton _ _, fun a _ b hb' g l g' l' _ e => ?_⟩
    simp at hb'
    rw [hb'] at e
    simp at e

/-- A literal is appended. -/
theorem TRow.lit {base : Nat} {w w1 w' : World} {v v' : Value} {ts : List Tk} {r : Option Nat} {g gl : Nat} {l : List Nat} (h : TRow base w v ts r) (hb : base ≤ w.heap.size) (hl : l ≠ []) (hgl : w.heap.size ≤ gl) (k : Below w.heap.size w w1)
    (hown : Own w1 (.slice (some ⟨gl, 0, none⟩) l.length l.length) l (some gl)) (ho : OwnT w' v' (ts ++ [.lit gl l]) (some g)) (hg : w1.grownBy w' r) (hgr : some g = r ∨ w1.heap.size ≤ g) : TRow base w' v' (ts ++ [.lit gl l]) (some g) := by
  have h1 := h.kept (below_grow k none) (by simp)
  have hgl1 := hown.lt
  have hrl : ∀ g', r = some g' → g' < w.heap.size := fun g' e => by subst e; exact h.own.lt
  have hne : some g ≠ some gl := by
    rcases hgr with hgr | hgr
    · have := hrl g hgr.symm
      simp; omega
    · simp; omega
  refine ⟨ho, fun g' e => ?_, fun g' l' hm => ?_, ?_⟩
  · simp only [Option.some.injEq] at e
    subst e
    rcases hgr with hgr | hgr
    · exact h.rb g hgr.symm
    · have := k.size; omega
  · simp only [List.mem_append, List.mem_singleton, Tk.lit_inj] at hm
    rcases hm with hm | ⟨rfl, rfl⟩
    · obtain ⟨a1, a2, a3, a4⟩ := h1.lits g' l' hm
      refine ⟨a1, a2, ?_, a4.kept hg (.inr (Ne.symm a3))⟩
      rcases hgr with hgr | hgr
      · rw [hgr]; exact a3
      · have := a4.lt
        simp; omega
    · refine ⟨hl, by omega, hne, hown.kept hg (.inr fun e => ?_)⟩
      have := hrl g' e.symm
      omega
  · rw [List.pairwise_append]
    refine ⟨h.apart, List.pairwise_singleton _ _, fun a ha b hb' g1 l1 g2 l2 e1 e2 => ?_⟩
    simp at hb'
    rw [hb'] at e2
    simp only [Tk.lit_inj] at e2
    obtain ⟨rfl, rfl⟩ := e2
    rw [e1] at ha
    have := (h.lits g1 l1 ha).2.2.2.lt
    omega

set_option maxHeartbeats 400000 in
set_option maxRecDepth 1000000 in
theorem appendLitNone (v u : Value) (w : World) (hu : BytesAt w u []) :
    Calls Try.prog 35 #[v, u] w fun e w' => e = .returned v ∧ w' = w := by
  obtain ⟨a, cap, rfl, hlc, hcm, hby, hcells⟩ := hu
  clear hcells hby
  rw [List.length_nil]
  go_enter Try.func35, Try.ntmps35
  go_wp2
  go_ret
  exact ⟨rfl, rfl⟩

set_option maxHeartbeats 400000 in
set_option maxRecDepth 1000000 in
theorem appendLit (base : Nat) (v u : Value) (ts : List Tk) (r : Option Nat) (l : List Nat) (w : World) (ho : TRow base w v ts r) (hb : base ≤ w.heap.size) (hu : BytesAt w u l) (h0 : l ≠ []) (hl : l.length ≤ 4096) (hts : ts.length ≤ 8192) :
    Calls Try.prog 35 #[v, u] w fun e w' => ∃ v' g gl, e = .returned v' ∧ TRow base w' v' (ts ++ [.lit gl l]) (some g) ∧ w.grownBy w' r := by
  have hpos : 0 < l.length := List.length_pos_iff.mpr h0
  have HO : Hid (TRow base w v ts r) := ho
  have HC : Hid (Calls Try.prog 52 #[u] w fun e w' => ∃ g, e = .returned (.agg #[.slice (some ⟨g, 0, none⟩) l.length l.length, .int .i64 0, .int .i64 0]) ∧ w.heap.size ≤ g ∧ Own w' (.slice (some ⟨g, 0, none⟩) l.length l.length) l (some g) ∧ Below w.heap.size w w') := literalOf u l w hu hpos hl
  obtain ⟨a, cap, rfl, hlc, hcm, hby, hcells⟩ := hu
  unfold maxLen at hcm
  clear hcells hby ho
  go_enter Try.func35, Try.ntmps35
  go_wp2_with fail
  refine HC.out.mono ?_
  rintro e w1 ⟨gl, rfl, hgl, hown, hb1⟩
  have HOW : Hid (Own w1 (.slice (some ⟨gl, 0, none⟩) l.length l.length) l (some gl)) := hown
  have HB1 : Hid (Below w.heap.size w w1) := hb1
  clear hown hb1
  go_wp2_with (at_builtin; refine wpList_append_tok _ rfl _ _ rfl _ _ ts (.lit gl l) r rfl rfl ?hOwn ?hSrc ?hLen ?_)
  case hOwn => exact HO.out.own.later (HB1.out.alloc HB1.out.size _)
  case hSrc => exact src_tok w1 (.lit gl l) _ _ _ rfl 28
  case hLen => exact hts
  intro v' w' g ho' hg' hgr'
  have HF : Hid (TRow base w' v' (ts ++ [.lit gl l]) (some g) ∧ w.grownBy w' r) := by
    refine ⟨TRow.lit HO.out hb h0 hgl (HB1.out.alloc HB1.out.size _) (HOW.out.later ((Below.refl _ _).alloc (Nat.le_refl _) _)) ho' hg' ?_, grow_trans (below_grow (HB1.out.alloc HB1.out.size _) r) hg' (.inl rfl)⟩
    rcases hgr' with h | h
    · exact .inl h
    · right; simp; omega
  clear ho' hg' hgr'
  go_wp2
  go_ret
  exact ⟨v', g, gl, rfl, HF.out.1, HF.out.2⟩
end Go.Proofs.Ytklfmgkfcacfkaa
