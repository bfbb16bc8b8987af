import Derived.Test.YtlbofjeopbadhaaJq
/-! dedupe: the law of parts. -/
namespace Go.Proofs.Ytlbofjeopbadhaa
open Go.RowKit Go.Maps Plain
set_option linter.unusedVariables false
set_option linter.unusedSimpArgs false

theorem parts1 {ps : List Pr} {a b : List Rc} (h : fE ps (a ++ b) ≠ 0) : fE ps a = fE ps (a ++ b) ∨ (fE ps a = 0 ∧ fE (fL ps a) b = fE ps (a ++ b) ∧ fL (fL ps a) b = []) := by
  by_cases hT : TabL ps
  · rw [fE_tab hT] at h
    simp only [fE_tab hT]
    rw [foldE_app] at h ⊢
    by_cases h0 : foldE ps a = 0
    · right
      have e := fE_ok (ps := ps) (rs := a) (by rw [fE_tab hT]; exact h0)
      rw [if_neg (by simp [h0])] at h ⊢
      have hE : fE (fL ps a) b = foldE (foldL ps a) b := by rw [fE_tab e.2.2.2, e.2.2.1]
      exact ⟨h0, hE, fL_bad (by rw [hE]; exact h)⟩
    · left; rw [if_pos h0]
  · left
    have hk : ¬ okL ps = true := fun e => hT ((okL_iff ps).mp e)
    unfold fE; rw [if_neg hk, if_neg hk]
theorem parts2 {ps : List Pr} {a b : List Rc} (h : fE ps (a ++ b) = 0) : fE ps a = 0 ∧ fE (fL ps a) b = 0 ∧ fL (fL ps a) b = fL ps (a ++ b) ∧ TabL (fL ps a) ∧ TabL (fL ps (a ++ b)) := by
  obtain ⟨hT, h1, h2, h3⟩ := fE_ok h
  rw [foldE_app] at h1
  by_cases h0 : foldE ps a = 0
  · rw [if_neg (by simp [h0])] at h1
    have ea : fE ps a = 0 := by rw [fE_tab hT]; exact h0
    obtain ⟨_, _, e3, e4⟩ := fE_ok ea
    have hE : fE (fL ps a) b = 0 := by rw [fE_tab e4, e3]; exact h1
    obtain ⟨_, _, e5, e6⟩ := fE_ok hE
    exact ⟨ea, hE, by rw [e5, e3, h2, foldL_app], e4, h3⟩
  · rw [if_pos h0] at h1; exact absurd h1 h0
theorem parts3 {ps : List Pr} {l c : List Rc} (h : fE ps l = 0) (hc : ∀ y ∈ c, y ∈ l) : fE (fL ps l) c = 0 ∧ fL (fL ps l) c = fL ps l := by
  obtain ⟨hT, h1, h2, h3⟩ := fE_ok h
  have hk : ∀ y ∈ c, Known (fL ps l) y := fun y hy => by rw [h2]; exact Known.all l hT h1 y (hc y hy)
  obtain ⟨k1, k2⟩ := Known.again c hk
  have hE : fE (fL ps l) c = 0 := by rw [fE_tab h3]; exact k1
  obtain ⟨_, _, e5, _⟩ := fE_ok hE
  exact ⟨hE, by rw [e5, k2]⟩

theorem OwnR.made (w : World) : OwnR (w.alloc (.cells #[] 32)) (.slice (some ⟨w.heap.size, 0, none⟩) 0 0) [] (some w.heap.size) :=
  .inr ⟨w.heap.size, 0, rfl, rfl, by simp, by simp, by simp [maxLen], by simp, by simp, by simp⟩
theorem OwnR.reads {w : World} {v : Value} {ts : List Rc} {r : Option Nat} (h : OwnR w v ts r) (hl : ts.length ≤ 4194304) (hok : ∀ x ∈ ts, x.Ok) : RecsAt w v ts := h.recs (by omega) hok
theorem RecsAt.ok {w : World} {v : Value} {ts : List Rc} (h : RecsAt w v ts) : ∀ x ∈ ts, x.Ok := by obtain ⟨_, _, _, _, h, _⟩ := h; exact h
/-- A list of records of the call's own. -/
structure JoinAt (w w' : World) (v : Value) (l : List Rc) (r : Option Nat) : Prop where
  row : OwnR w' v l r
  new : ∀ g, r = some g → w.heap.size ≤ g
  below : Below w.heap.size w w'
set_option maxHeartbeats 2000000 in
theorem joinedOf (va vb : Value) (a b : List Rc) (w : World) (ha : RecsAt w va a) (hb : RecsAt w vb b) (hal : a.length ≤ 1048576) (hbl : b.length ≤ 1048576) :
    Calls Try.prog 7 #[va, vb] w fun e w' => ∃ v r, e = .returned v ∧ JoinAt w w' v (a ++ b) r := by
  have HSA : Hid (∀ u, Below w.heap.size w u → Src Try.prog 7 23 va a.length (rcells a) u) := fun u hu => src_rs (ha.later hu)
  have HSB : Hid (∀ u, Below w.heap.size w u → Src Try.prog 7 23 vb b.length (rcells b) u) := fun u hu => src_rs (hb.later hu)
  obtain ⟨aa, ca, rfl, -⟩ := ha
  obtain ⟨ab, cb, rfl, -⟩ := hb
  go_enter Try.func7, Try.ntmps7
  go_wp2_with (at_builtin; refine wpList_append_any _ rfl _ _ rfl _ _ [] a (some w.heap.size) rfl rfl ?hOwn ?hSrc ?hLen ?_)
  case hOwn => exact OwnR.made w
  case hSrc => exact HSA.out _ ((Below.refl _ _).alloc (Nat.le_refl _) _)
  case hLen => simp; omega
  intro v1 w1 r1 ho1 hg1 hr1
  have hb1 : Below w.heap.size w w1 := ((Below.refl _ w).alloc (Nat.le_refl _) _).trans (grow_below hg1 (by simp) (fun g e => by cases e; exact Nat.le_refl _))
  have HB1 : Hid (Below w.heap.size w w1) := hb1
  have HO1 : Hid (OwnR w1 v1 a r1) := by unfold Hid; simpa using ho1
  have HR1 : Hid (∀ g, r1 = some g → w.heap.size ≤ g) := fun g e => by
    rcases hr1 with h | h
    · rw [h] at e; cases e; exact Nat.le_refl _
    · rw [h] at e; simp at e; omega
  obtain ⟨b1, c1, rfl, -, -⟩ := ho1.shape
  clear ho1 hg1 hr1 hb1
  go_wp2_with (at_builtin; refine wpList_append_any _ rfl _ _ rfl _ _ a b r1 rfl rfl ?hOwn ?hSrc ?hLen ?_)
  case hOwn => exact HO1.out
  case hSrc => exact HSB.out _ HB1.out
  case hLen => omega
  intro v2 w2 r2 ho2 hg2 hr2
  have HJ : Hid (JoinAt w w2 v2 (a ++ b) r2) := by
    refine ⟨ho2, fun g e => ?_, HB1.out.trans (grow_below hg2 HB1.out.size HR1.out)⟩
    rcases hr2 with h | h
    · rw [h] at e; exact HR1.out g e
    · rw [h] at e; cases e; exact HB1.out.size
  obtain ⟨b2, c2, rfl, -, -⟩ := ho2.shape
  clear ho2 hg2 hr2
  go_wp2
  go_ret
  exact ⟨_, r2, rfl, HJ.out⟩
def headR : Rc := ⟨1, 3, 0, 2, 5, ⟨#[107]⟩, ⟨#[]⟩⟩
theorem head_e : fE [] [headR] = 0 := by decide +kernel
theorem head_l : fL [] [headR] = [⟨2, 5, 3⟩] := by
  have h : fL [] [headR] = layP [] headR.pr := by
    unfold fL
    rw [if_pos (by decide +kernel)]
    rfl
  rw [h]; rfl
set_option maxHeartbeats 2000000 in
theorem headOf (w : World) : Calls Try.prog 5 #[] w fun e w' => e = .returned (.bool true) ∧ Below w.heap.size w w' := by
  obtain ⟨w1, hw1⟩ : ∃ w1, w.alloc (.cells #[.int .i64 1, .int .i64 3, .int .i64 0, .int .i64 2, .int .i64 5, .string ⟨#[107]⟩, .string ⟨#[]⟩] 32) = w1 := ⟨_, rfl⟩
  have hb1 : Below w.heap.size w w1 := by rw [← hw1]; exact (Below.refl _ _).alloc (Nat.le_refl _) _
  have hR : RecsAt w1 (.slice (some ⟨w.heap.size, 0, none⟩) 1 1) [headR] := by
    refine ⟨some ⟨w.heap.size, 0, none⟩, 1, rfl, by simp, ?_, fun _ => ⟨w.heap.size, 0, rfl, fun j hj => ?_⟩⟩
    · intro x hx
      simp at hx
      subst hx
      have h : ∀ z : Int, -100 ≤ z → z ≤ 100 → I64 z := fun z h1 h2 => by unfold I64; omega
      exact ⟨h _ (by decide) (by decide), h _ (by decide) (by decide), h _ (by decide) (by decide), h _ (by decide) (by decide), h _ (by decide) (by decide), by simp [headR, ByteArray.size, maxLen], by simp [headR, ByteArray.size]⟩
    · simp at hj
      subst hj
      rw [← hw1]
      exact ⟨World.cell?_alloc_at _ _ _ _ rfl, World.cell?_alloc_at _ _ _ _ rfl, World.cell?_alloc_at _ _ _ _ rfl, World.cell?_alloc_at _ _ _ _ rfl, World.cell?_alloc_at _ _ _ _ rfl, World.cell?_alloc_at _ _ _ _ rfl, World.cell?_alloc_at _ _ _ _ rfl⟩
  have hP : PrsAt w1 (.slice none 0 0) [] := ⟨none, 0, rfl, by simp, by simp, by simp⟩
  have HF : Hid (Calls Try.prog 6 #[.slice none 0 0, .slice (some ⟨w.heap.size, 0, none⟩) 1 1] w1 fun e w' => ∃ z r, e = .returned (.tuple #[z, .int .i64 0]) ∧ FoldAt w1 w' z [] [headR] r) := by
    have := foldOf _ _ _ _ w1 hP hR
    rwa [head_e] at this
  have HB : Hid (Below w.heap.size w w1) := hb1
  clear hR hP hb1
  go_enter Try.func5, Try.ntmps5
  go_wp2_with fail
  refine HF.out.mono ?_
  rintro e w2 ⟨z, r, rfl, hf⟩
  have HB2 : Hid (Below w.heap.size w w2) := below_step HB.out hf.below
  have ho := hf.row
  rw [head_l] at ho
  rcases ho with ⟨_, h, _⟩ | ⟨g, cap, rfl, rfl, hg, h1, h2, h3, h4, h5⟩
  · simp at h
  have k0 : w2.cell? ⟨g, 0, none⟩ = some (.int .i64 2) := h5 0 (by simp)
  have k1 : w2.cell? ⟨g, 1, none⟩ = some (.int .i64 5) := h5 1 (by simp)
  have k2 : w2.cell? ⟨g, 2, none⟩ = some (.int .i64 3) := h5 2 (by simp)
  clear hf h1 h2 h3 h4 h5 HF
  go_wp2
  go_ret
  exact ⟨rfl, HB2.out⟩
end Go.Proofs.Ytlbofjeopbadhaa
