import Derived.Test.YtjefbcphefckiacRq3
import Derived.Test.YtjefbcphefckiacRef
/-! The document's reader: Uvarint, Varint, End. -/
namespace Go.Proofs.Ytjefbcphefckiac
open Go.RowKit Plain
set_option linter.unusedVariables false

theorem refRd (v : Value) (l : List Nat) (w : World) (h : BytesAt w v l) :
    Calls Try.prog 49 #[v] w fun e w' => e = .returned (.tuple #[.int .u64 (rd l).1, .int .i64 (rd l).2.1, .int .i64 (rd l).2.2]) ∧ ∃ n, w' = w.drewN n :=
  (refReadUvarint v l w h).mono fun _ _ ⟨h1, h2⟩ => ⟨h1, 0, h2⟩

theorem Rs.fail_0 (s : Rs) (x : Int) (h : x = 0) : s.fail x = s := by unfold Rs.fail; rw [if_pos (.inr h)]
theorem Rs.fail_e (s : Rs) (x : Int) (h0 : s.e = 0) (h : x ≠ 0) : s.fail x = ⟨s.l, s.p, x⟩ := by unfold Rs.fail; rw [if_neg (by simp [h0, h])]
theorem Rs.on_d (s : Rs) (n : Nat) (h : s.e ≠ 0) : s.on n = s := by unfold Rs.on; rw [if_pos h]
theorem Rs.on_k (s : Rs) (n : Nat) (h0 : s.e = 0) (h : n ≤ s.l.length - s.p) : s.on n = ⟨s.l, s.p + n, 0⟩ := by unfold Rs.on; rw [if_neg (by simp [h0]), if_pos h]

theorem QA.len {w : World} {b : Nat} {s : Rs} {r : Option Nat} (h : QA w b s r) (h0 : s.e = 0) : s.p ≤ s.l.length ∧ s.l.length ≤ 140737488351232 ∧ ∀ c ∈ s.l, c < 256 := by
  rcases h with ⟨_, dv, h⟩ | ⟨h1, _⟩
  · exact ⟨h.pl, h.ll, h.ow.1⟩
  · exact absurd h0 h1

theorem Rs.num_le' {s : Rs} (h : s.e = 0 → s.p ≤ s.l.length ∧ s.l.length ≤ 140737488351232 ∧ ∀ c ∈ s.l, c < 256) : s.num.2.1 ≤ s.rest ∧ s.num.2.1 ≤ 140737488351232 ∧ s.num.1 < 18446744073709551616 ∧ (s.num.2.2 ≠ 0 → s.num.1 = 0 ∧ s.num.2.1 = 0) ∧ (s.e ≠ 0 → s.num = (0, 0, 10)) := by
  unfold Rs.num Rs.rest
  by_cases h0 : s.e = 0
  · obtain ⟨h1, h2, h3⟩ := h h0
    rw [if_neg (by simp [h0]), if_pos h0]
    have hn : (rd (s.l.drop s.p)).2.1 ≤ 0 + (s.l.drop s.p).length := rd_n_le _ 0 0
    simp at hn
    refine ⟨hn, by omega, ?_, ?_, fun h => absurd h0 h⟩
    · rcases rd_e (s.l.drop s.p) with h | h | h
      · obtain ⟨u, _, e1, e2, _⟩ := rd_taken (s.l.drop s.p) 0 0 (by decide) (fun c hc => h3 c (List.mem_of_mem_drop hc)) h
        have : (rd (s.l.drop s.p)).1 = u := e1.trans (by simp)
        rw [this]; simpa using e2
      · rw [h]; decide
      · rw [h]; decide
    · intro hne
      rcases rd_e (s.l.drop s.p) with h | h | h
      · exact absurd h hne
      · rw [h]; exact ⟨rfl, rfl⟩
      · rw [h]; exact ⟨rfl, rfl⟩
  · rw [if_pos h0, if_neg h0]
    simp

/-- The bytes that are left, as the slice that is made of them. -/
theorem RAt.left {w : World} {b g cap : Nat} {s : Rs} (h : RAt w b (.slice (some ⟨g, 0, none⟩) s.l.length cap) s.l s.p 0 0 (some g)) :
    BytesAt w (.slice (if cap = s.p then some ⟨g, 0, none⟩ else some ⟨g, s.p, none⟩) (s.l.length - s.p) (cap - s.p)) (s.l.drop s.p) := by
  have hp := h.pl
  obtain ⟨cap', e, hc1, hc2⟩ := h.ow.shape
  simp only [Value.slice.injEq, true_and] at e
  subst e
  by_cases hc : cap = s.p
  · rw [if_pos hc, List.drop_eq_nil_of_le (by omega), show s.l.length - s.p = 0 by omega, hc, Nat.sub_self]
    exact BytesAt.empty w _ 0 (by decide)
  · rw [if_neg hc]
    have := BytesAt.sub h.ow.bytes s.p (s.l.length - s.p) (cap - s.p) (by omega) (by omega) (by omega)
    rw [drop_take_all] at this
    exact this

set_option maxHeartbeats 400000 in
theorem qaUvDead (w : World) (b g : Nat) (s : Rs) (h0 : s.e ≠ 0) (h : QA w b s (some g)) :
    Calls Try.prog 27 #[.pointer (some ⟨b, 0, none⟩)] w fun x w' => x = .returned (.int .u64 0) ∧ w' = w := by
  rcases h with ⟨h1, _⟩ | ⟨_, dv, h⟩
  · exact absurd h1 h0
  have c2 := h.c2
  have he : (s.e != 0) = true := by simpa using h0
  clear h h0
  go_enter Try.func27, Try.ntmps27
  go_wp2
  go_ret
  exact ⟨rfl, rfl⟩

set_option maxHeartbeats 400000 in
theorem qaUvLive (w : World) (b g cap : Nat) (s : Rs) (h0 : s.e = 0) (hr : RAt w b (.slice (some ⟨g, 0, none⟩) s.l.length cap) s.l s.p 0 0 (some g)) :
    Calls Try.prog 27 #[.pointer (some ⟨b, 0, none⟩)] w fun x w' => x = .returned (.int .u64 s.num.1) ∧ QA w' b s.uvOn (some g) ∧ w.grownBy w' (some b) := by
  have HP : Hid (QA w b s (some g)) := .inl ⟨h0, _, hr⟩
  have HNUM : Hid (s.num = rd (s.l.drop s.p)) := by unfold Hid Rs.num; rw [if_neg (by simp [h0])]
  have hnl := Rs.num_le' (s := s) (fun _ => ⟨hr.pl, hr.ll, hr.ow.1⟩)
  have HREST : s.rest = s.l.length - s.p := by unfold Rs.rest; rw [if_pos h0]
  obtain ⟨hn1, hn2, hn3, hn4, -⟩ := hnl
  rw [HREST] at hn1
  have hp := hr.pl
  have hl := hr.ll
  have hblt := hr.lt
  obtain ⟨cap', e, hc1, hc2⟩ := hr.ow.shape
  simp only [Value.slice.injEq, true_and] at e
  subst e
  unfold maxLen at hc2
  have HB : Hid (BytesAt w (.slice (if cap = s.p then some ⟨g, 0, none⟩ else some ⟨g, s.p, none⟩) (s.l.length - s.p) (cap - s.p)) (s.l.drop s.p)) := hr.left
  have c0 := hr.c0
  have c1 := hr.c1
  have c2 := hr.c2
  have HON : Hid (s.num.2.2 = 0 → s.uvOn = ⟨s.l, s.p + s.num.2.1, 0⟩) := fun hz => by
    unfold Rs.uvOn
    rw [s.fail_0 _ (by simp [hz]), s.on_k _ h0 hn1]
  have HOF : Hid (s.num.2.2 ≠ 0 → s.uvOn = s.fail s.num.2.2) := fun hz => by
    unfold Rs.uvOn
    have : ((s.num.2.2 : Nat) : Int) ≠ 0 := by omega
    rw [s.fail_e _ h0 this, Rs.on_d _ _ (by simpa using this)]
  have HF0 : Hid (s.num.2.2 = 0 → s.fail s.num.2.2 = s) := fun hz => s.fail_0 _ (by simp [hz])
  clear hr HREST
  generalize hN : s.num = N at *
  obtain ⟨nv, nn, ne⟩ := N
  simp only at hn1 hn2 hn3 hn4
  have key : rd (s.l.drop s.p) = (nv, nn, ne) := HNUM.out.symm
  have HRD : Hid (∀ q, Calls Try.prog 49 #[.slice (if cap = s.p then some ⟨g, 0, none⟩ else some ⟨g, s.p, none⟩) (s.l.length - s.p) (cap - s.p)] (w.drewN q) fun e w' => e = .returned (.tuple #[.int .u64 nv, .int .i64 nn, .int .i64 ne]) ∧ ∃ m, w' = w.drewN m) := by
    intro q
    have := refReadUvarint _ _ (w.drewN q) (HB.out.drewN q)
    rw [key] at this
    exact this.mono fun _ _ ⟨h1, h2⟩ => ⟨h1, q, h2⟩
  clear key HNUM HB hN
  by_cases hcp : cap = s.p
  · subst hcp
    have hle : s.l.length = s.p := by omega
    rw [hle] at c0
    rw [if_pos rfl, hle, Nat.sub_self] at HRD
    clear hle
    go_enter Try.func27, Try.ntmps27
    go_wp2
    go_quiet ((go_at_call 49; exact HRD.out _))
    go_wp2_with fail
    refine (qaFail _ b s (some g) _ (HP.out.later (below_drewN (Below.refl _ _) _))).mono ?_
    rintro x w3 ⟨rfl, hp3, hg3⟩
    have HG : Hid (w.grownBy w3 (some b)) := grow_trans (drewN_grow w _ _) hg3 (.inl rfl)
    by_cases hz : ne = 0
    · have HS := HF0.out hz
      have HU := HON.out hz
      rw [HS] at hp3
      have hze : (((ne : Nat) : Int) == 0) = true := by simp [hz]
      rcases hp3 with ⟨_, dv, hr3⟩ | ⟨h1, _⟩
      · have HR3 : Hid (RAt w3 b dv s.l s.p 0 0 (some g)) := hr3
        have d1 := hr3.c1
        have e1 := hr3.f1
        have HU2 : Hid (s.uvOn = ⟨s.l, s.p + nn, 0⟩) := HU
        clear hr3 hg3 HS HU HON HOF HF0 hn4 hz HP HRD
        go_wp2
        go_ret
        refine ⟨rfl, ?_, grow_trans HG.out (grow_set w3 b 1 _) (.inl rfl)⟩
        rw [HU2.out]
        exact .inl ⟨rfl, dv, HR3.out.move (s.p + nn) (by omega)⟩
      · exact absurd h0 h1
    · have HU := HOF.out hz
      rw [← HU] at hp3
      have hze : (((ne : Nat) : Int) == 0) = false := by simp; omega
      have HP3 : Hid (QA w3 b s.uvOn (some g)) := hp3
      clear hp3 hg3 HU HON HOF HF0 hn4 hz HP HRD
      go_wp2
      go_ret
      exact ⟨rfl, HP3.out, HG.out⟩
  · rw [if_neg hcp] at HRD
    have hlt : s.p < cap := by omega
    go_enter Try.func27, Try.ntmps27
    go_wp2
    go_quiet ((go_at_call 49; exact HRD.out _))
    go_wp2_with fail
    refine (qaFail _ b s (some g) _ (HP.out.later (below_drewN (Below.refl _ _) _))).mono ?_
    rintro x w3 ⟨rfl, hp3, hg3⟩
    have HG : Hid (w.grownBy w3 (some b)) := grow_trans (drewN_grow w _ _) hg3 (.inl rfl)
    by_cases hz : ne = 0
    · have HS := HF0.out hz
      have HU := HON.out hz
      rw [HS] at hp3
      have hze : (((ne : Nat) : Int) == 0) = true := by simp [hz]
      rcases hp3 with ⟨_, dv, hr3⟩ | ⟨h1, _⟩
      · have HR3 : Hid (RAt w3 b dv s.l s.p 0 0 (some g)) := hr3
        have d1 := hr3.c1
        have e1 := hr3.f1
        have HU2 : Hid (s.uvOn = ⟨s.l, s.p + nn, 0⟩) := HU
        clear hr3 hg3 HS HU HON HOF HF0 hn4 hz HP HRD
        go_wp2
        go_ret
        refine ⟨rfl, ?_, grow_trans HG.out (grow_set w3 b 1 _) (.inl rfl)⟩
        rw [HU2.out]
        exact .inl ⟨rfl, dv, HR3.out.move (s.p + nn) (by omega)⟩
      · exact absurd h0 h1
    · have HU := HOF.out hz
      rw [← HU] at hp3
      have hze : (((ne : Nat) : Int) == 0) = false := by simp; omega
      have HP3 : Hid (QA w3 b s.uvOn (some g)) := hp3
      clear hp3 hg3 HU HON HOF HF0 hn4 hz HP HRD
      go_wp2
      go_ret
      exact ⟨rfl, HP3.out, HG.out⟩

theorem qaUvarint (w : World) (b g : Nat) (s : Rs) (h : QA w b s (some g)) :
    Calls Try.prog 27 #[.pointer (some ⟨b, 0, none⟩)] w fun x w' => x = .returned (.int .u64 s.num.1) ∧ QA w' b s.uvOn (some g) ∧ w.grownBy w' (some b) := by
  by_cases h0 : s.e = 0
  · rcases h with ⟨_, dv, h⟩ | ⟨h1, _⟩
    · obtain ⟨cap, rfl, hc1, hc2⟩ := h.ow.shape
      exact qaUvLive w b g cap s h0 h
    · exact absurd h0 h1
  · refine (qaUvDead w b g s h0 h).mono ?_
    rintro x w1 ⟨rfl, rfl⟩
    have e1 : s.num = (0, 0, 10) := by unfold Rs.num; rw [if_pos h0]
    have e2 : s.uvOn = s := by
      unfold Rs.uvOn
      have : s.fail (s.num.2.2 : Nat) = s := by unfold Rs.fail; rw [if_pos (.inl h0)]
      rw [this, s.on_d _ h0]
    exact ⟨by rw [e1]; rfl, by rw [e2]; exact h, ⟨rfl, rfl, rfl, Nat.le_refl _, fun _ _ _ => rfl⟩⟩

theorem qaVarint (w : World) (b g : Nat) (s : Rs) (h : QA w b s (some g)) :
    Calls Try.prog 35 #[.pointer (some ⟨b, 0, none⟩)] w fun x w' => x = .returned (.int .i64 (unzz s.num.1)) ∧ QA w' b s.uvOn (some g) ∧ w.grownBy w' (some b) := by
  have HP : Hid (QA w b s (some g)) := h
  have hn := (Rs.num_le' (s := s) h.len).2.2.1
  clear h
  go_enter Try.func35, Try.ntmps35
  go_wp2_with fail
  refine (qaUvarint w b g s HP.out).mono ?_
  rintro x w1 ⟨rfl, hp1, hg1⟩
  have H1 : Hid (QA w1 b s.uvOn (some g)) := hp1
  have HG1 : Hid (w.grownBy w1 (some b)) := hg1
  clear hp1 hg1
  go_wp2_with fail
  refine (refUnzigzag s.num.1 _ (by omega) (by omega)).mono ?_
  rintro x w2 ⟨rfl, rfl⟩
  go_wp2
  go_ret
  exact ⟨rfl, H1.out, HG1.out⟩

set_option maxHeartbeats 400000 in
theorem qaEnd (w : World) (b : Nat) (s : Rs) (r : Option Nat) (h : QA w b s r) :
    Calls Try.prog 20 #[.pointer (some ⟨b, 0, none⟩)] w fun x w' => x = .returned (.agg #[.int .i64 s.endE, .int .i64 s.endP]) ∧ Below w.heap.size w w' := by
  have hblt := h.lt
  have HBA : Hid (Below w.heap.size w (w.alloc (.cells #[.int .i64 0, .int .i64 0] 27))) := (Below.refl _ _).alloc (Nat.le_refl _) _
  rcases h with ⟨h0, dv, h⟩ | ⟨h0, dv, h⟩
  · obtain ⟨a, cap, rfl⟩ := h.ow.isSlice
    obtain ⟨hp, hl⟩ := And.intro h.pl h.ll
    have c0 : (w.alloc (.cells #[.int .i64 0, .int .i64 0] 27)).cell? ⟨b, 0, none⟩ = some (.slice a s.l.length cap) := (World.cell?_alloc_past (w := w) _ _ _ hblt).trans h.c0
    have c1 : (w.alloc (.cells #[.int .i64 0, .int .i64 0] 27)).cell? ⟨b, 1, none⟩ = some (.int .i64 s.p) := (World.cell?_alloc_past (w := w) _ _ _ hblt).trans h.c1
    have c2 : (w.alloc (.cells #[.int .i64 0, .int .i64 0] 27)).cell? ⟨b, 2, none⟩ = some (.int .i64 0) := (World.cell?_alloc_past (w := w) _ _ _ hblt).trans h.c2
    have c3 : (w.alloc (.cells #[.int .i64 0, .int .i64 0] 27)).cell? ⟨b, 3, none⟩ = some (.int .i64 0) := (World.cell?_alloc_past (w := w) _ _ _ hblt).trans h.c3
    clear h
    by_cases hz : s.l.length - s.p = 0
    · have HE : Hid (s.endE = 0 ∧ (s.endP : Int) = 0) := by unfold Hid Rs.endE Rs.endP; simp [h0, hz]
      have hq : ((s.p : Int) == (s.l.length : Int)) = true := by simp; omega
      go_enter Try.func20, Try.ntmps20
      go_wp2
      go_quiet (fail)
      go_wp2
      exact bodyPost_ret (v := .agg #[.int .i64 0, .int .i64 0]) (by simp [results, Try.results20, go_sem]) rfl ⟨by rw [HE.out.1, HE.out.2], (((below_drewN HBA.out _).setCell (Nat.le_refl _) _).setCell (Nat.le_refl _) _)⟩
    · have HE : Hid (s.endE = 13 ∧ (s.endP : Int) = s.p) := by unfold Hid Rs.endE Rs.endP; simp [h0, hz]
      have hq : ((s.p : Int) == (s.l.length : Int)) = false := by simp; omega
      go_enter Try.func20, Try.ntmps20
      go_wp2
      go_quiet (fail)
      go_wp2
      exact bodyPost_ret (v := .agg #[.int .i64 13, .int .i64 s.p]) (by simp [results, Try.results20, go_sem]) rfl ⟨by rw [HE.out.1, HE.out.2], (((below_drewN HBA.out _).setCell (Nat.le_refl _) _).setCell (Nat.le_refl _) _)⟩
  · have c2 : (w.alloc (.cells #[.int .i64 0, .int .i64 0] 27)).cell? ⟨b, 2, none⟩ = some (.int .i64 s.e) := (World.cell?_alloc_past (w := w) _ _ _ hblt).trans h.c2
    have c3 : (w.alloc (.cells #[.int .i64 0, .int .i64 0] 27)).cell? ⟨b, 3, none⟩ = some (.int .i64 s.p) := (World.cell?_alloc_past (w := w) _ _ _ hblt).trans h.c3
    have he : (s.e != 0) = true := by simpa using h0
    have HE : Hid (s.endE = s.e ∧ (s.endP : Int) = s.p) := by unfold Hid Rs.endE Rs.endP; simp [h0]
    clear h h0
    go_enter Try.func20, Try.ntmps20
    go_wp2
    go_quiet (fail)
    go_wp2
    exact bodyPost_ret (v := .agg #[.int .i64 s.e, .int .i64 s.p]) (by simp [results, Try.results20, go_sem]) rfl ⟨by rw [HE.out.1, HE.out.2], (((below_drewN HBA.out _).setCell (Nat.le_refl _) _).setCell (Nat.le_refl _) _)⟩
end Go.Proofs.Ytjefbcphefckiac
