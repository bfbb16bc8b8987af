import Derived.Test.YtlbofjeopbadhaaDoorJdA
/-! dedupe: the document's Judge, Refuse, Note. -/
namespace Go.Proofs.YtlbofjeopbadhaaDoor
open Go.RowKit Go.Maps Plain
set_option linter.unusedVariables false
set_option linter.unusedSimpArgs false

theorem rise_idx {L : List Pr} (h : Rise L) {i j : Nat} (hi : i < L.length) (hj : j < L.length) (e : L.getD i Pr.zero = L.getD j Pr.zero) : i = j := by
  have ei : L.getD i Pr.zero = L[i] := by simp [hi]
  have ej : L.getD j Pr.zero = L[j] := by simp [hj]
  rw [ei, ej] at e
  rw [Rise, List.pairwise_iff_getElem] at h
  rcases Nat.lt_trichotomy i j with h1 | h1 | h1
  · have := h i j hi hj h1; rw [e] at this; omega
  · exact h1
  · have := h j i hj hi h1; rw [e] at this; omega
set_option maxHeartbeats 8000000 in
set_option maxRecDepth 100000 in
theorem rjudgeOf (t : Nat) (v : Value) (L : List Pr) (r : Option Nat) (pid seq : Int) (w : World) (h : RTab w t v L r) (hp : I64 pid) (hs : I64 seq) :
    Calls Tryd.prog 37 #[.pointer (some ⟨t, 0, none⟩), .int .i64 pid, .int .i64 seq] w fun e w' => e = .returned (.tuple #[.int .i64 (jd L pid seq).1, .int .i64 (jd L pid seq).2]) ∧ Below w.heap.size w w' := by
  have hct := h.cell
  have HPR : Hid (PrsAt w v L) := h.row.reads h.tab
  have HRT : Hid (∀ p, p ∈ L → p.Right) := h.tab.right
  have hL64 := h.tab.len
  have HRI : Hid (Rise L) := h.tab.rise
  obtain ⟨a0, cap0, rfl⟩ : ∃ a c, v = .slice a L.length c := by obtain ⟨x, y, e, _⟩ := h.row.shape; exact ⟨x, y, e⟩
  have HBA : Hid (∀ o, Below w.heap.size w (w.alloc o)) := fun o => bel_al _ _
  unfold I64 at hs hp
  clear h
  by_cases b1 : pid < 0
  · have hn : okNum pid seq = false := by rw [Bool.eq_false_iff]; intro e; have := (okNum_iff _ _).mp e; omega
    have h0 : ¬ (pid = 0 ∧ seq = 0) := by omega
    rw [jd_bad h0 hn]
    go_enter Tryd.func37, Tryd.ntmps37
    go_wp2
    go_ret2
    exact ⟨rfl, Below.refl _ _⟩
  by_cases b2 : 4294967296 ≤ pid
  · have hn : okNum pid seq = false := by rw [Bool.eq_false_iff]; intro e; have := (okNum_iff _ _).mp e; omega
    have h0 : ¬ (pid = 0 ∧ seq = 0) := by omega
    rw [jd_bad h0 hn]
    go_enter Tryd.func37, Tryd.ntmps37
    go_wp2
    go_ret2
    exact ⟨rfl, Below.refl _ _⟩
  by_cases b3 : pid = 0
  · subst b3
    by_cases b4 : seq = 0
    · subst b4
      rw [jd_free]
      go_enter Tryd.func37, Tryd.ntmps37
      go_wp2
      go_ret2
      exact ⟨rfl, Below.refl _ _⟩
    · have hn : okNum 0 seq = false := by rw [Bool.eq_false_iff]; intro e; have := (okNum_iff _ _).mp e; omega
      have h0 : ¬ ((0 : Int) = 0 ∧ seq = 0) := by omega
      have e4 : (seq == 0) = false := by simpa using b4
      rw [jd_bad h0 hn]
      go_enter Tryd.func37, Tryd.ntmps37
      go_wp2
      go_ret2
      exact ⟨rfl, Below.refl _ _⟩
  have e3 : (pid == 0) = false := by simpa using b3
  have b0 : 0 < pid := by omega
  by_cases b5 : seq < 1
  · have hn : okNum pid seq = false := by rw [Bool.eq_false_iff]; intro e; have := (okNum_iff _ _).mp e; omega
    have h0 : ¬ (pid = 0 ∧ seq = 0) := by omega
    rw [jd_bad h0 hn]
    go_enter Tryd.func37, Tryd.ntmps37
    go_wp2
    go_ret2
    exact ⟨rfl, Below.refl _ _⟩
  by_cases b6 : 1099511627776 ≤ seq
  · have hn : okNum pid seq = false := by rw [Bool.eq_false_iff]; intro e; have := (okNum_iff _ _).mp e; omega
    have h0 : ¬ (pid = 0 ∧ seq = 0) := by omega
    rw [jd_bad h0 hn]
    go_enter Tryd.func37, Tryd.ntmps37
    go_wp2
    go_ret2
    exact ⟨rfl, Below.refl _ _⟩
  have hn : okNum pid seq = true := (okNum_iff _ _).mpr (by omega)
  have HIDX : Hid (∀ i j, i < L.length → j < L.length → L.getD i Pr.zero = L.getD j Pr.zero → i = j) := fun i j hi hj e => rise_idx HRI.out hi hj e
  have HF0 := rfindOf (.slice a0 L.length cap0) L pid w HPR.out
  cases hlk : lookP L pid with
  | none =>
    have HJ : Hid (jd L pid seq = if 1 < seq then (4, 0) else if 64 ≤ L.length then (5, 0) else (1, 0)) := jd_none hn hlk
    have HFI : Hid (Calls Tryd.prog 47 #[.slice a0 L.length cap0, .int .i64 pid] w fun e w' => e = .returned (.int .i64 (-1)) ∧ w' = w) := by
      refine HF0.mono ?_
      rintro e w' ⟨z, rfl, hf, rfl⟩
      rcases hf with ⟨rfl, _⟩ | ⟨j, rfl, _, h2⟩
      · exact ⟨rfl, rfl⟩
      · rw [hlk] at h2; cases h2
    clear HF0 hlk HPR HRT
    by_cases q1 : 1 < seq
    · have e1 : (seq == 1) = false := by
        have : seq ≠ 1 := by omega
        simpa using this
      have HJ1 : Hid (jd L pid seq = (4, 0)) := by rw [Hid, HJ.out]; exact if_pos q1
      rw [HJ1.out]
      clear HJ HJ1
      go_enter Tryd.func37, Tryd.ntmps37
      go_wp2_with fail
      refine HFI.out.mono ?_
      rintro e w1 ⟨rfl, rfl⟩
      go_wp2
      go_ret2
      exact ⟨rfl, Below.refl _ _⟩
    · obtain rfl : seq = 1 := by omega
      by_cases q2 : 64 ≤ L.length
      · have q2i : (64 : Int) ≤ (L.length : Int) := by omega
        have HJ1 : Hid (jd L pid 1 = (5, 0)) := by rw [Hid, HJ.out]; rw [if_neg q1, if_pos q2]
        rw [HJ1.out]
        clear HJ HJ1
        go_enter Tryd.func37, Tryd.ntmps37
        go_wp2_with fail
        refine HFI.out.mono ?_
        rintro e w1 ⟨rfl, rfl⟩
        go_wp2
        go_ret2
        exact ⟨rfl, Below.refl _ _⟩
      · have q2i : ¬ (64 : Int) ≤ (L.length : Int) := by omega
        have HJ1 : Hid (jd L pid 1 = (1, 0)) := by rw [Hid, HJ.out]; rw [if_neg q1, if_neg q2]
        rw [HJ1.out]
        clear HJ HJ1
        go_enter Tryd.func37, Tryd.ntmps37
        go_wp2_with fail
        refine HFI.out.mono ?_
        rintro e w1 ⟨rfl, rfl⟩
        go_wp2
        go_ret2
        exact ⟨rfl, Below.refl _ _⟩
  | some p =>
    have HJ : Hid (jd L pid seq = if seq = p.seq then (2, p.off) else if seq < p.seq then (3, 0) else if p.seq + 1 < seq then (4, 0) else (1, 0)) := jd_some hn hlk
    have hR := HRT.out p (lookP_some hlk).1
    obtain ⟨j, hjl, hjp, HFI⟩ : ∃ j : Nat, j < L.length ∧ L.getD j Pr.zero = p ∧ Hid (Calls Tryd.prog 47 #[.slice a0 L.length cap0, .int .i64 pid] w fun e w' => e = .returned (.int .i64 (j : Int)) ∧ w' = w) := by
      obtain ⟨j, hj, hjp⟩ : ∃ j : Nat, j < L.length ∧ L.getD j Pr.zero = p := by
        obtain ⟨j, hj, e⟩ := List.getElem_of_mem (lookP_some hlk).1
        exact ⟨j, hj, by simp [hj, e]⟩
      refine ⟨j, hj, hjp, HF0.mono ?_⟩
      rintro e w' ⟨z, rfl, hf, rfl⟩
      rcases hf with ⟨_, h2⟩ | ⟨i, rfl, hi, h2⟩
      · rw [hlk] at h2; cases h2
      · rw [hlk] at h2
        injection h2 with h2
        have : i = j := HIDX.out i j hi hj (by rw [← h2, hjp])
        subst this
        exact ⟨rfl, rfl⟩
    obtain ⟨bj, oj, rfl, hcj⟩ : ∃ b o, a0 = some ⟨b, o, none⟩ ∧ Pr.CellsAt w b (o + j * 3) (L.getD j Pr.zero) := by
      obtain ⟨a', c', e, _, _, hc⟩ := HPR.out
      obtain ⟨b', o', e2, hc⟩ := hc (by intro e; rw [e] at hjl; simp at hjl)
      simp at e
      exact ⟨b', o', by rw [e.1, e2], hc j hjl⟩
    rw [hjp] at hcj
    obtain ⟨rp, rs, ro⟩ := p
    obtain ⟨d0, d1, d2⟩ := hcj
    have hr1 := hR.s1
    have hr2 := hR.s2
    simp only at d0 d1 d2 HJ hr1 hr2
    have hji : (j : Int) < (L.length : Int) := by omega
    clear HF0 hlk HPR HRT hR hjp HIDX
    by_cases q1 : seq = rs
    · subst q1
      have HJ1 : Hid (jd L pid seq = (2, ro)) := by rw [Hid, HJ.out]; exact if_pos rfl
      rw [HJ1.out]
      clear HJ HJ1
      go_enter Tryd.func37, Tryd.ntmps37
      go_wp2_with fail
      refine HFI.out.mono ?_
      rintro e w1 ⟨rfl, rfl⟩
      go_wp2
      go_quiet (fail)
      go_wp2
      go_ret2
      exact ⟨rfl, ⟨rfl, rfl, rfl, (HBA.out _).size, (HBA.out _).block⟩⟩
    · have e1 : (seq == rs) = false := by simpa using q1
      by_cases q2 : seq < rs
      · have e2 : (seq == rs + 1) = false := by
          have : seq ≠ rs + 1 := by omega
          simpa using this
        have HJ1 : Hid (jd L pid seq = (3, 0)) := by rw [Hid, HJ.out]; rw [if_neg q1, if_pos q2]
        rw [HJ1.out]
        clear HJ HJ1
        go_enter Tryd.func37, Tryd.ntmps37
        go_wp2_with fail
        refine HFI.out.mono ?_
        rintro e w1 ⟨rfl, rfl⟩
        go_wp2
        go_ret2
        exact ⟨rfl, HBA.out _⟩
      · by_cases q3 : rs + 1 < seq
        · have e2 : (seq == rs + 1) = false := by
            have : seq ≠ rs + 1 := by omega
            simpa using this
          have HJ1 : Hid (jd L pid seq = (4, 0)) := by rw [Hid, HJ.out]; rw [if_neg q1, if_neg q2, if_pos q3]
          rw [HJ1.out]
          clear HJ HJ1
          go_enter Tryd.func37, Tryd.ntmps37
          go_wp2_with fail
          refine HFI.out.mono ?_
          rintro e w1 ⟨rfl, rfl⟩
          go_wp2
          go_ret2
          exact ⟨rfl, HBA.out _⟩
        · obtain rfl : seq = rs + 1 := by omega
          have HJ1 : Hid (jd L pid (rs + 1) = (1, 0)) := by rw [Hid, HJ.out]; rw [if_neg q1, if_neg q2, if_neg q3]
          rw [HJ1.out]
          clear HJ HJ1
          go_enter Tryd.func37, Tryd.ntmps37
          go_wp2_with fail
          refine HFI.out.mono ?_
          rintro e w1 ⟨rfl, rfl⟩
          go_wp2
          go_ret2
          exact ⟨rfl, HBA.out _⟩
end Go.Proofs.YtlbofjeopbadhaaDoor
