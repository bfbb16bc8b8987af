import Derived.Test.YtmcfcbonmmifeaaDoorJg
import Derived.Test.YtmcfcbonmmifeaaDoorJj
import Derived.Lib.LaidTab
/-! dedupe: Judge, Refuse, Note, Clone. -/
namespace Go.Proofs.YtmcfcbonmmifeaaDoor
open Go.RowKit Go.Maps Plain
set_option linter.unusedVariables false
set_option linter.unusedSimpArgs false

theorem jd_free (L : List Pr) : jd L 0 0 = (0, 0) := by unfold jd; simp
theorem jd_bad {L : List Pr} {pid seq : Int} (h0 : ¬ (pid = 0 ∧ seq = 0)) (h : okNum pid seq = false) : jd L pid seq = (-1, 0) := by unfold jd; rw [if_neg h0, if_pos h]
theorem okNum_nz {pid seq : Int} (h : okNum pid seq = true) : ¬ (pid = 0 ∧ seq = 0) := by
  rintro ⟨rfl, rfl⟩
  simp [okNum] at h
theorem jd_some {L : List Pr} {pid seq : Int} {p : Pr} (h : okNum pid seq = true) (hl : lookP L pid = some p) : jd L pid seq = if seq = p.seq then (2, p.off) else if seq < p.seq then (3, 0) else if p.seq + 1 < seq then (4, 0) else (1, 0) := by
  unfold jd; rw [if_neg (okNum_nz h), if_neg (by simp [h]), hl]
theorem jd_none {L : List Pr} {pid seq : Int} (h : okNum pid seq = true) (hl : lookP L pid = none) : jd L pid seq = if 1 < seq then (4, 0) else if 64 ≤ L.length then (5, 0) else (1, 0) := by
  unfold jd; rw [if_neg (okNum_nz h), if_neg (by simp [h]), hl]

set_option maxHeartbeats 4000000 in
set_option maxRecDepth 100000 in
theorem judgeOf (t : Nat) (m : Option Nat) (L : List Pr) (pid seq : Int) (w : World) (h : TabAt w t m L) (hp : I64 pid) (hs : I64 seq) :
    Calls Tryd.prog 12 #[.pointer (some ⟨t, 0, none⟩), .int .i64 pid, .int .i64 seq] w fun e w' => e = .returned (.tuple #[.int .i64 (jd L pid seq).1, .int .i64 (jd L pid seq).2]) ∧ Below w.heap.size w w' := by
  have HTB : Hid (TabAt w t m L) := h
  have hct := h.cell
  have hrun := lookQ w m L h.map pid hp
  have HNUM : Hid (∀ u, Calls Tryd.prog 20 #[.int .i64 pid, .int .i64 seq] u fun x w' => x = .returned (.bool (okNum pid seq)) ∧ w' = u) := fun u => isNumberedOf pid seq u
  have HFU : Hid (∀ u, Below w.heap.size w u → Calls Tryd.prog 22 #[.pointer (some ⟨t, 0, none⟩)] u fun x w' => x = .returned (.bool (decide (64 ≤ L.length))) ∧ w' = u) := fun u hu => isFullOf t m L u (HTB.out.later hu)
  have HBA : Hid (∀ o, Below w.heap.size w (w.alloc o)) := fun o => (Below.refl _ _).alloc (Nat.le_refl _) _
  have HRT : Hid (∀ p, p ∈ L → p.Right) := h.tab.right
  unfold I64 at hs hp
  clear h
  by_cases h0 : pid = 0 ∧ seq = 0
  · obtain ⟨rfl, rfl⟩ := h0
    rw [jd_free]
    clear hrun
    go_enter Tryd.func12, Tryd.ntmps12
    go_wp2
    go_ret2
    exact ⟨rfl, Below.refl _ _⟩
  · have hor : pid = 0 → (seq == 0) = false := fun e => by
      have : seq ≠ 0 := fun e2 => h0 ⟨e, e2⟩
      simpa using this
    cases hn : okNum pid seq with
    | false =>
      rw [jd_bad h0 hn]
      rw [hn] at HNUM
      clear hrun
      by_cases hp0 : pid = 0
      · subst hp0
        have e0 := hor rfl
        go_enter Tryd.func12, Tryd.ntmps12
        go_wp2_with fail
        refine (HNUM.out _).mono ?_
        rintro e w1 ⟨rfl, rfl⟩
        go_wp2
        go_ret2
        exact ⟨rfl, Below.refl _ _⟩
      · have e0 : (pid == 0) = false := by simpa using hp0
        go_enter Tryd.func12, Tryd.ntmps12
        go_wp2_with fail
        refine (HNUM.out _).mono ?_
        rintro e w1 ⟨rfl, rfl⟩
        go_wp2
        go_ret2
        exact ⟨rfl, Below.refl _ _⟩
    | true =>
      have hnn := (okNum_iff pid seq).mp hn
      have hp0 : pid ≠ 0 := by omega
      have e0 : (pid == 0) = false := by simpa using hp0
      rw [hn] at HNUM
      cases hlk : lookP L pid with
      | some p =>
        have hprf : prOf L pid = p := by unfold prOf; rw [hlk]; rfl
        rw [hprf, hlk] at hrun
        have hR := HRT.out p (lookP_some hlk).1
        have HJ : Hid (jd L pid seq = _) := jd_some hn hlk
        generalize jd L pid seq = J at HJ ⊢
        obtain ⟨rp, rs, ro⟩ := p
        simp only [Option.isSome_some] at hrun HJ
        have hr1 := hR.s1
        have hr2 := hR.s2
        simp only at hr1 hr2
        clear hlk hprf hR HRT hn
        by_cases q1 : seq = rs
        · subst q1
          have HJ1 : Hid (J = (2, ro)) := by rw [Hid, HJ.out, if_pos rfl]
          clear HJ
          go_enter Tryd.func12, Tryd.ntmps12
          go_wp2_with fail
          refine (HNUM.out _).mono ?_
          rintro e w1 ⟨rfl, rfl⟩
          go_wp2
          go_quiet (fail)
          go_wp2
          go_ret2
          refine ⟨by rw [HJ1.out]; rfl, ?_⟩
          exact ⟨rfl, rfl, rfl, (HBA.out _).size, (HBA.out _).block⟩
        · have e1 : (seq == rs) = false := by simpa using q1
          by_cases q2 : seq < rs
          · have HJ1 : Hid (J = (3, 0)) := by rw [Hid, HJ.out, if_neg q1, if_pos q2]
            clear HJ
            go_enter Tryd.func12, Tryd.ntmps12
            go_wp2_with fail
            refine (HNUM.out _).mono ?_
            rintro e w1 ⟨rfl, rfl⟩
            go_wp2
            go_ret2
            exact ⟨by rw [HJ1.out]; rfl, HBA.out _⟩
          · by_cases q3 : rs + 1 < seq
            · have HJ1 : Hid (J = (4, 0)) := by rw [Hid, HJ.out, if_neg q1, if_neg q2, if_pos q3]
              clear HJ
              go_enter Tryd.func12, Tryd.ntmps12
              go_wp2_with fail
              refine (HNUM.out _).mono ?_
              rintro e w1 ⟨rfl, rfl⟩
              go_wp2
              go_ret2
              exact ⟨by rw [HJ1.out]; rfl, HBA.out _⟩
            · have HJ1 : Hid (J = (1, 0)) := by rw [Hid, HJ.out, if_neg q1, if_neg q2, if_neg q3]
              clear HJ
              go_enter Tryd.func12, Tryd.ntmps12
              go_wp2_with fail
              refine (HNUM.out _).mono ?_
              rintro e w1 ⟨rfl, rfl⟩
              go_wp2
              go_ret2
              exact ⟨by rw [HJ1.out]; rfl, HBA.out _⟩
      | none =>
        have hprf : prOf L pid = Pr.zero := by unfold prOf; rw [hlk]; rfl
        rw [hprf, hlk] at hrun
        simp only [Option.isSome_none, Pr.zero] at hrun
        have HJ : Hid (jd L pid seq = _) := jd_none hn hlk
        generalize jd L pid seq = J at HJ ⊢
        have e1 : (seq == 0) = false := by
          have : seq ≠ 0 := by omega
          simpa using this
        clear hlk hprf HRT hn
        by_cases q3 : 1 < seq
        · have HJ1 : Hid (J = (4, 0)) := by rw [Hid, HJ.out, if_pos q3]
          clear HJ
          go_enter Tryd.func12, Tryd.ntmps12
          go_wp2_with fail
          refine (HNUM.out _).mono ?_
          rintro e w1 ⟨rfl, rfl⟩
          go_wp2
          go_ret2
          exact ⟨by rw [HJ1.out]; rfl, HBA.out _⟩
        · by_cases q4 : 64 ≤ L.length
          · have HJ1 : Hid (J = (5, 0)) := by rw [Hid, HJ.out, if_neg q3, if_pos q4]
            rw [decide_eq_true q4] at HFU
            clear HJ
            go_enter Tryd.func12, Tryd.ntmps12
            go_wp2_with fail
            refine (HNUM.out _).mono ?_
            rintro e w1 ⟨rfl, rfl⟩
            go_wp2_with fail
            refine (HFU.out _ (HBA.out _)).mono ?_
            rintro e w1 ⟨rfl, rfl⟩
            go_wp2
            go_ret2
            exact ⟨by rw [HJ1.out]; rfl, HBA.out _⟩
          · have HJ1 : Hid (J = (1, 0)) := by rw [Hid, HJ.out, if_neg q3, if_neg q4]
            rw [decide_eq_false q4] at HFU
            clear HJ
            go_enter Tryd.func12, Tryd.ntmps12
            go_wp2_with fail
            refine (HNUM.out _).mono ?_
            rintro e w1 ⟨rfl, rfl⟩
            go_wp2_with fail
            refine (HFU.out _ (HBA.out _)).mono ?_
            rintro e w1 ⟨rfl, rfl⟩
            go_wp2
            go_ret2
            exact ⟨by rw [HJ1.out]; rfl, HBA.out _⟩
end Go.Proofs.YtmcfcbonmmifeaaDoor
