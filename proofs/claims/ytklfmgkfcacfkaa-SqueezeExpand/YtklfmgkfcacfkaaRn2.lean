import Derived.Test.YtklfmgkfcacfkaaRn
/-! The document's best. -/
namespace Go.Proofs.Ytklfmgkfcacfkaa
open Go.RowKit Plain
set_option linter.unusedVariables false
set_option linter.unusedSimpArgs false

set_option maxHeartbeats 1000000 in
theorem refBest (v : Value) (l : List Nat) (i : Nat) (w : World) (h : BytesAt w v l) (hl : l.length ≤ 4096) (hi : i < l.length) :
    Calls Try.prog 42 #[v, .int .i64 i] w fun e w' => ∃ n d : Nat, e = .returned (.tuple #[.int .i64 n, .int .i64 d]) ∧ Best l i d n ∧ ∃ m, w' = w.drewN m := by
  have HV : Hid (BytesAt w v l) := h
  obtain ⟨a, cap, rfl, hlc, hcm, -, -⟩ := h
  go_enter Try.func42, Try.ntmps42
  go_wp2
  go_loopw [6, 7, 8] (fun s6 s7 s8 w' => ∃ D m x q : Nat, w' = w.drewN q ∧ s6 = .int .i64 m ∧ s7 = .int .i64 x ∧ s8 = .int .i64 ((D + 1 : Nat) : Int) ∧ D ≤ i ∧ D ≤ 2048 ∧ m ≤ 258 ∧ i + m ≤ l.length ∧ Hid (RB l i D m x)) (fun _ _ s _ => 3000 - (intOf s).toNat)
  case atStart => exact ⟨0, 0, 0, 0, rfl, rfl, rfl, rfl, by omega, by omega, by omega, by omega, RB.zero l i⟩
  case round =>
    obtain ⟨D, m, x, q, rfl, rfl, rfl, rfl, hD1, hD2, hm1, hm2, HRB⟩ := hrel
    have endIt : ∀ (D m x : Nat), D ≤ i → D ≤ 2048 → RB l i D m x → ((∀ d, d ≤ i → d ≤ 2048 → d ≤ D) ∨ m = most l i) → (m < 5 → Best l i 0 0) ∧ (¬ m < 5 → Best l i x m) := fun D m x h1 h2 h3 h4 => by
      have := h3.best hi ⟨h1, h2⟩ h4
      constructor
      · intro h; rw [if_pos h] at this; exact this
      · intro h; rw [if_neg h] at this; exact this
    have HEND : Hid (∀ (D m x : Nat), D ≤ i → D ≤ 2048 → RB l i D m x → ((∀ d, d ≤ i → d ≤ 2048 → d ≤ D) ∨ m = most l i) → (m < 5 → Best l i 0 0) ∧ (¬ m < 5 → Best l i x m)) := endIt
    clear endIt
    obtain ⟨E, hE⟩ : ∃ E, D + 1 = E := ⟨_, rfl⟩
    rw [hE]
    by_cases hgo : E ≤ i ∧ E ≤ 2048
    · have h1 : (E : Int) ≤ (i : Int) := by omega
      have h2 : (E : Int) ≤ 2048 := by omega
      have HEE : Hid (D + 1 = E) := hE
      have hE1 : 1 ≤ E := by omega
      clear hE
      go_wp2_with fail
      refine (refLength _ l i E (w.drewN q) HV.out hl hi hE1 hgo.1).mono ?_
      rintro e w' ⟨n, rfl, hlen, m2, rfl⟩
      have hnle : n ≤ 258 ∧ i + n ≤ l.length := by have := hlen.1; unfold most at this; omega
      have HRM : Hid (m < n → RB l i E n E) := fun hh => by have h9 := HEE.out; subst h9; exact HRB.out.more hlen hh
      have HRS : Hid (¬ m < n → RB l i E m x) := fun hh => by have h9 := HEE.out; subst h9; exact HRB.out.same hlen hh
      clear hlen
      by_cases hmn : m < n
      · have HR1 : Hid (RB l i E n E) := HRM.out hmn
        clear HRM HRS HRB
        by_cases h258 : n = 258
        · have HF1 : Hid (((n) < 5 → Best l i 0 0) ∧ (¬ (n) < 5 → Best l i E n)) := HEND.out E n E hgo.1 hgo.2 HR1.out (.inr (by unfold most; omega))
          have e258 : (((n : Nat) : Int) == 258) = true := by simp; omega
          have h5' : ¬ (((n : Nat) : Int) < 5) := by omega
          have HB : Hid (Best l i E n) := HF1.out.2 (by omega)
          clear h258
          go_wp2
          go_ret2
          exact ⟨n, E, rfl, HB.out, _, rfl⟩
        · have e258 : (((n : Nat) : Int) == 258) = false := by simp; omega
          by_cases hfin : i + n = l.length
          · have HF1 : Hid (((n) < 5 → Best l i 0 0) ∧ (¬ (n) < 5 → Best l i E n)) := HEND.out E n E hgo.1 hgo.2 HR1.out (.inr (by unfold most; omega))
            have hfe : ((i : Int) + ((n : Nat) : Int) == (l.length : Int)) = true := by simp; omega
            by_cases h5 : n < 5
            · have HB : Hid (Best l i 0 0) := HF1.out.1 h5
              clear hfin
              go_wp2
              go_ret2
              exact ⟨0, 0, rfl, HB.out, _, rfl⟩
            · have HB : Hid (Best l i E n) := HF1.out.2 h5
              have h5' : ¬ (((n : Nat) : Int) < 5) := by omega
              clear hfin
              go_wp2
              go_ret2
              exact ⟨n, E, rfl, HB.out, _, rfl⟩
          · have hfe : ((i : Int) + ((n : Nat) : Int) == (l.length : Int)) = false := by simp; omega
            clear hfin
            go_wp2
            go_roundw
            case rel => exact ⟨E, n, E, _, rfl, rfl, rfl, by go_num, by omega, by omega, by omega, by omega, HR1.out⟩
            case measure => simp [intOf]; omega
      · have HR1 : Hid (RB l i E m x) := HRS.out hmn
        clear HRM HRS HRB
        by_cases h258 : m = 258
        · have HF1 : Hid (((m) < 5 → Best l i 0 0) ∧ (¬ (m) < 5 → Best l i x m)) := HEND.out E m x hgo.1 hgo.2 HR1.out (.inr (by unfold most; omega))
          have e258 : (((m : Nat) : Int) == 258) = true := by simp; omega
          have h5' : ¬ (((m : Nat) : Int) < 5) := by omega
          have HB : Hid (Best l i x m) := HF1.out.2 (by omega)
          clear h258
          go_wp2
          go_ret2
          exact ⟨m, x, rfl, HB.out, _, rfl⟩
        · have e258 : (((m : Nat) : Int) == 258) = false := by simp; omega
          by_cases hfin : i + m = l.length
          · have HF1 : Hid (((m) < 5 → Best l i 0 0) ∧ (¬ (m) < 5 → Best l i x m)) := HEND.out E m x hgo.1 hgo.2 HR1.out (.inr (by unfold most; omega))
            have hfe : ((i : Int) + ((m : Nat) : Int) == (l.length : Int)) = true := by simp; omega
            by_cases h5 : m < 5
            · have HB : Hid (Best l i 0 0) := HF1.out.1 h5
              clear hfin
              go_wp2
              go_ret2
              exact ⟨0, 0, rfl, HB.out, _, rfl⟩
            · have HB : Hid (Best l i x m) := HF1.out.2 h5
              have h5' : ¬ (((m : Nat) : Int) < 5) := by omega
              clear hfin
              go_wp2
              go_ret2
              exact ⟨m, x, rfl, HB.out, _, rfl⟩
          · have hfe : ((i : Int) + ((m : Nat) : Int) == (l.length : Int)) = false := by simp; omega
            clear hfin
            go_wp2
            go_roundw
            case rel => exact ⟨E, m, x, _, rfl, rfl, rfl, by go_num, by omega, by omega, by omega, by omega, HR1.out⟩
            case measure => simp [intOf]; omega
    · have HF := HEND.out D m x hD1 hD2 HRB.out (.inl (fun d h1 h2 => by omega))
      have HF1 : Hid ((m < 5 → Best l i 0 0) ∧ (¬ m < 5 → Best l i x m)) := HF
      clear HF
      by_cases hEi : E ≤ i
      · have h1 : (E : Int) ≤ (i : Int) := by omega
        have h2 : ¬ ((E : Int) ≤ 2048) := by omega
        clear hE hgo
        by_cases h5 : m < 5
        · have HB : Hid (Best l i 0 0) := HF1.out.1 h5
          go_wp2
          go_ret2
          exact ⟨0, 0, rfl, HB.out, _, rfl⟩
        · have HB : Hid (Best l i x m) := HF1.out.2 h5
          have h5' : ¬ (((m : Nat) : Int) < 5) := by omega
          go_wp2
          go_ret2
          exact ⟨m, x, rfl, HB.out, _, rfl⟩
      · have h1 : ¬ ((E : Int) ≤ (i : Int)) := by omega
        clear hE hgo
        by_cases h5 : m < 5
        · have HB : Hid (Best l i 0 0) := HF1.out.1 h5
          go_wp2
          go_ret2
          exact ⟨0, 0, rfl, HB.out, _, rfl⟩
        · have HB : Hid (Best l i x m) := HF1.out.2 h5
          have h5' : ¬ (((m : Nat) : Int) < 5) := by omega
          go_wp2
          go_ret2
          exact ⟨m, x, rfl, HB.out, _, rfl⟩
end Go.Proofs.Ytklfmgkfcacfkaa
