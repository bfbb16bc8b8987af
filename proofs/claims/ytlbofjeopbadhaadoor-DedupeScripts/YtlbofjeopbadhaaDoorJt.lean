import Derived.Test.YtlbofjeopbadhaaDoorJro
import Derived.Test.YtlbofjeopbadhaaDoorJf
/-! dedupe: the document's Right, find, laid. -/
namespace Go.Proofs.YtlbofjeopbadhaaDoor
open Go.RowKit Go.Maps Plain
set_option linter.unusedVariables false
set_option linter.unusedSimpArgs false

theorem rr_bad {z xp xs xo : Int} (h : xp ≤ z ∨ 4294967296 ≤ xp ∨ xs < 1 ∨ 1099511627776 ≤ xs ∨ xo < 0 ∨ 1099511627776 ≤ xo) : (decide (z < xp) && Pr.rightB ⟨xp, xs, xo⟩) = false := by
  rw [Bool.eq_false_iff]
  intro e
  rw [Bool.and_eq_true, decide_eq_true_eq, Pr.rightB_iff] at e
  obtain ⟨e1, p1, p2, s1, s2, o1, o2⟩ := e
  simp only at p1 p2 s1 s2 o1 o2
  omega
theorem rr_good {z xp xs xo : Int} (h : 0 ≤ z ∧ z < xp ∧ xp < 4294967296 ∧ 1 ≤ xs ∧ xs < 1099511627776 ∧ 0 ≤ xo ∧ xo < 1099511627776) : (decide (z < xp) && Pr.rightB ⟨xp, xs, xo⟩) = true := by
  rw [Bool.and_eq_true, decide_eq_true_eq, Pr.rightB_iff]
  exact ⟨h.2.1, by show 1 ≤ xp; omega, by show xp ≤ _; omega, by show 1 ≤ xs; omega, by show xs ≤ _; omega, by show 0 ≤ xo; omega, by show xo ≤ _; omega⟩
set_option maxHeartbeats 4000000 in
theorem rrightOf (v : Value) (ps : List Pr) (w : World) (h : PrsAt w v ps) : Calls Tryd.prog 36 #[v] w fun e w' => e = .returned (.bool (okL ps)) ∧ Below w.heap.size w w' := by
  obtain ⟨a, cap, rfl, hcl, hok, hcells⟩ := h
  have HC : Hid (∀ u m, Below w.heap.size w u → m < ps.length → ∃ b off, a = some ⟨b, off, none⟩ ∧ Pr.CellsAt u b (off + m * 3) (ps.getD m Pr.zero)) := fun u m hu hm => by
    obtain ⟨b, off, e, hc⟩ := hcells (by intro e; rw [e] at hm; simp at hm)
    exact ⟨b, off, e, (hc m hm).block (hu.block _ (hc m hm).lt)⟩
  clear hcells hok
  by_cases h64 : (64 : Int) < (ps.length : Int)
  · have HE : Hid (okL ps = false) := by
      unfold Hid okL
      rw [decide_eq_false (by omega)]; rfl
    go_enter Tryd.func36, Tryd.ntmps36
    go_wp2
    go_ret
    exact ⟨by rw [HE.out]; rfl, Below.refl _ _⟩
  · have HE : Hid (okL ps = riseB 0 ps) := by
      unfold Hid okL
      rw [decide_eq_true (by omega)]; rfl
    go_enter Tryd.func36, Tryd.ntmps36
    go_wp2
    go_loopw [3, 4] (fun s3 i wr => ∃ (k : Nat) (z : Int), k ≤ ps.length ∧ 0 ≤ z ∧ s3 = .int .i64 z ∧ i = .int .i64 k ∧ Hid (riseB 0 ps = riseB z (ps.drop k)) ∧ Hid (Below w.heap.size w wr))
      (fun _ i _ => ps.length - (intOf i).toNat)
    case atStart => exact ⟨0, 0, Nat.zero_le _, Int.le_refl _, rfl, rfl, rfl, Below.refl _ _⟩
    case round =>
      obtain ⟨k, z, hk, hz0, rfl, rfl, HR, HB⟩ := hrel
      by_cases hlt : k < ps.length
      · obtain ⟨b, off, rfl, hc⟩ := HC.out wr k HB.out hlt
        have HRS := riseB_cons hlt z
        generalize ps.getD k Pr.zero = x at hc HRS
        have HR2 : Hid (riseB 0 ps = (decide (z < x.pid) && x.rightB && riseB x.pid (ps.drop (k + 1)))) := HR.out.trans HRS
        obtain ⟨xp, xs, xo⟩ := x
        obtain ⟨c0, c1, c2⟩ := hc
        simp only at c0 c1 c2 HR2
        clear HRS HR
        have hki : (k : Int) < (ps.length : Int) := by omega
        have HB2 : Hid (∀ o, Below w.heap.size w (wr.alloc o)) := fun o => below_step HB.out ((Below.refl _ _).alloc (Nat.le_refl _) _)
        by_cases q0 : xp ≤ z
        · have HF : Hid (riseB 0 ps = false) := by
            rw [Hid, HR2.out, rr_bad (by omega)]; rfl
          clear HR2
          go_wp2
          go_ret
          exact ⟨by rw [HE.out, HF.out]; rfl, HB2.out _⟩
        · by_cases q1 : 4294967296 ≤ xp
          · have HF : Hid (riseB 0 ps = false) := by
              rw [Hid, HR2.out, rr_bad (by omega)]; rfl
            clear HR2
            go_wp2
            go_ret
            exact ⟨by rw [HE.out, HF.out]; rfl, HB2.out _⟩
          · by_cases q2 : xs < 1
            · have HF : Hid (riseB 0 ps = false) := by
                rw [Hid, HR2.out, rr_bad (by omega)]; rfl
              clear HR2
              go_wp2
              go_ret
              exact ⟨by rw [HE.out, HF.out]; rfl, HB2.out _⟩
            · by_cases q3 : 1099511627776 ≤ xs
              · have HF : Hid (riseB 0 ps = false) := by
                  rw [Hid, HR2.out, rr_bad (by omega)]; rfl
                clear HR2
                go_wp2
                go_ret
                exact ⟨by rw [HE.out, HF.out]; rfl, HB2.out _⟩
              · by_cases q4 : xo < 0
                · have HF : Hid (riseB 0 ps = false) := by
                    rw [Hid, HR2.out, rr_bad (by omega)]; rfl
                  clear HR2
                  go_wp2
                  go_ret
                  exact ⟨by rw [HE.out, HF.out]; rfl, HB2.out _⟩
                · by_cases q5 : 1099511627776 ≤ xo
                  · have HF : Hid (riseB 0 ps = false) := by
                      rw [Hid, HR2.out, rr_bad (by omega)]; rfl
                    clear HR2
                    go_wp2
                    go_ret
                    exact ⟨by rw [HE.out, HF.out]; rfl, HB2.out _⟩
                  · have HF : Hid (riseB 0 ps = riseB xp (ps.drop (k + 1))) := by
                      rw [Hid, HR2.out, rr_good (by omega)]; rfl
                    clear HR2
                    go_wp2
                    go_roundw
                    case rel => exact ⟨k + 1, xp, by omega, by omega, rfl, by go_num, HF.out, HB2.out _⟩
                    case measure => simp [intOf]; omega
      · obtain rfl : k = ps.length := by omega
        have HF : Hid (riseB 0 ps = true) := by
          rw [Hid, HR.out, List.drop_length]; rfl
        clear HR HC
        go_wp2
        go_ret
        exact ⟨by rw [HE.out, HF.out]; rfl, HB.out⟩

theorem lookP_drop {L : List Pr} {k : Nat} {pid : Int} (h : k < L.length) : lookP (L.drop k) pid = if (L.getD k Pr.zero).pid = pid then some (L.getD k Pr.zero) else lookP (L.drop (k + 1)) pid := by
  unfold lookP
  rw [List.drop_eq_getElem_cons h, List.find?_cons]
  have e : L.getD k Pr.zero = L[k] := by simp [h]
  rw [e]
  by_cases hp : L[k].pid = pid
  · simp [hp]
  · have : (L[k].pid == pid) = false := by simpa using hp
    rw [this, if_neg hp]
/-- What find answers. -/
def FindIs (L : List Pr) (pid z : Int) : Prop := (z = -1 ∧ lookP L pid = none) ∨ ∃ k : Nat, z = k ∧ k < L.length ∧ lookP L pid = some (L.getD k Pr.zero)
set_option maxHeartbeats 2000000 in
theorem rfindOf (v : Value) (L : List Pr) (pid : Int) (w : World) (h : PrsAt w v L) : Calls Tryd.prog 47 #[v, .int .i64 pid] w fun e w' => ∃ z, e = .returned (.int .i64 z) ∧ FindIs L pid z ∧ w' = w := by
  obtain ⟨a, cap, rfl, hcl, hok, hcells⟩ := h
  have HC : Hid (∀ m, m < L.length → ∃ b off, a = some ⟨b, off, none⟩ ∧ Pr.CellsAt w b (off + m * 3) (L.getD m Pr.zero)) := fun m hm => by
    obtain ⟨b, off, e, hc⟩ := hcells (by intro e; rw [e] at hm; simp at hm)
    exact ⟨b, off, e, hc m hm⟩
  clear hcells hok
  go_enter Tryd.func47, Tryd.ntmps47
  go_wp2
  go_loopw [5] (fun i wr => ∃ (k : Nat), wr = w ∧ k ≤ L.length ∧ i = .int .i64 k ∧ Hid (lookP L pid = lookP (L.drop k) pid))
    (fun i _ => L.length - (intOf i).toNat)
  case atStart => exact ⟨0, by first | rfl | trivial, Nat.zero_le _, rfl, rfl⟩
  case round =>
    obtain ⟨k, rfl, hk, rfl, HL⟩ := hrel
    by_cases hlt : k < L.length
    · obtain ⟨b, off, rfl, hc⟩ := HC.out k hlt
      have HS : Hid (_ = _) := lookP_drop (pid := pid) hlt
      have HX : Hid (∃ x, L.getD k Pr.zero = x) := ⟨_, rfl⟩
      generalize hx : L.getD k Pr.zero = x at hc HS
      obtain ⟨xp, xs, xo⟩ := x
      have HG : Hid (L.getD k Pr.zero = ⟨xp, xs, xo⟩) := hx
      clear hx
      obtain ⟨c0, c1, c2⟩ := hc
      simp only at c0 c1 c2 HS
      have hki : (k : Int) < (L.length : Int) := by omega
      by_cases hp : xp = pid
      · subst hp
        have HF : Hid (FindIs L xp (k : Int)) := .inr ⟨k, rfl, hlt, by rw [HL.out, HS.out, if_pos rfl, HG.out]⟩
        clear HL HS HX HG
        go_wp2
        go_ret
        exact ⟨_, rfl, HF.out, rfl⟩
      · have hp' : (xp == pid) = false := by simpa using hp
        have HF : Hid (lookP L pid = lookP (L.drop (k + 1)) pid) := by rw [Hid, HL.out, HS.out, if_neg hp]
        clear HL HS HX HG
        go_wp2
        go_roundw
        case rel => exact ⟨k + 1, by first | rfl | trivial, by omega, by go_num, HF.out⟩
        case measure => simp [intOf]; omega
    · obtain rfl : k = L.length := by omega
      have HF : Hid (FindIs L pid (-1)) := .inl ⟨rfl, by rw [HL.out, List.drop_length]; rfl⟩
      clear HL HC
      go_wp2
      go_ret
      exact ⟨_, rfl, HF.out, rfl⟩
end Go.Proofs.YtlbofjeopbadhaaDoor
