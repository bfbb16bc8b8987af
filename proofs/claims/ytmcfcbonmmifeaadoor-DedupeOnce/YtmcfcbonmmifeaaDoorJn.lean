import Derived.Test.YtmcfcbonmmifeaaDoorJm
/-! dedupe: Refuse, Note, Clone. -/
namespace Go.Proofs.YtmcfcbonmmifeaaDoor
open Go.RowKit Go.Maps Go.Shelf Plain
set_option linter.unusedVariables false
set_option linter.unusedSimpArgs false

/-- The errors of the verdicts lie where the program's text lays them. -/
structure Refs (w : World) : Prop where
  r0 : w.cell? ⟨0, 0, none⟩ = some (.int .i64 93)
  r1 : w.cell? ⟨0, 1, none⟩ = some (.int .i64 0)
  r2 : w.cell? ⟨0, 2, none⟩ = some (.int .i64 0)
  r3 : w.cell? ⟨0, 3, none⟩ = some (.int .i64 0)
  r4 : w.cell? ⟨0, 4, none⟩ = some (.int .i64 91)
  r5 : w.cell? ⟨0, 5, none⟩ = some (.int .i64 90)
  r6 : w.cell? ⟨0, 6, none⟩ = some (.int .i64 92)
theorem Refs.pos {w : World} (h : Refs w) : 0 < w.heap.size := cell_lt h.r0
theorem Refs.later {w w' : World} (h : Refs w) (hb : Below w.heap.size w w') : Refs w' := by
  have hc : ∀ j, w'.cell? ⟨0, j, none⟩ = w.cell? ⟨0, j, none⟩ := fun j => hb.cell (p := ⟨0, j, none⟩) h.pos
  exact ⟨by rw [hc]; exact h.r0, by rw [hc]; exact h.r1, by rw [hc]; exact h.r2, by rw [hc]; exact h.r3, by rw [hc]; exact h.r4, by rw [hc]; exact h.r5, by rw [hc]; exact h.r6⟩
set_option maxHeartbeats 4000000 in
theorem refuseOf (t : Nat) (m : Option Nat) (L : List Pr) (pid seq : Int) (w : World) (h : TabAt w t m L) (hF : Refs w) (hp : I64 pid) (hs : I64 seq) :
    Calls Tryd.prog 23 #[.pointer (some ⟨t, 0, none⟩), .int .i64 pid, .int .i64 seq] w fun e w' => e = .returned (.int .i64 (rfs (jd L pid seq).1)) ∧ Below w.heap.size w w' := by
  have HJ : Hid (Calls Tryd.prog 12 #[.pointer (some ⟨t, 0, none⟩), .int .i64 pid, .int .i64 seq] w fun e w' => e = .returned (.tuple #[.int .i64 (jd L pid seq).1, .int .i64 (jd L pid seq).2]) ∧ Below w.heap.size w w') := judgeOf t m L pid seq w h hp hs
  have HRF : Hid (Refs w) := hF
  have hcs := jd_cases L pid seq
  generalize jd L pid seq = J at HJ hcs ⊢
  obtain ⟨a, b⟩ := J
  simp only at HJ hcs ⊢
  clear h hp hs hF
  rcases hcs with rfl | rfl | rfl | rfl | rfl | rfl | rfl
  all_goals
    go_enter Tryd.func23, Tryd.ntmps23
    go_wp2_with fail
    refine HJ.out.mono ?_
    rintro e w1 ⟨rfl, hb⟩
    have HB : Hid (Below w.heap.size w w1) := hb
    obtain ⟨r0, r1, r2, r3, r4, r5, r6⟩ := HRF.out.later hb
    clear hb
    go_wp2
    go_ret
    exact ⟨by simp [rfs], HB.out⟩
set_option maxHeartbeats 4000000 in
theorem noteOf (t : Nat) (m : Option Nat) (L : List Pr) (pid seq off : Int) (w : World) (h : TabAt w t m L) (hF : Refs w) (hp : I64 pid) (hs : I64 seq) (ho : I64 off) :
    Calls Tryd.prog 14 #[.pointer (some ⟨t, 0, none⟩), .int .i64 pid, .int .i64 seq, .int .i64 off] w fun e w' => e = .returned (.int .i64 (noteE L pid seq off)) ∧ ∃ m', TabAt w' t m' (noteL L pid seq off) ∧ Chg (foot t m) w w' ∧ (m' = m ∨ (m = none ∧ ∃ b, m' = some b ∧ w.heap.size ≤ b)) := by
  have HTB : Hid (TabAt w t m L) := h
  have HRE : Hid (Calls Tryd.prog 23 #[.pointer (some ⟨t, 0, none⟩), .int .i64 pid, .int .i64 seq] w fun e w' => e = .returned (.int .i64 (rfs (jd L pid seq).1)) ∧ Below w.heap.size w w') := refuseOf t m L pid seq w h hF hp hs
  have HJU : Hid (∀ u, Below w.heap.size w u → Calls Tryd.prog 12 #[.pointer (some ⟨t, 0, none⟩), .int .i64 pid, .int .i64 seq] u fun e w' => e = .returned (.tuple #[.int .i64 (jd L pid seq).1, .int .i64 (jd L pid seq).2]) ∧ Below u.heap.size u w') := fun u hu => judgeOf t m L pid seq u (h.later hu) hp hs
  have HOF : Hid (∀ u, Calls Tryd.prog 21 #[.int .i64 off] u fun x w' => x = .returned (.bool (okOff off)) ∧ w' = u) := fun u => isOffsetOf off u
  have HKE : Hid (∀ u, Below w.heap.size w u → (jd L pid seq).1 = 1 → okOff off = true → Calls Tryd.prog 11 #[.pointer (some ⟨t, 0, none⟩), .agg #[.int .i64 pid, .int .i64 seq, .int .i64 off]] u fun e w' => e = .returned (.tuple #[]) ∧ ∃ m', TabAt w' t m' (layP L ⟨pid, seq, off⟩) ∧ Chg (foot t m) w w' ∧ (m' = m ∨ (m = none ∧ ∃ b, m' = some b ∧ w.heap.size ≤ b))) := fun u hu hj hoo => by
    obtain ⟨h1, h2⟩ := jd_fresh hj
    have a := (okNum_iff _ _).mp h1
    have b := (okOff_iff _).mp hoo
    refine (keepOf t m L ⟨pid, seq, off⟩ u (h.later hu) ⟨a.1, a.2.1, a.2.2.1, a.2.2.2, b.1, b.2⟩ h2).mono ?_
    rintro e w' ⟨rfl, m', h3, h4, h5⟩
    refine ⟨rfl, m', h3, (Chg.ofBelow hu).trans h4, ?_⟩
    rcases h5 with h5 | ⟨h5, b, h6, h7⟩
    · exact .inl h5
    · exact .inr ⟨h5, b, h6, Nat.le_trans hu.size h7⟩
  have HNE : Hid (noteE L pid seq off = if rfs (jd L pid seq).1 ≠ 0 then rfs (jd L pid seq).1 else if okOff off = false then 3 else 0) := rfl
  have HNL : Hid (noteL L pid seq off = if noteE L pid seq off = 0 ∧ (jd L pid seq).1 = 1 then layP L ⟨pid, seq, off⟩ else L) := rfl
  have HST : Hid (∀ u, Below w.heap.size w u → ∃ m', TabAt u t m' L ∧ Chg (foot t m) w u ∧ (m' = m ∨ (m = none ∧ ∃ b, m' = some b ∧ w.heap.size ≤ b))) := fun u hu => ⟨m, h.later hu, Chg.ofBelow hu, .inl rfl⟩
  generalize noteE L pid seq off = NE at HNE HNL ⊢
  generalize noteL L pid seq off = NL at HNL ⊢
  generalize jd L pid seq = J at HRE HJU HKE HNE HNL
  obtain ⟨a, b⟩ := J
  simp only at HRE HJU HKE HNE HNL
  generalize hR : rfs a = R at HRE HNE
  clear h hF hp hs ho
  by_cases hR0 : R = 0
  · subst hR0
    cases hoo : okOff off with
    | false =>
      have HE : Hid (NE = 3 ∧ NL = L) := by
        have h1 : NE = 3 := by rw [HNE.out, if_neg (by simp), if_pos hoo]
        exact ⟨h1, by rw [HNL.out, if_neg (by rw [h1]; simp)]⟩
      rw [hoo] at HOF
      clear HNE HNL
      go_enter Tryd.func14, Tryd.ntmps14
      go_wp2_with fail
      refine HRE.out.mono ?_
      rintro e w1 ⟨rfl, hb⟩
      have HB : Hid (Below w.heap.size w w1) := hb
      clear hb
      go_wp2_with fail
      refine (HOF.out _).mono ?_
      rintro e w2 ⟨rfl, rfl⟩
      go_wp2
      go_ret
      exact ⟨by rw [HE.out.1]; rfl, by rw [HE.out.2]; exact HST.out _ HB.out⟩
    | true =>
      have HE : Hid (NE = 0 ∧ NL = if a = 1 then layP L ⟨pid, seq, off⟩ else L) := by
        have h1 : NE = 0 := by rw [HNE.out, if_neg (by simp), if_neg (by simp [hoo])]
        exact ⟨h1, by rw [HNL.out, h1]; simp⟩
      rw [hoo] at HOF
      clear HNE HNL
      by_cases ha : a = 1
      · subst ha
        have HE1 : Hid (NE = 0 ∧ NL = layP L ⟨pid, seq, off⟩) := ⟨HE.out.1, by rw [HE.out.2, if_pos rfl]⟩
        have HKE1 : Hid (∀ u, Below w.heap.size w u → Calls Tryd.prog 11 #[.pointer (some ⟨t, 0, none⟩), .agg #[.int .i64 pid, .int .i64 seq, .int .i64 off]] u fun e w' => e = .returned (.tuple #[]) ∧ ∃ m', TabAt w' t m' (layP L ⟨pid, seq, off⟩) ∧ Chg (foot t m) w w' ∧ (m' = m ∨ (m = none ∧ ∃ b, m' = some b ∧ w.heap.size ≤ b))) := fun u hu => HKE.out u hu rfl hoo
        clear HE HKE
        go_enter Tryd.func14, Tryd.ntmps14
        go_wp2_with fail
        refine HRE.out.mono ?_
        rintro e w1 ⟨rfl, hb⟩
        have HB : Hid (Below w.heap.size w w1) := hb
        clear hb
        go_wp2_with fail
        refine (HOF.out _).mono ?_
        rintro e w2 ⟨rfl, rfl⟩
        go_wp2_with fail
        refine (HJU.out _ HB.out).mono ?_
        rintro e w2 ⟨rfl, hb⟩
        have HB2 : Hid (Below w.heap.size w w2) := below_step HB.out hb
        clear hb
        go_wp2_with fail
        refine (HKE1.out _ HB2.out).mono ?_
        rintro e w3 ⟨rfl, hk⟩
        have HK : Hid (∃ m', TabAt w3 t m' (layP L ⟨pid, seq, off⟩) ∧ Chg (foot t m) w w3 ∧ (m' = m ∨ (m = none ∧ ∃ b, m' = some b ∧ w.heap.size ≤ b))) := hk
        clear hk
        go_wp2
        go_ret
        exact ⟨by rw [HE1.out.1]; rfl, by rw [HE1.out.2]; exact HK.out⟩
      · have ha' : (a == 1) = false := by simpa using ha
        go_enter Tryd.func14, Tryd.ntmps14
        go_wp2_with fail
        refine HRE.out.mono ?_
        rintro e w1 ⟨rfl, hb⟩
        have HB : Hid (Below w.heap.size w w1) := hb
        clear hb
        go_wp2_with fail
        refine (HOF.out _).mono ?_
        rintro e w2 ⟨rfl, rfl⟩
        go_wp2_with fail
        refine (HJU.out _ HB.out).mono ?_
        rintro e w2 ⟨rfl, hb⟩
        have HB2 : Hid (Below w.heap.size w w2) := below_step HB.out hb
        clear hb
        go_wp2
        go_ret
        exact ⟨by rw [HE.out.1]; rfl, by rw [HE.out.2, if_neg ha]; exact HST.out _ HB2.out⟩
  · have hR' : (R == 0) = false := by simpa using hR0
    have HE : Hid (NE = R ∧ NL = L) := by
      have h1 : NE = R := by rw [HNE.out, if_pos hR0]
      exact ⟨h1, by rw [HNL.out, if_neg (by rw [h1]; simp [hR0])]⟩
    clear HNE HNL hR
    go_enter Tryd.func14, Tryd.ntmps14
    go_wp2_with fail
    refine HRE.out.mono ?_
    rintro e w1 ⟨rfl, hb⟩
    have HB : Hid (Below w.heap.size w w1) := hb
    clear hb
    go_wp2
    go_ret
    exact ⟨by rw [HE.out.1]; rfl, by rw [HE.out.2]; exact HST.out _ HB.out⟩

end Go.Proofs.YtmcfcbonmmifeaaDoor
