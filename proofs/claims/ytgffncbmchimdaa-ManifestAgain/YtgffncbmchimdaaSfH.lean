import Derived.Test.YtgffncbmchimdaaSfG
/-! Truncate; sizes. -/
namespace Go.Proofs.Ytgffncbmchimdaa
open Go.RowKit Go.Maps Plain
set_option linter.unusedVariables false
set_option linter.unusedSimpArgs false

theorem St.fcell {S : Nat → Prop} {w w1 : World} {d G : Nat} {k : Dk} (h : St S w d k w1) (hG : k.live G) : ∃ a c, w1.cell? ⟨G, 0, none⟩ = some (.slice a (k.file G).seen.length c) ∧ (k.file G).seen.length ≤ c ∧ c ≤ 2 ^ 63 - 1 ∧ BytesAt w1 (.slice a (k.file G).seen.length c) (k.file G).seen := by
  obtain ⟨ms, md, vc, rc, Sf, hm⟩ := h.at
  obtain ⟨vs, vd, vc, rs, rd, rc, vals, blk, hf, _⟩ := hm.files G hG
  obtain ⟨c0, _⟩ := fcells hf.blkG
  obtain ⟨a, nn, c, rfl⟩ := isSliceO hf.seen
  have e := own_len hf.seen
  obtain ⟨q1, q2⟩ := own_cap hf.seen
  have hb := hf.seen.bytes
  rw [← e] at c0 q1 hb
  exact ⟨a, c, c0, q1, q2, hb⟩

def truncK (k : Dk) (s : ByteArray) (n : Int) : Int × Dk := if (fnd k.dead k.L s).2 = 0 then (match look k.L s.data.toList with
    | some G => if n < 0 ∨ n > (k.file G).seen.length then (3, k) else if k.can then (0, (k.spent.uses (k.used - ((k.file G).seen.length - n))).setFile G ((k.file G).trim n.toNat)) else (34, k.spent)
    | none => (31, k)) else ((fnd k.dead k.L s).2, k)

set_option maxHeartbeats 4000000 in
set_option maxRecDepth 1000000 in
theorem truncOf (d : Nat) (k : Dk) (n : Nat) (S : Nat → Prop) (s : ByteArray) (hs : s.size ≤ maxLen) (m : Int) (hm1 : -9223372036854775808 ≤ m) (hm2 : m ≤ 9223372036854775807) (w : World) (h : DiskAt w d k S) (hk : k.Ok n) (hu : k.Uok) (hn : n ≤ 4398046511103) : Calls Try.prog 26 #[.pointer (some ⟨d, 0, none⟩), .string s, .int .i64 m] w (OpPost d (truncK k s m) S w) := by
  have HB1 : Hid (Below w.heap.size w (w.alloc (.cells #[.string s] 9))) := (Below.refl _ _).alloc (Nat.le_refl _) _
  have HFD : Hid (Calls Try.prog 31 #[.pointer (some ⟨d, 0, none⟩), .string s] w fun e w' => e = .returned (.tuple #[(fnd k.dead k.L s).1, .int .i64 (fnd k.dead k.L s).2]) ∧ w' = w.alloc (.cells #[.string s] 9)) := findSt (St.start h) s hs
  have HS : Hid (St S w d k (w.alloc (.cells #[.string s] 9))) := (St.start h).below HB1.out
  have HK : Hid (k.Ok n) := hk
  obtain ⟨u1, u2⟩ := hu.used
  obtain ⟨W1, hW1⟩ : ∃ W1, w.alloc (.cells #[.string s] 9) = W1 := ⟨_, rfl⟩
  rw [hW1] at HFD HB1 HS
  clear hW1 h
  by_cases h0 : (fnd k.dead k.L s).2 = 0
  · obtain ⟨G, hl, hfe⟩ := fnd_ok h0
    rw [hfe] at HFD
    have HLG : Hid (k.live G) := hk.refs _ (look_mem hl)
    have HFO : Hid (k.file G).Ok := (hk.fok G HLG.out).1
    have q3 : ((k.file G).seen.length : Int) ≤ k.used := hu.each _ (look_mem hl)
    obtain ⟨fa, fc, g0, g1, g2, _⟩ := HS.out.fcell HLG.out
    have HC : Hid (∀ w', St S w d k.spent w' → w'.cell? ⟨d, 3, none⟩ = some (.int .i64 k.used) ∧ w'.frozen? ⟨d, 3, none⟩ = false ∧ ∃ a c, w'.cell? ⟨G, 0, none⟩ = some (.slice a (k.file G).seen.length c) ∧ (k.file G).seen.length ≤ c ∧ c ≤ 2 ^ 63 - 1) := fun w' h' => by
      obtain ⟨a, c, h1, h2, h3, _⟩ := h'.fcell (G := G) HLG.out
      exact ⟨h'.cells.1, h'.cells.2.2, a, c, h1, h2, h3⟩
    have HSP : Hid (Calls Try.prog 32 #[.pointer (some ⟨d, 0, none⟩)] W1 fun e w' => e = .returned (.bool k.can) ∧ St S w d k.spent w') := SpendAfter HS.out hk hn
    clear hk hu
    obtain ⟨U, hU⟩ : ∃ U, k.used = U := ⟨_, rfl⟩
    obtain ⟨N, hN⟩ : ∃ N, (k.file G).seen.length = N := ⟨_, rfl⟩
    rw [hU] at u1 u2 q3 HC
    rw [hN] at q3 g0 g1 HC
    have HN : Hid ((k.file G).seen.length = N) := hN
    by_cases hbad : m < 0 ∨ m > N
    · have HE : Hid (truncK k s m = (3, k)) := by unfold Hid truncK; rw [if_pos h0, hl]; simp only [hN, if_pos hbad]
      rw [HE.out]
      clear h0 hl hfe hU hN HSP HC
      go_enter Try.func26, Try.ntmps26
      go_wp2_with fail
      refine HFD.out.mono ?_
      rintro e w1 ⟨rfl, rfl⟩
      rcases hbad with hbad | hbad
      · go_wp2
        go_ret
        exact ⟨rfl, HS.out⟩
      · by_cases hneg : m < 0
        · go_wp2
          go_ret
          exact ⟨rfl, HS.out⟩
        · go_wp2
          go_ret
          exact ⟨rfl, HS.out⟩
    · have b1 : 0 ≤ m := by omega
      have b2 : m ≤ N := by omega
      obtain ⟨M, rfl⟩ : ∃ M : Nat, m = M := ⟨m.toNat, by omega⟩
      have HAP : Hid (truncK k s (M : Int) = if k.can then (0, (k.spent.uses (U - (N - M))).setFile G ((k.file G).trim M)) else (34, k.spent)) := by
        unfold Hid truncK; rw [if_pos h0, hl]; simp only [hN, hU, if_neg hbad, Int.toNat_natCast]
      clear h0 hl hfe hU hN hbad
      cases hc : k.can with
      | false =>
        rw [HAP.out, hc, if_neg (by simp)]
        rw [hc] at HSP
        clear hc HAP HC
        go_enter Try.func26, Try.ntmps26
        go_wp2_with fail
        refine HFD.out.mono ?_
        rintro e w1 ⟨rfl, rfl⟩
        go_wp2_with fail
        refine HSP.out.mono ?_
        rintro e w2 ⟨rfl, hs2⟩
        have HS2 : Hid (St S w d k.spent w2) := hs2
        clear hs2
        go_wp2
        go_ret
        exact ⟨rfl, HS2.out⟩
      | true =>
        rw [HAP.out, hc, if_pos rfl]
        rw [hc] at HSP
        clear hc HAP
        go_enter Try.func26, Try.ntmps26
        go_wp2_with fail
        refine HFD.out.mono ?_
        rintro e w1 ⟨rfl, rfl⟩
        go_wp2_with fail
        refine HSP.out.mono ?_
        rintro e w2 ⟨rfl, hs2⟩
        obtain ⟨d3, y3, fa2, fc2, e0, e1, e2⟩ := HC.out w2 hs2
        have HS3 : Hid (St S w d (k.spent.uses (U - (N - M))) (w2.drew.setCell ⟨d, 3, none⟩ (.int .i64 (U - (N - M))))) := usesSt (hs2.below (Below.refl _ _).drew) _
        have HDO : Hid (Calls Try.prog 50 #[.pointer (some ⟨G, 0, none⟩), .iface 107 (.agg #[.int .i64 ((M : Nat) : Int)])] (w2.drew.setCell ⟨d, 3, none⟩ (.int .i64 (U - (N - M)))) fun e w4 => e = .returned (.tuple #[]) ∧ St S w d ((k.spent.uses (U - (N - M))).setFile G ((k.file G).trim M)) w4) := cutSt HS3.out HLG.out HFO.out M (by have := HN.out; show M ≤ (k.file G).seen.length; omega)
        clear hs2 HS3 HC HSP
        go_wp2
        go_region
        all_goals
          go_wp2_with fail
          refine HDO.out.mono ?_
          rintro e w4 ⟨rfl, hs4⟩
          have HS4 : Hid (St S w d ((k.spent.uses (U - (N - M))).setFile G ((k.file G).trim M)) w4) := hs4
          clear hs4
          go_wp2
          go_ret
          exact ⟨rfl, HS4.out⟩
  · have HE : Hid (truncK k s m = ((fnd k.dead k.L s).2, k)) := by unfold Hid truncK; rw [if_neg h0]
    rw [HE.out]
    have hp := fnd_bad h0
    rw [hp] at HFD
    obtain ⟨z, hz⟩ : ∃ z, (fnd k.dead k.L s).2 = z := ⟨_, rfl⟩
    rw [hz] at HFD h0 ⊢
    have hne : (z != 0) = true := by simpa using h0
    have hne2 : (z == 0) = false := beq_eq_false_iff_ne.mpr h0
    clear hz hp h0 hk hu u1 u2
    go_enter Try.func26, Try.ntmps26
    go_wp2_with fail
    refine HFD.out.mono ?_
    rintro e w1 ⟨rfl, rfl⟩
    go_wp2
    go_ret
    exact ⟨rfl, HS.out⟩

/-- The bytes that a name leads to; none, if it leads to no file. -/
def sizeK (k : Dk) (s : ByteArray) : Nat := (look k.L s.data.toList).elim 0 fun G => (k.file G).seen.length
set_option maxRecDepth 1000000 in
theorem dsizeOf {S : Nat → Prop} {w w1 : World} {d n : Nat} {k : Dk} (h : St S w d k w1) (hk : k.Ok n) (s : ByteArray) (hs : s.size ≤ maxLen) : Calls Try.prog 51 #[.pointer (some ⟨d, 0, none⟩), .string s] w1 fun e w' => e = .returned (.int .i64 (sizeK k s : Int)) ∧ w' = w1 := by
  obtain ⟨ms, md, vc, rc, Sf, hm⟩ := h.at
  have hlk := lookO w1 ms k.L hm.seen s hs
  have c0 := hm.at0.1
  cases hl : look k.L s.data.toList with
  | none =>
    have HE : Hid (sizeK k s = 0) := by unfold Hid sizeK; rw [hl]; rfl
    rw [hl] at hlk
    simp only [ptrO, Option.elim] at hlk
    clear hm h hk hl
    go_enter Try.func51, Try.ntmps51
    go_wp2
    go_ret
    exact ⟨by rw [HE.out]; rfl, rfl⟩
  | some G =>
    obtain ⟨fa, fc, g0, g1, g2, _⟩ := h.fcell (hk.refs _ (look_mem hl))
    have HE : Hid (sizeK k s = (k.file G).seen.length) := by unfold Hid sizeK; rw [hl]; rfl
    rw [hl] at hlk
    simp only [ptrO, Option.elim] at hlk
    generalize (k.file G).seen.length = N at g0 g1 HE
    clear hm h hk hl
    go_enter Try.func51, Try.ntmps51
    go_wp2
    go_ret
    exact ⟨by rw [HE.out]; rfl, rfl⟩
end Go.Proofs.Ytgffncbmchimdaa
