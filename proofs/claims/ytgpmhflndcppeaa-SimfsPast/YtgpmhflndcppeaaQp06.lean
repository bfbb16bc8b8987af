import Derived.Test.YtgpmhflndcppeaaQp05
/-! Truncate; sizes. -/
namespace Go.Proofs.Ytgpmhflndcppeaa
open Go.RowKit Go.Maps Plain
set_option linter.unusedVariables false
set_option linter.unusedSimpArgs false

theorem St.fcell {S : Nat → Prop} {w w1 : World} {d G : Nat} {k : Dk} (h : St S w d k w1) (hG : k.live G) : ∃ a c, w1.cell? ⟨G, 0, none⟩ = some (.slice a (k.file G).seen.length c) ∧ (k.file G).seen.length ≤ c ∧ c ≤ 2 ^ 63 - 1 ∧ BytesAt w1 (.slice a (k.file G).seen.length c) (k.file G).seen := by
  obtain ⟨ms, md, vc, rc, Sf, hm⟩ := h.at
  obtain ⟨vs, vd, vc, rs, rd, rc, vals, blk, hf, _⟩ := hm.files G hG
  obtain ⟨c0, _⟩ := fcells hf.blkG
  obtain ⟨a, nn, c, rfl⟩ := isSliceO hf.seen
  have e := own_len hf.seen
  obtain ⟨q1, q2⟩ := own_cap hf.seen
  have hb := hf.seen.bytes
  rw [← e] at c0 q1 hb
  exact ⟨a, c, c0, q1, q2, hb⟩

def truncK (k : Dk) (s : ByteArray) (n : Int) : Int × Dk := if (fnd k.dead k.L s).2 = 0 then (match look k.L s.data.toList with
    | some G => if n < 0 ∨ n > (k.file G).seen.length then (3, k) else if k.can then (0, (k.spent.uses (k.used - ((k.file G).seen.length - n))).setFile G ((k.file G).trim n.toNat)) else (34, k.spent)
    | none => (31, k)) else ((fnd k.dead k.L s).2, k)

set_option maxHeartbeats 4000000 in
set_option maxRecDepth 1000000 in
theorem truncOf (d : Nat) (k : Dk) (n : Nat) (S : Nat → Prop) (s : ByteArray) (hs : s.size ≤ maxLen) (m : Int) (hm1 : -9223372036854775808 ≤ m) (hm2 : m ≤ 9223372036854775807) (w : World) (h : DiskAt w d k S) (hk : k.Ok n) (hu : k.Uok) (hn : n ≤ 4398046511103) : Calls Try.prog 25 #[.pointer (some ⟨d, 0, none⟩), .string s, .int .i64 m] w (OpPost d (truncK k s m) S w) := by
  have HB1 : Hid (Below w.heap.size w (w.alloc (.cells #[.string s] 9))) := (Below.refl _ _).alloc (Nat.le_refl _) _
  have HFD : Hid (Calls Try.prog 38 #[.pointer (some ⟨d, 0, none⟩), .string s] w fun e w' => e = .returned (.tuple #[(fnd k.dead k.L s).1, .int .i64 (fnd k.dead k.L s).2]) ∧ w' = w.alloc (.cells #[.string s] 9)) := findSt (St.start h) s hs
  have HS : Hid (St S w d k (w.alloc (.cells #[.string s] 9))) := (St.start h).below HB1.out
  have HK : Hid (k.Ok n) := hk
  obtain ⟨u1, u2⟩ := hu.used
  obtain ⟨W1, hW1⟩ : ∃ W1, w.alloc (.cells #[.string s] 9) = W1 := ⟨_, rfl⟩
  rw [hW1] at HFD HB1 HS
  clear hW1 h
  by_cases h0 : (fnd k.dead k.L s).2 = 0
  · obtain ⟨G, hl, hfe⟩ := fnd_ok h0
    rw [hfe] at HFD
    have HLG : Hid (k.live G) := hk.refs _ (look_mem hl)
    have HFO : Hid (k.file G).Ok := (hk.fok G HLG.out).1
    have q3 : ((k.file G).seen.length : Int) ≤ k.used := hu.each _ (look_mem hl)
    obtain ⟨fa, fc, g0, g1, g2, _⟩ := HS.out.fcell HLG.out
    have HC : Hid (∀ w', St S w d k.spent w' → w'.cell? ⟨d, 3, none⟩ = some (.int .i64 k.used) ∧ w'.frozen? ⟨d, 3, none⟩ = false ∧ ∃ a c, w'.cell? ⟨G, 0, none⟩ = some (.slice a (k.file G).seen.length c) ∧ (k.file G).seen.length ≤ c ∧ c ≤ 2 ^ 63 - 1) := fun w' h' => by
      obtain ⟨a, c, h1, h2, h3, _⟩ := h'.fcell (G := G) HLG.out
      exact ⟨h'.cells.1, h'.cells.2.2, a, c, h1, h2, h3⟩
    have HSP : Hid (Calls Try.prog 36 #[.pointer (some ⟨d, 0, none⟩)] W1 fun e w' => e = .returned (.bool k.can) ∧ St S w d k.spent w') := SpendAfter HS.out hk hn
    clear hk hu
    obtain ⟨U, hU⟩ : ∃ U, k.used = U := ⟨_, rfl⟩
    obtain ⟨N, hN⟩ : ∃ N, (k.file G).seen.length = N := ⟨_, rfl⟩
    rw [hU] at u1 u2 q3 HC
    rw [hN] at q3 g0 g1 HC
    have HN : Hid ((k.file G).seen.length = N) := hN
    by_cases hbad : m < 0 ∨ m > N
    · have HE : Hid (truncK k s m = (3, k)) := by unfold Hid truncK; rw [if_pos h0, hl]; simp only [hN, if_pos hbad]
      rw [HE.out]
      clear h0 hl hfe hU hN HSP HC
      go_enter Try.func25, Try.ntmps25
      go_wp2_with fail
      refine HFD.out.mono ?_
      rintro e w1 ⟨rfl, rfl⟩
      rcases hbad with hbad | hbad
      · go_wp2
        go_ret
        exact ⟨rfl, HS.out⟩
      · by_cases hneg : m < 0
        · go_wp2
          go_ret
          exact ⟨rfl, HS.out⟩
        · go_wp2
          go_ret
          exact ⟨rfl, HS.out⟩
    · have b1 : 0 ≤ m := by omega
      have b2 : m ≤ N := by omega
      obtain ⟨M, rfl⟩ : ∃ M : Nat, m = M := ⟨m.toNat, by omega⟩
      have HAP : Hid (truncK k s (M : Int) = if k.can then (0, (k.spent.uses (U - (N - M))).setFile G ((k.file G).trim M)) else (34, k.spent)) := by
        unfold Hid truncK; rw [if_pos h0, hl]; simp only [hN, hU, if_neg hbad, Int.toNat_natCast]
      clear h0 hl hfe hU hN hbad
      cases hc : k.can with
      | false =>
        rw [HAP.out, hc, if_neg (by simp)]
        rw [hc] at HSP
        clear hc HAP HC
        go_enter Try.func25, Try.ntmps25
        go_wp2_with fail
        refine HFD.out.mono ?_
        rintro e w1 ⟨rfl, rfl⟩
        go_wp2_with fail
        refine HSP.out.mono ?_
        rintro e w2 ⟨rfl, hs2⟩
        have HS2 : Hid (St S w d k.spent w2) := hs2
        clear hs2
        go_wp2
        go_ret
        exact ⟨rfl, HS2.out⟩
      | true =>
        rw [HAP.out, hc, if_pos rfl]
        rw [hc] at HSP
        clear hc HAP
        go_enter Try.func25, Try.ntmps25
        go_wp2_with fail
        refine HFD.out.mono ?_
        rintro e w1 ⟨rfl, rfl⟩
        go_wp2_with fail
        refine HSP.out.mono ?_
        rintro e w2 ⟨rfl, hs2⟩
        obtain ⟨d3, y3, fa2, fc2, e0, e1, e2⟩ := HC.out w2 hs2
        have HS3 : Hid (St S w d (k.spent.uses (U - (N - M))) (w2.drew.setCell ⟨d, 3, none⟩ (.int .i64 (U - (N - M))))) := usesSt (hs2.below (Below.refl _ _).drew) _
        have HDO : Hid (Calls Try.prog 39 #[.pointer (some ⟨G, 0, none⟩), .iface 112 (.agg #[.int .i64 ((M : Nat) : Int)])] (w2.drew.setCell ⟨d, 3, none⟩ (.int .i64 (U - (N - M)))) fun e w4 => e = .returned (.tuple #[]) ∧ St S w d ((k.spent.uses (U - (N - M))).setFile G ((k.file G).trim M)) w4) := cutSt HS3.out HLG.out HFO.out M (by have := HN.out; show M ≤ (k.file G).seen.length; omega)
        clear hs2 HS3 HC HSP
        go_wp2
        go_region
        all_goals
          go_wp2_with fail
          refine HDO.out.mono ?_
          rintro e w4 ⟨rfl, hs4⟩
          have HS4 : Hid (St S w d ((k.spent.uses (U - (N - M))).setFile G ((k.file G).trim M)) w4) := hs4
          clear hs4
          go_wp2
          go_ret
          exact ⟨rfl, HS4.out⟩
  · have HE : Hid (truncK k s m = ((fnd k.dead k.L s).2, k)) := by unfold Hid truncK; rw [if_neg h0]
    rw [HE.out]
    have hp := fnd_bad h0
    rw [hp] at HFD
    obtain ⟨z, hz⟩ : ∃ z, (fnd k.dead k.L s).2 = z := ⟨_, rfl⟩
    rw [hz] at HFD h0 ⊢
    have hne : (z != 0) = true := by simpa using h0
    have hne2 : (z == 0) = false := beq_eq_false_iff_ne.mpr h0
    clear hz hp h0 hk hu u1 u2
    go_enter Try.func25, Try.ntmps25
    go_wp2_with fail
    refine HFD.out.mono ?_
    rintro e w1 ⟨rfl, rfl⟩
    go_wp2
    go_ret
    exact ⟨rfl, HS.out⟩

/-- The bytes that a name leads to; none, if it leads to no file. -/
def sizeK (k : Dk) (s : ByteArray) : Nat := (look k.L s.data.toList).elim 0 fun G => (k.file G).seen.length
set_option maxRecDepth 1000000 in
theorem dsizeOf {S : Nat → Prop} {w w1 : World} {d n : Nat} {k : Dk} (h : St S w d k w1) (hk : k.Ok n) (s : ByteArray) (hs : s.size ≤ maxLen) : Calls Try.prog 48 #[.pointer (some ⟨d, 0, none⟩), .string s] w1 fun e w' => e = .returned (.int .i64 (sizeK k s : Int)) ∧ w' = w1 := by
  obtain ⟨ms, md, vc, rc, Sf, hm⟩ := h.at
  have hlk := lookO w1 ms k.L hm.seen s hs
  have c0 := hm.at0.1
  cases hl : look k.L s.data.toList with
  | none =>
    have HE : Hid (sizeK k s = 0) := by unfold Hid sizeK; rw [hl]; rfl
    rw [hl] at hlk
    simp only [ptrO, Option.elim] at hlk
    clear hm h hk hl
    go_enter Try.func48, Try.ntmps48
    go_wp2
    go_ret
    exact ⟨by rw [HE.out]; rfl, rfl⟩
  | some G =>
    obtain ⟨fa, fc, g0, g1, g2, _⟩ := h.fcell (hk.refs _ (look_mem hl))
    have HE : Hid (sizeK k s = (k.file G).seen.length) := by unfold Hid sizeK; rw [hl]; rfl
    rw [hl] at hlk
    simp only [ptrO, Option.elim] at hlk
    generalize (k.file G).seen.length = N at g0 g1 HE
    clear hm h hk hl
    go_enter Try.func48, Try.ntmps48
    go_wp2
    go_ret
    exact ⟨by rw [HE.out]; rfl, rfl⟩
end Go.Proofs.Ytgpmhflndcppeaa

/-! Rename, Remove. -/
namespace Go.Proofs.Ytgpmhflndcppeaa
open Go.RowKit Go.Maps Plain
set_option linter.unusedVariables false
set_option linter.unusedSimpArgs false

theorem look_sum {k : Dk} (hu : k.Uok) (s : ByteArray) : (sizeK k s : Int) ≤ k.used := by
  unfold sizeK
  cases hl : look k.L s.data.toList with
  | none => exact hu.used.1
  | some G => exact hu.each _ (look_mem hl)
theorem St.lkup {S : Nat → Prop} {w w1 : World} {d n : Nat} {k : Dk} (h : St S w d k.spent w1) (hk : k.Ok n) (s : ByteArray) (hs : s.size ≤ maxLen) : Calls Try.prog 48 #[.pointer (some ⟨d, 0, none⟩), .string s] w1 fun e w' => e = .returned (.int .i64 (sizeK k s : Int)) ∧ w' = w1 := by
  obtain ⟨ms, md, vc, rc, Sf, hm⟩ := h.at
  have hlk := lookO w1 ms k.spent.L hm.seen s hs
  have c0 := hm.at0.1
  cases hl : look k.L s.data.toList with
  | none =>
    have HE : Hid (sizeK k s = 0) := by unfold Hid sizeK; rw [hl]; rfl
    rw [show look k.spent.L s.data.toList = none from hl] at hlk
    simp only [ptrO, Option.elim] at hlk
    clear hm h hk hl
    go_enter Try.func48, Try.ntmps48
    go_wp2
    go_ret
    exact ⟨by rw [HE.out]; rfl, rfl⟩
  | some G =>
    obtain ⟨fa, fc, g0, g1, g2, _⟩ := h.fcell (G := G) (hk.refs _ (look_mem hl))
    have HE : Hid (sizeK k s = (k.file G).seen.length) := by unfold Hid sizeK; rw [hl]; rfl
    rw [show look k.spent.L s.data.toList = some G from hl] at hlk
    simp only [ptrO, Option.elim] at hlk
    have g0' : w1.cell? ⟨G, 0, none⟩ = some (.slice fa (k.file G).seen.length fc) := g0
    have g1' : (k.file G).seen.length ≤ fc := g1
    clear g0 g1
    generalize (k.file G).seen.length = N at g0' g1' HE
    clear hm h hk hl
    go_enter Try.func48, Try.ntmps48
    go_wp2
    go_ret
    exact ⟨by rw [HE.out]; rfl, rfl⟩

def removeK (k : Dk) (s : ByteArray) : Int × Dk := if (fnd k.dead k.L s).2 = 0 then (if k.can then (0, (k.spent.uses (k.used - sizeK k s)).did (DC.rm s.data.toList)) else (34, k.spent)) else ((fnd k.dead k.L s).2, k)

set_option maxHeartbeats 4000000 in
set_option maxRecDepth 1000000 in
theorem removeOf (d : Nat) (k : Dk) (n : Nat) (S : Nat → Prop) (s : ByteArray) (hs : s.size ≤ maxLen) (w : World) (h : DiskAt w d k S) (hk : k.Dok n) (hu : k.Uok) (hn : n ≤ 4398046511103) : Calls Try.prog 29 #[.pointer (some ⟨d, 0, none⟩), .string s] w (OpPost d (removeK k s) S w) := by
  have HB1 : Hid (Below w.heap.size w (w.alloc (.cells #[.string s] 9))) := (Below.refl _ _).alloc (Nat.le_refl _) _
  have HFD : Hid (Calls Try.prog 38 #[.pointer (some ⟨d, 0, none⟩), .string s] w fun e w' => e = .returned (.tuple #[(fnd k.dead k.L s).1, .int .i64 (fnd k.dead k.L s).2]) ∧ w' = w.alloc (.cells #[.string s] 9)) := findSt (St.start h) s hs
  have HS : Hid (St S w d k (w.alloc (.cells #[.string s] 9))) := (St.start h).below HB1.out
  obtain ⟨u1, u2⟩ := hu.used
  have q3 := look_sum hu s
  obtain ⟨W1, hW1⟩ : ∃ W1, w.alloc (.cells #[.string s] 9) = W1 := ⟨_, rfl⟩
  rw [hW1] at HFD HB1 HS
  clear hW1 h
  by_cases h0 : (fnd k.dead k.L s).2 = 0
  · obtain ⟨G, hl, hfe⟩ := fnd_ok h0
    rw [hfe] at HFD
    have HC : Hid (∀ w', St S w d k.spent w' → w'.cell? ⟨d, 3, none⟩ = some (.int .i64 k.used) ∧ w'.frozen? ⟨d, 3, none⟩ = false) := fun w' h' => ⟨h'.cells.1, h'.cells.2.2⟩
    have HSP : Hid (Calls Try.prog 36 #[.pointer (some ⟨d, 0, none⟩)] W1 fun e w' => e = .returned (.bool k.can) ∧ St S w d k.spent w') := SpendAfter HS.out hk.ok hn
    have HDO : Hid (∀ u w', St S w d (k.spent.uses u) w' → Calls Try.prog 37 #[.pointer (some ⟨d, 0, none⟩), .iface 116 (.agg #[.string s])] w' fun e w2 => e = .returned (.tuple #[]) ∧ St S w d ((k.spent.uses u).did (DC.rm s.data.toList)) w2) := fun u w' h' => by
      have := doDOf w' d (k.spent.uses u) _ (DC.rm s.data.toList) h'.1 ⟨by rw [Array.length_toList]; exact hs, G, hl⟩ (by show k.L.length < _; have := hk.few; omega) (by show k.chg.length ≤ _; have := hk.cnt; omega)
      rw [DC.val_rm, str_of] at this
      refine this.mono ?_
      rintro e w2 ⟨rfl, h2⟩
      exact ⟨rfl, h'.next h2⟩
    have HKO : Hid (k.Ok n) := hk.ok
    have HAP : Hid (removeK k s = if k.can then (0, (k.spent.uses (k.used - sizeK k s)).did (DC.rm s.data.toList)) else (34, k.spent)) := by unfold Hid removeK; rw [if_pos h0]
    have HDS : Hid (∀ w', St S w d k.spent w' → Calls Try.prog 48 #[.pointer (some ⟨d, 0, none⟩), .string s] w' fun e w2 => e = .returned (.int .i64 (sizeK k s : Int)) ∧ w2 = w') := fun w' h' => h'.lkup HKO.out s hs
    clear hk hu h0 hl hfe
    obtain ⟨U, hU⟩ : ∃ U, k.used = U := ⟨_, rfl⟩
    obtain ⟨N, hN⟩ : ∃ N, sizeK k s = N := ⟨_, rfl⟩
    rw [hU] at u1 u2 q3 HC HAP
    rw [hN] at q3 HAP HDS
    clear hU hN
    cases hc : k.can with
    | false =>
      rw [HAP.out, hc, if_neg (by simp)]
      rw [hc] at HSP
      clear hc HAP HC HDO
      go_enter Try.func29, Try.ntmps29
      go_wp2_with fail
      refine HFD.out.mono ?_
      rintro e w1 ⟨rfl, rfl⟩
      go_wp2_with fail
      refine HSP.out.mono ?_
      rintro e w2 ⟨rfl, hs2⟩
      have HS2 : Hid (St S w d k.spent w2) := hs2
      clear hs2
      go_wp2
      go_ret
      exact ⟨rfl, HS2.out⟩
    | true =>
      rw [HAP.out, hc, if_pos rfl]
      rw [hc] at HSP
      clear hc HAP
      go_enter Try.func29, Try.ntmps29
      go_wp2_with fail
      refine HFD.out.mono ?_
      rintro e w1 ⟨rfl, rfl⟩
      go_wp2_with fail
      refine HSP.out.mono ?_
      rintro e w2 ⟨rfl, hs2⟩
      obtain ⟨d3, y3⟩ := HC.out w2 hs2
      have HS2 : Hid (St S w d k.spent w2.drew) := hs2.below (Below.refl _ _).drew
      have HDS2 : Hid (Calls Try.prog 48 #[.pointer (some ⟨d, 0, none⟩), .string s] w2.drew fun e w2' => e = .returned (.int .i64 (N : Int)) ∧ w2' = w2.drew) := HDS.out _ HS2.out
      clear hs2 HC HSP HDS
      go_wp2
      go_region_with (
        go_at_call 48
        refine HDS2.out.mono ?_
        rintro e w3 ⟨rfl, rfl⟩)
      all_goals
        go_wp2_with fail
        refine (HDO.out (U - N) _ (usesSt HS2.out _)).mono ?_
        rintro e w4 ⟨rfl, hs4⟩
        have HS4 : Hid (St S w d ((k.spent.uses (U - N)).did (DC.rm s.data.toList)) w4) := hs4
        clear hs4
        go_wp2
        go_ret
        exact ⟨rfl, HS4.out⟩
  · have HE : Hid (removeK k s = ((fnd k.dead k.L s).2, k)) := by unfold Hid removeK; rw [if_neg h0]
    rw [HE.out]
    have hp := fnd_bad h0
    rw [hp] at HFD
    obtain ⟨z, hz⟩ : ∃ z, (fnd k.dead k.L s).2 = z := ⟨_, rfl⟩
    rw [hz] at HFD h0 ⊢
    have hne : (z != 0) = true := by simpa using h0
    have hne2 : (z == 0) = false := beq_eq_false_iff_ne.mpr h0
    clear hz hp h0 hk hu u1 u2
    go_enter Try.func29, Try.ntmps29
    go_wp2_with fail
    refine HFD.out.mono ?_
    rintro e w1 ⟨rfl, rfl⟩
    go_wp2
    go_ret
    exact ⟨rfl, HS.out⟩
end Go.Proofs.Ytgpmhflndcppeaa

/-! Size, Read, New. -/
namespace Go.Proofs.Ytgpmhflndcppeaa
open Go.RowKit Go.Maps Plain
set_option linter.unusedVariables false
set_option linter.unusedSimpArgs false

/-- What Size answers. -/
def szK (k : Dk) (s : ByteArray) : Nat × Int := if (fnd k.dead k.L s).2 = 0 then (sizeK k s, 0) else (0, (fnd k.dead k.L s).2)
/-- A disk with nothing on it. -/
def Dk.fresh (q : Int) : Dk := ⟨[], [], [], 0, q, 0, false, 0, false, fun _ => ⟨[], [], []⟩, fun _ => False⟩
def freshD (q : Int) : Obj := .cells #[.map none, .map none, .slice none 0 0, .int .i64 0, .int .i64 q, .int .i64 0, .bool false, .int .i64 0, .bool false] 64
theorem freshAt (w : World) (q : Int) : DiskAt (w.alloc (freshD q)) w.heap.size (Dk.fresh q) (fun x => x = w.heap.size) := by
  refine ⟨none, none, .slice none 0 0, none, fun _ _ => False, ⟨?_, .inl ⟨rfl, rfl⟩, .inl ⟨rfl, rfl⟩, OwnV.nil _, fun G hG => hG.elim, by simp, by simp, by simp, fun G hG => hG.elim, fun G G' hG => hG.elim⟩, fun x hx => ?_, fun G x hG => hG.elim, fun x hx => ?_⟩
  · show (w.heap.push (freshD q))[w.heap.size]? = _
    simp [freshD, Dk.fresh]
  · rcases hx with rfl | hx | hx | hx
    · rfl
    all_goals simp at hx
  · subst hx; simp
theorem fresh_dok (q : Int) : (Dk.fresh q).Dok 0 :=
  ⟨⟨by simp [Dk.fresh], fun G hG => hG.elim, by simp [Dk.fresh], by simp [Dk.fresh]⟩, ⟨by simp [Dk.fresh], fun k => by simp [Dk.fresh, dst], by simp [Dk.fresh]⟩, rfl, by simp [Dk.fresh], by simp [Dk.fresh]⟩
theorem fresh_uok (q : Int) (h1 : 0 ≤ q) (h2 : q ≤ 1073741824) : (Dk.fresh q).Uok := ⟨by simp [Dk.fresh], ⟨h1, h2⟩, by simp [Dk.fresh]⟩

def qB (q : Int) : Bool := decide (0 ≤ q ∧ q ≤ 1073741824)
set_option maxRecDepth 1000000 in
theorem isQuotaOf (q : Int) (hq1 : -9223372036854775808 ≤ q) (hq2 : q ≤ 9223372036854775807) (w : World) : Calls Try.prog 49 #[.int .i64 q] w fun e w' => e = .returned (.bool (qB q)) ∧ w' = w := by
  by_cases h0 : 0 ≤ q
  · by_cases h1 : q ≤ 1073741824
    · have HE : Hid (qB q = true) := by simp [Hid, qB, h0, h1]
      rw [HE.out]
      go_enter Try.func49, Try.ntmps49
      go_wp2
      go_ret
      first | exact ⟨rfl, rfl⟩ | (refine ⟨?_, rfl⟩; simp; omega)
    · have HE : Hid (qB q = false) := by simp [Hid, qB, h0]; omega
      rw [HE.out]
      have h2 : 1073741824 < q := by omega
      clear h1
      go_enter Try.func49, Try.ntmps49
      go_wp2
      go_ret
      first | exact ⟨rfl, rfl⟩ | (refine ⟨?_, rfl⟩; simp; omega)
  · have HE : Hid (qB q = false) := by simp [Hid, qB]; omega
    rw [HE.out]
    have h2 : q < 0 := by omega
    clear h0
    go_enter Try.func49, Try.ntmps49
    go_wp2
    go_ret
    first | exact ⟨rfl, rfl⟩ | (refine ⟨?_, rfl⟩; simp; omega)

set_option maxRecDepth 1000000 in
theorem isImageNil (w : World) : Calls Try.prog 50 #[.slice none 0 0] w fun e w' => e = .returned (.bool true) ∧ w' = w := by
  go_enter Try.func50, Try.ntmps50
  go_wp2
  go_loopg [7] 0 (fun gk s7 wx => s7 = .int .i64 0 ∧ wx = w)
  case atStart => exact ⟨rfl, rfl⟩
  case round =>
    obtain ⟨rfl, rfl⟩ := hrel
    go_wp2
    go_ret
    exact ⟨rfl, rfl⟩

set_option maxHeartbeats 2000000 in
set_option maxRecDepth 1000000 in
theorem loadNil (q : Int) (hq1 : -9223372036854775808 ≤ q) (hq2 : q ≤ 9223372036854775807) (w : World) : Calls Try.prog 34 #[.slice none 0 0, .int .i64 q] w fun e w' => (qB q = false ∧ e = .returned (.tuple #[.pointer none, .int .i64 3]) ∧ w' = w) ∨ (qB q = true ∧ e = .returned (.tuple #[.pointer (some ⟨w.heap.size, 0, none⟩), .int .i64 0]) ∧ St (fun x => x = w.heap.size) (w.alloc (freshD q)) w.heap.size (Dk.fresh q) w') := by
  have HQ : Hid (Calls Try.prog 49 #[.int .i64 q] w fun e w' => e = .returned (.bool (qB q)) ∧ w' = w) := isQuotaOf q hq1 hq2 w
  have HIM : Hid (Calls Try.prog 50 #[.slice none 0 0] w fun e w' => e = .returned (.bool true) ∧ w' = w) := isImageNil w
  have HSE : Hid (Calls Try.prog 47 #[.pointer (some ⟨w.heap.size, 0, none⟩)] (w.alloc (freshD q)) fun e w' => e = .returned (.tuple #[]) ∧ St (fun x => x = w.heap.size) (w.alloc (freshD q)) w.heap.size (Dk.fresh q) w') := settleDOf _ _ (Dk.fresh q) _ (freshAt w q) (fresh_dok q).dir (fresh_dok q).eq
  cases hb : qB q with
  | false =>
    rw [hb] at HQ
    have HB : Hid (qB q = false) := hb
    clear hb HSE HIM
    go_enter Try.func34, Try.ntmps34
    go_wp2_with fail
    refine HQ.out.mono ?_
    rintro e w1 ⟨rfl, rfl⟩
    go_wp2
    go_ret2
    exact .inl ⟨by trivial, rfl, rfl⟩
  | true =>
    rw [hb] at HQ
    clear hb
    go_enter Try.func34, Try.ntmps34
    go_wp2_with fail
    refine HQ.out.mono ?_
    rintro e w1 ⟨rfl, rfl⟩
    go_wp2_with fail
    refine HIM.out.mono ?_
    rintro e w1 ⟨rfl, rfl⟩
    go_wp2_with fail
    go_loopg [23] 0 (fun gk s23 wx => s23 = .int .i64 0 ∧ wx = w1.alloc (freshD q))
    case atStart => exact ⟨rfl, rfl⟩
    case round =>
      obtain ⟨rfl, rfl⟩ := hrel
      go_wp2_with fail
      refine HSE.out.mono ?_
      rintro e w2 ⟨rfl, hs2⟩
      have HS2 : Hid (St (fun x => x = w1.heap.size) (w1.alloc (freshD q)) w1.heap.size (Dk.fresh q) w2) := hs2
      clear hs2
      go_wp2
      go_ret2
      exact .inr ⟨by trivial, rfl, HS2.out⟩
end Go.Proofs.Ytgpmhflndcppeaa

/-! A choice by picks. -/
namespace Go.Proofs.Ytgpmhflndcppeaa
open Go.RowKit Go.Maps Plain
set_option linter.unusedVariables false
set_option linter.unusedSimpArgs false

def I64 (x : Int) : Prop := -9223372036854775808 ≤ x ∧ x ≤ 9223372036854775807
/-- A slice of numbers. -/
def PicksAt (w : World) (v : Value) (ps : List Int) : Prop := ∃ a cap, v = .slice a ps.length cap ∧ ps.length ≤ cap ∧ cap ≤ maxLen ∧ (∀ x ∈ ps, I64 x) ∧ (ps ≠ [] → ∃ b off, a = some ⟨b, off, none⟩ ∧ ∀ j x, ps[j]? = some x → w.cell? ⟨b, off + j, none⟩ = some (.int .i64 x))
/-- All cells of the slice lie ahead of block C. -/
def PicksOff (C : Nat) (v : Value) : Prop := ∀ b off n c, v = .slice (some ⟨b, off, none⟩) n c → 0 < n → b < C
structure ChoAt (w : World) (C : Nat) (v : Value) (ps : List Int) : Prop where
  blk : w.heap[C]? = some (.cells #[v] 57)
  row : PicksAt w v ps
  off : PicksOff C v
def upV (ps : List Int) (n : Nat) : Nat := match ps with
  | [] => 0
  | p :: _ => (p % ((n : Int) + 1)).toNat
theorem tmod_adj (p : Int) (n : Nat) : (p.tmod ((n : Int) + 1) < 0 → (p.tmod ((n : Int) + 1) + (n + 1) = p % ((n : Int) + 1))) ∧ (¬ p.tmod ((n : Int) + 1) < 0 → p.tmod ((n : Int) + 1) = p % ((n : Int) + 1)) := by
  have e := Int.tmod_eq_emod (a := p) (b := (n : Int) + 1)
  have a1 := Int.emod_nonneg p (show (n : Int) + 1 ≠ 0 by omega)
  have a2 := Int.emod_lt_of_pos p (show (0 : Int) < (n : Int) + 1 by omega)
  generalize p % ((n : Int) + 1) = Y at *
  generalize p.tmod ((n : Int) + 1) = X at *
  split at e
  · constructor <;> intro h <;> omega
  · constructor <;> intro h <;> omega
theorem upV_le (ps : List Int) (n : Nat) : upV ps n ≤ n := by
  unfold upV
  split
  · omega
  · rename_i p r
    have a1 := Int.emod_nonneg p (show (n : Int) + 1 ≠ 0 by omega)
    have a2 := Int.emod_lt_of_pos p (show (0 : Int) < (n : Int) + 1 by omega)
    omega
theorem ccell {w : World} {C : Nat} {v : Value} (h : w.heap[C]? = some (.cells #[v] 57)) : w.cell? ⟨C, 0, none⟩ = some v ∧ w.frozen? ⟨C, 0, none⟩ = false := by
  simp [World.cell?, World.frozen?, h]
theorem tail_at {w : World} {C b off len cap : Nat} {p : Int} {ps : List Int} (h : ChoAt w C (.slice (some ⟨b, off, none⟩) len cap) (p :: ps)) (v' : Value) (hv : v' = .slice (some ⟨b, off + 1, none⟩) (len - 1) (cap - 1)) : ChoAt (w.setCell ⟨C, 0, none⟩ v') C v' ps ∧ w.grownBy (w.setCell ⟨C, 0, none⟩ v') (some C) := by
  subst hv
  have hg := grow_set w C 0 (.slice (some ⟨b, off + 1, none⟩) (len - 1) (cap - 1))
  have hbC0 := h.off b off len cap rfl
  obtain ⟨a, cap', e, h1, h2, h3, h4⟩ := h.row
  simp only [Value.slice.injEq] at e
  obtain ⟨rfl, rfl, rfl⟩ := e
  have hbC := hbC0 (by simp)
  obtain ⟨b', off', e2, h5⟩ := h4 (by simp)
  simp at e2
  obtain ⟨rfl, rfl⟩ := e2
  refine ⟨⟨heap_setCell_same w C 0 _ _ _ h.blk, ⟨_, cap - 1, by simp, by simp at h1; omega, by omega, fun x hx => h3 x (by simp [hx]), fun hne => ⟨b, off + 1, rfl, fun j x hj => ?_⟩⟩, fun b1 off1 n1 c1 e1 _ => by simp at e1; omega⟩, hg⟩
  have hc := h5 (j + 1) x (by simpa using hj)
  have hc' : w.cell? ⟨b, off + 1 + j, none⟩ = some (.int .i64 x) := by rw [show off + 1 + j = off + (j + 1) by omega]; exact hc
  exact hg.cell hc' (by simp; omega)

theorem tail_end {w : World} {C b off : Nat} {len cap : Nat} {p : Int} {ps : List Int} (h : ChoAt w C (.slice (some ⟨b, off, none⟩) len cap) (p :: ps)) (h0 : len - 1 = 0) (n' : Nat) (hn : n' = 0) : ChoAt (w.setCell ⟨C, 0, none⟩ (.slice (some ⟨b, off, none⟩) n' 0)) C (.slice (some ⟨b, off, none⟩) n' 0) ps ∧ w.grownBy (w.setCell ⟨C, 0, none⟩ (.slice (some ⟨b, off, none⟩) n' 0)) (some C) := by
  subst hn
  obtain ⟨a, cap', e, h1, h2, h3, h4⟩ := h.row
  simp only [Value.slice.injEq] at e
  obtain ⟨rfl, rfl, rfl⟩ := e
  have hps : ps = [] := by
    simp at h0
    exact h0
  subst hps
  exact ⟨⟨heap_setCell_same w C 0 _ _ _ h.blk, ⟨_, 0, rfl, by simp, by simp, by simp, by simp⟩, fun b1 off1 n1 c1 e1 hn1 => by
    simp at e1; omega⟩, grow_set w C 0 _⟩

set_option maxHeartbeats 2000000 in
set_option maxRecDepth 1000000 in
theorem upToOf (w : World) (C : Nat) (v : Value) (ps : List Int) (n : Nat) (h : ChoAt w C v ps) (hn : n ≤ 4611686018427387904) : Calls Try.prog 18 #[.pointer (some ⟨C, 0, none⟩), .int .i64 (n : Int)] w fun e w' => e = .returned (.int .i64 (upV ps n : Int)) ∧ (∃ v', ChoAt w' C v' ps.tail) ∧ w.grownBy w' (some C) := by
  have HH : Hid (ChoAt w C v ps) := h
  obtain ⟨c0, z0⟩ := ccell h.blk
  obtain ⟨a, cap, rfl, h1, h2, h3, h4⟩ := h.row
  unfold maxLen at h2
  cases ps with
  | nil =>
    clear h h3 h4
    go_enter Try.func18, Try.ntmps18
    go_wp2
    go_ret
    exact ⟨rfl, ⟨_, HH.out⟩, below_grow (Below.refl _ _) _⟩
  | cons p r =>
    obtain ⟨b, off, rfl, h5⟩ := h4 (by simp)
    have hc := h5 0 p rfl
    rw [Nat.add_zero] at hc
    obtain ⟨i1, i2⟩ := h3 p (by simp)
    have HT := tmod_adj p n
    have hlen : (p :: r).length = r.length + 1 := rfl
    rw [hlen] at h1 c0 HH
    have HTL : Hid (∀ v', v' = .slice (some ⟨b, off + 1, none⟩) (r.length + 1 - 1) (cap - 1) → ChoAt (w.setCell ⟨C, 0, none⟩ v') C v' r ∧ w.grownBy (w.setCell ⟨C, 0, none⟩ v') (some C)) := fun v' hv' => tail_at HH.out v' hv'
    have HTE : Hid (r.length = 0 → ∀ n', n' = 0 → ChoAt (w.setCell ⟨C, 0, none⟩ (.slice (some ⟨b, off, none⟩) n' 0)) C (.slice (some ⟨b, off, none⟩) n' 0) r ∧ w.grownBy (w.setCell ⟨C, 0, none⟩ (.slice (some ⟨b, off, none⟩) n' 0)) (some C)) := fun h0 n' hn' => tail_end HH.out (by omega) n' hn'
    generalize r.length = N at *
    have t1 : -((n : Int) + 1) < p.tmod ((n : Int) + 1) ∧ p.tmod ((n : Int) + 1) < (n : Int) + 1 := by
      constructor
      · have := Int.lt_tmod_of_pos p (show (0 : Int) < (n : Int) + 1 by omega); omega
      · exact Int.tmod_lt_of_pos p (by omega)
    have HU : Hid (((upV (p :: r) n : Nat) : Int) = p % ((n : Int) + 1)) := by
      show ((p % ((n : Int) + 1)).toNat : Int) = _
      have a1 := Int.emod_nonneg p (show (n : Int) + 1 ≠ 0 by omega)
      omega
    clear h h3 h4 h5 HH
    have hnz : (n : Int) + 1 ≠ 0 := by omega
    by_cases hneg : p.tmod ((n : Int) + 1) < 0
    · have HV : Hid (p.tmod ((n : Int) + 1) + (n + 1) = ((upV (p :: r) n : Nat) : Int)) := by unfold Hid; rw [HU.out]; exact HT.1 hneg
      clear HT
      go_enter Try.func18, Try.ntmps18
      go_wp2
      · go_ret
        have hT := HTE.out (by omega) N (by omega)
        exact ⟨retI HV.out, ⟨_, hT.1⟩, hT.2⟩
      · go_ret
        have hT := HTL.out _ rfl
        exact ⟨retI HV.out, ⟨_, hT.1⟩, hT.2⟩
    · have HV : Hid (p.tmod ((n : Int) + 1) = ((upV (p :: r) n : Nat) : Int)) := by unfold Hid; rw [HU.out]; exact HT.2 hneg
      clear HT
      go_enter Try.func18, Try.ntmps18
      go_wp2
      · go_ret
        have hT := HTE.out (by omega) N (by omega)
        exact ⟨retI HV.out, ⟨_, hT.1⟩, hT.2⟩
      · go_ret
        have hT := HTL.out _ rfl
        exact ⟨retI HV.out, ⟨_, hT.1⟩, hT.2⟩
end Go.Proofs.Ytgpmhflndcppeaa

/-! What a file was some changes behind the durable state. -/
namespace Go.Proofs.Ytgpmhflndcppeaa
open Go.RowKit Go.Maps Plain
set_option linter.unusedVariables false
set_option linter.unusedSimpArgs false

theorem OwnV.take {w : World} {a : Option Addr} {len c : Nat} {vs : List Value} {r : Option Nat} (h : OwnV w (.slice a len c) vs r) (n : Nat) (hn : n ≤ vs.length) : OwnV w (.slice a n c) (vs.take n) r := by
  have hl : (vs.take n).length = n := by simp; omega
  rcases h with ⟨e, rfl, rfl⟩ | ⟨g, cap, rfl, e, hg, h1, h2, h3, h4, h5⟩
  · injection e with e1 e2 e3
    subst e1 e3
    simp at hn
    subst hn
    exact .inl ⟨rfl, by simp, rfl⟩
  · injection e with e1 e2 e3
    subst e1 e3
    refine .inr ⟨g, c, rfl, by rw [hl], hg, by omega, h2, h3, h4, fun j hj => ?_⟩
    rw [h5 j (by omega), List.getElem?_take_of_lt (by omega)]
theorem ChRow.take {w : World} {a : Option Addr} {len c : Nat} {cs : List FC} {rc : Option Nat} {vals : List Value} {blk : Nat → Option Nat} (h : ChRow w (.slice a len c) cs rc vals blk) (n : Nat) (hn : n ≤ cs.length) : ChRow w (.slice a n c) (cs.take n) rc (vals.take n) blk := by
  refine ⟨h.row.take n (by rw [h.len]; exact hn), by simp [h.len], fun j x hj => ?_, h.bl⟩
  have hjn : j < n := by
    have := (List.getElem?_eq_some_iff.mp hj).1
    simp at this; omega
  rw [List.getElem?_take_of_lt hjn] at hj ⊢
  exact h.one j x hj

def PastPost (l : List Nat) (w : World) (e : Ending) (w' : World) : Prop := ∃ a' n' c' r', e = .returned (.slice a' n' c') ∧ Own w' (.slice a' n' c') l r' ∧ Below w.heap.size w w' ∧ (∀ g, r' = some g → w.heap.size ≤ g)

set_option maxHeartbeats 2000000 in
set_option maxRecDepth 1000000 in
theorem pastFOf (w : World) (G : Nat) (f : Fl) (S : Nat → Prop) (h : FileAt w G f S) (hf : f.Ok) (n : Nat) (hn : n ≤ f.chg.length) :
    Calls Try.prog 44 #[.pointer (some ⟨G, 0, none⟩), .int .i64 (n : Int), .func (.func 33) #[] #[]] w (PastPost (fst f.dur (f.chg.take n)) w) := by
  obtain ⟨vs, vd, vc, rs, rd, rc, vals, blk, hm, hS, hlt⟩ := h
  obtain ⟨c0, c1, c2, z0, z1, z2⟩ := fcells hm.blkG
  obtain ⟨ad, nd, cd, rfl⟩ := isSliceO hm.dur
  obtain ⟨ac, nc, cc, rfl⟩ := isSliceV hm.chg.row
  have HM : Hid (FileM w G f vs (.slice ad nd cd) (.slice ac nc cc) rs rd rc vals blk) := hm
  have hnc : nc = f.chg.length := by
    obtain ⟨a, cap, e, _⟩ := hm.chg.row.shape
    injection e with _ e2 _
    rw [e2, hm.chg.len]
  have hncc : nc ≤ cc ∧ cc ≤ 2 ^ 63 - 1 := by
    obtain ⟨a, cap, e, h1, h2⟩ := hm.chg.row.shape
    injection e with _ e2 e3
    unfold maxLen at h1
    omega
  obtain ⟨q1, q2⟩ := hncc
  have hcnt := hf.cnt
  have hdl : f.dur.length ≤ 140737488355328 := by have := hf.len 0; simp [fst] at this; omega
  have HCL : Hid (Calls Try.prog 33 #[.slice ad nd cd] w.drew fun e w' => ∃ v' r', e = .returned v' ∧ Own w' v' f.dur r' ∧ Below w.drew.heap.size w.drew w' ∧ (∀ g, r' = some g → w.drew.heap.size ≤ g)) := cloneOf _ f.dur w.drew (hm.dur.bytes.later (Below.refl _ _).drew) hdl
  have HAF : Hid (∀ (w3 : World) (v3 : Value) (r3 : Option Nat), Own w3 v3 f.dur r3 → Below w.heap.size w w3 → (∀ g, r3 = some g → w.heap.size ≤ g) → Calls Try.prog 55 #[v3, .slice ac n cc] w3 (PastPost (fst f.dur (f.chg.take n)) w)) := fun w3 v3 r3 ho hb hr => by
    have hrow : ChRow w3 (.slice ac n cc) (f.chg.take n) rc (vals.take n) blk := (hm.chg.take n hn).of_block hb.size (fun g e => hb.block g (hm.chg.row.rlt g e)) (fun j g e => hb.block g (hm.chg.bl j g e))
    refine (afterFile v3 (.slice ac n cc) f.dur r3 rc (f.chg.take n) (vals.take n) blk w3 ho hrow (fun g e => ⟨fun e2 => ?_, fun j e2 => ?_⟩) (fun k x hk => ?_) (fun k => ?_) (by simp; omega)).mono ?_
    · have := hr g e; have := hm.chg.row.rlt g e2; omega
    · have := hr g e; have := hm.chg.bl j g e2; omega
    · have hkn : k < n := by
        have := (List.getElem?_eq_some_iff.mp hk).1
        simp at this; omega
      rw [List.getElem?_take_of_lt hkn] at hk
      rw [List.take_take, Nat.min_eq_left (by omega)]
      exact hf.cut k x hk
    · rw [List.take_take]
      exact hf.len _
    · rintro e w4 ⟨v4, r4, rfl, ho4, hg4, hr4⟩
      obtain ⟨a4, n4, c4, rfl⟩ := isSliceO ho4
      have hs := hb.size
      refine ⟨a4, n4, c4, r4, rfl, ho4, ?_, fun g e => ?_⟩
      · exact hb.trans (grow_below hg4 hs hr)
      · rcases hr4 with h | ⟨g', h, h2⟩
        · exact hr g (h.symm.trans e)
        · rw [h] at e; simp at e; omega
  have HBD : Hid (Below w.heap.size w w.drew) := (Below.refl _ _).drew
  subst hnc
  clear hm hS hlt hf
  go_enter Try.func44, Try.ntmps44
  go_wp2
  go_region_with (first
    | (go_at_call 33
       refine HCL.out.mono ?_
       rintro e w3 ⟨v3, r3, rfl, ho3, hb3, hr3⟩
       have hbW : Below w.heap.size w w3 := HBD.out.trans hb3
       have HAF3 : Hid (Calls Try.prog 55 #[v3, .slice ac n cc] w3 (PastPost (fst f.dur (f.chg.take n)) w)) := HAF.out w3 v3 r3 ho3 hbW hr3
       obtain ⟨a3, n3, c3', rfl⟩ := isSliceO ho3
       have k1 : w3.cell? ⟨G, 1, none⟩ = some (.slice ad nd cd) := by rw [hbW.cell (cell_lt c1)]; exact c1
       have k2 : w3.cell? ⟨G, 2, none⟩ = some (.slice ac f.chg.length cc) := by rw [hbW.cell (cell_lt c2)]; exact c2
       clear ho3 hb3 hr3 hbW)
    | (go_at_call 55
       refine HAF3.out.mono ?_
       rintro e w4 ⟨a4, n4, c4, r4, rfl, h4⟩
       have HP : Hid (PastPost (fst f.dur (f.chg.take n)) w (.returned (.slice a4 n4 c4)) w4) := ⟨a4, n4, c4, r4, rfl, h4⟩
       clear h4))
  all_goals
    go_wp2
    go_ret
    exact HP.out
end Go.Proofs.Ytgpmhflndcppeaa

/-! What a loss of power leaves of a file. -/
namespace Go.Proofs.Ytgpmhflndcppeaa
open Go.RowKit Go.Maps Plain
set_option linter.unusedVariables false
set_option linter.unusedSimpArgs false

theorem PicksAt.of_cells {w w' : World} {C : Nat} {v : Value} {ps : List Int} (h : PicksAt w v ps) (ho : PicksOff C v) (hc : ∀ b o u, b < C → w.cell? ⟨b, o, none⟩ = some u → w'.cell? ⟨b, o, none⟩ = some u) : PicksAt w' v ps := by
  obtain ⟨a, cap, rfl, h1, h2, h3, h4⟩ := h
  refine ⟨a, cap, rfl, h1, h2, h3, fun hne => ?_⟩
  obtain ⟨b, off, rfl, h5⟩ := h4 hne
  exact ⟨b, off, rfl, fun j x hj => hc _ _ _ (ho b off _ _ rfl (List.length_pos_iff.mpr hne)) (h5 j x hj)⟩
theorem ChoAt.lt {w : World} {C : Nat} {v : Value} {ps : List Int} (h : ChoAt w C v ps) : C < w.heap.size := (Array.getElem?_eq_some_iff.mp h.blk).1
theorem ChoAt.kept {w w' : World} {C : Nat} {v : Value} {ps : List Int} {r : Option Nat} (h : ChoAt w C v ps) (hg : w.grownBy w' r) (hr : ∀ g, r = some g → C < g) : ChoAt w' C v ps :=
  ⟨(hg.block C h.lt (fun e => by have := hr C e.symm; omega)).trans h.blk, h.row.of_cells h.off (fun b o u hb hu => hg.cell hu (fun e => by have := hr b e.symm; omega)), h.off⟩
theorem ChoAt.later {w w' : World} {C : Nat} {v : Value} {ps : List Int} (h : ChoAt w C v ps) (hb : Below w.heap.size w w') : ChoAt w' C v ps := h.kept (below_grow hb none) (by simp)

set_option maxHeartbeats 2000000 in
set_option maxRecDepth 1000000 in
theorem addTornOf (ab : Option Addr) (nb cb : Nat) (b : List Nat) (w : World) (C : Nat) (v : Value) (ps : List Int) (hb : BytesAt w (.slice ab nb cb) b) (hc : ChoAt w C v ps) (hl : b.length ≤ 4611686018427387904) :
    Calls Try.prog 99 #[.agg #[.slice ab nb cb], .pointer (some ⟨C, 0, none⟩)] w fun e w' => e = .returned (.slice ab (upV ps b.length) cb) ∧ (∃ v', ChoAt w' C v' ps.tail) ∧ w.grownBy w' (some C) := by
  obtain ⟨a, cap, e, h1, h2, h3, h4⟩ := hb
  injection e with e1 e2 e3
  subst e1 e2 e3
  unfold maxLen at h2
  have HBW : Hid (Below w.heap.size w (w.alloc (.cells #[.slice ab b.length cb] 101)).drew) := ((Below.refl _ _).alloc (Nat.le_refl _) _).drew
  have HUP : Hid (Calls Try.prog 18 #[.pointer (some ⟨C, 0, none⟩), .int .i64 (b.length : Int)] (w.alloc (.cells #[.slice ab b.length cb] 101)).drew fun e w' => e = .returned (.int .i64 (upV ps b.length : Int)) ∧ (∃ v', ChoAt w' C v' ps.tail) ∧ (w.alloc (.cells #[.slice ab b.length cb] 101)).drew.grownBy w' (some C)) := upToOf _ C v ps b.length (hc.later HBW.out) hl
  have hle := upV_le ps b.length
  have hCl := hc.lt
  have k0 : (w.alloc (.cells #[.slice ab b.length cb] 101)).cell? ⟨w.heap.size, 0, none⟩ = some (.slice ab b.length cb) := by rw [World.cell?_alloc_at _ _ _ _ rfl]; rfl
  clear hc h3 h4
  generalize b.length = N at *
  generalize upV ps N = M at *
  obtain ⟨W, hW⟩ : ∃ W, w.alloc (.cells #[.slice ab N cb] 101) = W := ⟨_, rfl⟩
  have HW : Hid (w.alloc (.cells #[.slice ab N cb] 101) = W) := hW
  rw [hW] at HBW HUP k0
  clear hW
  go_enter Try.func99, Try.ntmps99
  go_wp2
  rw [HW.out]
  go_region_with (
    go_at_call 18
    refine HUP.out.mono ?_
    rintro e w3 ⟨rfl, hv3, hg3⟩
    have k3 : w3.cell? ⟨w.heap.size, 0, none⟩ = some (.slice ab N cb) := hg3.cell k0 (by simp; omega)
    have HP : Hid ((∃ v', ChoAt w3 C v' ps.tail) ∧ w.grownBy w3 (some C)) := ⟨hv3, grow_trans (below_grow HBW.out (some C)) hg3 (.inl rfl)⟩
    clear hv3 hg3)
  all_goals
    go_wp2
    go_ret
    exact ⟨rfl, HP.out⟩
end Go.Proofs.Ytgpmhflndcppeaa
