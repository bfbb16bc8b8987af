import Derived.Test.YtgffncbmchimdaaQb
/-! manifest: the law of replacements: its walk. -/
namespace Go.Proofs.Ytgffncbmchimdaa
open Go.RowKit Go.Maps Plain
set_option linter.unusedVariables false
set_option linter.unusedSimpArgs false

set_option maxHeartbeats 8000000 in
set_option maxRecDepth 100000 in
theorem againWalk (a0 a1 a2 : Option Addr) (c0 c1 c2 : Nat) (ts : List (List Nat)) (n1 : Nat) (ps : List Int) (W : World) (hts : TsAt W (.slice a0 ts.length c0) ts) (htl : ts.length ≤ 70368744177664) (hn1 : n1 ≤ 70368744177664)
    (hfs : ∀ u m, Below W.heap.size W u → m < n1 → ∃ b off z, a1 = some ⟨b, off, none⟩ ∧ I64 z ∧ u.cell? ⟨b, off + m, none⟩ = some (.int .i64 z)) (hps : PicksAt W (.slice a2 ps.length c2) ps) (hpo : PicksOff W.heap.size (.slice a2 ps.length c2)) :
    Calls Try.prog 4 #[.slice a0 ts.length c0, .slice a1 n1 c1, .slice a2 ps.length c2] W fun e w' => e = .returned (.bool true) ∧ Below W.heap.size W w' := by
  have HTS : Hid (∀ m, m < ts.length → ∃ b off, a0 = some ⟨b, off, none⟩ ∧ ∃ aj nj cj, (∀ u, Below W.heap.size W u → u.cell? ⟨b, off + m, none⟩ = some (.slice aj nj cj)) ∧ BytesAt W (.slice aj nj cj) (ts.getD m [])) := fun m hm => by
    obtain ⟨a, cap, e, h⟩ := hts
    obtain ⟨b, off, e2, aj, nj, cj, h1, h2⟩ := h m hm
    simp at e
    exact ⟨b, off, e.1.trans e2, aj, nj, cj, fun u hu => (hu.cell (p := ⟨b, off + m, none⟩) (cell_lt h1)).trans h1, h2⟩
  have HFS : Hid (∀ u m, Below W.heap.size W u → m < n1 → ∃ b off z, a1 = some ⟨b, off, none⟩ ∧ I64 z ∧ u.cell? ⟨b, off + m, none⟩ = some (.int .i64 z)) := hfs
  have HLA : Hid (Calls Try.prog 15 #[.string nmCat, .slice none 0 0, .bool false] W fun e w' => ∃ d, e = .returned (.tuple #[.pointer (some ⟨d, 0, none⟩), .bool true]) ∧ Hand W d none w') := by
    refine (laidOf7 W).mono ?_
    rintro e w' ⟨k, d, hl, rfl, hd⟩
    obtain ⟨h1, h2⟩ := load_ri (im := []) (B := 268435456) hl rfl ImOk.none (by simp)
    exact ⟨d, rfl, ⟨_, hd, h1, h2, hl.on.fused⟩⟩
  have HPS : Hid (PicksAt W (.slice a2 ps.length c2) ps ∧ PicksOff W.heap.size (.slice a2 ps.length c2)) := ⟨hps, hpo⟩
  clear hts hfs hps hpo
  have hnc : nmCat = (⟨#[99, 97, 116, 97, 108, 111, 103]⟩ : ByteArray) := rfl
  rw [hnc] at HLA
  go_enter Try.func4, Try.ntmps4
  go_wp2_with fail
  refine HLA.out.mono ?_
  rintro e w1 ⟨d0, rfl, hh⟩
  have HH1 : Hid (Hand W d0 none w1) := hh
  have HB1 : Hid (Below W.heap.size W w1) := by obtain ⟨k, h, _⟩ := hh.ex; exact h.1
  clear hh HLA
  go_wp2
  go_loopw [9, 10] (fun s9 s10 wr => ∃ k t : Nat, k ≤ ts.length ∧ t ≤ 268435456 ∧ s9 = .int .i64 t ∧ s10 = .int .i64 k ∧ Hid (∀ j, j < k → (ts.getD j []).length ≤ 268435456) ∧ Hid (Below w1.heap.size w1 wr)) (fun _ i _ => ts.length - (intOf i).toNat)
  case atStart => exact ⟨0, 0, by omega, by omega, rfl, rfl, fun j hj => by omega, Below.refl _ _⟩
  case round =>
    obtain ⟨k, t, hk, ht, rfl, rfl, HS, HB⟩ := hrel
    by_cases hlt : k < ts.length
    · obtain ⟨b, off, rfl, aj, nj, cj, g0, g2⟩ := HTS.out k hlt
      have g1 := g0 wr (below_on HB1.out HB.out)
      clear g0
      obtain ⟨a', cap', e, g3, g4, g5, -⟩ := g2
      simp only [Value.slice.injEq] at e
      obtain ⟨-, e2, e3⟩ := e
      obtain ⟨L, hL⟩ : ∃ L, (ts.getD k []).length = L := ⟨_, rfl⟩
      rw [hL] at e2 g3
      have HL : Hid ((ts.getD k []).length = L) := hL
      clear hL
      subst e2 e3
      have hki : (k : Int) < (ts.length : Int) := by omega
      unfold maxLen at g4
      by_cases hbig : (268435456 : Int) - t < nj
      · go_wp2
        go_ret
        exact ⟨rfl, below_on HB1.out HB.out⟩
      · have HS2 : Hid (∀ j, j < k + 1 → (ts.getD j []).length ≤ 268435456) := fun j hj => by
          by_cases e : j = k
          · rw [e, HL.out]; omega
          · exact HS.out j (by omega)
        go_wp2
        go_roundw
        case rel => exact ⟨k + 1, t + nj, by omega, by omega, by go_num, by go_num, HS2.out, HB.out⟩
        case measure => simp [intOf]; omega
    · obtain rfl : k = ts.length := by omega
      have HH2 : Hid (Hand W d0 none wr) := by
        obtain ⟨k, h1, h2, h3, h4⟩ := HH1.out.ex
        exact ⟨k, h1.later HB.out, h2, h3, h4⟩
      have HLS : Hid (Lst ts 0 (-1) none) := ⟨by omega, by omega, .inl ⟨rfl, rfl⟩⟩
      clear HH1 HB1 HB
      go_wp2
      go_loopw [7, 11, 12] (fun s7 s11 s12 wr => ∃ (i d : Nat) (last : Int) (cur : Option (List Nat)), i ≤ ts.length ∧ s7 = .pointer (some ⟨d, 0, none⟩) ∧ s11 = .int .i64 last ∧ s12 = .int .i64 i ∧ Hid (Hand W d cur wr) ∧ Hid (Lst ts i last cur)) (fun _ _ i _ => ts.length - (intOf i).toNat)
      case atStart => exact ⟨0, d0, -1, none, by omega, rfl, rfl, rfl, HH2.out, HLS.out⟩
      case round =>
        clear HH2 HLS
        obtain ⟨i, d, last, cur, hi, rfl, rfl, rfl, HH, HLS⟩ := hrel
        obtain ⟨k0, hD0, hR0, hd0, hf0⟩ := HH.out.ex
        have HD0 : Hid (Dsk W d k0 wr ∧ RI k0 2 268435456 (fun x => x = cur) ∧ k0.dead = false ∧ k0.fused = false) := ⟨hD0, hR0, hd0, hf0⟩
        have HBR : Hid (Below W.heap.size W wr) := hD0.1
        clear hD0 hR0 hd0 hf0 HH
        by_cases hlt : i < ts.length ∧ i < n1
        · obtain ⟨hlt1, hlt2⟩ := hlt
          obtain ⟨b, off, rfl, aj, nj, cj, g0, g2⟩ := HTS.out i hlt1
          have HTI : Hid (∀ u, Below W.heap.size W u → u.cell? ⟨b, off + i, none⟩ = some (.slice aj nj cj)) := g0
          have g1 := g0 wr HBR.out
          clear g0
          obtain ⟨bf, of, z, rfl, hz, g3⟩ := HFS.out wr i HBR.out hlt2
          have HBI : Hid (BytesAt W (.slice aj nj cj) (ts.getD i []) ∧ (ts.getD i []).length ≤ 268435456) := ⟨g2, HS.out i hlt1⟩
          have HFU : Hid (Calls Try.prog 16 #[.pointer (some ⟨d, 0, none⟩), .int .i64 z] wr fun e w' => e = .returned (.tuple #[]) ∧ ∃ k', Dsk W d k' w' ∧ RI k' 2 268435456 (fun x => x = cur) ∧ k'.dead = false) := fuseD7 HD0.out.1 HD0.out.2.1 HD0.out.2.2.1 z hz
          have hi1 : (i : Int) < (ts.length : Int) := by omega
          have hi2 : (i : Int) < (n1 : Int) := by omega
          clear g2 hz HD0
          go_wp2_with fail
          refine HFU.out.mono ?_
          rintro e w2 ⟨rfl, k1, hD1, hR1, hd1⟩
          have HRP : Hid (Calls Try.prog 17 #[.pointer (some ⟨d, 0, none⟩), .string nmCat, .slice aj nj cj] w2 (RepD W d (2 + 6) 268435456 (fun x => x = cur) (ts.getD i []) k1.fused)) := replaceD7 hD1 hR1 hd1 HBI.out.1 HBI.out.2 (by omega) (by omega)
          have g4 := HTI.out w2 hD1.1
          rw [hnc] at HRP
          clear HFU hD1 hR1 hd1 g1 g3 HBR
          go_wp2_with fail
          refine HRP.out.mono ?_
          rintro e w3 ⟨c3, k3, rfl, hD3, hR3⟩
          have HCR : Hid (∀ A, RI k3 (2 + 6) 268435456 A → Calls Try.prog 12 #[.pointer (some ⟨d, 0, none⟩), .slice a2 ps.length c2] w3 fun e w2 => ∃ a l c, e = .returned (.slice a l c) ∧ ImR w2 (.slice a l c) (crK k3 ps) ∧ Below w3.heap.size w3 w2) := fun A hA => crashD7 hD3 hA (by omega) HPS.out.1 HPS.out.2
          have HB3 : Hid (Below W.heap.size W w3) := hD3.1
          have HX : Hid ((c3 = 0 ∧ imgLook (crK k3 ps) kCat = some (ts.getD i [])) ∨ (c3 = 34 ∧ orNew (fun x => x = cur) (ts.getD i []) (imgLook (crK k3 ps) kCat))) := by
            rcases hR3 with ⟨h1, h2⟩ | ⟨h1, h2, _⟩
            · exact .inl ⟨h1, crash_cat h2 ps⟩
            · exact .inr ⟨h1, crash_cat h2 ps⟩
          obtain ⟨A3, hA3⟩ : ∃ A, RI k3 (2 + 6) 268435456 A := by
            rcases hR3 with ⟨_, h2⟩ | ⟨_, h2, _⟩
            · exact ⟨_, h2⟩
            · exact ⟨_, h2⟩
          have HA3 : Hid (RI k3 (2 + 6) 268435456 A3) := hA3
          have HLD : Hid (∀ w v, Below W.heap.size W w → ImR w v (crK k3 ps) → Calls Try.prog 13 #[v, .int .i64 1073741824] w fun e w' => ∃ d, e = .returned (.tuple #[.pointer (some ⟨d, 0, none⟩), .int .i64 0]) ∧ Hand W d (imgLook (crK k3 ps) kCat) w') := fun w v hb h => loadD7 hb HA3.out h
          clear hD3 hR3 HRP g4 hA3
          go_wp2_with fail
          refine (HCR.out A3 HA3.out).mono ?_
          rintro e w4 ⟨al, ll, cl, rfl, hI4, hb4⟩
          have HI4 : Hid (∀ u, Below w4.heap.size w4 u → ImR u (.slice al ll cl) (crK k3 ps)) := fun u hu => hI4.after hu
          have HB4 : Hid (Below W.heap.size W w4) := below_on HB3.out hb4
          have HFI : Hid (Calls Try.prog 18 #[.slice al ll cl, .string nmCat] w4 (FilePost w4 (crK k3 ps))) := lfileOf _ _ w4 hI4
          rw [hnc] at HFI
          clear hI4 hb4 HCR HA3 HB3
          generalize crK k3 ps = im at *
          go_wp2_with fail
          refine HFI.out.mono ?_
          rintro e w5 h5
          clear HFI
          rcases h5 with ⟨hx5, rfl, hb5⟩ | ⟨y, ay, ny, cy, hx5, rfl, hy5, hb5⟩
          · -- nothing stands there
            have HB5 : Hid (Below w4.heap.size w4 w5) := hb5
            have HC : Hid (c3 = 34 ∧ cur = none ∧ last = -1) := by
              unfold Hid
              rcases HX.out with ⟨_, h2⟩ | ⟨h1, h2⟩
              · rw [hx5] at h2; cases h2
              · rw [hx5] at h2
                rcases h2 with h2 | h2
                · obtain ⟨_, _, h3⟩ := HLS.out
                  rcases h3 with ⟨h4, h5⟩ | ⟨j, _, _, h6⟩
                  · exact ⟨h1, h4, h5⟩
                  · rw [← h2] at h6; cases h6
                · cases h2
            obtain ⟨rfl, hcur, rfl⟩ := HC.out
            have HLN : Hid (Lst ts (i + 1) (-1) (imgLook im kCat)) := by
              refine HLS.out.bad ?_
              rcases HX.out with ⟨h1, _⟩ | ⟨_, h2⟩
              · exact absurd h1 (by decide)
              · exact h2
            clear hb5 HX HC hx5 hcur HLS
            go_wp2
            have hmx : max (-1 : Int) 0 = ((0 : Nat) : Int) := by decide
            rw [hmx]
            go_loopw [17, 18] (fun s17 s18 wx => ∃ k : Nat, k ≤ i + 1 ∧ s17 = .bool false ∧ s18 = .int .i64 k ∧ Hid (Below w4.heap.size w4 wx)) (fun _ k _ => i + 1 - (intOf k).toNat)
            case atStart => exact ⟨0, by omega, rfl, rfl, HB5.out⟩
            case round =>
              obtain ⟨k, hk, rfl, rfl, HBZ⟩ := hrel
              by_cases hki : k ≤ i
              · have hki' : (k : Int) ≤ (i : Int) := by omega
                go_wp2
                go_roundw
                case rel => exact ⟨k + 1, by omega, rfl, by go_num, HBZ.out⟩
                case measure => simp [intOf]; omega
              · have hki' : ¬ (k : Int) ≤ (i : Int) := by omega
                obtain ⟨wz, hwz⟩ : ∃ wz, wz = wr := ⟨_, rfl⟩
                subst hwz
                have HLO : Hid (Calls Try.prog 13 #[.slice al ll cl, .int .i64 1073741824] wz fun e w' => ∃ d, e = .returned (.tuple #[.pointer (some ⟨d, 0, none⟩), .int .i64 0]) ∧ Hand W d (imgLook im kCat) w') := HLD.out wz _ (below_on HB4.out HBZ.out) (HI4.out wz HBZ.out)
                go_wp2_with fail
                refine HLO.out.mono ?_
                rintro e w9 ⟨d9, rfl, hh9⟩
                have HH9 : Hid (Hand W d9 (imgLook im kCat) w9) := hh9
                clear hh9 HLO
                go_wp2
                go_roundw
                case rel => exact ⟨i + 1, d9, -1, imgLook im kCat, by omega, rfl, rfl, by go_num, HH9.out, HLN.out⟩
                case measure => simp [intOf]; omega
          · have HB5 : Hid (Below w4.heap.size w4 w5) := hb5
            have HY : Hid (∀ u, Below w5.heap.size w5 u → BytesAt u (.slice ay ny cy) y) := fun u hu => hy5.later hu
            obtain ⟨m, hm⟩ : ∃ m : Nat, max last 0 = (m : Int) := ⟨(max last 0).toNat, by omega⟩
            have hmi : m ≤ i := by have := HLS.out.2.1; omega
            have HXY : Hid ((c3 = 0 ∧ y = ts.getD i []) ∨ (c3 = 34 ∧ orNew (fun x => x = cur) (ts.getD i []) (some y))) := by
              unfold Hid
              have h := HX.out
              rw [hx5] at h
              rcases h with ⟨h1, h2⟩ | h
              · cases h2; exact .inl ⟨h1, rfl⟩
              · exact .inr h
            have HAM : Hid (among ts (some y) m (i + 1) = true) := by
              unfold Hid
              rcases HXY.out with ⟨_, h2⟩ | ⟨_, h2⟩
              · exact among_is (j := i) (by omega) (by omega) (by rw [h2])
              · rcases h2 with h2 | h2
                · obtain ⟨_, _, h3⟩ := HLS.out
                  rcases h3 with ⟨h4, _⟩ | ⟨j, h4, h5, h6⟩
                  · rw [← h2] at h4; cases h4
                  · exact among_is (j := j) (by omega) (by omega) (h2.trans h6)
                · exact among_is (j := i) (by omega) (by omega) h2
            have HLN : Hid (c3 = 34 → Lst ts (i + 1) last (imgLook im kCat)) := fun h => HLS.out.bad (by
              rcases HX.out with ⟨h1, _⟩ | ⟨_, h2⟩
              · rw [h1] at h; exact absurd h (by decide)
              · exact h2)
            have HLZ : Hid (c3 = 0 → Lst ts (i + 1) i (imgLook im kCat)) := fun h => by
              rcases HX.out with ⟨_, h1⟩ | ⟨h2, _⟩
              · rw [h1]; exact Lst.ok
              · rw [h2] at h; exact absurd h (by decide)
            clear hb5 hy5 HX hx5 HLS
            go_wp2
            try rw [hm]
            go_loopw [17, 18] (fun s17 s18 wx => ∃ k : Nat, m ≤ k ∧ k ≤ i + 1 ∧ s17 = .bool (among ts (some y) m k) ∧ s18 = .int .i64 k ∧ Hid (Below w5.heap.size w5 wx)) (fun _ k _ => i + 1 - (intOf k).toNat)
            case atStart => exact ⟨m, Nat.le_refl _, by omega, by rw [among_zero], rfl, Below.refl _ _⟩
            case round =>
              obtain ⟨k, hmk, hk, rfl, rfl, HBZ5⟩ := hrel
              have HBZ : Hid (Below w4.heap.size w4 wr) := HB5.out.trans (HBZ5.out.mono HB5.out.size)
              by_cases hki : k ≤ i
              · have hki' : (k : Int) ≤ (i : Int) := by omega
                have HAS : Hid (among ts (some y) m (k + 1) = (among ts (some y) m k || decide (some y = some (ts.getD k [])))) := among_step ts (some y) m k hmk
                cases hr : among ts (some y) m k with
                | true =>
                  rw [hr] at HAS
                  go_wp2
                  go_roundw
                  case rel => exact ⟨k + 1, by omega, by omega, by rw [HAS.out]; rfl, by go_num, HBZ5.out⟩
                  case measure => simp [intOf]; omega
                | false =>
                  rw [hr] at HAS
                  obtain ⟨b', off', e', ak, nk, ck, q0, q2⟩ := HTS.out k (by omega)
                  cases e'
                  have q1 := q0 wr (below_on HB4.out HBZ.out)
                  have HSM : Hid (Calls Try.prog 19 #[.slice ay ny cy, .slice ak nk ck] wr fun e w' => e = .returned (.bool (decide (y = ts.getD k []))) ∧ ∃ n, w' = wr.drewN n) := same7Of _ _ _ _ wr (HY.out wr HBZ5.out) (q2.later (below_on HB4.out HBZ.out))
                  have HAS2 : Hid (among ts (some y) m (k + 1) = decide (y = ts.getD k [])) := by unfold Hid; rw [HAS.out]; simp
                  generalize decide (y = ts.getD k []) = rb at HSM HAS2
                  have hkt : (k : Int) < (ts.length : Int) := by omega
                  clear q0 q2 HAS
                  go_wp2_with fail
                  refine HSM.out.mono ?_
                  rintro e w' ⟨rfl, nq, rfl⟩
                  have HB6 : Hid (Below w5.heap.size w5 (wr.drewN nq)) := HBZ5.out.trans (Below.mono ⟨rfl, rfl, rfl, Nat.le_refl _, fun _ _ => rfl⟩ HBZ5.out.size)
                  clear HSM q1
                  go_wp2
                  go_roundw
                  case rel => exact ⟨k + 1, by omega, by omega, by rw [HAS2.out], by go_num, HB6.out⟩
                  case measure => simp [intOf]; omega
              · have hki' : ¬ (k : Int) ≤ (i : Int) := by omega
                obtain rfl : k = i + 1 := by omega
                rw [HAM.out]
                rcases HXY.out with ⟨rfl, hyi⟩ | ⟨rfl, hyi⟩
                · have HSM : Hid (Calls Try.prog 19 #[.slice ay ny cy, .slice aj nj cj] wr fun e w' => e = .returned (.bool true) ∧ ∃ n, w' = wr.drewN n) := by
                    have := same7Of _ _ _ _ wr (HY.out wr HBZ5.out) (HBI.out.1.later (below_on HB4.out HBZ.out))
                    rw [decide_eq_true hyi] at this
                    exact this
                  have q1 := HTI.out wr (below_on HB4.out HBZ.out)
                  have HLZ2 : Hid (Lst ts (i + 1) i (imgLook im kCat)) := HLZ.out rfl
                  clear hyi HXY HLZ HLN
                  by_cases hl0 : last < 0
                  all_goals
                    go_wp2_with fail
                    refine HSM.out.mono ?_
                    rintro e wz ⟨rfl, nq, hwz⟩
                    have HBZ2 : Hid (Below w4.heap.size w4 wz) := HBZ.out.trans (Below.mono (by rw [hwz]; exact ⟨rfl, rfl, rfl, Nat.le_refl _, fun _ _ => rfl⟩) HBZ.out.size)
                    clear hwz HBZ
                    rename Hid (Below w4.heap.size w4 wz) => HBZ
                    have HLO : Hid (Calls Try.prog 13 #[.slice al ll cl, .int .i64 1073741824] wz fun e w' => ∃ d, e = .returned (.tuple #[.pointer (some ⟨d, 0, none⟩), .int .i64 0]) ∧ Hand W d (imgLook im kCat) w') := HLD.out wz _ (below_on HB4.out HBZ.out) (HI4.out wz HBZ.out)
                    go_wp2_with fail
                    refine HLO.out.mono ?_
                    rintro e w9 ⟨d9, rfl, hh9⟩
                    have HH9 : Hid (Hand W d9 (imgLook im kCat) w9) := hh9
                    clear hh9 HLO
                    go_wp2
                    go_roundw
                    case rel => exact ⟨i + 1, d9, i, imgLook im kCat, by omega, rfl, rfl, by go_num, HH9.out, HLZ2.out⟩
                    case measure => simp [intOf]; omega
                · obtain ⟨wz, hwz⟩ : ∃ wz, wz = wr := ⟨_, rfl⟩
                  subst hwz
                  have HLN2 : Hid (Lst ts (i + 1) last (imgLook im kCat)) := HLN.out rfl
                  clear hyi HXY HLN HLZ
                  by_cases hl0 : last < 0
                  all_goals
                    have HLO : Hid (Calls Try.prog 13 #[.slice al ll cl, .int .i64 1073741824] wz fun e w' => ∃ d, e = .returned (.tuple #[.pointer (some ⟨d, 0, none⟩), .int .i64 0]) ∧ Hand W d (imgLook im kCat) w') := HLD.out wz _ (below_on HB4.out HBZ.out) (HI4.out wz HBZ.out)
                    go_wp2_with fail
                    refine HLO.out.mono ?_
                    rintro e w9 ⟨d9, rfl, hh9⟩
                    have HH9 : Hid (Hand W d9 (imgLook im kCat) w9) := hh9
                    clear hh9 HLO
                    go_wp2
                    go_roundw
                    case rel => exact ⟨i + 1, d9, last, imgLook im kCat, by omega, rfl, rfl, by go_num, HH9.out, HLN2.out⟩
                    case measure => simp [intOf]; omega
        · have HD9 : Hid (∀ o : Obj, o = .cells #[.int .u8 1, .int .u8 2] 5 → Calls Try.prog 17 #[.pointer (some ⟨d, 0, none⟩), .string nmCat, .slice (some ⟨wr.heap.size, 0, none⟩) 2 2] (wr.alloc o) fun e w' => ∃ k', e = .returned (.int .i64 0) ∧ Dsk W d k' w' ∧ RI k' (2 + 6) 268435456 (fun x => x = some [1, 2])) := fun o ho => by
            subst ho
            have hbl : Below wr.heap.size wr (wr.alloc (.cells #[.int .u8 1, .int .u8 2] 5)) := (Below.refl _ _).alloc (Nat.le_refl _) _
            refine (replaceN7 (b := [1, 2]) (B := 268435456) HD0.out.1 hbl HD0.out.2.1 HD0.out.2.2.1 (fun u h1 h2 => ?_) (by simp) (by omega) (by omega)).mono ?_
            · have hsz : (wr.alloc (.cells #[.int .u8 1, .int .u8 2] 5)).heap.size = wr.heap.size + 1 := by simp
              have hblk := h1 wr.heap.size (Nat.le_refl _) (by omega)
              refine ⟨_, 2, rfl, by simp, by unfold maxLen; omega, by simp, fun _ => ⟨wr.heap.size, 0, rfl, fun j hj => ?_⟩⟩
              rw [World.cell?_of_block (w := wr.alloc (.cells #[.int .u8 1, .int .u8 2] 5)) (a := ⟨wr.heap.size, 0 + j, none⟩) hblk, World.cell?_alloc_at _ _ _ _ rfl]
              have : j = 0 ∨ j = 1 := by simp at hj; omega
              rcases this with rfl | rfl <;> rfl
            · rintro e w' ⟨c, k', rfl, h1, h2⟩
              rcases h2 with ⟨rfl, h2⟩ | ⟨_, _, h3⟩
              · exact ⟨k', rfl, h1, h2⟩
              · rw [HD0.out.2.2.2] at h3; cases h3
          rw [hnc] at HD9
          have hcond : (i : Int) < (ts.length : Int) → ¬ (i : Int) < (n1 : Int) := fun h1 h2 => hlt ⟨by omega, by omega⟩
          clear HD0 HLS hlt
          by_cases hc1 : (i : Int) < (ts.length : Int)
          · have hc2 := hcond hc1
            clear hcond
            go_wp2_with fail
            refine (HD9.out _ rfl).mono ?_
            rintro e w6 ⟨k6, rfl, hD6, hR6⟩
            have HCR : Hid (Calls Try.prog 12 #[.pointer (some ⟨d, 0, none⟩), .slice a2 ps.length c2] w6 fun e w2 => ∃ a l c, e = .returned (.slice a l c) ∧ ImR w2 (.slice a l c) (crK k6 ps) ∧ Below w6.heap.size w6 w2) := crashD7 hD6 hR6 (by omega) HPS.out.1 HPS.out.2
            have HX6 : Hid (imgLook (crK k6 ps) kCat = some [1, 2]) := crash_cat hR6 ps
            have HB6 : Hid (Below W.heap.size W w6) := hD6.1
            clear hD6 hR6 HD9
            generalize crK k6 ps = im at *
            go_wp2_with fail
            refine HCR.out.mono ?_
            rintro e w7 ⟨al, ll, cl, rfl, hI7, hb7⟩
            have HB7 : Hid (Below W.heap.size W w7) := below_on HB6.out hb7
            have HFI : Hid (Calls Try.prog 18 #[.slice al ll cl, .string nmCat] w7 (FilePost w7 im)) := lfileOf _ _ w7 hI7
            rw [hnc] at HFI
            clear hI7 hb7 HCR HB6
            go_wp2_with fail
            refine HFI.out.mono ?_
            rintro e w8 h8
            clear HFI
            rcases h8 with ⟨hx8, _, _⟩ | ⟨y, ay, ny, cy, hx8, rfl, hy8, hb8⟩
            · have := HX6.out
              rw [hx8] at this
              cases this
            · have hy : y = [1, 2] := by
                have := HX6.out
                rw [hx8] at this
                injection this
              have HB8 : Hid (Below W.heap.size W w8) := below_on HB7.out hb8
              have HSM : Hid (Calls Try.prog 19 #[.slice ay ny cy, .slice (some ⟨w8.heap.size, 0, none⟩) 2 2] (w8.alloc (.cells #[.int .u8 1, .int .u8 2] 5)) fun e w' => e = .returned (.bool true) ∧ ∃ n, w' = (w8.alloc (.cells #[.int .u8 1, .int .u8 2] 5)).drewN n) := by
                have h2 : BytesAt (w8.alloc (.cells #[.int .u8 1, .int .u8 2] 5)) (.slice (some ⟨w8.heap.size, 0, none⟩) 2 2) [1, 2] := by
                  refine ⟨_, 2, rfl, by simp, by unfold maxLen; omega, by simp, fun _ => ⟨w8.heap.size, 0, rfl, fun j hj => ?_⟩⟩
                  rw [World.cell?_alloc_at _ _ _ _ rfl]
                  have : j = 0 ∨ j = 1 := by simp at hj; omega
                  rcases this with rfl | rfl <;> rfl
                have := same7Of _ _ y [1, 2] _ (hy8.later ((Below.refl _ _).alloc (Nat.le_refl _) _)) h2
                rw [decide_eq_true hy] at this
                exact this
              have HBA : Hid (∀ n, Below W.heap.size W ((w8.alloc (.cells #[.int .u8 1, .int .u8 2] 5)).drewN n)) := fun n => below_on HB8.out (((Below.refl _ _).alloc (Nat.le_refl _) _).trans ⟨rfl, rfl, rfl, Nat.le_refl _, fun _ _ => rfl⟩)
              clear hx8 hy8 hb8 hy HX6
              go_wp2_with fail
              refine HSM.out.mono ?_
              rintro e w9 ⟨rfl, n9, rfl⟩
              have HB9 := HBA.out n9
              have HB10 : Hid (Below W.heap.size W ((w8.alloc (.cells #[.int .u8 1, .int .u8 2] 5)).drewN n9)) := HB9
              clear HB9
              go_wp2
              go_ret
              exact ⟨rfl, HB10.out⟩
          · clear hcond
            go_wp2_with fail
            refine (HD9.out _ rfl).mono ?_
            rintro e w6 ⟨k6, rfl, hD6, hR6⟩
            have HCR : Hid (Calls Try.prog 12 #[.pointer (some ⟨d, 0, none⟩), .slice a2 ps.length c2] w6 fun e w2 => ∃ a l c, e = .returned (.slice a l c) ∧ ImR w2 (.slice a l c) (crK k6 ps) ∧ Below w6.heap.size w6 w2) := crashD7 hD6 hR6 (by omega) HPS.out.1 HPS.out.2
            have HX6 : Hid (imgLook (crK k6 ps) kCat = some [1, 2]) := crash_cat hR6 ps
            have HB6 : Hid (Below W.heap.size W w6) := hD6.1
            clear hD6 hR6 HD9
            generalize crK k6 ps = im at *
            go_wp2_with fail
            refine HCR.out.mono ?_
            rintro e w7 ⟨al, ll, cl, rfl, hI7, hb7⟩
            have HB7 : Hid (Below W.heap.size W w7) := below_on HB6.out hb7
            have HFI : Hid (Calls Try.prog 18 #[.slice al ll cl, .string nmCat] w7 (FilePost w7 im)) := lfileOf _ _ w7 hI7
            rw [hnc] at HFI
            clear hI7 hb7 HCR HB6
            go_wp2_with fail
            refine HFI.out.mono ?_
            rintro e w8 h8
            clear HFI
            rcases h8 with ⟨hx8, _, _⟩ | ⟨y, ay, ny, cy, hx8, rfl, hy8, hb8⟩
            · have := HX6.out
              rw [hx8] at this
              cases this
            · have hy : y = [1, 2] := by
                have := HX6.out
                rw [hx8] at this
                injection this
              have HB8 : Hid (Below W.heap.size W w8) := below_on HB7.out hb8
              have HSM : Hid (Calls Try.prog 19 #[.slice ay ny cy, .slice (some ⟨w8.heap.size, 0, none⟩) 2 2] (w8.alloc (.cells #[.int .u8 1, .int .u8 2] 5)) fun e w' => e = .returned (.bool true) ∧ ∃ n, w' = (w8.alloc (.cells #[.int .u8 1, .int .u8 2] 5)).drewN n) := by
                have h2 : BytesAt (w8.alloc (.cells #[.int .u8 1, .int .u8 2] 5)) (.slice (some ⟨w8.heap.size, 0, none⟩) 2 2) [1, 2] := by
                  refine ⟨_, 2, rfl, by simp, by unfold maxLen; omega, by simp, fun _ => ⟨w8.heap.size, 0, rfl, fun j hj => ?_⟩⟩
                  rw [World.cell?_alloc_at _ _ _ _ rfl]
                  have : j = 0 ∨ j = 1 := by simp at hj; omega
                  rcases this with rfl | rfl <;> rfl
                have := same7Of _ _ y [1, 2] _ (hy8.later ((Below.refl _ _).alloc (Nat.le_refl _) _)) h2
                rw [decide_eq_true hy] at this
                exact this
              have HBA : Hid (∀ n, Below W.heap.size W ((w8.alloc (.cells #[.int .u8 1, .int .u8 2] 5)).drewN n)) := fun n => below_on HB8.out (((Below.refl _ _).alloc (Nat.le_refl _) _).trans ⟨rfl, rfl, rfl, Nat.le_refl _, fun _ _ => rfl⟩)
              clear hx8 hy8 hb8 hy HX6
              go_wp2_with fail
              refine HSM.out.mono ?_
              rintro e w9 ⟨rfl, n9, rfl⟩
              have HB9 := HBA.out n9
              have HB10 : Hid (Below W.heap.size W ((w8.alloc (.cells #[.int .u8 1, .int .u8 2] 5)).drewN n9)) := HB9
              clear HB9
              go_wp2
              go_ret
              exact ⟨rfl, HB10.out⟩
end Go.Proofs.Ytgffncbmchimdaa
