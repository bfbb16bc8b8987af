import Derived.Test.YtdjaogailfipjaaGre
namespace Go.Proofs.Ytdjaogailfipjaa
open Go.RowKit Plain
set_option linter.unusedVariables false
set_option linter.unusedSimpArgs false

theorem retB {a b : Bool} (h : a = b) : Ending.returned (.bool a) = .returned (.bool b) := by rw [h]

set_option maxHeartbeats 4000000 in
set_option maxRecDepth 1000000 in
theorem greedyS (l : List Nat) (b off cap : Nat) (w : World) (h : BytesAt w (.slice (some ⟨b, off, none⟩) l.length cap) l) (hpos : 0 < l.length) (hlong : ¬ 4096 < l.length) :
    Calls Try.prog 3 #[.slice (some ⟨b, off, none⟩) l.length cap] w fun e w' => e = .returned (.bool true) ∧ Below w.heap.size w w' := by
  have HB0 : Hid (BytesAt w (.slice (some ⟨b, off, none⟩) l.length cap) l) := h
  have hlc : l.length ≤ cap := by obtain ⟨a', cap', e, h1, _⟩ := h; simp only [Value.slice.injEq] at e; omega
  have hcm : cap ≤ 2 ^ 63 - 1 := by obtain ⟨a', cap', e, _, h1, _⟩ := h; simp only [Value.slice.injEq] at e; unfold maxLen at h1; omega
  clear h
  obtain ⟨T, hT⟩ : ∃ T, min l.length 4096 = T := ⟨_, rfl⟩
  have HL : Hid (∃ L : List Nat, L.length = T ∧ BytesAt w (.slice (some ⟨b, off, none⟩) T cap) L) := by
    refine ⟨l.take T, by rw [List.length_take]; omega, HB0.out.take T (by omega)⟩
  have hT1 : 0 < T := by omega
  have hT2 : T ≤ 4096 := by omega
  have hT3 : T ≤ cap := by omega
  all_goals
    go_enter Try.func3, Try.ntmps3
    go_wp2_with fail
    first
      | (have e : l.length = T := by omega
         rw [e])
      | (have e : T = 4096 := by omega
         rw [show (Value.slice (some ⟨b, off, none⟩) 4096 cap) = Value.slice (some ⟨b, off, none⟩) T cap by rw [e]])
    clear e
    obtain ⟨L, HLL, HBL⟩ := HL.out
    have HLT : Hid (L.length = T) := HLL
    have HB : Hid (BytesAt w (.slice (some ⟨b, off, none⟩) T cap) L) := HBL
    clear HLL HBL HL HB0 hT hlong
    refine (tokensAny _ L w HB.out (by have := HLT.out; omega)).mono ?_
    rintro e w1 ⟨tv, ts, r, rfl, hp, ht, hb1⟩
    rw [HLT.out] at hp
    have HP : Hid (PreP L ts T) := hp
    have HTR : Hid (TRow (w.heap.size + 1) w1 tv ts r) := ht
    have HB1 : Hid (Below w.heap.size w w1) := hb1
    have hts : 0 < ts.length := by
      cases ts with
      | nil => have := hp.zero; omega
      | cons a t => simp
    have hts2 : ts.length ≤ 4096 := by have := hp.count; omega
    clear hp hb1
    rcases ht.own with ⟨_, h0, _⟩ | ⟨gT, tcap, rfl, rfl, hgT, htc1, htc2, hjunk1, hjunk2, hcT⟩
    · subst h0; simp at hts
    have HCT : Hid (∀ j, j < 3 * ts.length → w1.cell? ⟨gT, j, none⟩ = (tcells ts)[j]?) := hcT
    unfold maxLen at htc2
    clear hcT ht hjunk1 hjunk2
    go_wp2
    go_loopg [5, 6] ts.length (fun gk s5 s6 wx => ∃ k i : Nat, k + gk = ts.length ∧ s6 = .int .i64 k ∧ s5 = .int .i64 i ∧ i ≤ T ∧ Hid (PreP L (ts.take k) i ∧ Below w1.heap.size w1 wx))
    case atStart => exact ⟨0, 0, by omega, rfl, rfl, by omega, by simpa using PreP.nil, Below.refl _ _⟩
    case round =>
      obtain ⟨k, i, hkg, rfl, rfl, hiT, HK⟩ := hrel
      cases gk with
      | zero =>
        obtain rfl : k = ts.length := by omega
        have hi : i = T := by
          have := HK.out.1
          rw [List.take_length] at this
          exact this.same HP.out
        subst hi
        have HBE : Hid (Below w.heap.size w wr) := HB1.out.trans (HK.out.2.mono HB1.out.size)
        go_wp2
        go_ret
        exact ⟨retB (by simp), HBE.out⟩
      | succ gk1 =>
        have hk : k < ts.length := by omega
        obtain ⟨HN, HC⟩ := HP.out.at hk HK.out.1
        have HNX : Hid (PreP L (ts.take (k + 1)) (i + ts[k].len)) := HN
        have hgr : gT < w1.heap.size := hgT
        rcases HC with ⟨gl, bs, het, hlast, hbs, hib, hbe, hbest⟩ | ⟨d, n, het, hn5, hbest⟩
        · have hc0 : wr.cell? ⟨gT, k * 3, none⟩ = some (.slice (some ⟨gl, 0, none⟩) bs.length bs.length) := by
            rw [HK.out.2.cell (p := ⟨gT, k * 3, none⟩) hgT, HCT.out _ (by omega), show k * 3 = 3 * k + 0 by omega, tcells_get ts k hk 0 (by omega), het]; rfl
          have hc1 : wr.cell? ⟨gT, k * 3 + 1, none⟩ = some (.int .i64 0) := by
            rw [HK.out.2.cell (p := ⟨gT, k * 3 + 1, none⟩) hgT, HCT.out _ (by omega), show k * 3 = 3 * k by omega, tcells_get ts k hk 1 (by omega), het]; rfl
          have hc2 : wr.cell? ⟨gT, k * 3 + 2, none⟩ = some (.int .i64 0) := by
            rw [HK.out.2.cell (p := ⟨gT, k * 3 + 2, none⟩) hgT, HCT.out _ (by omega), show k * 3 = 3 * k by omega, tcells_get ts k hk 2 (by omega), het]; rfl
          have HX : Hid (ts[k] = .lit gl bs ∧ (∀ g' b', (ts.take k).getLast? ≠ some (.lit g' b')) ∧ bs ≠ [] ∧ i + bs.length ≤ L.length ∧ bs = (L.drop i).take bs.length ∧ ∀ j, i ≤ j → j < i + bs.length → Best L j 0 0) := ⟨het, hlast, hbs, hib, hbe, hbest⟩
          have hbs1 : 0 < bs.length := List.length_pos_iff.mpr hbs
          have hib2 : i + bs.length ≤ T := by rw [← HLT.out]; exact hib
          clear HN het hlast hbs hib hbe hbest
          have HWb : Hid (Below w1.heap.size w1 (wr.alloc (.cells #[.slice (some ⟨gl, 0, none⟩) bs.length bs.length, .int .i64 0, .int .i64 0] 28))) := HK.out.2.alloc HK.out.2.size _
          have hgw : gT ≠ wr.heap.size := by have := HK.out.2.size; omega
          go_wp2
          clear hc0 hc1 hc2
          obtain ⟨W, hW⟩ : ∃ W, wr.alloc (.cells #[.slice (some ⟨gl, 0, none⟩) bs.length bs.length, .int .i64 0, .int .i64 0] 28) = W := ⟨_, rfl⟩
          have hw0 : W.cell? ⟨wr.heap.size, 0, none⟩ = some (.slice (some ⟨gl, 0, none⟩) bs.length bs.length) := by rw [← hW, World.cell?_alloc_at _ _ _ _ rfl]; rfl
          have hw1 : W.cell? ⟨wr.heap.size, 1, none⟩ = some (.int .i64 0) := by rw [← hW, World.cell?_alloc_at _ _ _ _ rfl]; rfl
          have hw2 : W.cell? ⟨wr.heap.size, 2, none⟩ = some (.int .i64 0) := by rw [← hW, World.cell?_alloc_at _ _ _ _ rfl]; rfl
          rw [hW] at HWb ⊢
          clear hW
          have HSm : Hid (∀ n, Calls Try.prog 10 #[.slice (some ⟨gl, 0, none⟩) bs.length bs.length, .slice (some ⟨b, off + i, none⟩) bs.length (cap - i)] (W.drewN n) fun e w'' => e = .returned (.bool true) ∧ ∃ m, w'' = W.drewN m) := fun n => by
            obtain ⟨x1, x2, x3, x4, x5, x6⟩ := HX.out
            have hmem : Tk.lit gl bs ∈ ts := by rw [← x1]; exact List.getElem_mem hk
            have hB1 : BytesAt W (.slice (some ⟨gl, 0, none⟩) bs.length bs.length) bs := (HTR.out.lits gl bs hmem).2.2.2.bytes.later HWb.out
            have hB2 := ((HB.out.later HB1.out).later HWb.out).part i (i + bs.length) (by omega) (by rw [HLT.out]; omega)
            rw [show i + bs.length - i = bs.length by omega, ← x5] at hB2
            refine (sameBytes _ _ bs bs (W.drewN n) (hB1.drewN n) (hB2.drewN n)).mono ?_
            rintro e w'' ⟨rfl, m, rfl⟩
            exact ⟨retB (by simp), _, World.drewN_drewN _ _ _⟩
          have hd1 : decide ((T : Int) < (i : Int) + (bs.length : Int)) = false := by simp; omega
          have hile : i ≤ T := by omega
          have hcne : ¬ cap = i := by omega
          have HMt : Hid (∀ q i' d', 1 ≤ d' → d' ≤ i' → d' ≤ 2048 → i ≤ i' → i' < i + bs.length → Calls Try.prog 11 #[.slice (some ⟨b, off, none⟩) T cap, .int .i64 (i' : Nat), .int .i64 (d' : Nat)] (W.drewN q) fun e w' => ∃ n' q', n' < 5 ∧ e = .returned (.int .i64 (n' : Nat)) ∧ w' = W.drewN q') := fun q i' d' h1 h2 h3 h4 h5 => by
            obtain ⟨x1, x2, x3, x4, x5, x6⟩ := HX.out
            have hB2 := (((HB.out.later HB1.out).later HWb.out).drewN q)
            refine (matchAt _ L i' d' _ hB2 (by rw [HLT.out]; omega) h1 h2).mono ?_
            rintro e w' ⟨n', q', y1, rfl, rfl⟩
            refine ⟨n', _, ?_, rfl, World.drewN_drewN _ _ _⟩
            rcases x6 i' h4 h5 with ⟨_, _, z⟩ | ⟨z, _⟩
            · exact z d' n' h1 h2 h3 y1
            · omega
          have HNX2 : Hid (PreP L (ts.take (k + 1)) (i + bs.length)) := by
            have := HNX.out
            rw [HX.out.1] at this
            exact this
          by_cases hk0 : k < 1
          · have hdk : decide (0 < (k : Int)) = false := by simp; omega
            have hdk2 : decide (0 < k) = false := by simp; omega
            go_quiet ((go_at_call 10; exact HSm.out _))
            go_wp2
            clear HSm hd1 hcne hdk hdk2
            rw [Nat.add_sub_cancel_left]
            go_loopg [5, 8] bs.length (fun g2 s5 s8 wx => ∃ m i' q : Nat, m + g2 = bs.length ∧ s5 = .int .i64 i' ∧ s8 = .int .i64 m ∧ wx = W.drewN q ∧ Hid (i' = i + m))
            case atStart => exact ⟨0, i, nq, by omega, rfl, rfl, rfl, rfl⟩
            case round =>
              obtain ⟨m, i', q, hmg, rfl, rfl, rfl, HI'⟩ := hrel
              cases gk with
              | zero =>
                obtain rfl : m = bs.length := by omega
                have hi' := HI'.out
                subst hi'
                have HBx : Hid (Below w1.heap.size w1 (W.drewN q)) := below_drewN HWb.out q
                go_wp2
                go_roundg gk1
                case measure => omega
                case rel => exact ⟨k + 1, i + bs.length, by omega, by go_num, rfl, hib2, HNX2.out, HBx.out⟩
              | succ g2 =>
                have hm : m < bs.length := by omega
                have hi1 : i ≤ i' := by have := HI'.out; omega
                have hi2 : i' < i + bs.length := by have := HI'.out; omega
                go_wp2
                go_loopg [9] 2048 (fun g3 s9 wx => ∃ d q : Nat, d + g3 = 2049 ∧ 1 ≤ d ∧ s9 = .int .i64 d ∧ wx = W.drewN q)
                case atStart => exact ⟨1, q, by omega, by omega, rfl, rfl⟩
                case round =>
                  obtain ⟨d, q3, hdg, hd1, rfl, rfl⟩ := hrel
                  by_cases hd2 : d ≤ i'
                  · by_cases hd3 : d ≤ 2048
                    · go_wp2_with fail
                      refine (HMt.out q3 i' d hd1 hd2 hd3 hi1 hi2).mono ?_
                      rintro e w' ⟨n', q4, hn', rfl, rfl⟩
                      go_wp2
                      go_roundg (2048 - d)
                      case measure => omega
                      case rel => exact ⟨d + 1, _, by omega, by omega, by go_num, rfl⟩
                    · go_wp2
                      go_roundg g2
                      case measure => omega
                      case rel => exact ⟨m + 1, i' + 1, _, by omega, by go_num, by go_num, rfl, by have := HI'.out; show i' + 1 = i + (m + 1); omega⟩
                  · go_wp2
                    go_roundg g2
                    case measure => omega
                    case rel => exact ⟨m + 1, i' + 1, _, by omega, by go_num, by go_num, rfl, by have := HI'.out; show i' + 1 = i + (m + 1); omega⟩
          · have hdk : decide (0 < (k : Int)) = true := by simp; omega
            have hdk2 : decide (0 < k) = true := by simp; omega
            have hkp : 0 < k := by omega
            have hkn : ((k : Int) - 1).toNat = k - 1 := by omega
            have hkc : W.cell? ⟨gT, (k - 1) * 3, none⟩ = some (.slice none 0 0) := by
              obtain ⟨i0, hi0⟩ := HP.out.take (k - 1) (by omega)
              have hk1 : k - 1 < ts.length := by omega
              rw [HWb.out.cell (p := ⟨gT, (k - 1) * 3, none⟩) hgT, HCT.out _ (by omega), show (k - 1) * 3 = 3 * (k - 1) + 0 by omega, tcells_get ts (k - 1) hk1 0 (by omega)]
              rcases (HP.out.at hk1 hi0).2 with ⟨g', b', e, _⟩ | ⟨d', n', e, _⟩
              · exfalso
                refine HX.out.2.1 g' b' ?_
                have e2 := List.take_succ_eq_append_getElem hk1
                rw [show k - 1 + 1 = k by omega] at e2
                rw [e2, List.getLast?_concat, e]
              · rw [e]; rfl
            go_quiet ((go_at_call 10; exact HSm.out _))
            go_wp2
            clear HSm hd1 hcne hdk hdk2
            rw [Nat.add_sub_cancel_left]
            go_loopg [5, 8] bs.length (fun g2 s5 s8 wx => ∃ m i' q : Nat, m + g2 = bs.length ∧ s5 = .int .i64 i' ∧ s8 = .int .i64 m ∧ wx = W.drewN q ∧ Hid (i' = i + m))
            case atStart => exact ⟨0, i, nq, by omega, rfl, rfl, rfl, rfl⟩
            case round =>
              obtain ⟨m, i', q, hmg, rfl, rfl, rfl, HI'⟩ := hrel
              cases gk with
              | zero =>
                obtain rfl : m = bs.length := by omega
                have hi' := HI'.out
                subst hi'
                have HBx : Hid (Below w1.heap.size w1 (W.drewN q)) := below_drewN HWb.out q
                go_wp2
                go_roundg gk1
                case measure => omega
                case rel => exact ⟨k + 1, i + bs.length, by omega, by go_num, rfl, hib2, HNX2.out, HBx.out⟩
              | succ g2 =>
                have hm : m < bs.length := by omega
                have hi1 : i ≤ i' := by have := HI'.out; omega
                have hi2 : i' < i + bs.length := by have := HI'.out; omega
                go_wp2
                go_loopg [9] 2048 (fun g3 s9 wx => ∃ d q : Nat, d + g3 = 2049 ∧ 1 ≤ d ∧ s9 = .int .i64 d ∧ wx = W.drewN q)
                case atStart => exact ⟨1, q, by omega, by omega, rfl, rfl⟩
                case round =>
                  obtain ⟨d, q3, hdg, hd1, rfl, rfl⟩ := hrel
                  by_cases hd2 : d ≤ i'
                  · by_cases hd3 : d ≤ 2048
                    · go_wp2_with fail
                      refine (HMt.out q3 i' d hd1 hd2 hd3 hi1 hi2).mono ?_
                      rintro e w' ⟨n', q4, hn', rfl, rfl⟩
                      go_wp2
                      go_roundg (2048 - d)
                      case measure => omega
                      case rel => exact ⟨d + 1, _, by omega, by omega, by go_num, rfl⟩
                    · go_wp2
                      go_roundg g2
                      case measure => omega
                      case rel => exact ⟨m + 1, i' + 1, _, by omega, by go_num, by go_num, rfl, by have := HI'.out; show i' + 1 = i + (m + 1); omega⟩
                  · go_wp2
                    go_roundg g2
                    case measure => omega
                    case rel => exact ⟨m + 1, i' + 1, _, by omega, by go_num, by go_num, rfl, by have := HI'.out; show i' + 1 = i + (m + 1); omega⟩
        · have hn : n ≤ 258 ∧ i + n ≤ L.length ∧ 1 ≤ d ∧ d ≤ i ∧ d ≤ 2048 ∧ IsLen L i d (most L i) n ∧ ∀ d' n', 1 ≤ d' → d' ≤ i → d' ≤ 2048 → IsLen L i d' (most L i) n' → n' < n ∨ (n' = n ∧ d ≤ d') := by
            rcases hbest with ⟨z, _⟩ | ⟨_, z⟩
            · omega
            · exact z
          obtain ⟨hn258, hin, hd1, hdi, hd2, hlen, hall⟩ := hn
          have hinT : i + n ≤ T := by rw [← HLT.out]; exact hin
          have HAll : Hid (∀ d' n', 1 ≤ d' → d' ≤ i → d' ≤ 2048 → IsLen L i d' (most L i) n' → n' < n ∨ (n' = n ∧ d ≤ d')) := hall
          have HLen : Hid (IsLen L i d (most L i) n) := hlen
          have hc0 : wr.cell? ⟨gT, k * 3, none⟩ = some (.slice none 0 0) := by
            rw [HK.out.2.cell (p := ⟨gT, k * 3, none⟩) hgT, HCT.out _ (by omega), show k * 3 = 3 * k + 0 by omega, tcells_get ts k hk 0 (by omega), het]; rfl
          have hc1 : wr.cell? ⟨gT, k * 3 + 1, none⟩ = some (.int .i64 d) := by
            rw [HK.out.2.cell (p := ⟨gT, k * 3 + 1, none⟩) hgT, HCT.out _ (by omega), show k * 3 = 3 * k by omega, tcells_get ts k hk 1 (by omega), het]; rfl
          have hc2 : wr.cell? ⟨gT, k * 3 + 2, none⟩ = some (.int .i64 n) := by
            rw [HK.out.2.cell (p := ⟨gT, k * 3 + 2, none⟩) hgT, HCT.out _ (by omega), show k * 3 = 3 * k by omega, tcells_get ts k hk 2 (by omega), het]; rfl
          have HNX2 : Hid (PreP L (ts.take (k + 1)) (i + n)) := by
            rw [het] at HN
            exact HN
          have HWb : Hid (Below w1.heap.size w1 (wr.alloc (.cells #[.slice none 0 0, .int .i64 d, .int .i64 n] 28))) := HK.out.2.alloc HK.out.2.size _
          clear HN het hin hlen hall hbest
          have e1 : decide ((n : Int) < 5) = false := by simp; omega
          have e2 : decide ((d : Int) < 1) = false := by simp; omega
          have e3 : decide ((i : Int) < (d : Int)) = false := by simp; omega
          have e3' : decide (i < d) = false := by simp; omega
          have e4 : decide (2048 < (d : Int)) = false := by simp; omega
          have e5 : decide ((T : Int) < (i : Int) + (n : Int)) = false := by simp; omega
          go_wp2
          clear hc0 hc1 hc2
          obtain ⟨W, hW⟩ : ∃ W, wr.alloc (.cells #[.slice none 0 0, .int .i64 d, .int .i64 n] 28) = W := ⟨_, rfl⟩
          have hw0 : W.cell? ⟨wr.heap.size, 0, none⟩ = some (.slice none 0 0) := by rw [← hW, World.cell?_alloc_at _ _ _ _ rfl]; rfl
          have hw1 : W.cell? ⟨wr.heap.size, 1, none⟩ = some (.int .i64 d) := by rw [← hW, World.cell?_alloc_at _ _ _ _ rfl]; rfl
          have hw2 : W.cell? ⟨wr.heap.size, 2, none⟩ = some (.int .i64 n) := by rw [← hW, World.cell?_alloc_at _ _ _ _ rfl]; rfl
          rw [hW] at HWb ⊢
          clear hW
          have HMt : Hid (∀ q d', 1 ≤ d' → d' ≤ i → d' ≤ 2048 → Calls Try.prog 11 #[.slice (some ⟨b, off, none⟩) T cap, .int .i64 (i : Nat), .int .i64 (d' : Nat)] (W.drewN q) fun e w' => ∃ n' q', (n' < n ∨ (n' = n ∧ d ≤ d')) ∧ (d' = d → n' = n) ∧ e = .returned (.int .i64 (n' : Nat)) ∧ w' = W.drewN q') := fun q d' h1 h2 h3 => by
            have hB2 := (((HB.out.later HB1.out).later HWb.out).drewN q)
            refine (matchAt _ L i d' _ hB2 (by rw [HLT.out]; omega) h1 h2).mono ?_
            rintro e w' ⟨n', q', y1, rfl, rfl⟩
            refine ⟨n', _, HAll.out d' n' h1 h2 h3 y1, fun e => ?_, rfl, World.drewN_drewN _ _ _⟩
            subst e
            exact y1.unique HLen.out
          go_loopg [10] 2048 (fun g3 s10 wx => ∃ d' q : Nat, d' + g3 = 2049 ∧ 1 ≤ d' ∧ s10 = .int .i64 d' ∧ wx = W.drewN q)
          case atStart => exact ⟨1, 0, by omega, by omega, rfl, rfl⟩
          case round =>
            obtain ⟨d', q3, hdg, hd1', rfl, rfl⟩ := hrel
            by_cases hdi' : d' ≤ i
            · by_cases hd3 : d' ≤ 2048
              · go_wp2_with fail
                refine (HMt.out q3 d' hd1' hdi' hd3).mono ?_
                rintro e w' ⟨n', q4, hn', hdd, rfl, rfl⟩
                by_cases hlt : n' < n
                · have hne : d' ≠ d := fun e => by have := hdd e; omega
                  have b1 : ((n' : Int) == (n : Int)) = false := by simp; omega
                  have b2 : ((d' : Int) == (d : Int)) = false := by simp; omega
                  have b3 : decide ((n : Int) < (n' : Int)) = false := by simp; omega
                  clear hn' hdd hne
                  go_wp2
                  go_roundg (2048 - d')
                  case measure => omega
                  case rel => exact ⟨d' + 1, _, by omega, by omega, by go_num, rfl⟩
                · have hle : d ≤ d' := by omega
                  obtain rfl : n' = n := by omega
                  clear hn' hdd
                  have b4 : decide ((d' : Int) < (d : Int)) = false := by simp; omega
                  by_cases hdeq : d' = d
                  · subst hdeq
                    go_wp2
                    go_roundg (2048 - d')
                    case measure => omega
                    case rel => exact ⟨d' + 1, _, by omega, by omega, by go_num, rfl⟩
                  · have b2 : ((d' : Int) == (d : Int)) = false := by simp; omega
                    go_wp2
                    go_roundg (2048 - d')
                    case measure => omega
                    case rel => exact ⟨d' + 1, _, by omega, by omega, by go_num, rfl⟩
              · have HBx : Hid (Below w1.heap.size w1 (W.drewN q3)) := below_drewN HWb.out q3
                go_wp2
                go_roundg gk1
                case measure => omega
                case rel => exact ⟨k + 1, i + n, by omega, by go_num, by go_num, hinT, HNX2.out, HBx.out⟩
            · have HBx : Hid (Below w1.heap.size w1 (W.drewN q3)) := below_drewN HWb.out q3
              go_wp2
              go_roundg gk1
              case measure => omega
              case rel => exact ⟨k + 1, i + n, by omega, by go_num, by go_num, hinT, HNX2.out, HBx.out⟩
end Go.Proofs.Ytdjaogailfipjaa
