import Derived.Test.YthfnbcicpcbgjaaKfc
/-! keydir: the walk of the law of frozen dirs. -/
namespace Go.Proofs.Ythfnbcicpcbgjaa
open Go.RowKit Plain
set_option linter.unusedVariables false
set_option linter.unusedSimpArgs false

theorem krs_cells {w : World} {a : Option Addr} {cap : Nat} {st : List Kr} (h : KrsAt w (.slice a st.length cap) st) : ∀ u m, Below w.heap.size w u → m < st.length → ∃ b off, b < w.heap.size ∧ a = some ⟨b, off, none⟩ ∧ Kr.CellsAt u b (off + m * 7) (st.getD m Kr.zero) := fun u m hu hm => by
  obtain ⟨a', c', e', _, _, hcells⟩ := h
  obtain ⟨b, off, e, hc⟩ := hcells (by intro e; rw [e] at hm; simp at hm)
  cases e'
  exact ⟨b, off, (hc m hm).lt, e, (hc m hm).block (hu.block _ (hc m hm).lt)⟩
theorem krs_ok {w : World} {a : Option Addr} {cap : Nat} {st : List Kr} (h : KrsAt w (.slice a st.length cap) st) : ∀ m, m < st.length → (st.getD m Kr.zero).Ok := fun m hm => by
  obtain ⟨_, _, _, _, hok, _⟩ := h
  rw [List.getD_eq_getElem?_getD, List.getElem?_eq_getElem hm]
  exact hok _ (List.getElem_mem hm)
theorem txt_cells {w : World} {a : Option Addr} {cap : Nat} {ss : List ByteArray} (hg : TxtsAt w (.slice a ss.length cap) ss) : ∀ u m, Below w.heap.size w u → m < ss.length → ∃ b off, b < w.heap.size ∧ a = some ⟨b, off, none⟩ ∧ ∀ j, j < ss.length → u.cell? ⟨b, off + j, none⟩ = some (.string (ss.getD j ⟨#[]⟩)) := fun u m hu hm => by
  obtain ⟨a', c', e', _, _, hcells⟩ := hg
  obtain ⟨b, off, e, hc⟩ := hcells (by intro e; rw [e] at hm; simp at hm)
  cases e'
  exact ⟨b, off, cell_lt (hc m hm), e, fun j hj => (hu.cell (p := ⟨b, off + j, none⟩) (cell_lt (hc j hj))).trans (hc j hj)⟩
theorem txt_ok {w : World} {a : Option Addr} {cap : Nat} {ss : List ByteArray} (hg : TxtsAt w (.slice a ss.length cap) ss) : ∀ m, m < ss.length → (ss.getD m ⟨#[]⟩).size ≤ maxLen := fun m hm => by
  obtain ⟨_, _, _, _, hok, _⟩ := hg
  rw [List.getD_eq_getElem?_getD, List.getElem?_eq_getElem hm]
  exact hok _ (List.getElem_mem hm)

set_option maxHeartbeats 16000000 in
set_option maxRecDepth 100000 in
theorem frozenWalk (a0 : Option Addr) (cap0 : Nat) (st : List Kr) (a1 : Option Addr) (cap1 : Nat) (sh : List Kr) (a2 : Option Addr) (cap2 : Nat) (sx : List Kr) (a3 : Option Addr) (cap3 : Nat) (ss : List ByteArray) (w : World)
    (h0 : KrsAt w (.slice a0 st.length cap0) st) (h1 : KrsAt w (.slice a1 sh.length cap1) sh) (h2 : KrsAt w (.slice a2 sx.length cap2) sx) (h3 : TxtsAt w (.slice a3 ss.length cap3) ss) (hn0 : st.length ≤ 10000000) (hn1 : sh.length ≤ 10000000) (hn2 : sx.length ≤ 10000000) (hn3 : ss.length ≤ 10000000) :
    Calls Try.prog 6 #[.slice a0 st.length cap0, .slice a1 sh.length cap1, .slice a2 sx.length cap2, .slice a3 ss.length cap3] w fun e w' => e = .returned (.bool true) ∧ Below w.heap.size w w' := by
  have HKR : Hid (∀ u, Below w.heap.size w u → KrsAt u (.slice a0 st.length cap0) st) := fun u hu => h0.later hu
  have HCEh : Hid (∀ u m, Below w.heap.size w u → m < sh.length → ∃ b off, b < w.heap.size ∧ a1 = some ⟨b, off, none⟩ ∧ Kr.CellsAt u b (off + m * 7) (sh.getD m Kr.zero)) := krs_cells h1
  have HOKh : Hid (∀ m, m < sh.length → (sh.getD m Kr.zero).Ok) := krs_ok h1
  have HCEt : Hid (∀ u m, Below w.heap.size w u → m < sx.length → ∃ b off, b < w.heap.size ∧ a2 = some ⟨b, off, none⟩ ∧ Kr.CellsAt u b (off + m * 7) (sx.getD m Kr.zero)) := krs_cells h2
  have HOKt : Hid (∀ m, m < sx.length → (sx.getD m Kr.zero).Ok) := krs_ok h2
  have HGC : Hid (∀ u m, Below w.heap.size w u → m < ss.length → ∃ b off, b < w.heap.size ∧ a3 = some ⟨b, off, none⟩ ∧ ∀ j, j < ss.length → u.cell? ⟨b, off + j, none⟩ = some (.string (ss.getD j ⟨#[]⟩))) := txt_cells h3
  have HGO : Hid (∀ m, m < ss.length → (ss.getD m ⟨#[]⟩).size ≤ maxLen) := txt_ok h3
  clear h0 h1 h2 h3
  have HL1 : Hid (Calls Try.prog 18 #[.slice a0 st.length cap0] w fun e w' => e = .returned (.tuple #[.pointer (some ⟨w.heap.size, 0, none⟩), .bool true]) ∧ Below w.heap.size w w' ∧ DirAt (fun g => g ≤ w.heap.size) w' w.heap.size (laidL st)) := laidOf (fun g => g ≤ w.heap.size) _ st w (HKR.out w (Below.refl _ _)) (Nat.le_refl _) (fun g hg => by omega)
  go_enter Try.func6, Try.ntmps6
  go_wp2_with fail
  refine HL1.out.mono ?_
  rintro e w1 ⟨rfl, hb1, hd1⟩
  have HB1 : Hid (Below w.heap.size w w1) := hb1
  have HD1 : Hid (DirAt (fun g => g ≤ w.heap.size) w1 w.heap.size (laidL st)) := hd1
  have hs1 : w.heap.size < w1.heap.size := hd1.lt
  have HL2 : Hid (Calls Try.prog 18 #[.slice a0 st.length cap0] w1 fun e w' => e = .returned (.tuple #[.pointer (some ⟨w1.heap.size, 0, none⟩), .bool true]) ∧ Below w1.heap.size w1 w' ∧ DirAt (fun g => g ≤ w1.heap.size) w' w1.heap.size (laidL st)) := laidOf (fun g => g ≤ w1.heap.size) _ st w1 (HKR.out w1 hb1) (Nat.le_refl _) (fun g hg => by omega)
  clear hb1 hd1 HL1
  go_wp2_with fail
  refine HL2.out.mono ?_
  rintro e w2 ⟨rfl, hb2, hd2⟩
  have HB2 : Hid (Below w1.heap.size w1 w2) := hb2
  have HD2 : Hid (DirAt (fun g => g ≤ w1.heap.size) w2 w1.heap.size (laidL st)) := hd2
  have hs2 : w1.heap.size < w2.heap.size := hd2.lt
  have HL3 : Hid (Calls Try.prog 18 #[.slice a0 st.length cap0] w2 fun e w' => e = .returned (.tuple #[.pointer (some ⟨w2.heap.size, 0, none⟩), .bool true]) ∧ Below w2.heap.size w2 w' ∧ DirAt (fun g => g ≤ w2.heap.size) w' w2.heap.size (laidL st)) := laidOf (fun g => g ≤ w2.heap.size) _ st w2 (HKR.out w2 (below_step' HB1.out hb2)) (Nat.le_refl _) (fun g hg => by omega)
  clear hb2 hd2 HL2
  go_wp2_with fail
  refine HL3.out.mono ?_
  rintro e w3 ⟨rfl, hb3, hd3⟩
  have hs3 : w2.heap.size < w3.heap.size := hd3.lt
  obtain ⟨q, hqe⟩ : ∃ q : Qd, q = ⟨w.heap.size, w1.heap.size, w3.heap.size, w2.heap.size⟩ := ⟨_, rfl⟩
  have hqd : q.d = w.heap.size := by rw [hqe]
  have hqx : q.x = w1.heap.size := by rw [hqe]
  have hqf : q.f = w3.heap.size := by rw [hqe]
  have hqy : q.y = w2.heap.size := by rw [hqe]
  have HDd : Hid (DirAt q.D w3 w.heap.size (laidL st)) := by
    have k1 : DirAt q.D w1 w.heap.size (laidL st) := (HD1.out.less (D := fun g => g = w.heap.size) (fun g h => by omega) rfl).more (fun g h => .inl (by omega)) (fun g h => by rcases h with h | h | h | h <;> omega)
    exact (k1.later HB2.out).later hb3
  have HDx : Hid (DirAt q.D w3 w1.heap.size (laidL st)) := by
    have k1 : DirAt q.D w2 w1.heap.size (laidL st) := (HD2.out.less (D := fun g => g = w.heap.size ∨ g = w1.heap.size) (fun g h => by omega) (.inr rfl)).more (fun g h => h.elim (fun h => .inl (by omega)) (fun h => .inr (.inl (by omega)))) (fun g h => by rcases h with h | h | h | h <;> omega)
    exact k1.later hb3
  have HDy : Hid (DirAt q.D w3 w2.heap.size (laidL st)) := by
    refine (hd3.less (D := fun g => g = w.heap.size ∨ g = w1.heap.size ∨ g = w2.heap.size) (fun g h => by omega) (.inr (.inr rfl))).more (fun g h => ?_) (fun g h => ?_)
    · rcases h with h | h | h
      · exact .inl (by omega)
      · exact .inr (.inl (by omega))
      · exact .inr (.inr (.inr (by omega)))
    · rcases h with h | h | h | h <;> omega
  have HFZ : Hid (Calls Try.prog 26 #[.pointer (some ⟨w.heap.size, 0, none⟩)] w3 fun e w' => e = .returned (.pointer (some ⟨w3.heap.size, 0, none⟩)) ∧ Below w3.heap.size w3 w' ∧ DirAt q.D w' w3.heap.size (laidL st)) := freezeOf w3 HDd.out (.inr (.inr (.inl hqf.symm)))
  have HB3 : Hid (Below w.heap.size w w3) := below_step' (below_step' HB1.out HB2.out) hb3
  clear hb3 hd3 HL3 HD1 HD2 HB1 HB2
  go_wp2_with fail
  refine HFZ.out.mono ?_
  rintro e w4 ⟨rfl, hb4, hd4⟩
  have hs4 : w3.heap.size < w4.heap.size := hd4.lt
  obtain ⟨B, hB⟩ : ∃ B, w4.heap.size = B := ⟨_, rfl⟩
  have hq : q.In w B := ⟨⟨by omega, by omega, by omega, by omega, by omega, by omega⟩, ⟨by omega, by omega, by omega, by omega⟩, ⟨by omega, by omega, by omega, by omega⟩⟩
  obtain ⟨K0, hK0⟩ : ∃ K0, st.length = K0 := ⟨_, rfl⟩
  have hll : (laidL st).length ≤ K0 := by have := laidL_len st; omega
  have HF4 : Hid (Fs q K0 B w w4 (laidL st) (laidL st) (laidL st) (laidL st)) := ⟨below_step' HB3.out hb4, by omega, by rw [hqd]; exact HDd.out.later hb4, by rw [hqx]; exact HDx.out.later hb4, by rw [hqf]; exact hd4, by rw [hqy]; exact HDy.out.later hb4, hll, hll, hll, hll⟩
  rw [← hqd, ← hqx, ← hqf, ← hqy] at *
  clear HDd HDx HDy HFZ HB3 hb4 hd4 hqe
  go_wp2
  obtain ⟨N, hN⟩ : ∃ N, max (max sh.length sx.length) ss.length = N := ⟨_, rfl⟩
  go_loopg [16] N (fun gk s16 wx => ∃ (m : Nat) (ld lf : List Ke), m + gk = N ∧ s16 = .int .i64 m ∧ Hid (Fs q (K0 + m * 8) B w wx ld ld lf lf))
  case atStart => exact ⟨0, _, _, by omega, rfl, HF4.out.more (by omega)⟩
  case round =>
    clear HF4
    obtain ⟨m, ld, lf, hmg, rfl, HFS0⟩ := hrel
    cases gk with
    | zero =>
      have hm1 : ¬ (m : Int) < (sh.length : Int) := by omega
      have hm2 : ¬ (m : Int) < (sx.length : Int) := by omega
      have hm3 : ¬ (m : Int) < (ss.length : Int) := by omega
      have HS0 : Hid (Fs q (K0 + m * 8) B w wr ld ld lf lf) := HFS0
      have hmN : m ≤ 10000000 := by omega
      have hKN : K0 ≤ 10000000 := by omega
      clear HFS0
      go_wp2_with fail
      refine (rangeRow _ wr HS0.out.d (by have := HS0.out.n1; omega)).mono ?_
      rintro e u1 ⟨r1, rfl, hr1, hb1⟩
      have HS1 : Hid (Fs q (K0 + m * 8) B w u1 ld ld lf lf) := HS0.out.later hb1
      have HR1 : Hid (∀ u, Below u1.heap.size u1 u → KrRow u r1 ((ld.take ((K0 : Int) + sh.length + sx.length + 1).toNat).map Ke.r)) := fun u hu => hr1.later hu
      clear hr1 hb1
      go_wp2_with fail
      refine (rangeRow _ u1 HS1.out.x (by have := HS1.out.n2; omega)).mono ?_
      rintro e u2 ⟨r2, rfl, hr2, hb2⟩
      have HS2 : Hid (Fs q (K0 + m * 8) B w u2 ld ld lf lf) := HS1.out.later hb2
      have HSM : Hid (Calls Try.prog 15 #[r1, r2] u2 fun e w' => e = .returned (.bool true) ∧ ∃ n, w' = u2.drewN n) := sameRow r1 r2 _ u2 (HR1.out u2 hb2) hr2
      clear hr2 hb2 HR1
      go_wp2_with fail
      refine HSM.out.mono ?_
      rintro e u3 ⟨rfl, n3, hu3⟩
      have HS3 : Hid (Fs q (K0 + m * 8) B w u3 ld ld lf lf) := HS2.out.later (by rw [hu3]; exact below_drewN (Below.refl _ _) _)
      clear hu3 HSM
      go_wp2_with fail
      refine (rangeRow _ u3 HS3.out.f (by have := HS3.out.n3; omega)).mono ?_
      rintro e u4 ⟨r4, rfl, hr4, hb4⟩
      have HS4 : Hid (Fs q (K0 + m * 8) B w u4 ld ld lf lf) := HS3.out.later hb4
      have HR4 : Hid (∀ u, Below u4.heap.size u4 u → KrRow u r4 ((lf.take ((K0 : Int) + sh.length + sx.length + 1).toNat).map Ke.r)) := fun u hu => hr4.later hu
      clear hr4 hb4
      go_wp2_with fail
      refine (rangeRow _ u4 HS4.out.y (by have := HS4.out.n4; omega)).mono ?_
      rintro e u5 ⟨r5, rfl, hr5, hb5⟩
      have HS5 : Hid (Fs q (K0 + m * 8) B w u5 ld ld lf lf) := HS4.out.later hb5
      have HSM : Hid (Calls Try.prog 15 #[r4, r5] u5 fun e w' => e = .returned (.bool true) ∧ ∃ n, w' = u5.drewN n) := sameRow r4 r5 _ u5 (HR4.out u5 hb5) hr5
      clear hr5 hb5 HR4
      go_wp2_with fail
      refine HSM.out.mono ?_
      rintro e u6 ⟨rfl, n6, hu6⟩
      have HS6 : Hid (Fs q (K0 + m * 8) B w u6 ld ld lf lf) := HS5.out.later (by rw [hu6]; exact below_drewN (Below.refl _ _) _)
      clear hu6 HSM
      go_wp2_with fail
      refine (lenOf u6 HS6.out.d).mono ?_
      rintro e wk ⟨rfl, hwk⟩
      obtain rfl := hwk.symm
      go_wp2_with fail
      refine (lenOf u6 HS6.out.x).mono ?_
      rintro e wk ⟨rfl, hwk⟩
      obtain rfl := hwk.symm
      go_wp2_with fail
      refine (lenOf u6 HS6.out.f).mono ?_
      rintro e wk ⟨rfl, hwk⟩
      obtain rfl := hwk.symm
      go_wp2_with fail
      refine (lenOf u6 HS6.out.y).mono ?_
      rintro e wk ⟨rfl, hwk⟩
      obtain rfl := hwk.symm
      go_wp2_with fail
      refine (headOf u6).mono ?_
      rintro e u7 ⟨rfl, hb7⟩
      have HF : Hid (Below w.heap.size w u7) := below_step' HS6.out.below hb7
      clear hb7
      go_wp2
      go_ret
      exact ⟨rfl, HF.out⟩
    | succ gk1 =>
      by_cases hH : m < sh.length
      · by_cases hT : m < sx.length
        · by_cases hG : m < ss.length
          · obtain ⟨bh, oh, -, eh, -⟩ := HCEh.out wr m HFS0.out.below hH
            have HCh : Hid (∀ u, Below w.heap.size w u → Kr.CellsAt u bh (oh + m * 7) (sh.getD m Kr.zero)) := fun u hu => by
              obtain ⟨b', off', _, e, hc'⟩ := HCEh.out u m hu hH
              rw [eh] at e
              cases e
              exact hc'
            have hxh := HOKh.out m hH
            subst eh
            generalize sh.getD m Kr.zero = xh at HCh hxh
            obtain ⟨hk, ha, hb, hc, hd, ht, hm⟩ := xh
            have hzh : hk.size ≤ maxLen := hxh.key
            have hih : (m : Int) < (sh.length : Int) := by omega
            clear hxh
            obtain ⟨bt, ot, -, et, -⟩ := HCEt.out wr m HFS0.out.below hT
            have HCt : Hid (∀ u, Below w.heap.size w u → Kr.CellsAt u bt (ot + m * 7) (sx.getD m Kr.zero)) := fun u hu => by
              obtain ⟨b', off', _, e, hc'⟩ := HCEt.out u m hu hT
              rw [et] at e
              cases e
              exact hc'
            have hxt := HOKt.out m hT
            subst et
            generalize sx.getD m Kr.zero = xt at HCt hxt
            obtain ⟨tk, ta, tb, tc, td, tt, tm⟩ := xt
            have hzt : tk.size ≤ maxLen := hxt.key
            have hit : (m : Int) < (sx.length : Int) := by omega
            clear hxt
            obtain ⟨bg, og, -, eg, -⟩ := HGC.out wr m HFS0.out.below hG
            have HCg0 : Hid (∀ u, Below w.heap.size w u → u.cell? ⟨bg, og + m, none⟩ = some (.string (ss.getD m ⟨#[]⟩))) := fun u hu => by
              obtain ⟨b', off', _, e, hc'⟩ := HGC.out u m hu hG
              rw [eg] at e
              cases e
              exact hc' m hG
            subst eg
            have hzg := HGO.out m hG
            generalize ss.getD m ⟨#[]⟩ = g at HCg0 hzg
            have HCg := HCg0
            have hig : (m : Int) < (ss.length : Int) := by omega
            obtain ⟨c0, c1, c2, c3, c4, c5, c6⟩ := HCh.out wr HFS0.out.below
            simp only at c0 c1 c2 c3 c4 c5 c6
            go_wp2
            go_region_held3 (fun w' => w'.cell? ⟨bh, oh + m * 7, none⟩ = some (.string hk) ∧ w'.cell? ⟨bh, oh + m * 7 + 1, none⟩ = some (.int .i64 ha) ∧ w'.cell? ⟨bh, oh + m * 7 + 2, none⟩ = some (.int .i64 hb) ∧ w'.cell? ⟨bh, oh + m * 7 + 3, none⟩ = some (.int .i64 hc) ∧ w'.cell? ⟨bh, oh + m * 7 + 4, none⟩ = some (.int .i64 hd) ∧ w'.cell? ⟨bh, oh + m * 7 + 5, none⟩ = some (.int .i64 ht) ∧ w'.cell? ⟨bh, oh + m * 7 + 6, none⟩ = some (.bool hm)) (go_keep) (first
              | (go_at_call 27
                 refine (HFS0.out.drew.putD ⟨hk, ha, hb, hc, hd, ht, hm⟩ hq hzh (by omega)).mono ?_
                 rintro e w1_ ⟨⟨v1, rfl⟩, hfs⟩
                 have HFS0n : Hid (Fs q (K0 + m * 8 + 0 + 1) B w w1_ (layK ld ⟨hk, ha, hb, hc, hd, ht, hm⟩) ld lf lf) := hfs
                 rcases HCh.out w1_ hfs.below with ⟨d0, d1, d2, d3, d4, d5, d6⟩
                 simp only at d0 d1 d2 d3 d4 d5 d6
                 clear hfs))
            have HFS1 : Hid (Fs q (K0 + m * 8 + 1) B w w1_ (layK ld ⟨hk, ha, hb, hc, hd, ht, hm⟩) ld lf lf) := HFS0n
            clear c0 c1 c2 c3 c4 c5 c6 d0 d1 d2 d3 d4 d5 d6 HFS0n
            obtain ⟨c0, c1, c2, c3, c4, c5, c6⟩ := HCh.out w1_ HFS1.out.below
            simp only at c0 c1 c2 c3 c4 c5 c6
            go_wp2
            go_region_held3 (fun w' => w'.cell? ⟨bh, oh + m * 7, none⟩ = some (.string hk) ∧ w'.cell? ⟨bh, oh + m * 7 + 1, none⟩ = some (.int .i64 ha) ∧ w'.cell? ⟨bh, oh + m * 7 + 2, none⟩ = some (.int .i64 hb) ∧ w'.cell? ⟨bh, oh + m * 7 + 3, none⟩ = some (.int .i64 hc) ∧ w'.cell? ⟨bh, oh + m * 7 + 4, none⟩ = some (.int .i64 hd) ∧ w'.cell? ⟨bh, oh + m * 7 + 5, none⟩ = some (.int .i64 ht) ∧ w'.cell? ⟨bh, oh + m * 7 + 6, none⟩ = some (.bool hm)) (go_keep) (first
              | (go_at_call 27
                 refine (HFS1.out.drew.putX ⟨hk, ha, hb, hc, hd, ht, hm⟩ hq hzh (by omega)).mono ?_
                 rintro e w2_ ⟨⟨v2, rfl⟩, hfs⟩
                 have HFS1n : Hid (Fs q (K0 + m * 8 + 1 + 1) B w w2_ (layK ld ⟨hk, ha, hb, hc, hd, ht, hm⟩) (layK ld ⟨hk, ha, hb, hc, hd, ht, hm⟩) lf lf) := hfs
                 rcases HCh.out w2_ hfs.below with ⟨d0, d1, d2, d3, d4, d5, d6⟩
                 simp only at d0 d1 d2 d3 d4 d5 d6
                 clear hfs))
            have HFS2 : Hid (Fs q (K0 + m * 8 + 2) B w w2_ (layK ld ⟨hk, ha, hb, hc, hd, ht, hm⟩) (layK ld ⟨hk, ha, hb, hc, hd, ht, hm⟩) lf lf) := HFS1n
            clear c0 c1 c2 c3 c4 c5 c6 d0 d1 d2 d3 d4 d5 d6 HFS1n
            obtain ⟨c0, c1, c2, c3, c4, c5, c6⟩ := HCt.out w2_ HFS2.out.below
            simp only at c0 c1 c2 c3 c4 c5 c6
            go_wp2
            go_region_held3 (fun w' => w'.cell? ⟨bt, ot + m * 7, none⟩ = some (.string tk) ∧ w'.cell? ⟨bt, ot + m * 7 + 1, none⟩ = some (.int .i64 ta) ∧ w'.cell? ⟨bt, ot + m * 7 + 2, none⟩ = some (.int .i64 tb) ∧ w'.cell? ⟨bt, ot + m * 7 + 3, none⟩ = some (.int .i64 tc) ∧ w'.cell? ⟨bt, ot + m * 7 + 4, none⟩ = some (.int .i64 td) ∧ w'.cell? ⟨bt, ot + m * 7 + 5, none⟩ = some (.int .i64 tt) ∧ w'.cell? ⟨bt, ot + m * 7 + 6, none⟩ = some (.bool tm)) (go_keep) (first
              | (go_at_call 27
                 refine (HFS2.out.drew.putF ⟨tk, ta, tb, tc, td, tt, tm⟩ hq hzt (by omega)).mono ?_
                 rintro e w3_ ⟨⟨v3, rfl⟩, hfs⟩
                 have HFS2n : Hid (Fs q (K0 + m * 8 + 2 + 1) B w w3_ (layK ld ⟨hk, ha, hb, hc, hd, ht, hm⟩) (layK ld ⟨hk, ha, hb, hc, hd, ht, hm⟩) (layK lf ⟨tk, ta, tb, tc, td, tt, tm⟩) lf) := hfs
                 rcases HCt.out w3_ hfs.below with ⟨d0, d1, d2, d3, d4, d5, d6⟩
                 simp only at d0 d1 d2 d3 d4 d5 d6
                 clear hfs))
            have HFS3 : Hid (Fs q (K0 + m * 8 + 3) B w w3_ (layK ld ⟨hk, ha, hb, hc, hd, ht, hm⟩) (layK ld ⟨hk, ha, hb, hc, hd, ht, hm⟩) (layK lf ⟨tk, ta, tb, tc, td, tt, tm⟩) lf) := HFS2n
            clear c0 c1 c2 c3 c4 c5 c6 d0 d1 d2 d3 d4 d5 d6 HFS2n
            obtain ⟨c0, c1, c2, c3, c4, c5, c6⟩ := HCt.out w3_ HFS3.out.below
            simp only at c0 c1 c2 c3 c4 c5 c6
            go_wp2
            go_region_held3 (fun w' => w'.cell? ⟨bt, ot + m * 7, none⟩ = some (.string tk) ∧ w'.cell? ⟨bt, ot + m * 7 + 1, none⟩ = some (.int .i64 ta) ∧ w'.cell? ⟨bt, ot + m * 7 + 2, none⟩ = some (.int .i64 tb) ∧ w'.cell? ⟨bt, ot + m * 7 + 3, none⟩ = some (.int .i64 tc) ∧ w'.cell? ⟨bt, ot + m * 7 + 4, none⟩ = some (.int .i64 td) ∧ w'.cell? ⟨bt, ot + m * 7 + 5, none⟩ = some (.int .i64 tt) ∧ w'.cell? ⟨bt, ot + m * 7 + 6, none⟩ = some (.bool tm)) (go_keep) (first
              | (go_at_call 27
                 refine (HFS3.out.drew.putY ⟨tk, ta, tb, tc, td, tt, tm⟩ hq hzt (by omega)).mono ?_
                 rintro e w4_ ⟨⟨v4, rfl⟩, hfs⟩
                 have HFS3n : Hid (Fs q (K0 + m * 8 + 3 + 1) B w w4_ (layK ld ⟨hk, ha, hb, hc, hd, ht, hm⟩) (layK ld ⟨hk, ha, hb, hc, hd, ht, hm⟩) (layK lf ⟨tk, ta, tb, tc, td, tt, tm⟩) (layK lf ⟨tk, ta, tb, tc, td, tt, tm⟩)) := hfs
                 rcases HCt.out w4_ hfs.below with ⟨d0, d1, d2, d3, d4, d5, d6⟩
                 simp only at d0 d1 d2 d3 d4 d5 d6
                 clear hfs))
            have HFS4 : Hid (Fs q (K0 + m * 8 + 4) B w w4_ (layK ld ⟨hk, ha, hb, hc, hd, ht, hm⟩) (layK ld ⟨hk, ha, hb, hc, hd, ht, hm⟩) (layK lf ⟨tk, ta, tb, tc, td, tt, tm⟩) (layK lf ⟨tk, ta, tb, tc, td, tt, tm⟩)) := HFS3n
            clear c0 c1 c2 c3 c4 c5 c6 d0 d1 d2 d3 d4 d5 d6 HFS3n
            have c0 := HCg.out w4_ HFS4.out.below
            go_wp2_with fail
            refine (HFS4.out.remD g hq hzg (by omega)).mono ?_
            rintro e w5_ ⟨⟨v5, rfl⟩, hfs⟩
            have HFS5 : Hid (Fs q (K0 + m * 8 + 5) B w w5_ (delL g (layK ld ⟨hk, ha, hb, hc, hd, ht, hm⟩)) (layK ld ⟨hk, ha, hb, hc, hd, ht, hm⟩) (layK lf ⟨tk, ta, tb, tc, td, tt, tm⟩) (layK lf ⟨tk, ta, tb, tc, td, tt, tm⟩)) := hfs
            clear hfs c0
            have c0 := HCg.out w5_ HFS5.out.below
            go_wp2_with fail
            refine (HFS5.out.remX g hq hzg (by omega)).mono ?_
            rintro e w6_ ⟨⟨v6, rfl⟩, hfs⟩
            have HFS6 : Hid (Fs q (K0 + m * 8 + 6) B w w6_ (delL g (layK ld ⟨hk, ha, hb, hc, hd, ht, hm⟩)) (delL g (layK ld ⟨hk, ha, hb, hc, hd, ht, hm⟩)) (layK lf ⟨tk, ta, tb, tc, td, tt, tm⟩) (layK lf ⟨tk, ta, tb, tc, td, tt, tm⟩)) := hfs
            clear hfs c0
            have c0 := HCg.out w6_ HFS6.out.below
            go_wp2_with fail
            refine (HFS6.out.poiF g 1 77 88 hq hzg (by omega)).mono ?_
            rintro e w7_ ⟨⟨v7, rfl⟩, hfs⟩
            have HFS7 : Hid (Fs q (K0 + m * 8 + 7) B w w7_ (delL g (layK ld ⟨hk, ha, hb, hc, hd, ht, hm⟩)) (delL g (layK ld ⟨hk, ha, hb, hc, hd, ht, hm⟩)) (pointL g 1 77 88 (layK lf ⟨tk, ta, tb, tc, td, tt, tm⟩)) (layK lf ⟨tk, ta, tb, tc, td, tt, tm⟩)) := hfs
            clear hfs c0
            have c0 := HCg.out w7_ HFS7.out.below
            go_wp2_with fail
            refine (HFS7.out.poiY g 1 77 88 hq hzg (by omega)).mono ?_
            rintro e w8_ ⟨⟨v8, rfl⟩, hfs⟩
            have HFS8 : Hid (Fs q (K0 + m * 8 + 8) B w w8_ (delL g (layK ld ⟨hk, ha, hb, hc, hd, ht, hm⟩)) (delL g (layK ld ⟨hk, ha, hb, hc, hd, ht, hm⟩)) (pointL g 1 77 88 (layK lf ⟨tk, ta, tb, tc, td, tt, tm⟩)) (pointL g 1 77 88 (layK lf ⟨tk, ta, tb, tc, td, tt, tm⟩))) := hfs
            clear hfs c0
            go_wp2
            go_roundg gk1
            case rel => exact ⟨m + 1, (delL g (layK ld ⟨hk, ha, hb, hc, hd, ht, hm⟩)), (pointL g 1 77 88 (layK lf ⟨tk, ta, tb, tc, td, tt, tm⟩)), by omega, by go_num, HFS8.out.more (by omega)⟩
            case measure => exact Nat.lt_succ_self _
          · obtain ⟨bh, oh, -, eh, -⟩ := HCEh.out wr m HFS0.out.below hH
            have HCh : Hid (∀ u, Below w.heap.size w u → Kr.CellsAt u bh (oh + m * 7) (sh.getD m Kr.zero)) := fun u hu => by
              obtain ⟨b', off', _, e, hc'⟩ := HCEh.out u m hu hH
              rw [eh] at e
              cases e
              exact hc'
            have hxh := HOKh.out m hH
            subst eh
            generalize sh.getD m Kr.zero = xh at HCh hxh
            obtain ⟨hk, ha, hb, hc, hd, ht, hm⟩ := xh
            have hzh : hk.size ≤ maxLen := hxh.key
            have hih : (m : Int) < (sh.length : Int) := by omega
            clear hxh
            obtain ⟨bt, ot, -, et, -⟩ := HCEt.out wr m HFS0.out.below hT
            have HCt : Hid (∀ u, Below w.heap.size w u → Kr.CellsAt u bt (ot + m * 7) (sx.getD m Kr.zero)) := fun u hu => by
              obtain ⟨b', off', _, e, hc'⟩ := HCEt.out u m hu hT
              rw [et] at e
              cases e
              exact hc'
            have hxt := HOKt.out m hT
            subst et
            generalize sx.getD m Kr.zero = xt at HCt hxt
            obtain ⟨tk, ta, tb, tc, td, tt, tm⟩ := xt
            have hzt : tk.size ≤ maxLen := hxt.key
            have hit : (m : Int) < (sx.length : Int) := by omega
            clear hxt
            have hig : ¬ (m : Int) < (ss.length : Int) := by omega
            obtain ⟨c0, c1, c2, c3, c4, c5, c6⟩ := HCh.out wr HFS0.out.below
            simp only at c0 c1 c2 c3 c4 c5 c6
            go_wp2
            go_region_held3 (fun w' => w'.cell? ⟨bh, oh + m * 7, none⟩ = some (.string hk) ∧ w'.cell? ⟨bh, oh + m * 7 + 1, none⟩ = some (.int .i64 ha) ∧ w'.cell? ⟨bh, oh + m * 7 + 2, none⟩ = some (.int .i64 hb) ∧ w'.cell? ⟨bh, oh + m * 7 + 3, none⟩ = some (.int .i64 hc) ∧ w'.cell? ⟨bh, oh + m * 7 + 4, none⟩ = some (.int .i64 hd) ∧ w'.cell? ⟨bh, oh + m * 7 + 5, none⟩ = some (.int .i64 ht) ∧ w'.cell? ⟨bh, oh + m * 7 + 6, none⟩ = some (.bool hm)) (go_keep) (first
              | (go_at_call 27
                 refine (HFS0.out.drew.putD ⟨hk, ha, hb, hc, hd, ht, hm⟩ hq hzh (by omega)).mono ?_
                 rintro e w1_ ⟨⟨v1, rfl⟩, hfs⟩
                 have HFS0n : Hid (Fs q (K0 + m * 8 + 0 + 1) B w w1_ (layK ld ⟨hk, ha, hb, hc, hd, ht, hm⟩) ld lf lf) := hfs
                 rcases HCh.out w1_ hfs.below with ⟨d0, d1, d2, d3, d4, d5, d6⟩
                 simp only at d0 d1 d2 d3 d4 d5 d6
                 clear hfs))
            have HFS1 : Hid (Fs q (K0 + m * 8 + 1) B w w1_ (layK ld ⟨hk, ha, hb, hc, hd, ht, hm⟩) ld lf lf) := HFS0n
            clear c0 c1 c2 c3 c4 c5 c6 d0 d1 d2 d3 d4 d5 d6 HFS0n
            obtain ⟨c0, c1, c2, c3, c4, c5, c6⟩ := HCh.out w1_ HFS1.out.below
            simp only at c0 c1 c2 c3 c4 c5 c6
            go_wp2
            go_region_held3 (fun w' => w'.cell? ⟨bh, oh + m * 7, none⟩ = some (.string hk) ∧ w'.cell? ⟨bh, oh + m * 7 + 1, none⟩ = some (.int .i64 ha) ∧ w'.cell? ⟨bh, oh + m * 7 + 2, none⟩ = some (.int .i64 hb) ∧ w'.cell? ⟨bh, oh + m * 7 + 3, none⟩ = some (.int .i64 hc) ∧ w'.cell? ⟨bh, oh + m * 7 + 4, none⟩ = some (.int .i64 hd) ∧ w'.cell? ⟨bh, oh + m * 7 + 5, none⟩ = some (.int .i64 ht) ∧ w'.cell? ⟨bh, oh + m * 7 + 6, none⟩ = some (.bool hm)) (go_keep) (first
              | (go_at_call 27
                 refine (HFS1.out.drew.putX ⟨hk, ha, hb, hc, hd, ht, hm⟩ hq hzh (by omega)).mono ?_
                 rintro e w2_ ⟨⟨v2, rfl⟩, hfs⟩
                 have HFS1n : Hid (Fs q (K0 + m * 8 + 1 + 1) B w w2_ (layK ld ⟨hk, ha, hb, hc, hd, ht, hm⟩) (layK ld ⟨hk, ha, hb, hc, hd, ht, hm⟩) lf lf) := hfs
                 rcases HCh.out w2_ hfs.below with ⟨d0, d1, d2, d3, d4, d5, d6⟩
                 simp only at d0 d1 d2 d3 d4 d5 d6
                 clear hfs))
            have HFS2 : Hid (Fs q (K0 + m * 8 + 2) B w w2_ (layK ld ⟨hk, ha, hb, hc, hd, ht, hm⟩) (layK ld ⟨hk, ha, hb, hc, hd, ht, hm⟩) lf lf) := HFS1n
            clear c0 c1 c2 c3 c4 c5 c6 d0 d1 d2 d3 d4 d5 d6 HFS1n
            obtain ⟨c0, c1, c2, c3, c4, c5, c6⟩ := HCt.out w2_ HFS2.out.below
            simp only at c0 c1 c2 c3 c4 c5 c6
            go_wp2
            go_region_held3 (fun w' => w'.cell? ⟨bt, ot + m * 7, none⟩ = some (.string tk) ∧ w'.cell? ⟨bt, ot + m * 7 + 1, none⟩ = some (.int .i64 ta) ∧ w'.cell? ⟨bt, ot + m * 7 + 2, none⟩ = some (.int .i64 tb) ∧ w'.cell? ⟨bt, ot + m * 7 + 3, none⟩ = some (.int .i64 tc) ∧ w'.cell? ⟨bt, ot + m * 7 + 4, none⟩ = some (.int .i64 td) ∧ w'.cell? ⟨bt, ot + m * 7 + 5, none⟩ = some (.int .i64 tt) ∧ w'.cell? ⟨bt, ot + m * 7 + 6, none⟩ = some (.bool tm)) (go_keep) (first
              | (go_at_call 27
                 refine (HFS2.out.drew.putF ⟨tk, ta, tb, tc, td, tt, tm⟩ hq hzt (by omega)).mono ?_
                 rintro e w3_ ⟨⟨v3, rfl⟩, hfs⟩
                 have HFS2n : Hid (Fs q (K0 + m * 8 + 2 + 1) B w w3_ (layK ld ⟨hk, ha, hb, hc, hd, ht, hm⟩) (layK ld ⟨hk, ha, hb, hc, hd, ht, hm⟩) (layK lf ⟨tk, ta, tb, tc, td, tt, tm⟩) lf) := hfs
                 rcases HCt.out w3_ hfs.below with ⟨d0, d1, d2, d3, d4, d5, d6⟩
                 simp only at d0 d1 d2 d3 d4 d5 d6
                 clear hfs))
            have HFS3 : Hid (Fs q (K0 + m * 8 + 3) B w w3_ (layK ld ⟨hk, ha, hb, hc, hd, ht, hm⟩) (layK ld ⟨hk, ha, hb, hc, hd, ht, hm⟩) (layK lf ⟨tk, ta, tb, tc, td, tt, tm⟩) lf) := HFS2n
            clear c0 c1 c2 c3 c4 c5 c6 d0 d1 d2 d3 d4 d5 d6 HFS2n
            obtain ⟨c0, c1, c2, c3, c4, c5, c6⟩ := HCt.out w3_ HFS3.out.below
            simp only at c0 c1 c2 c3 c4 c5 c6
            go_wp2
            go_region_held3 (fun w' => w'.cell? ⟨bt, ot + m * 7, none⟩ = some (.string tk) ∧ w'.cell? ⟨bt, ot + m * 7 + 1, none⟩ = some (.int .i64 ta) ∧ w'.cell? ⟨bt, ot + m * 7 + 2, none⟩ = some (.int .i64 tb) ∧ w'.cell? ⟨bt, ot + m * 7 + 3, none⟩ = some (.int .i64 tc) ∧ w'.cell? ⟨bt, ot + m * 7 + 4, none⟩ = some (.int .i64 td) ∧ w'.cell? ⟨bt, ot + m * 7 + 5, none⟩ = some (.int .i64 tt) ∧ w'.cell? ⟨bt, ot + m * 7 + 6, none⟩ = some (.bool tm)) (go_keep) (first
              | (go_at_call 27
                 refine (HFS3.out.drew.putY ⟨tk, ta, tb, tc, td, tt, tm⟩ hq hzt (by omega)).mono ?_
                 rintro e w4_ ⟨⟨v4, rfl⟩, hfs⟩
                 have HFS3n : Hid (Fs q (K0 + m * 8 + 3 + 1) B w w4_ (layK ld ⟨hk, ha, hb, hc, hd, ht, hm⟩) (layK ld ⟨hk, ha, hb, hc, hd, ht, hm⟩) (layK lf ⟨tk, ta, tb, tc, td, tt, tm⟩) (layK lf ⟨tk, ta, tb, tc, td, tt, tm⟩)) := hfs
                 rcases HCt.out w4_ hfs.below with ⟨d0, d1, d2, d3, d4, d5, d6⟩
                 simp only at d0 d1 d2 d3 d4 d5 d6
                 clear hfs))
            have HFS4 : Hid (Fs q (K0 + m * 8 + 4) B w w4_ (layK ld ⟨hk, ha, hb, hc, hd, ht, hm⟩) (layK ld ⟨hk, ha, hb, hc, hd, ht, hm⟩) (layK lf ⟨tk, ta, tb, tc, td, tt, tm⟩) (layK lf ⟨tk, ta, tb, tc, td, tt, tm⟩)) := HFS3n
            clear c0 c1 c2 c3 c4 c5 c6 d0 d1 d2 d3 d4 d5 d6 HFS3n
            go_wp2
            go_roundg gk1
            case rel => exact ⟨m + 1, (layK ld ⟨hk, ha, hb, hc, hd, ht, hm⟩), (layK lf ⟨tk, ta, tb, tc, td, tt, tm⟩), by omega, by go_num, HFS4.out.more (by omega)⟩
            case measure => exact Nat.lt_succ_self _
        · by_cases hG : m < ss.length
          · obtain ⟨bh, oh, -, eh, -⟩ := HCEh.out wr m HFS0.out.below hH
            have HCh : Hid (∀ u, Below w.heap.size w u → Kr.CellsAt u bh (oh + m * 7) (sh.getD m Kr.zero)) := fun u hu => by
              obtain ⟨b', off', _, e, hc'⟩ := HCEh.out u m hu hH
              rw [eh] at e
              cases e
              exact hc'
            have hxh := HOKh.out m hH
            subst eh
            generalize sh.getD m Kr.zero = xh at HCh hxh
            obtain ⟨hk, ha, hb, hc, hd, ht, hm⟩ := xh
            have hzh : hk.size ≤ maxLen := hxh.key
            have hih : (m : Int) < (sh.length : Int) := by omega
            clear hxh
            have hit : ¬ (m : Int) < (sx.length : Int) := by omega
            obtain ⟨bg, og, -, eg, -⟩ := HGC.out wr m HFS0.out.below hG
            have HCg0 : Hid (∀ u, Below w.heap.size w u → u.cell? ⟨bg, og + m, none⟩ = some (.string (ss.getD m ⟨#[]⟩))) := fun u hu => by
              obtain ⟨b', off', _, e, hc'⟩ := HGC.out u m hu hG
              rw [eg] at e
              cases e
              exact hc' m hG
            subst eg
            have hzg := HGO.out m hG
            generalize ss.getD m ⟨#[]⟩ = g at HCg0 hzg
            have HCg := HCg0
            have hig : (m : Int) < (ss.length : Int) := by omega
            obtain ⟨c0, c1, c2, c3, c4, c5, c6⟩ := HCh.out wr HFS0.out.below
            simp only at c0 c1 c2 c3 c4 c5 c6
            go_wp2
            go_region_held3 (fun w' => w'.cell? ⟨bh, oh + m * 7, none⟩ = some (.string hk) ∧ w'.cell? ⟨bh, oh + m * 7 + 1, none⟩ = some (.int .i64 ha) ∧ w'.cell? ⟨bh, oh + m * 7 + 2, none⟩ = some (.int .i64 hb) ∧ w'.cell? ⟨bh, oh + m * 7 + 3, none⟩ = some (.int .i64 hc) ∧ w'.cell? ⟨bh, oh + m * 7 + 4, none⟩ = some (.int .i64 hd) ∧ w'.cell? ⟨bh, oh + m * 7 + 5, none⟩ = some (.int .i64 ht) ∧ w'.cell? ⟨bh, oh + m * 7 + 6, none⟩ = some (.bool hm)) (go_keep) (first
              | (go_at_call 27
                 refine (HFS0.out.drew.putD ⟨hk, ha, hb, hc, hd, ht, hm⟩ hq hzh (by omega)).mono ?_
                 rintro e w1_ ⟨⟨v1, rfl⟩, hfs⟩
                 have HFS0n : Hid (Fs q (K0 + m * 8 + 0 + 1) B w w1_ (layK ld ⟨hk, ha, hb, hc, hd, ht, hm⟩) ld lf lf) := hfs
                 rcases HCh.out w1_ hfs.below with ⟨d0, d1, d2, d3, d4, d5, d6⟩
                 simp only at d0 d1 d2 d3 d4 d5 d6
                 clear hfs))
            have HFS1 : Hid (Fs q (K0 + m * 8 + 1) B w w1_ (layK ld ⟨hk, ha, hb, hc, hd, ht, hm⟩) ld lf lf) := HFS0n
            clear c0 c1 c2 c3 c4 c5 c6 d0 d1 d2 d3 d4 d5 d6 HFS0n
            obtain ⟨c0, c1, c2, c3, c4, c5, c6⟩ := HCh.out w1_ HFS1.out.below
            simp only at c0 c1 c2 c3 c4 c5 c6
            go_wp2
            go_region_held3 (fun w' => w'.cell? ⟨bh, oh + m * 7, none⟩ = some (.string hk) ∧ w'.cell? ⟨bh, oh + m * 7 + 1, none⟩ = some (.int .i64 ha) ∧ w'.cell? ⟨bh, oh + m * 7 + 2, none⟩ = some (.int .i64 hb) ∧ w'.cell? ⟨bh, oh + m * 7 + 3, none⟩ = some (.int .i64 hc) ∧ w'.cell? ⟨bh, oh + m * 7 + 4, none⟩ = some (.int .i64 hd) ∧ w'.cell? ⟨bh, oh + m * 7 + 5, none⟩ = some (.int .i64 ht) ∧ w'.cell? ⟨bh, oh + m * 7 + 6, none⟩ = some (.bool hm)) (go_keep) (first
              | (go_at_call 27
                 refine (HFS1.out.drew.putX ⟨hk, ha, hb, hc, hd, ht, hm⟩ hq hzh (by omega)).mono ?_
                 rintro e w2_ ⟨⟨v2, rfl⟩, hfs⟩
                 have HFS1n : Hid (Fs q (K0 + m * 8 + 1 + 1) B w w2_ (layK ld ⟨hk, ha, hb, hc, hd, ht, hm⟩) (layK ld ⟨hk, ha, hb, hc, hd, ht, hm⟩) lf lf) := hfs
                 rcases HCh.out w2_ hfs.below with ⟨d0, d1, d2, d3, d4, d5, d6⟩
                 simp only at d0 d1 d2 d3 d4 d5 d6
                 clear hfs))
            have HFS2 : Hid (Fs q (K0 + m * 8 + 2) B w w2_ (layK ld ⟨hk, ha, hb, hc, hd, ht, hm⟩) (layK ld ⟨hk, ha, hb, hc, hd, ht, hm⟩) lf lf) := HFS1n
            clear c0 c1 c2 c3 c4 c5 c6 d0 d1 d2 d3 d4 d5 d6 HFS1n
            have c0 := HCg.out w2_ HFS2.out.below
            go_wp2_with fail
            refine (HFS2.out.remD g hq hzg (by omega)).mono ?_
            rintro e w3_ ⟨⟨v3, rfl⟩, hfs⟩
            have HFS3 : Hid (Fs q (K0 + m * 8 + 3) B w w3_ (delL g (layK ld ⟨hk, ha, hb, hc, hd, ht, hm⟩)) (layK ld ⟨hk, ha, hb, hc, hd, ht, hm⟩) lf lf) := hfs
            clear hfs c0
            have c0 := HCg.out w3_ HFS3.out.below
            go_wp2_with fail
            refine (HFS3.out.remX g hq hzg (by omega)).mono ?_
            rintro e w4_ ⟨⟨v4, rfl⟩, hfs⟩
            have HFS4 : Hid (Fs q (K0 + m * 8 + 4) B w w4_ (delL g (layK ld ⟨hk, ha, hb, hc, hd, ht, hm⟩)) (delL g (layK ld ⟨hk, ha, hb, hc, hd, ht, hm⟩)) lf lf) := hfs
            clear hfs c0
            have c0 := HCg.out w4_ HFS4.out.below
            go_wp2_with fail
            refine (HFS4.out.poiF g 1 77 88 hq hzg (by omega)).mono ?_
            rintro e w5_ ⟨⟨v5, rfl⟩, hfs⟩
            have HFS5 : Hid (Fs q (K0 + m * 8 + 5) B w w5_ (delL g (layK ld ⟨hk, ha, hb, hc, hd, ht, hm⟩)) (delL g (layK ld ⟨hk, ha, hb, hc, hd, ht, hm⟩)) (pointL g 1 77 88 lf) lf) := hfs
            clear hfs c0
            have c0 := HCg.out w5_ HFS5.out.below
            go_wp2_with fail
            refine (HFS5.out.poiY g 1 77 88 hq hzg (by omega)).mono ?_
            rintro e w6_ ⟨⟨v6, rfl⟩, hfs⟩
            have HFS6 : Hid (Fs q (K0 + m * 8 + 6) B w w6_ (delL g (layK ld ⟨hk, ha, hb, hc, hd, ht, hm⟩)) (delL g (layK ld ⟨hk, ha, hb, hc, hd, ht, hm⟩)) (pointL g 1 77 88 lf) (pointL g 1 77 88 lf)) := hfs
            clear hfs c0
            go_wp2
            go_roundg gk1
            case rel => exact ⟨m + 1, (delL g (layK ld ⟨hk, ha, hb, hc, hd, ht, hm⟩)), (pointL g 1 77 88 lf), by omega, by go_num, HFS6.out.more (by omega)⟩
            case measure => exact Nat.lt_succ_self _
          · obtain ⟨bh, oh, -, eh, -⟩ := HCEh.out wr m HFS0.out.below hH
            have HCh : Hid (∀ u, Below w.heap.size w u → Kr.CellsAt u bh (oh + m * 7) (sh.getD m Kr.zero)) := fun u hu => by
              obtain ⟨b', off', _, e, hc'⟩ := HCEh.out u m hu hH
              rw [eh] at e
              cases e
              exact hc'
            have hxh := HOKh.out m hH
            subst eh
            generalize sh.getD m Kr.zero = xh at HCh hxh
            obtain ⟨hk, ha, hb, hc, hd, ht, hm⟩ := xh
            have hzh : hk.size ≤ maxLen := hxh.key
            have hih : (m : Int) < (sh.length : Int) := by omega
            clear hxh
            have hit : ¬ (m : Int) < (sx.length : Int) := by omega
            have hig : ¬ (m : Int) < (ss.length : Int) := by omega
            obtain ⟨c0, c1, c2, c3, c4, c5, c6⟩ := HCh.out wr HFS0.out.below
            simp only at c0 c1 c2 c3 c4 c5 c6
            go_wp2
            go_region_held3 (fun w' => w'.cell? ⟨bh, oh + m * 7, none⟩ = some (.string hk) ∧ w'.cell? ⟨bh, oh + m * 7 + 1, none⟩ = some (.int .i64 ha) ∧ w'.cell? ⟨bh, oh + m * 7 + 2, none⟩ = some (.int .i64 hb) ∧ w'.cell? ⟨bh, oh + m * 7 + 3, none⟩ = some (.int .i64 hc) ∧ w'.cell? ⟨bh, oh + m * 7 + 4, none⟩ = some (.int .i64 hd) ∧ w'.cell? ⟨bh, oh + m * 7 + 5, none⟩ = some (.int .i64 ht) ∧ w'.cell? ⟨bh, oh + m * 7 + 6, none⟩ = some (.bool hm)) (go_keep) (first
              | (go_at_call 27
                 refine (HFS0.out.drew.putD ⟨hk, ha, hb, hc, hd, ht, hm⟩ hq hzh (by omega)).mono ?_
                 rintro e w1_ ⟨⟨v1, rfl⟩, hfs⟩
                 have HFS0n : Hid (Fs q (K0 + m * 8 + 0 + 1) B w w1_ (layK ld ⟨hk, ha, hb, hc, hd, ht, hm⟩) ld lf lf) := hfs
                 rcases HCh.out w1_ hfs.below with ⟨d0, d1, d2, d3, d4, d5, d6⟩
                 simp only at d0 d1 d2 d3 d4 d5 d6
                 clear hfs))
            have HFS1 : Hid (Fs q (K0 + m * 8 + 1) B w w1_ (layK ld ⟨hk, ha, hb, hc, hd, ht, hm⟩) ld lf lf) := HFS0n
            clear c0 c1 c2 c3 c4 c5 c6 d0 d1 d2 d3 d4 d5 d6 HFS0n
            obtain ⟨c0, c1, c2, c3, c4, c5, c6⟩ := HCh.out w1_ HFS1.out.below
            simp only at c0 c1 c2 c3 c4 c5 c6
            go_wp2
            go_region_held3 (fun w' => w'.cell? ⟨bh, oh + m * 7, none⟩ = some (.string hk) ∧ w'.cell? ⟨bh, oh + m * 7 + 1, none⟩ = some (.int .i64 ha) ∧ w'.cell? ⟨bh, oh + m * 7 + 2, none⟩ = some (.int .i64 hb) ∧ w'.cell? ⟨bh, oh + m * 7 + 3, none⟩ = some (.int .i64 hc) ∧ w'.cell? ⟨bh, oh + m * 7 + 4, none⟩ = some (.int .i64 hd) ∧ w'.cell? ⟨bh, oh + m * 7 + 5, none⟩ = some (.int .i64 ht) ∧ w'.cell? ⟨bh, oh + m * 7 + 6, none⟩ = some (.bool hm)) (go_keep) (first
              | (go_at_call 27
                 refine (HFS1.out.drew.putX ⟨hk, ha, hb, hc, hd, ht, hm⟩ hq hzh (by omega)).mono ?_
                 rintro e w2_ ⟨⟨v2, rfl⟩, hfs⟩
                 have HFS1n : Hid (Fs q (K0 + m * 8 + 1 + 1) B w w2_ (layK ld ⟨hk, ha, hb, hc, hd, ht, hm⟩) (layK ld ⟨hk, ha, hb, hc, hd, ht, hm⟩) lf lf) := hfs
                 rcases HCh.out w2_ hfs.below with ⟨d0, d1, d2, d3, d4, d5, d6⟩
                 simp only at d0 d1 d2 d3 d4 d5 d6
                 clear hfs))
            have HFS2 : Hid (Fs q (K0 + m * 8 + 2) B w w2_ (layK ld ⟨hk, ha, hb, hc, hd, ht, hm⟩) (layK ld ⟨hk, ha, hb, hc, hd, ht, hm⟩) lf lf) := HFS1n
            clear c0 c1 c2 c3 c4 c5 c6 d0 d1 d2 d3 d4 d5 d6 HFS1n
            go_wp2
            go_roundg gk1
            case rel => exact ⟨m + 1, (layK ld ⟨hk, ha, hb, hc, hd, ht, hm⟩), lf, by omega, by go_num, HFS2.out.more (by omega)⟩
            case measure => exact Nat.lt_succ_self _
      · by_cases hT : m < sx.length
        · by_cases hG : m < ss.length
          · have hih : ¬ (m : Int) < (sh.length : Int) := by omega
            obtain ⟨bt, ot, -, et, -⟩ := HCEt.out wr m HFS0.out.below hT
            have HCt : Hid (∀ u, Below w.heap.size w u → Kr.CellsAt u bt (ot + m * 7) (sx.getD m Kr.zero)) := fun u hu => by
              obtain ⟨b', off', _, e, hc'⟩ := HCEt.out u m hu hT
              rw [et] at e
              cases e
              exact hc'
            have hxt := HOKt.out m hT
            subst et
            generalize sx.getD m Kr.zero = xt at HCt hxt
            obtain ⟨tk, ta, tb, tc, td, tt, tm⟩ := xt
            have hzt : tk.size ≤ maxLen := hxt.key
            have hit : (m : Int) < (sx.length : Int) := by omega
            clear hxt
            obtain ⟨bg, og, -, eg, -⟩ := HGC.out wr m HFS0.out.below hG
            have HCg0 : Hid (∀ u, Below w.heap.size w u → u.cell? ⟨bg, og + m, none⟩ = some (.string (ss.getD m ⟨#[]⟩))) := fun u hu => by
              obtain ⟨b', off', _, e, hc'⟩ := HGC.out u m hu hG
              rw [eg] at e
              cases e
              exact hc' m hG
            subst eg
            have hzg := HGO.out m hG
            generalize ss.getD m ⟨#[]⟩ = g at HCg0 hzg
            have HCg := HCg0
            have hig : (m : Int) < (ss.length : Int) := by omega
            obtain ⟨c0, c1, c2, c3, c4, c5, c6⟩ := HCt.out wr HFS0.out.below
            simp only at c0 c1 c2 c3 c4 c5 c6
            go_wp2
            go_region_held3 (fun w' => w'.cell? ⟨bt, ot + m * 7, none⟩ = some (.string tk) ∧ w'.cell? ⟨bt, ot + m * 7 + 1, none⟩ = some (.int .i64 ta) ∧ w'.cell? ⟨bt, ot + m * 7 + 2, none⟩ = some (.int .i64 tb) ∧ w'.cell? ⟨bt, ot + m * 7 + 3, none⟩ = some (.int .i64 tc) ∧ w'.cell? ⟨bt, ot + m * 7 + 4, none⟩ = some (.int .i64 td) ∧ w'.cell? ⟨bt, ot + m * 7 + 5, none⟩ = some (.int .i64 tt) ∧ w'.cell? ⟨bt, ot + m * 7 + 6, none⟩ = some (.bool tm)) (go_keep) (first
              | (go_at_call 27
                 refine (HFS0.out.drew.putF ⟨tk, ta, tb, tc, td, tt, tm⟩ hq hzt (by omega)).mono ?_
                 rintro e w1_ ⟨⟨v1, rfl⟩, hfs⟩
                 have HFS0n : Hid (Fs q (K0 + m * 8 + 0 + 1) B w w1_ ld ld (layK lf ⟨tk, ta, tb, tc, td, tt, tm⟩) lf) := hfs
                 rcases HCt.out w1_ hfs.below with ⟨d0, d1, d2, d3, d4, d5, d6⟩
                 simp only at d0 d1 d2 d3 d4 d5 d6
                 clear hfs))
            have HFS1 : Hid (Fs q (K0 + m * 8 + 1) B w w1_ ld ld (layK lf ⟨tk, ta, tb, tc, td, tt, tm⟩) lf) := HFS0n
            clear c0 c1 c2 c3 c4 c5 c6 d0 d1 d2 d3 d4 d5 d6 HFS0n
            obtain ⟨c0, c1, c2, c3, c4, c5, c6⟩ := HCt.out w1_ HFS1.out.below
            simp only at c0 c1 c2 c3 c4 c5 c6
            go_wp2
            go_region_held3 (fun w' => w'.cell? ⟨bt, ot + m * 7, none⟩ = some (.string tk) ∧ w'.cell? ⟨bt, ot + m * 7 + 1, none⟩ = some (.int .i64 ta) ∧ w'.cell? ⟨bt, ot + m * 7 + 2, none⟩ = some (.int .i64 tb) ∧ w'.cell? ⟨bt, ot + m * 7 + 3, none⟩ = some (.int .i64 tc) ∧ w'.cell? ⟨bt, ot + m * 7 + 4, none⟩ = some (.int .i64 td) ∧ w'.cell? ⟨bt, ot + m * 7 + 5, none⟩ = some (.int .i64 tt) ∧ w'.cell? ⟨bt, ot + m * 7 + 6, none⟩ = some (.bool tm)) (go_keep) (first
              | (go_at_call 27
                 refine (HFS1.out.drew.putY ⟨tk, ta, tb, tc, td, tt, tm⟩ hq hzt (by omega)).mono ?_
                 rintro e w2_ ⟨⟨v2, rfl⟩, hfs⟩
                 have HFS1n : Hid (Fs q (K0 + m * 8 + 1 + 1) B w w2_ ld ld (layK lf ⟨tk, ta, tb, tc, td, tt, tm⟩) (layK lf ⟨tk, ta, tb, tc, td, tt, tm⟩)) := hfs
                 rcases HCt.out w2_ hfs.below with ⟨d0, d1, d2, d3, d4, d5, d6⟩
                 simp only at d0 d1 d2 d3 d4 d5 d6
                 clear hfs))
            have HFS2 : Hid (Fs q (K0 + m * 8 + 2) B w w2_ ld ld (layK lf ⟨tk, ta, tb, tc, td, tt, tm⟩) (layK lf ⟨tk, ta, tb, tc, td, tt, tm⟩)) := HFS1n
            clear c0 c1 c2 c3 c4 c5 c6 d0 d1 d2 d3 d4 d5 d6 HFS1n
            have c0 := HCg.out w2_ HFS2.out.below
            go_wp2_with fail
            refine (HFS2.out.remD g hq hzg (by omega)).mono ?_
            rintro e w3_ ⟨⟨v3, rfl⟩, hfs⟩
            have HFS3 : Hid (Fs q (K0 + m * 8 + 3) B w w3_ (delL g ld) ld (layK lf ⟨tk, ta, tb, tc, td, tt, tm⟩) (layK lf ⟨tk, ta, tb, tc, td, tt, tm⟩)) := hfs
            clear hfs c0
            have c0 := HCg.out w3_ HFS3.out.below
            go_wp2_with fail
            refine (HFS3.out.remX g hq hzg (by omega)).mono ?_
            rintro e w4_ ⟨⟨v4, rfl⟩, hfs⟩
            have HFS4 : Hid (Fs q (K0 + m * 8 + 4) B w w4_ (delL g ld) (delL g ld) (layK lf ⟨tk, ta, tb, tc, td, tt, tm⟩) (layK lf ⟨tk, ta, tb, tc, td, tt, tm⟩)) := hfs
            clear hfs c0
            have c0 := HCg.out w4_ HFS4.out.below
            go_wp2_with fail
            refine (HFS4.out.poiF g 1 77 88 hq hzg (by omega)).mono ?_
            rintro e w5_ ⟨⟨v5, rfl⟩, hfs⟩
            have HFS5 : Hid (Fs q (K0 + m * 8 + 5) B w w5_ (delL g ld) (delL g ld) (pointL g 1 77 88 (layK lf ⟨tk, ta, tb, tc, td, tt, tm⟩)) (layK lf ⟨tk, ta, tb, tc, td, tt, tm⟩)) := hfs
            clear hfs c0
            have c0 := HCg.out w5_ HFS5.out.below
            go_wp2_with fail
            refine (HFS5.out.poiY g 1 77 88 hq hzg (by omega)).mono ?_
            rintro e w6_ ⟨⟨v6, rfl⟩, hfs⟩
            have HFS6 : Hid (Fs q (K0 + m * 8 + 6) B w w6_ (delL g ld) (delL g ld) (pointL g 1 77 88 (layK lf ⟨tk, ta, tb, tc, td, tt, tm⟩)) (pointL g 1 77 88 (layK lf ⟨tk, ta, tb, tc, td, tt, tm⟩))) := hfs
            clear hfs c0
            go_wp2
            go_roundg gk1
            case rel => exact ⟨m + 1, (delL g ld), (pointL g 1 77 88 (layK lf ⟨tk, ta, tb, tc, td, tt, tm⟩)), by omega, by go_num, HFS6.out.more (by omega)⟩
            case measure => exact Nat.lt_succ_self _
          · have hih : ¬ (m : Int) < (sh.length : Int) := by omega
            obtain ⟨bt, ot, -, et, -⟩ := HCEt.out wr m HFS0.out.below hT
            have HCt : Hid (∀ u, Below w.heap.size w u → Kr.CellsAt u bt (ot + m * 7) (sx.getD m Kr.zero)) := fun u hu => by
              obtain ⟨b', off', _, e, hc'⟩ := HCEt.out u m hu hT
              rw [et] at e
              cases e
              exact hc'
            have hxt := HOKt.out m hT
            subst et
            generalize sx.getD m Kr.zero = xt at HCt hxt
            obtain ⟨tk, ta, tb, tc, td, tt, tm⟩ := xt
            have hzt : tk.size ≤ maxLen := hxt.key
            have hit : (m : Int) < (sx.length : Int) := by omega
            clear hxt
            have hig : ¬ (m : Int) < (ss.length : Int) := by omega
            obtain ⟨c0, c1, c2, c3, c4, c5, c6⟩ := HCt.out wr HFS0.out.below
            simp only at c0 c1 c2 c3 c4 c5 c6
            go_wp2
            go_region_held3 (fun w' => w'.cell? ⟨bt, ot + m * 7, none⟩ = some (.string tk) ∧ w'.cell? ⟨bt, ot + m * 7 + 1, none⟩ = some (.int .i64 ta) ∧ w'.cell? ⟨bt, ot + m * 7 + 2, none⟩ = some (.int .i64 tb) ∧ w'.cell? ⟨bt, ot + m * 7 + 3, none⟩ = some (.int .i64 tc) ∧ w'.cell? ⟨bt, ot + m * 7 + 4, none⟩ = some (.int .i64 td) ∧ w'.cell? ⟨bt, ot + m * 7 + 5, none⟩ = some (.int .i64 tt) ∧ w'.cell? ⟨bt, ot + m * 7 + 6, none⟩ = some (.bool tm)) (go_keep) (first
              | (go_at_call 27
                 refine (HFS0.out.drew.putF ⟨tk, ta, tb, tc, td, tt, tm⟩ hq hzt (by omega)).mono ?_
                 rintro e w1_ ⟨⟨v1, rfl⟩, hfs⟩
                 have HFS0n : Hid (Fs q (K0 + m * 8 + 0 + 1) B w w1_ ld ld (layK lf ⟨tk, ta, tb, tc, td, tt, tm⟩) lf) := hfs
                 rcases HCt.out w1_ hfs.below with ⟨d0, d1, d2, d3, d4, d5, d6⟩
                 simp only at d0 d1 d2 d3 d4 d5 d6
                 clear hfs))
            have HFS1 : Hid (Fs q (K0 + m * 8 + 1) B w w1_ ld ld (layK lf ⟨tk, ta, tb, tc, td, tt, tm⟩) lf) := HFS0n
            clear c0 c1 c2 c3 c4 c5 c6 d0 d1 d2 d3 d4 d5 d6 HFS0n
            obtain ⟨c0, c1, c2, c3, c4, c5, c6⟩ := HCt.out w1_ HFS1.out.below
            simp only at c0 c1 c2 c3 c4 c5 c6
            go_wp2
            go_region_held3 (fun w' => w'.cell? ⟨bt, ot + m * 7, none⟩ = some (.string tk) ∧ w'.cell? ⟨bt, ot + m * 7 + 1, none⟩ = some (.int .i64 ta) ∧ w'.cell? ⟨bt, ot + m * 7 + 2, none⟩ = some (.int .i64 tb) ∧ w'.cell? ⟨bt, ot + m * 7 + 3, none⟩ = some (.int .i64 tc) ∧ w'.cell? ⟨bt, ot + m * 7 + 4, none⟩ = some (.int .i64 td) ∧ w'.cell? ⟨bt, ot + m * 7 + 5, none⟩ = some (.int .i64 tt) ∧ w'.cell? ⟨bt, ot + m * 7 + 6, none⟩ = some (.bool tm)) (go_keep) (first
              | (go_at_call 27
                 refine (HFS1.out.drew.putY ⟨tk, ta, tb, tc, td, tt, tm⟩ hq hzt (by omega)).mono ?_
                 rintro e w2_ ⟨⟨v2, rfl⟩, hfs⟩
                 have HFS1n : Hid (Fs q (K0 + m * 8 + 1 + 1) B w w2_ ld ld (layK lf ⟨tk, ta, tb, tc, td, tt, tm⟩) (layK lf ⟨tk, ta, tb, tc, td, tt, tm⟩)) := hfs
                 rcases HCt.out w2_ hfs.below with ⟨d0, d1, d2, d3, d4, d5, d6⟩
                 simp only at d0 d1 d2 d3 d4 d5 d6
                 clear hfs))
            have HFS2 : Hid (Fs q (K0 + m * 8 + 2) B w w2_ ld ld (layK lf ⟨tk, ta, tb, tc, td, tt, tm⟩) (layK lf ⟨tk, ta, tb, tc, td, tt, tm⟩)) := HFS1n
            clear c0 c1 c2 c3 c4 c5 c6 d0 d1 d2 d3 d4 d5 d6 HFS1n
            go_wp2
            go_roundg gk1
            case rel => exact ⟨m + 1, ld, (layK lf ⟨tk, ta, tb, tc, td, tt, tm⟩), by omega, by go_num, HFS2.out.more (by omega)⟩
            case measure => exact Nat.lt_succ_self _
        · by_cases hG : m < ss.length
          · have hih : ¬ (m : Int) < (sh.length : Int) := by omega
            have hit : ¬ (m : Int) < (sx.length : Int) := by omega
            obtain ⟨bg, og, -, eg, -⟩ := HGC.out wr m HFS0.out.below hG
            have HCg0 : Hid (∀ u, Below w.heap.size w u → u.cell? ⟨bg, og + m, none⟩ = some (.string (ss.getD m ⟨#[]⟩))) := fun u hu => by
              obtain ⟨b', off', _, e, hc'⟩ := HGC.out u m hu hG
              rw [eg] at e
              cases e
              exact hc' m hG
            subst eg
            have hzg := HGO.out m hG
            generalize ss.getD m ⟨#[]⟩ = g at HCg0 hzg
            have HCg := HCg0
            have hig : (m : Int) < (ss.length : Int) := by omega
            have c0 := HCg.out wr HFS0.out.below
            go_wp2_with fail
            refine (HFS0.out.remD g hq hzg (by omega)).mono ?_
            rintro e w1_ ⟨⟨v1, rfl⟩, hfs⟩
            have HFS1 : Hid (Fs q (K0 + m * 8 + 1) B w w1_ (delL g ld) ld lf lf) := hfs
            clear hfs c0
            have c0 := HCg.out w1_ HFS1.out.below
            go_wp2_with fail
            refine (HFS1.out.remX g hq hzg (by omega)).mono ?_
            rintro e w2_ ⟨⟨v2, rfl⟩, hfs⟩
            have HFS2 : Hid (Fs q (K0 + m * 8 + 2) B w w2_ (delL g ld) (delL g ld) lf lf) := hfs
            clear hfs c0
            have c0 := HCg.out w2_ HFS2.out.below
            go_wp2_with fail
            refine (HFS2.out.poiF g 1 77 88 hq hzg (by omega)).mono ?_
            rintro e w3_ ⟨⟨v3, rfl⟩, hfs⟩
            have HFS3 : Hid (Fs q (K0 + m * 8 + 3) B w w3_ (delL g ld) (delL g ld) (pointL g 1 77 88 lf) lf) := hfs
            clear hfs c0
            have c0 := HCg.out w3_ HFS3.out.below
            go_wp2_with fail
            refine (HFS3.out.poiY g 1 77 88 hq hzg (by omega)).mono ?_
            rintro e w4_ ⟨⟨v4, rfl⟩, hfs⟩
            have HFS4 : Hid (Fs q (K0 + m * 8 + 4) B w w4_ (delL g ld) (delL g ld) (pointL g 1 77 88 lf) (pointL g 1 77 88 lf)) := hfs
            clear hfs c0
            go_wp2
            go_roundg gk1
            case rel => exact ⟨m + 1, (delL g ld), (pointL g 1 77 88 lf), by omega, by go_num, HFS4.out.more (by omega)⟩
            case measure => exact Nat.lt_succ_self _
          · omega
end Go.Proofs.Ythfnbcicpcbgjaa
