import Derived.Test.YtbngedfpojnbjacUj
/-! The law of unpacking. -/
namespace Go.Proofs.Ytbngedfpojnbjac
open Go.RowKit Plain
set_option linter.unusedVariables false

/-- What the law keeps: the bytes with their marks, and the kinds with theirs. -/
structure Kp (w wr : World) (l : List Nat) (us : List Int) (gf capf gk capk : Nat) : Prop where
  ow : Own wr (.slice (some ⟨gf, 0, none⟩) (l.length + 4) capf) (l ++ [165, 90, 167, 91]) (some gf)
  ka : KAt wr gk capk us
  bl : Below w.heap.size w wr
  lf : w.heap.size ≤ gf
  lk : w.heap.size ≤ gk
  ne : gf ≠ gk

theorem Kp.later {w wr w' : World} {l : List Nat} {us : List Int} {gf capf gk capk : Nat} (h : Kp w wr l us gf capf gk capk) (k : Below wr.heap.size wr w') : Kp w w' l us gf capf gk capk :=
  ⟨h.ow.later k, h.ka.later k, below_on h.bl k, h.lf, h.lk, h.ne⟩
theorem Kp.bytes {w wr : World} {l : List Nat} {us : List Int} {gf capf gk capk : Nat} (h : Kp w wr l us gf capf gk capk) : BytesAt wr (.slice (some ⟨gf, 0, none⟩) l.length capf) l := by
  have := (Own.take h.ow l.length (by simp)).bytes
  rwa [List.take_left] at this
theorem Kp.set {w wr : World} {l : List Nat} {us : List Int} {gf capf gk capk j : Nat} {m : Int} (h : Kp w wr l us gf capf gk capk) (hj : j < us.length) (hm : -9223372036854775808 ≤ m ∧ m ≤ 9223372036854775807) : Kp w (wr.setCell ⟨gk, j, none⟩ (.int .i64 m)) l (us.set j m) gf capf gk capk :=
  ⟨h.ow.kept (grow_set wr gk j _) (.inr (by simpa using h.ne)), h.ka.set hj hm, h.bl.setCell h.lk _, h.lf, h.lk, h.ne⟩

set_option maxHeartbeats 4000000 in
set_option maxRecDepth 1000000 in
theorem unpacksWalk (vk vb : Value) (ks : List Int) (most : Int) (l : List Nat) (w : World) (hk : IntsAt w vk ks) (hb : BytesAt w vb l) (hl : l.length ≤ 1099511627776) (hkl : ks.length ≤ 1099511627776) (hm1 : -9223372036854775808 ≤ most) (hm2 : most ≤ 9223372036854775807) :
    Calls Try.prog 4 #[vk, .int .i64 most, vb] w (Ans w (.bool true)) := by
  have HI : Hid (IntsAt w vk ks) := hk
  have HB : Hid (BytesAt w vb l) := hb
  have HBY : Hid (∀ c ∈ l, c < 256) := hb.byte
  obtain ⟨ab, capb, rfl, -⟩ := hb
  obtain ⟨a, cap, rfl, hcl, hsn, hcells⟩ := hk
  unfold maxLen at hcl
  have HC : Hid (ks ≠ [] → ∃ b off, a = some ⟨b, off, none⟩ ∧ ∀ j, j < ks.length → w.cell? ⟨b, off + j, none⟩ = some (.int .i64 (ks.getD j 0))) := hcells
  have HSN : Hid (∀ x ∈ ks, -9223372036854775808 ≤ x ∧ x ≤ 9223372036854775807) := hsn
  clear hcells hsn
  go_enter Try.func4, Try.ntmps4
  go_wp2_with fail
  refine (roomy _ l w HB.out (by omega)).mono ?_
  rintro e w1 ⟨vf, gf, rfl, ho1, hgf, hb1⟩
  obtain ⟨capf, rfl, hcf, hmf⟩ := ho1.shape
  rw [four_len] at ho1 hcf
  rw [four_len]
  have HO1 : Hid (Own w1 (.slice (some ⟨gf, 0, none⟩) (l.length + 4) capf) (l ++ [165, 90, 167, 91]) (some gf)) := ho1
  have HB1 : Hid (Below w.heap.size w w1) := hb1
  have HGF : Hid (w.heap.size ≤ gf) := hgf
  unfold maxLen at hmf
  clear ho1 hb1 hgf
  go_wp2_with (at_builtin; refine wpList_append_k _ rfl _ _ 23 23 rfl Try.underlying23 _ _ [] ks (some w1.heap.size) rfl rfl ?hOwn ?hByte ?hSrc ?hLen ?_)
  case hOwn => exact OwnK.empty w1 3
  case hByte => exact HSN.out
  case hSrc => exact src_ints (HI.out.later (below_on HB1.out ((Below.refl _ _).alloc (Nat.le_refl _) _)))
  case hLen => simp; omega
  intro v2 w2 r2 ho2 hg2 hr2 hn2
  have HB12 : Hid (Below w1.heap.size w1 w2) := grow_below (grow_trans (World.grownBy_alloc w1 _ none) hg2 (.inr (.inr ⟨_, rfl, Nat.le_refl _⟩))) (Nat.le_refl _) (by simp)
  obtain ⟨q2, HO2, HQ2⟩ : ∃ q2, Hid (OwnK w2 v2 ks (some q2)) ∧ Hid (w1.heap.size ≤ q2) := by
    rcases hr2 with rfl | rfl
    · exact ⟨_, ho2, Nat.le_refl _⟩
    · exact ⟨_, ho2, by unfold Hid; simp⟩
  clear ho2 hg2 hr2 hn2
  go_wp2_with (at_builtin; refine wpList_append_k _ rfl _ _ 23 23 rfl Try.underlying23 _ _ ks [-77] (some q2) rfl rfl ?hOwn ?hByte ?hSrc ?hLen ?_)
  case hOwn => exact HO2.out.later ((Below.refl _ _).alloc (Nat.le_refl _) _)
  case hByte => simp
  case hSrc => exact src_m w2
  case hLen => simp; omega
  intro v3 w3 r3 ho3 hg3 hr3 hn3
  have HB13 : Hid (Below w1.heap.size w1 w3) := (HB12.out.alloc HB12.out.size _).trans (grow_below hg3 (by have := HB12.out.size; simp; omega) (by intro g hg; simp at hg; subst hg; exact HQ2.out))
  obtain ⟨gk, capk, hv3, HKA, HGK⟩ : ∃ gk capk, v3 = .slice (some ⟨gk, 0, none⟩) (ks.length + 1) capk ∧ Hid (KAt w3 gk capk ks) ∧ Hid (w1.heap.size ≤ gk) := by
    have hs := HB12.out.size
    have hq := HQ2.out
    rcases r3 with _ | gk
    · exact (hn3 (by simp)).elim
    · obtain ⟨capk, e, _, _⟩ := ho3.shape
      rw [show (ks ++ [(-77 : Int)]).length = ks.length + 1 by simp] at e
      refine ⟨gk, capk, e, ⟨by rw [← e]; exact ho3⟩, ?_⟩
      unfold Hid
      rcases hr3 with h | h
      · have := Option.some.inj h; omega
      · have := Option.some.inj h; omega
  subst hv3
  obtain ⟨-, hck, hmk, -⟩ := HKA.out.parts
  unfold maxLen at hmk
  have HKP : Hid (Kp w w3 l ks gf capf gk capk) := ⟨HO1.out.later HB13.out, HKA.out, below_on HB1.out HB13.out, HGF.out, by have := HGK.out; have := HB1.out.size; omega, by have := HO1.out.lt; have := HGK.out; omega⟩
  clear ho3 hg3 hr3 hn3 HB12 HO2 HQ2 HB13 HKA HGK HO1 HB1
  go_wp2_with fail
  refine (flippedAt gf (l.length + 4) capf l.length (l ++ [165, 90, 167, 91]) w3 (by simp) HKP.out.ow).mono ?_
  rintro e w4 ⟨rfl, ho4, hg4⟩
  have HO4 : Hid (Own w4 (.slice (some ⟨gf, 0, none⟩) (l.length + 4) capf) (((l ++ [165, 90, 167, 91]).take l.length).map flip ++ (l ++ [165, 90, 167, 91]).drop l.length) (some gf)) := ho4
  have HK4 : Hid (KAt w4 gk capk ks) := HKP.out.ka.kept hg4 (by simpa using Ne.symm HKP.out.ne)
  have HB4 : Hid (Below w.heap.size w w4) := HKP.out.bl.trans (grow_below hg4 HKP.out.bl.size (by intro g hg; simp at hg; have := HGF.out; omega))
  clear ho4 hg4
  go_wp2_with fail
  refine (unpackAny _ _ ks most _ w4 HK4.out.ints ((Own.take HO4.out l.length (by simp)).bytes) (by simp; omega) hkl hm1 hm2).mono ?_
  rintro e w5 ⟨v5, r5, rfl, -, -, hb5⟩
  have HO5 : Hid (Own w5 (.slice (some ⟨gf, 0, none⟩) (l.length + 4) capf) (((l ++ [165, 90, 167, 91]).take l.length).map flip ++ (l ++ [165, 90, 167, 91]).drop l.length) (some gf)) := HO4.out.later hb5
  have HK5 : Hid (KAt w5 gk capk ks) := HK4.out.later hb5
  have HB5 : Hid (Below w.heap.size w w5) := below_on HB4.out hb5
  clear hb5 HO4 HK4 HB4
  go_wp2_with fail
  refine (flippedAt gf (l.length + 4) capf l.length _ _ (by simp) HO5.out).mono ?_
  rintro e w6 ⟨rfl, ho6, hg6⟩
  rw [flip_twice l _ HBY.out] at ho6
  have HK6 : Hid (Kp w w6 l ks gf capf gk capk) := ⟨ho6, HK5.out.kept hg6 (by simpa using Ne.symm HKP.out.ne), HB5.out.trans (grow_below hg6 HB5.out.size (by intro g hg; simp at hg; have := HGF.out; omega)), HGF.out, HKP.out.lk, HKP.out.ne⟩
  clear ho6 hg6 HO5 HK5 HB5 HKP
  go_wp2
  go_loopw [9] (fun i wr => ∃ (k : Nat) (us : List Int), k ≤ ks.length ∧ i = .int .i64 k ∧ us.length = ks.length ∧ Kp w wr l us gf capf gk capk) (fun i _ => ks.length - (intOf i).toNat)
  case atStart => exact ⟨0, ks, by omega, rfl, rfl, HK6.out⟩
  case round =>
    obtain ⟨k, us, hk, rfl, hus, hkp⟩ := hrel
    have HKP : Hid (Kp w wr l us gf capf gk capk) := hkp
    have HUS : Hid (us.length = ks.length) := hus
    clear hkp HK6 hus
    by_cases hlt : k < ks.length
    · obtain ⟨-, -, -, pf, -, pc, -, pr⟩ := HKP.out.ka.parts
      have c0 := pc k (by rw [HUS.out]; exact hlt)
      have f0 := pf k (by omega)
      have HREL : Hid (∀ m : Int, -9223372036854775808 ≤ m ∧ m ≤ 9223372036854775807 → ∃ us', us'.length = ks.length ∧ Kp w (wr.setCell ⟨gk, k, none⟩ (.int .i64 m)) l us' gf capf gk capk) := fun m hm => ⟨us.set k m, by rw [List.length_set]; exact HUS.out, HKP.out.set (by rw [HUS.out]; exact hlt) hm⟩
      generalize us.getD k 0 = x at c0
      obtain ⟨us', h1, h2⟩ := HREL.out (wrap64 (x + 1)) (wrap64_range _)
      have H2 : Hid (us'.length = ks.length ∧ Kp w (wr.setCell ⟨gk, k, none⟩ (.int .i64 (wrap64 (x + 1)))) l us' gf capf gk capk) := ⟨h1, h2⟩
      clear HREL h1 h2 pf pc pr
      go_wp2
      go_roundw
      case rel => exact ⟨k + 1, us', by omega, by go_num, H2.out⟩
      case measure => simp [intOf]; omega
    · go_wp2_with fail
      refine (unpackAny _ _ us most l wr (by have := HKP.out.ka.ints; rw [HUS.out] at this; exact this) HKP.out.bytes (by omega) (by rw [HUS.out]; exact hkl) hm1 hm2).mono ?_
      rintro e w7 ⟨v7, r7, rfl, -, -, hb7⟩
      have HK7 : Hid (Kp w w7 l us gf capf gk capk) := HKP.out.later hb7
      clear hb7 HKP hlt hk
      go_wp2
      go_loopw [10] (fun i wr => ∃ (k : Nat) (us : List Int), k ≤ ks.length ∧ i = .int .i64 k ∧ us.length = ks.length ∧ (∀ j, j < k → us.getD j 0 = ks.getD j 0) ∧ Kp w wr l us gf capf gk capk) (fun i _ => ks.length - (intOf i).toNat)
      case atStart => exact ⟨0, us, by omega, rfl, HUS.out, fun j hj => by omega, HK7.out⟩
      case round =>
        obtain ⟨k, vs, hk, rfl, hvs, hsm, hkp⟩ := hrel
        have HKP : Hid (Kp w wr l vs gf capf gk capk) := hkp
        have HVS : Hid (vs.length = ks.length) := hvs
        have HSM : Hid (∀ j, j < k → vs.getD j 0 = ks.getD j 0) := hsm
        clear hkp hvs hsm HK7 HUS
        by_cases hlt : k < ks.length
        · have hne : ks ≠ [] := by rintro rfl; simp at hlt
          obtain ⟨b, off, rfl, hc⟩ := HC.out hne
          have d0 : wr.cell? ⟨b, off + k, none⟩ = some (.int .i64 (ks.getD k 0)) := by rw [HKP.out.bl.cell (p := ⟨b, _, none⟩) (cell_lt (hc k hlt))]; exact hc k hlt
          obtain ⟨-, -, -, pf, -, pc, -, pr⟩ := HKP.out.ka.parts
          have c0 := pc k (by rw [HVS.out]; exact hlt)
          have f0 := pf k (by omega)
          have HREL : Hid (∃ us', us'.length = ks.length ∧ (∀ j, j < k + 1 → us'.getD j 0 = ks.getD j 0) ∧ Kp w (wr.setCell ⟨gk, k, none⟩ (.int .i64 (ks.getD k 0))) l us' gf capf gk capk) := by
            refine ⟨vs.set k (ks.getD k 0), by rw [List.length_set]; exact HVS.out, fun j hj => ?_, HKP.out.set (by rw [HVS.out]; exact hlt) (HSN.out _ (by simp [hlt]))⟩
            by_cases e : j = k
            · subst e; simp [HVS.out, hlt]
            · have := HSM.out j (by omega)
              rw [List.getD_eq_getElem?_getD, List.getElem?_set_ne (Ne.symm e), ← List.getD_eq_getElem?_getD]; exact this
          generalize vs.getD k 0 = y at c0
          generalize ks.getD k 0 = x at d0 HREL
          clear hc hne pf pc pr
          go_wp2
          go_roundw
          case rel =>
            obtain ⟨us', h1, h2, h3⟩ := HREL.out
            exact ⟨k + 1, us', by omega, by go_num, h1, h2, h3⟩
          case measure => simp [intOf]; omega
        · have HEQ : Hid (vs = ks) := by
            apply List.ext_getElem?
            intro j
            by_cases hj : j < ks.length
            · have h1 := HSM.out j (by omega)
              have hv := HVS.out
              rw [List.getElem?_eq_getElem hj, List.getElem?_eq_getElem (by omega)]
              simpa [hj, hv] using h1
            · have hv := HVS.out
              rw [List.getElem?_eq_none (by omega), List.getElem?_eq_none (by omega)]
          have HKS : Hid (Kp w wr l ks gf capf gk capk) := by have := HKP.out; rw [HEQ.out] at this; exact this
          clear HEQ HKP HVS HSM
          go_wp2_with fail
          refine (unpackAny _ _ ks most l wr HKS.out.ka.ints HKS.out.bytes (by omega) hkl hm1 hm2).mono ?_
          rintro e w8 ⟨v8, r8, rfl, ho8, hr8, hb8⟩
          have HK8 : Hid (Kp w w8 l ks gf capf gk capk) := HKS.out.later hb8
          have HI8 : Hid (OwnI w8 v8 (upItems ks most l) r8) := ho8
          clear ho8 hr8 hb8 HKS hlt hk
          have HA8 : Hid (Below w8.heap.size w8 (w8.alloc (.cells #[.int .i64 (upE ks most l), .int .i64 (upP ks most l)] 27))) := (Below.refl _ _).alloc (Nat.le_refl _) _
          go_wp2_with fail
          refine (unpackAny _ _ ks most l _ (HK8.out.later HA8.out).ka.ints (HK8.out.later HA8.out).bytes (by omega) hkl hm1 hm2).mono ?_
          rintro e w9 ⟨v9, r9, rfl, ho9, hr9, hb9⟩
          obtain ⟨T, hT⟩ : ∃ T, T = w8.heap.size + 1 := ⟨_, rfl⟩
          have HT : Hid (T = w8.heap.size + 1) := hT
          have HB9 : Hid (Below T (w8.alloc (.cells #[.int .i64 (upE ks most l), .int .i64 (upP ks most l)] 27)) w9) := by unfold Hid; rw [hT]; simpa using hb9
          have HR9 : Hid (∀ q, r9 = some q → T ≤ q) := fun q hq => by rw [hT]; simpa using hr9 q hq
          have HI9 : Hid (OwnI w9 v9 (upItems ks most l) r9) := ho9
          obtain ⟨a9, cap9, hv9, hc9, hc9'⟩ := ho9.shape
          subst hv9
          unfold maxLen at hc9
          clear ho9 hr9 hb9 hT
          have HN : Hid ((upItems ks most l).length ≤ 1099511627776) := by
            unfold Hid upItems upS
            split
            · split
              · rw [readAll_len]; exact hkl
              · simp
            · simp
          have hN := HN.out
          obtain ⟨N, hNN⟩ : ∃ N, N = (upItems ks most l).length := ⟨_, rfl⟩
          have HNN : Hid (N = (upItems ks most l).length) := hNN
          rw [← hNN] at hN hc9' HI9 ⊢
          clear hNN
          go_wp2
          go_loopw [15] (fun i wx => ∃ (k : Nat) (us : List It), k ≤ N ∧ i = .int .i64 k ∧ us.length = N ∧ OwnI wx (.slice a9 N cap9) us r9 ∧ Below T (w8.alloc (.cells #[.int .i64 (upE ks most l), .int .i64 (upP ks most l)] 27)) wx) (fun i _ => N - (intOf i).toNat)
          case atStart => exact ⟨0, upItems ks most l, by omega, rfl, HNN.out.symm, HI9.out.later ((Below.refl _ _).alloc (Nat.le_refl _) _), HB9.out.alloc (by have := HB9.out.size; have := HT.out; simp at *; omega) _⟩
          case round =>
            obtain ⟨k, us, hk, rfl, hus, how, hbe⟩ := hrel
            have HOW : Hid (OwnI wr (.slice a9 N cap9) us r9) := how
            have HBE : Hid (Below T (w8.alloc (.cells #[.int .i64 (upE ks most l), .int .i64 (upP ks most l)] 27)) wr) := hbe
            have HUS : Hid (us.length = N) := hus
            clear how hbe hus HI9 HB9
            by_cases hlt : k < N
            · obtain ⟨g9, hr9', ha9, pf, ps, HOV⟩ : ∃ g9, r9 = some g9 ∧ a9 = some ⟨g9, 0, none⟩ ∧ (∀ j, j < 3 * cap9 → wr.frozen? ⟨g9, j, none⟩ = false) ∧ (∀ j, j < 3 * cap9 → (wr.cell? ⟨g9, j, none⟩).isSome = true) ∧
                  Hid (∀ x : Int, ∃ us' : List It, us'.length = N ∧ OwnI (((wr.setCell ⟨g9, k * 3, none⟩ (.int .i64 x)).setCell ⟨g9, k * 3 + 1, none⟩ (.int .u64 0)).setCell ⟨g9, k * 3 + 2, none⟩ (.string ⟨#[]⟩)) (.slice (some ⟨g9, 0, none⟩) N cap9) us' (some g9)) := by
                have h := HOW.out
                have hu := HUS.out
                rcases h with ⟨_, h0, _⟩ | ⟨g9, cap', e1, e2, hg, h1, h2, h3, h4, h5⟩
                · rw [h0] at hu; simp at hu; omega
                · simp only [Value.slice.injEq] at e2
                  obtain ⟨ea, _, rfl⟩ := e2
                  refine ⟨g9, e1, ea, h3, h4, fun x => ?_⟩
                  obtain ⟨us', q1, q2⟩ := OwnI.over (w := wr) (g := g9) (cap := cap9) (j := k) (ts := us) (k := x) (.inr ⟨g9, cap9, rfl, rfl, hg, h1, h2, h3, h4, h5⟩) (by omega)
                  exact ⟨us', by omega, by rw [hu] at q2; exact q2⟩
              subst ha9
              obtain ⟨o0, p0⟩ := Option.isSome_iff_exists.mp (ps (k * 3) (by omega))
              obtain ⟨o1, p1⟩ := Option.isSome_iff_exists.mp (ps (k * 3 + 1) (by omega))
              obtain ⟨o2, p2⟩ := Option.isSome_iff_exists.mp (ps (k * 3 + 2) (by omega))
              have z0 := pf (k * 3) (by omega)
              have z1 := pf (k * 3 + 1) (by omega)
              have z2 := pf (k * 3 + 2) (by omega)
              have HG9 : Hid (T ≤ g9) := HR9.out g9 hr9'
              have HR9' : Hid (r9 = some g9) := hr9'
              obtain ⟨us', q1, q2⟩ := HOV.out (-1 - (k : Int))
              have H2 : Hid (us'.length = N ∧ OwnI (((wr.setCell ⟨g9, k * 3, none⟩ (.int .i64 (-1 - (k : Int)))).setCell ⟨g9, k * 3 + 1, none⟩ (.int .u64 0)).setCell ⟨g9, k * 3 + 2, none⟩ (.string ⟨#[]⟩)) (.slice (some ⟨g9, 0, none⟩) N cap9) us' (some g9)) := ⟨q1, q2⟩
              clear q1 q2 HOV pf ps hr9' HOW
              go_wp2
              go_roundw
              case rel => exact ⟨k + 1, us', by omega, by go_num, H2.out.1, by rw [HR9'.out]; exact H2.out.2, ((HBE.out.setCell HG9.out _).setCell HG9.out _).setCell HG9.out _⟩
              case measure => simp [intOf]; omega
            · have HLU : Hid (us.length ≤ 1099511627776) := by unfold Hid; rw [HUS.out]; exact hN
              have HTW : Hid (T ≤ wr.heap.size) := by have := HBE.out.size; have := HT.out; unfold Hid; simp at *; omega
              have HSL : Hid (OwnI wr (.slice a9 N cap9) us r9) := HOW.out
              clear HOW
              go_wp2_with (at_builtin; refine wpList_append_its _ rfl _ _ rfl _ _ us [m99, m98] r9 rfl rfl ?hOwn ?hSrc ?hLen ?hR ?_)
              case hOwn => exact HSL.out.later ((Below.refl _ _).alloc (Nat.le_refl _) _)
              case hSrc => exact src_99 wr
              case hLen => have := HLU.out; simp; omega
              case hR => exact .inr (by simp)
              intro v10 w10 g10 ho10 hg10 hr10
              have HB10 : Hid (Below T (w8.alloc (.cells #[.int .i64 (upE ks most l), .int .i64 (upP ks most l)] 27)) w10) := (HBE.out.alloc HTW.out _).trans (grow_below hg10 (by have := HTW.out; simp; omega) HR9.out)
              obtain ⟨a10, cap10, hv10, -, -⟩ := ho10.shape
              rw [show (us ++ [m99, m98]).length = N + 2 by simp [HUS.out]] at hv10
              subst hv10
              clear ho10 hg10 hr10 HSL HBE HLU HTW HUS hlt hk
              have HB8w : Hid (Below w8.heap.size w8 w10) := by
                have h1 : Below w8.heap.size w8 (w8.alloc (.cells #[.int .i64 (upE ks most l), .int .i64 (upP ks most l)] 27)) := (Below.refl _ _).alloc (Nat.le_refl _) _
                exact h1.trans (HB10.out.mono (by have := HT.out; omega))
              have HK10 : Hid (Kp w w10 l ks gf capf gk capk) := HK8.out.later HB8w.out
              have HI10 : Hid (OwnI w10 v8 (upItems ks most l) r8) := HI8.out.later HB8w.out
              have X0 : Hid (w10.cell? ⟨w8.heap.size, 0, none⟩ = some (.int .i64 (upE ks most l))) := by unfold Hid; rw [HB10.out.cell (p := ⟨_, _, none⟩) (by have := HT.out; simp; omega)]; simp
              have X1 : Hid (w10.cell? ⟨w8.heap.size, 1, none⟩ = some (.int .i64 (upP ks most l))) := by unfold Hid; rw [HB10.out.cell (p := ⟨_, _, none⟩) (by have := HT.out; simp; omega)]; simp
              have HL10 : Hid (w8.heap.size < w10.heap.size) := by have := HB10.out.size; unfold Hid; simp at this; omega
              clear HB8w HB10 HK8 HI8 HT HR9 HA8
              go_wp2_with fail
              refine (refUnpack _ _ ks most l w10 (HI.out.later HK10.out.bl) (HB.out.later HK10.out.bl) (by omega) hkl hm1 hm2).mono ?_
              rintro e w11 ⟨v11, r11, rfl, ho11, hb11⟩
              have HK11 : Hid (Kp w w11 l ks gf capf gk capk) := HK10.out.later hb11
              have HI11 : Hid (OwnI w11 v8 (upItems ks most l) r8) := HI10.out.later hb11
              have HJ11 : Hid (OwnI w11 v11 (upItems ks most l) r11) := ho11
              have x0 : w11.cell? ⟨w8.heap.size, 0, none⟩ = some (.int .i64 (upE ks most l)) := by rw [hb11.cell (p := ⟨w8.heap.size, 0, none⟩) HL10.out]; exact X0.out
              have x1 : w11.cell? ⟨w8.heap.size, 1, none⟩ = some (.int .i64 (upP ks most l)) := by rw [hb11.cell (p := ⟨w8.heap.size, 1, none⟩) HL10.out]; exact X1.out
              have hl11 : w8.heap.size < w11.heap.size := Nat.lt_of_lt_of_le HL10.out hb11.size
              obtain ⟨a11, cap11, hv11, -, -⟩ := ho11.shape
              rw [← HNN.out] at hv11
              subst hv11
              clear ho11 hb11 HK10 HI10 X0 X1 HL10
              have HA11 : Hid (Below w11.heap.size w11 (w11.alloc (.cells #[.int .i64 (upE ks most l), .int .i64 (upP ks most l)] 27))) := (Below.refl _ _).alloc (Nat.le_refl _) _
              go_wp2_with fail
              refine (sameItemsC _ _ (upItems ks most l) _ (HI11.out.later HA11.out).itemsC (HJ11.out.later HA11.out).itemsC).mono ?_
              rintro e w12 ⟨rfl, n12, rfl⟩
              have HK12 : Hid (Kp w ((w11.alloc (.cells #[.int .i64 (upE ks most l), .int .i64 (upP ks most l)] 27)).drewN n12) l ks gf capf gk capk) := (HK11.out.later HA11.out).later (below_drewN (Below.refl _ _) n12)
              clear x0 x1 hl11 HK11 HI11 HJ11 HA11
              go_wp2_with fail
              refine (roomy _ l _ (HB.out.later HK12.out.bl) (by omega)).mono ?_
              rintro e w13 ⟨v13, g13, rfl, ho13, -, hb13⟩
              have HO13 : Hid (BytesAt w13 v13 (l ++ [165, 90, 167, 91])) := ho13.bytes
              have HK13 : Hid (Kp w w13 l ks gf capf gk capk) := HK12.out.later hb13
              clear ho13 hb13 HK12
              go_wp2_with fail
              refine (sameBytes _ _ _ _ w13 HK13.out.ow.bytes HO13.out).mono ?_
              rintro e w14 ⟨rfl, n14, rfl⟩
              have hdd : decide (l ++ [165, 90, 167, 91] = l ++ [165, 90, 167, 91]) = true := by simp
              have HK14 : Hid (Kp w (w13.drewN n14) l ks gf capf gk capk) := HK13.out.later (below_drewN (Below.refl _ _) n14)
              clear HO13 HK13
              have hkk : ((ks.length : Int) != (ks.length : Int)) = false := by simp
              have hnn : (((N + 2 : Nat) : Int) != (N : Int) + 2) = false := by simp
              have hnn2 : (((N : Int) + 2) != (N : Int) + 2) = false := by simp
              go_wp2
              go_loopw [18] (fun i wx => ∃ (k n : Nat), k ≤ ks.length ∧ i = .int .i64 k ∧ wx = w13.drewN n) (fun i _ => ks.length - (intOf i).toNat)
              case atStart => exact ⟨0, n14, by omega, rfl, rfl⟩
              case round =>
                obtain ⟨k, nx, hk, rfl, rfl⟩ := hrel
                obtain ⟨-, pcap, pmx, -, -, pc, pm, -⟩ := HK14.out.ka.parts
                have HPC : Hid (∀ j, j < ks.length → w13.cell? ⟨gk, j, none⟩ = some (.int .i64 (ks.getD j 0))) := pc
                have pm' : w13.cell? ⟨gk, ks.length, none⟩ = some (.int .i64 (-77)) := pm
                unfold maxLen at pmx
                have HBW : Hid (Below w.heap.size w w13) := ⟨HK14.out.bl.os, HK14.out.bl.tape, HK14.out.bl.output, HK14.out.bl.size, HK14.out.bl.block⟩
                clear pc pm
                by_cases hlt : k < ks.length
                · have hne : ks ≠ [] := by rintro rfl; simp at hlt
                  obtain ⟨b, off, rfl, hc⟩ := HC.out hne
                  have d0 : w13.cell? ⟨b, off + k, none⟩ = some (.int .i64 (ks.getD k 0)) := by rw [HBW.out.cell (p := ⟨b, _, none⟩) (cell_lt (hc k hlt))]; exact hc k hlt
                  have c0 := HPC.out k hlt
                  generalize ks.getD k 0 = x at d0 c0
                  clear hc hne pm'
                  have hxx : (x != x) = false := by simp
                  go_wp2
                  go_quiet (fail)
                  go_wp2
                  go_roundw
                  case rel => exact ⟨k + 1, _, by omega, by go_num, rfl⟩
                  case measure => simp [intOf]; omega
                · obtain rfl : k = ks.length := by omega
                  go_wp2
                  go_ret
                  exact ⟨by first | rfl | simp, below_drewN HBW.out _⟩
end Go.Proofs.Ytbngedfpojnbjac
