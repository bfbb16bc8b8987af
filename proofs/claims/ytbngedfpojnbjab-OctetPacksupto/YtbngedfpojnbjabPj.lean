import Derived.Test.YtbngedfpojnbjabPi
/-! The law of packing: its walk. -/
namespace Go.Proofs.Ytbngedfpojnbjab
open Go.RowKit Plain
set_option linter.unusedVariables false

theorem icells_one (ts : List It) : ∀ u ∈ icells ts, u.oneCell' = true := by
  intro u hu
  obtain ⟨x, _, hx⟩ := List.mem_flatMap.mp hu
  simp [It.cells] at hx
  rcases hx with rfl | rfl | rfl <;> rfl

theorem icells_at (ts : List It) (i : Nat) (h : i < 3 * ts.length) : i % 3 = 0 ∧ (icells ts)[i]? = some (.int .i64 (ts.getD (i / 3) It.none).k) ∨ i % 3 = 1 ∧ (icells ts)[i]? = some (.int .u64 ((ts.getD (i / 3) It.none).n : Int)) ∨ i % 3 = 2 ∧ (icells ts)[i]? = some (.string (ts.getD (i / 3) It.none).s) := by
  obtain ⟨h1, h2, h3⟩ := icells_get ts (i / 3) (by omega)
  have : i % 3 = 0 ∨ i % 3 = 1 ∨ i % 3 = 2 := by omega
  rcases this with e | e | e
  · exact .inl ⟨e, by rw [show i / 3 * 3 = i by omega] at h1; exact h1⟩
  · exact .inr (.inl ⟨e, by rw [show i / 3 * 3 + 1 = i by omega] at h2; exact h2⟩)
  · exact .inr (.inr ⟨e, by rw [show i / 3 * 3 + 2 = i by omega] at h3; exact h3⟩)

theorem src_items {w : World} {v : Value} {st : List It} (h : ItemsAt w v st) : Src Try.prog 3 35 v st.length (icells st) w := by
  obtain ⟨a, cap, rfl, h1, h2, h3⟩ := h
  by_cases hnil : st = []
  · subst hnil
    cases a with
    | none => exact Src.ofNil w Try.underlying35 cap
    | some a => exact Src.ofSlice w Try.underlying35 a 0 cap [] (by simp) (by simp) (by simp)
  · obtain ⟨b, off, rfl, h5⟩ := h3 hnil
    refine Src.ofSlice w Try.underlying35 _ _ cap _ (by rw [icells_len]; omega) (fun j u hj => ?_) (icells_one st)
    have hjl : j < 3 * st.length := by
      have := (List.getElem?_eq_some_iff.mp hj).1
      rwa [icells_len] at this
    rw [WideShapes.add_plain]
    obtain ⟨c0, c1, c2⟩ := h5 (j / 3) (by omega)
    rcases icells_at st j hjl with ⟨e, k⟩ | ⟨e, k⟩ | ⟨e, k⟩
    · rw [show off + j / 3 * 3 = off + j by omega] at c0
      rw [c0, ← hj, k]
    · rw [show off + j / 3 * 3 + 1 = off + j by omega] at c1
      rw [c1, ← hj, k]
    · rw [show off + j / 3 * 3 + 2 = off + j by omega] at c2
      rw [c2, ← hj, k]

theorem src_marks (w : World) : Src Try.prog 3 35 (.slice (some ⟨w.heap.size, 0, none⟩) 2 2) [m77, m78].length (icells [m77, m78]) (w.alloc (.cells #[.int .i64 77, .int .u64 0, .string ⟨#[]⟩, .int .i64 78, .int .u64 0, .string ⟨#[]⟩] 37)) :=
  Src.ofSlice _ Try.underlying35 _ 2 2 _ (by rfl) (fun j u hj => by
    rw [WideShapes.add_plain, World.cell?_alloc_at _ _ _ _ rfl, Nat.zero_add, ← hj]
    simp [icells, It.cells, m77, m78]) (icells_one _)

set_option maxHeartbeats 1000000 in
theorem packsWalk (v : Value) (st : List It) (w : World) (h : ItemsAt w v st) (hb : bulk st ≤ 140737488351232) (hlen : st.length ≤ 1099511627776) :
    Calls Try.prog 5 #[v] w fun e w' => e = .returned (.bool true) ∧ Below w.heap.size w w' := by
  have HI : Hid (ItemsAt w v st) := h
  obtain ⟨a, cap, rfl, hcl, hsn, hcells⟩ := h
  unfold maxLen at hcl
  have HC : Hid (st ≠ [] → ∃ b off, a = some ⟨b, off, none⟩ ∧ ∀ j, j < st.length → w.cell? ⟨b, off + j * 3, none⟩ = some (.int .i64 (st.getD j It.none).k) ∧ w.cell? ⟨b, off + j * 3 + 1, none⟩ = some (.int .u64 ((st.getD j It.none).n : Int)) ∧ w.cell? ⟨b, off + j * 3 + 2, none⟩ = some (.string (st.getD j It.none).s)) := hcells
  have HSN : Hid (∀ x ∈ st, x.n < 18446744073709551616 ∧ x.s.size < 18446744073709551616) := hsn
  clear hcells hsn
  go_enter Try.func5, Try.ntmps5
  go_wp2_with (at_builtin; refine wpList_append_its _ rfl _ _ rfl _ _ [] st (some w.heap.size) rfl rfl ?hOwn ?hSrc ?hLen ?hR ?_)
  case hOwn => exact OwnI.empty w 37
  case hSrc => exact src_items (HI.out.later ((Below.refl _ _).alloc (Nat.le_refl _) _))
  case hLen => simp; omega
  case hR => simp
  intro v3 w3 g3 ho3 hg3 hr3
  have HB3 : Hid (Below w.heap.size w w3) := grow_below (grow_trans (World.grownBy_alloc w _ none) hg3 (.inr (.inr ⟨_, rfl, Nat.le_refl _⟩))) (Nat.le_refl _) (by simp)
  have HO3 : Hid (OwnI w3 v3 st (some g3)) := ho3
  have HG3 : Hid (w.heap.size ≤ g3) := by
    unfold Hid
    rcases hr3 with e | e
    · omega
    · omega
  clear ho3 hg3 hr3
  go_wp2_with (at_builtin; refine wpList_append_its _ rfl _ _ rfl _ _ st [m77, m78] (some g3) rfl rfl ?hOwn ?hSrc ?hLen ?hR ?_)
  case hOwn => exact HO3.out.later ((Below.refl _ _).alloc (Nat.le_refl _) _)
  case hSrc => exact src_marks w3
  case hLen => simp; omega
  case hR => simp
  intro v4 w4 g ho4 hg4 hr4
  have HB4 : Hid (Below w.heap.size w w4) := (HB3.out.alloc HB3.out.size _).trans (grow_below hg4 (by have := HB3.out.size; simp; omega) (fun q hq => by simp at hq; have := HG3.out; omega))
  have HG4 : Hid (w.heap.size ≤ g) := by
    unfold Hid
    have h0 := HB3.out.size
    rcases hr4 with e | e
    · have := HG3.out
      omega
    · omega
  obtain ⟨a4, cap4, hv4, hc4, hc4'⟩ := ho4.shape
  have ha4 : a4 = some ⟨g, 0, none⟩ := by
    rcases ho4 with ⟨_, h, _⟩ | ⟨g', cap', e, e2, _⟩
    · simp at h
    · rw [hv4] at e2; simp at e e2; rw [e2.1, e]
  rw [ha4, show (st ++ [m77, m78]).length = st.length + 2 by simp] at hv4
  subst hv4
  rw [show (st ++ [m77, m78]).length = st.length + 2 by simp] at hc4'
  unfold maxLen at hc4
  have HF4 : Hid (OwnI w4 (.slice (some ⟨g, 0, none⟩) (st.length + 2) cap4) (st ++ [m77, m78]) (some g)) := ho4
  clear ho4 hg4 hr4 ha4 HO3 HB3 HG3
  go_wp2
  go_loopw [5] (fun i wr => ∃ (k : Nat) (ts : List It), k ≤ st.length ∧ i = .int .i64 k ∧ Alike ts st ∧ OwnI wr (.slice (some ⟨g, 0, none⟩) (st.length + 2) cap4) (ts ++ [m77, m78]) (some g) ∧ Below w.heap.size w wr) (fun i _ => st.length - (intOf i).toNat)
  case atStart => exact ⟨0, st, by omega, rfl, ⟨rfl, fun _ _ => rfl, fun _ _ => rfl, HSN.out⟩, HF4.out, HB4.out⟩
  case round =>
    obtain ⟨k, ts, hk, rfl, hal, how, hbl⟩ := hrel
    have HAL : Hid (Alike ts st) := hal
    have HOW : Hid (OwnI wr (.slice (some ⟨g, 0, none⟩) (ts.length + 2) cap4) (ts ++ [m77, m78]) (some g)) := by unfold Hid; rw [hal.len]; exact how
    have HBL : Hid (Below w.heap.size w wr) := hbl
    clear hal how hbl HF4 HB4
    by_cases hlt : k < st.length
    · obtain ⟨c1, f1⟩ := full_cell HOW.out (j := k) (by rw [HAL.out.len]; exact hlt)
      have hnx := (HAL.out.n (ts.getD k It.none) (by simp [HAL.out.len, hlt])).1
      have HREL : Hid (∀ m : Nat, m < 18446744073709551616 → ∃ ts', Alike ts' st ∧ OwnI (wr.setCell ⟨g, k * 3 + 1, none⟩ (.int .u64 (m : Int))) (.slice (some ⟨g, 0, none⟩) (st.length + 2) cap4) (ts' ++ [m77, m78]) (some g) ∧ Below w.heap.size w (wr.setCell ⟨g, k * 3 + 1, none⟩ (.int .u64 (m : Int)))) := fun m hm =>
        ⟨_, HAL.out.set k m hlt hm, by rw [← HAL.out.len]; exact full_set HOW.out (by rw [HAL.out.len]; exact hlt), HBL.out.setCell HG4.out _⟩
      generalize (ts.getD k It.none).n = xn at c1 hnx
      obtain ⟨m, hm, hmw⟩ : ∃ m : Nat, m < 18446744073709551616 ∧ IntKind.u64.wrap ((xn : Int) + 1) = (m : Int) := ⟨(xn + 1) % 18446744073709551616, by omega, by rw [show IntKind.u64.wrap ((xn : Int) + 1) = ((xn : Int) + 1) % 18446744073709551616 from rfl]; omega⟩
      obtain ⟨ts', h1, h2, h3⟩ := HREL.out m hm
      have H2 : Hid (Alike ts' st ∧ OwnI (wr.setCell ⟨g, k * 3 + 1, none⟩ (.int .u64 (m : Int))) (.slice (some ⟨g, 0, none⟩) (st.length + 2) cap4) (ts' ++ [m77, m78]) (some g) ∧ Below w.heap.size w (wr.setCell ⟨g, k * 3 + 1, none⟩ (.int .u64 (m : Int)))) := ⟨h1, h2, h3⟩
      clear HREL h1 h2 h3
      go_wp2
      go_roundw
      case rel => exact ⟨k + 1, ts', by omega, by go_num, H2.out⟩
      case measure => simp [intOf]; omega
    · have HIT : Hid (ItemsAt wr (.slice (some ⟨g, 0, none⟩) st.length cap4) ts) := by
        have := full_items (w := wr) (g := g) (cap := cap4) (ts := ts) (by rw [show (ts ++ [m77, m78]).length = ts.length + 2 by simp]; exact HOW.out) HAL.out.n
        rw [HAL.out.len] at this
        exact this
      go_wp2_with fail
      refine (packAny _ ts wr HIT.out (by rw [bulk_alike ts st HAL.out.len HAL.out.s]; exact hb)).mono ?_
      rintro e w5 ⟨v5, r5, rfl, -, -, hb5⟩
      have HOW5 : Hid (OwnI w5 (.slice (some ⟨g, 0, none⟩) (st.length + 2) cap4) (ts ++ [m77, m78]) (some g)) := by
        have := HOW.out.later hb5
        rw [HAL.out.len] at this
        exact this
      have HB5 : Hid (Below w.heap.size w w5) := below_on HBL.out hb5
      clear hb5 HIT HOW HBL hlt hk
      go_wp2
      go_loopw [6] (fun i wr => ∃ (k : Nat) (ts : List It), k ≤ st.length ∧ i = .int .i64 k ∧ Alike ts st ∧ Same ts st k ∧ OwnI wr (.slice (some ⟨g, 0, none⟩) (st.length + 2) cap4) (ts ++ [m77, m78]) (some g) ∧ Below w.heap.size w wr) (fun i _ => st.length - (intOf i).toNat)
      case atStart => exact ⟨0, ts, by omega, rfl, HAL.out, fun j hj => by omega, HOW5.out, HB5.out⟩
      case round =>
        obtain ⟨k, us, hk, rfl, hal, hsm, how, hbl⟩ := hrel
        have HAL2 : Hid (Alike us st) := hal
        have HSM : Hid (Same us st k) := hsm
        have HOW : Hid (OwnI wr (.slice (some ⟨g, 0, none⟩) (us.length + 2) cap4) (us ++ [m77, m78]) (some g)) := by unfold Hid; rw [hal.len]; exact how
        have HBL : Hid (Below w.heap.size w wr) := hbl
        clear hal hsm how hbl HOW5 HB5 HAL
        by_cases hlt : k < st.length
        · have hne : st ≠ [] := by rintro rfl; simp at hlt
          obtain ⟨b, off, rfl, hc⟩ := HC.out hne
          obtain ⟨-, d1, -⟩ := hc k hlt
          have d1' : wr.cell? ⟨b, off + k * 3 + 1, none⟩ = some (.int .u64 ((st.getD k It.none).n : Int)) := by
            rw [HBL.out.cell (p := ⟨b, _, none⟩) (cell_lt d1)]; exact d1
          obtain ⟨c1, f1⟩ := full_cell HOW.out (j := k) (by rw [HAL2.out.len]; exact hlt)
          have hnx := (HSN.out (st.getD k It.none) (by simp [hlt])).1
          have HREL : Hid (∃ ts', Alike ts' st ∧ Same ts' st (k + 1) ∧ OwnI (wr.setCell ⟨g, k * 3 + 1, none⟩ (.int .u64 ((st.getD k It.none).n : Int))) (.slice (some ⟨g, 0, none⟩) (st.length + 2) cap4) (ts' ++ [m77, m78]) (some g) ∧ Below w.heap.size w (wr.setCell ⟨g, k * 3 + 1, none⟩ (.int .u64 ((st.getD k It.none).n : Int)))) := by
            refine ⟨_, HAL2.out.set k _ hlt hnx, fun j hj => ?_, by rw [← HAL2.out.len]; exact full_set HOW.out (by rw [HAL2.out.len]; exact hlt), HBL.out.setCell HG4.out _⟩
            by_cases e : j = k
            · subst e
              rw [getD_set_same _ _ _ (by rw [HAL2.out.len]; exact hlt), HAL2.out.k j hlt, HAL2.out.s j hlt]
            · rw [getD_set_other _ _ _ _ e]; exact HSM.out j (by omega)
          generalize (st.getD k It.none).n = xn at d1 d1' hnx HREL
          clear d1 hc hne
          go_wp2
          go_roundw
          case rel =>
            obtain ⟨ts', h1, h2, h3, h4⟩ := HREL.out
            exact ⟨k + 1, ts', by omega, by go_num, h1, h2, h3, h4⟩
          case measure => simp [intOf]; omega
        · obtain rfl : k = st.length := by omega
          have HEQ : Hid (us = st) := same_all HAL2.out HSM.out
          have HOW2 : Hid (OwnI wr (.slice (some ⟨g, 0, none⟩) (st.length + 2) cap4) (st ++ [m77, m78]) (some g)) := by
            have := HOW.out
            rw [HEQ.out] at this
            exact this
          have HIT : Hid (ItemsAt wr (.slice (some ⟨g, 0, none⟩) st.length cap4) st) :=
            full_items (w := wr) (g := g) (cap := cap4) (ts := st) (by rw [show (st ++ [m77, m78]).length = st.length + 2 by simp]; exact HOW2.out) HSN.out
          clear HEQ HOW HAL2 HSM HC hlt hk
          go_wp2_with fail
          refine (packAny _ st wr HIT.out hb).mono ?_
          rintro e w6 ⟨v6, r6, rfl, ho6, hr6, hb6⟩
          have HO6 : Hid (Own w6 v6 (packed st) r6) := ho6
          have HIT6 : Hid (ItemsAt w6 (.slice (some ⟨g, 0, none⟩) st.length cap4) st) := HIT.out.later hb6
          have HOW6 : Hid (OwnI w6 (.slice (some ⟨g, 0, none⟩) (st.length + 2) cap4) (st ++ [m77, m78]) (some g)) := HOW2.out.later hb6
          have HB6 : Hid (Below w.heap.size w w6) := below_on HBL.out hb6
          clear ho6 hr6 hb6 HIT HOW2 HBL
          go_wp2_with fail
          refine (packAny _ st w6 HIT6.out hb).mono ?_
          rintro e w7 ⟨v7, r7, rfl, ho7, hr7, hb7⟩
          have HO7 : Hid (Own w7 v7 (packed st) r7) := ho7
          have HR7 : Hid (∀ q, r7 = some q → w6.heap.size ≤ q) := hr7
          have HO67 : Hid (BytesAt w7 v6 (packed st)) := (HO6.out.later hb7).bytes
          have HIT7 : Hid (ItemsAt w7 (.slice (some ⟨g, 0, none⟩) st.length cap4) st) := HIT6.out.later hb7
          have HOW7 : Hid (OwnI w7 (.slice (some ⟨g, 0, none⟩) (st.length + 2) cap4) (st ++ [m77, m78]) (some g)) := HOW6.out.later hb7
          have HB67 : Hid (Below w6.heap.size w6 w7) := hb7
          have HGW : Hid (g < w6.heap.size) := HOW6.out.lt
          clear ho7 hr7 hb7
          have HPL : Hid ((packed st).length ≤ 140737488351232) := by
            unfold Hid packed
            split
            · have := flat_all st HSN.out; omega
            · simp
          go_wp2_with fail
          refine (marked v7 (packed st) r7 9 (packed st).length w7 rfl HO7.out (by decide) HPL.out).mono ?_
          rintro e w8 ⟨v8, r8, rfl, ho8, hg8, -, -⟩
          have HB68 : Hid (Below w6.heap.size w6 w8) := HB67.out.trans (grow_below hg8 HB67.out.size HR7.out)
          obtain ⟨a8, cap8, hv8⟩ := ho8.isSlice
          rw [List.length_replicate] at hv8
          subst hv8
          clear ho8 hg8 HO7 HR7 HO67 HIT7 HOW7 HB67
          have HB8 : Hid (Below w.heap.size w w8) := below_on HB6.out HB68.out
          have HO8 : Hid (BytesAt w8 v6 (packed st)) := (HO6.out.later HB68.out).bytes
          have HIT8 : Hid (ItemsAt w8 (.slice (some ⟨g, 0, none⟩) st.length cap4) st) := HIT6.out.later HB68.out
          have HOW8 : Hid (OwnI w8 (.slice (some ⟨g, 0, none⟩) (st.length + 2) cap4) (st ++ [m77, m78]) (some g)) := HOW6.out.later HB68.out
          clear HO6 HIT6 HOW6 HB6 HB68
          go_wp2_with fail
          refine (refPack _ st w8 (HI.out.later HB8.out) hb).mono ?_
          rintro e w9 ⟨v9, r9, rfl, ho9, -, hb9⟩
          have HO9 : Hid (BytesAt w9 v9 (packed st)) := ho9.bytes
          have HB9 : Hid (Below w.heap.size w w9) := below_on HB8.out hb9
          have HO69 : Hid (BytesAt w9 v6 (packed st)) := HO8.out.later hb9
          have HIT9 : Hid (ItemsAt w9 (.slice (some ⟨g, 0, none⟩) st.length cap4) st) := HIT8.out.later hb9
          have HOW9 : Hid (OwnI w9 (.slice (some ⟨g, 0, none⟩) (st.length + 2) cap4) (st ++ [m77, m78]) (some g)) := HOW8.out.later hb9
          obtain ⟨a6, cap6, hv6, -⟩ := HO69.out
          subst hv6
          clear ho9 hb9 HO8 HIT8 HOW8 HB8
          have heq : ((packErr st : Int) == packErr st) = true := by simp
          go_wp2_with fail
          refine (sameBytes _ _ _ _ w9 HO69.out HO9.out).mono ?_
          rintro e w10 ⟨rfl, n10, rfl⟩
          have hdd : decide (packed st = packed st) = true := by simp
          go_wp2_with fail
          refine (sameItems _ _ st _ (HIT9.out.later (below_drewN (Below.refl _ _) n10)) (HI.out.later (below_drewN HB9.out n10))).mono ?_
          rintro e w11 ⟨rfl, n11, rfl⟩
          obtain ⟨c77, c78, hcc, -⟩ := full_marks HOW9.out
          have hpl := HPL.out
          have hl64 : ((((packed st).length + 64 : Nat) : Int) == ((packed st).length : Int) + 64) = true := by simp
          go_wp2
          go_ret
          exact ⟨by first | rfl | simp, below_drewN HB9.out _⟩
end Go.Proofs.Ytbngedfpojnbjab
