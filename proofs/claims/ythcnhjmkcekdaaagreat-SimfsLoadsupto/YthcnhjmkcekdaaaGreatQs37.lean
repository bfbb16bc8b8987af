import Derived.Test.YthcnhjmkcekdaaaGreatQs36
import Derived.Test.YthcnhjmkcekdaaaGreatQs17
namespace Go.Proofs.YthcnhjmkcekdaaaGreat
open Go.RowKit Go.Maps Plain
set_option linter.unusedVariables false
set_option linter.unusedSimpArgs false
set_option maxHeartbeats 8000000 in
set_option maxRecDepth 1000000 in
theorem rloadIm (q : Int) (hq : qB q = true) (v : Value) (im : List (Nm × List Nat)) (w : World) (h : ImR w v im) (ho : ImOk im) (hlen : ∀ p ∈ im, p.2.length ≤ 140737488355328) :
    Calls Tryz.prog 11 #[v, .int .i64 q] w fun e w' => ∃ gp, e = .returned (.tuple #[.pointer (some ⟨gp, 0, none⟩), .int .i64 0]) ∧ RdNew w gp (rkB q im) w' := by
  have HNEW := Hid.mkR (rnewOf q hq w)
  have HIM := Hid.mkR h
  have HN : Hid (∀ p ∈ im, nmL p.1 = true ∧ (str p.1).size ≤ maxLen) := fun p hp => ⟨ho.names p hp, ho.sizes p hp⟩
  have HU := Hid.mkR ho.up
  have HLN := Hid.mkR hlen
  have hfew := ho.few
  obtain ⟨a, c, rfl, p1, p2, p3⟩ := h
  have hfi : ¬ (65536 : Int) < (im.length : Int) := by omega
  clear p3 hq ho hlen
  go_enter Tryz.func11, Tryz.ntmps11
  go_wp2_with fail
  refine HNEW.out.mono ?_
  rintro e w1 ⟨gp, B0, blk0, vF0, vD0, xs0, dv0, sv0, tv0, rfl, hR0, hT0, hB0⟩
  have HL0 : Hid (LdR w q (im.take 0) gp (.slice none 0 0) w1) := ⟨B0, blk0, vF0, vD0, xs0, dv0, sv0, tv0, none, hR0, hT0, OwnNw.nil _, by simp, hB0⟩
  clear HNEW hR0 hT0 hB0
  go_wp2
  go_loopw [8, 9] (fun v i wr => ∃ j : Nat, j ≤ im.length ∧ i = .int .i64 j ∧ Hid (LdR w q (im.take j) gp v wr)) (fun _ i _ => im.length - (intOf i).toNat)
  case atStart => exact ⟨0, by omega, rfl, HL0.out⟩
  case round =>
    obtain ⟨i, hj, rfl, HK⟩ := hrel
    by_cases hlt : i < im.length
    · have hki : (i : Int) < (im.length : Int) := by omega
      have hne : im ≠ [] := by rintro rfl; simp at hlt
      obtain ⟨⟨k, l⟩, hkl⟩ : ∃ p, im[i]? = some p := ⟨_, List.getElem?_eq_getElem hlt⟩
      obtain ⟨B, blk, vF, vD, xs, dv, sv, tv, r, hR, hT, hD, hr, hB⟩ := HK.out
      obtain ⟨a0, c0, e0, _, _, f0⟩ := HIM.out.after hB
      obtain ⟨b, eb, f1⟩ := f0 hne
      cases e0
      subst eb
      obtain ⟨ad, nd, cd, g1, g2, g3⟩ := f1 i k l hkl
      have hk := HN.out _ (List.mem_of_getElem? hkl)
      have hll : l.length ≤ 140737488355328 := HLN.out _ (List.mem_of_getElem? hkl)
      have HNM : Hid (∀ w1, Calls Tryz.prog 37 #[.string (str k)] w1 fun e w' => e = .returned (.bool true) ∧ w' = w1) := fun w1 => by
        have := rnameF (str k) w1 hk.2
        rw [str_list, hk.1] at this
        exact this
      have HTK : Hid (im.take (i + 1) = im.take i ++ [(k, l)]) := by unfold Hid; rw [List.take_add_one, hkl]; rfl
      obtain ⟨wA, hwA⟩ : ∃ wA, wr.alloc (.cells #[.string (str k), .slice ad nd cd] 46) = wA := ⟨_, rfl⟩
      have hbA : Below wr.heap.size wr wA := by rw [← hwA]; exact (Below.refl _ _).alloc (Nat.le_refl _) _
      have hsA : wA.heap.size = wr.heap.size + 1 := by rw [← hwA]; simp
      have hxA : wA.heap[wr.heap.size]? = some (.cells #[.string (str k), .slice ad nd cd] 46) := by rw [← hwA]; show (wr.heap.push _)[wr.heap.size]? = _; simp
      have b0 : wA.cell? ⟨wr.heap.size, 0, none⟩ = some (.string (str k)) := by simp [World.cell?, hxA]
      have b1 : wA.cell? ⟨wr.heap.size, 1, none⟩ = some (.slice ad nd cd) := by simp [World.cell?, hxA]
      have HBY := Hid.mkR (g3.later hbA)
      have HBA := Hid.mkR hbA
      have HR := Hid.mkR hR
      have HT := Hid.mkR hT
      have HD := Hid.mkR hD
      have HRR := Hid.mkR hr
      have HB := Hid.mkR hB
      have hil : (im.take i).length = i := by rw [List.length_take]; omega
      have hxl : xs.length = i := by have := hR.fl; rw [this]; simp [rkL]; omega
      obtain ⟨aD, cD, eD, -, -⟩ := hD.shape
      have hDl : ((dirI (im.take i) 0).map nwOf).length = i := by rw [List.length_map, dirI_len, hil]
      subst eD
      rw [hDl] at *
      rcases Nat.eq_zero_or_pos i with hi0 | hi0
      · have hd0 : decide (0 < i) = false := by simp; omega
        have hd1 : ¬ (0 : Int) < (i : Int) := by omega
        clear hi0 hxA f0 f1 g3 hk hkl hne hR hT hD hr hB hbA
        have HXL := Hid.mkR hxl
        clear hxl
        go_wp2_with fail
        refine (HNM.out _).mono ?_
        rintro e w' ⟨rfl, rfl⟩
        go_wp2_with fail
        go_quiet (fail)
        have b0' : (w'.drewN nq).cell? ⟨wr.heap.size, 0, none⟩ = some (.string (str k)) := b0
        have b1' : (w'.drewN nq).cell? ⟨wr.heap.size, 1, none⟩ = some (.slice ad nd cd) := b1
        have hbB : Below wr.heap.size wr (w'.drewN nq) := below_drewN HBA.out nq
        have HCP := Hid.mkR (copiedR (w := w'.drewN nq) (HBY.out.later (below_drewN (Below.refl _ _) nq)) hll)
        have hsB : (w'.drewN nq).heap.size = wr.heap.size + 1 := hsA
        clear b0 b1 HBA HBY hwA hsA HNM
        generalize w'.drewN nq = wB at *
        go_wp2_with fail
        refine HCP.out.mono ?_
        rintro e w4 ⟨a3, N3, c3, r3, rfl, hn4⟩
        have hb4 : Below wr.heap.size wr w4 := hbB.trans (hn4.below.mono hbB.size)
        have z0 := (hn4.below.cell (p := ⟨wr.heap.size, 0, none⟩) (cell_lt b0')).trans b0'
        have HR3 : Hid (∀ g, r3 = some g → wr.heap.size ≤ g) := fun g e => by have := hn4.new g e; omega
        have HO4 := Hid.mkR hn4.row
        have HB4 := Hid.mkR hb4
        obtain ⟨u1, hu1⟩ : ∃ u1, w4.alloc (.cells #[.slice a3 N3 c3] 34) = u1 := ⟨_, rfl⟩
        obtain ⟨u2, hu2⟩ : ∃ u2, u1.alloc (.cells #[.int .i64 (-1)] 3) = u2 := ⟨_, rfl⟩
        obtain ⟨u3, hu3⟩ : ∃ u3, u2.alloc (.cells #[.slice (some ⟨w4.heap.size, 0, none⟩) 1 1, .slice (some ⟨w4.heap.size + 1, 0, none⟩) 1 1] 83) = u3 := ⟨_, rfl⟩
        have hs1 : u1.heap.size = w4.heap.size + 1 := by rw [← hu1]; simp
        have hs2 : u2.heap.size = w4.heap.size + 2 := by rw [← hu2]; simp [hs1]
        have hb3 : Below w4.heap.size w4 u3 := by rw [← hu3, ← hu2, ← hu1]; exact (((Below.refl _ _).alloc (Nat.le_refl _) _).alloc (by simp) _).alloc (by simp; omega) _
        have k0 := (rcells (HR.out.later hb4).cells).1.1
        obtain ⟨aF0, cF0, eF0, -, -⟩ := HR.out.F.shape
        rw [eF0] at k0
        have HO3 : Hid (OwnIno u3 (.slice aF0 xs.length cF0) xs (blk 0)) := by rw [← eF0]; exact (HR.out.later (hb4.trans (hb3.mono hb4.size))).F
        have HSI : Hid (Src Tryz.prog 2 49 (.slice (some ⟨u2.heap.size, 0, none⟩) 1 1) [(⟨.slice (some ⟨w4.heap.size, 0, none⟩) 1 1, .slice (some ⟨w4.heap.size + 1, 0, none⟩) 1 1⟩ : Ino)].length (inocells [⟨.slice (some ⟨w4.heap.size, 0, none⟩) 1 1, .slice (some ⟨w4.heap.size + 1, 0, none⟩) 1 1⟩]) u3) := by rw [← hu3]; exact src_ino u2 _ _ 1 1 1 1
        rw [hs2] at HSI
        have HMORE : Hid (∀ (w7 : World) (v7 : Value) (g7 : Nat), OwnIno w7 v7 (xs ++ [⟨.slice (some ⟨w4.heap.size, 0, none⟩) 1 1, .slice (some ⟨w4.heap.size + 1, 0, none⟩) 1 1⟩]) (some g7) → u3.grownBy w7 (blk 0) → (some g7 = blk 0 ∨ g7 = u3.heap.size) → (w7.cell? ⟨gp, 0, none⟩ = some (.slice aF0 xs.length cF0) ∧ w7.frozen? ⟨gp, 0, none⟩ = false) ∧ (∀ p x, wr.heap.size ≤ p → w4.cell? ⟨p, 0, none⟩ = some x → (w7.setCell ⟨gp, 0, none⟩ v7).cell? ⟨p, 0, none⟩ = some x) ∧ OwnNw (w7.setCell ⟨gp, 0, none⟩ v7) (.slice aD i cD) ((dirI (im.take i) 0).map nwOf) r ∧ ∀ o2 v9 w9 g9, OwnNw w9 v9 ((dirI (im.take i) 0).map nwOf ++ [nwOf (k, (im.take i).length)]) (some g9) → ((w7.setCell ⟨gp, 0, none⟩ v7).alloc o2).grownBy w9 r → (some g9 = r ∨ g9 = ((w7.setCell ⟨gp, 0, none⟩ v7).alloc o2).heap.size) → LdR w q (im.take i ++ [(k, l)]) gp v9 w9) := fun w7 v7 g7 q1 q2 q3 => by
          have := LdR.more (nm := k) (w10 := w7) (v9 := v7) (g9 := 0) (o2 := .cells #[] 0) HR.out HT.out HD.out HRR.out HB.out HB4.out HO4.out HR3.out hu1 hu2 hu3 q1 q2 q3
          rw [eF0] at this
          exact this
        have hxb : xs.length < 2199023255000 := by rw [HXL.out]; omega
        clear hb3 hn4 hb4 hbB b0' b1' HCP eF0 hsB HR3 HO4 HB4
        go_wp2_with (at_builtin; refine wpList_append_ino _ rfl _ _ rfl _ _ xs [⟨.slice (some ⟨w4.heap.size, 0, none⟩) 1 1, .slice (some ⟨w4.heap.size + 1, 0, none⟩) 1 1⟩] (blk 0) rfl rfl ?hOwn ?hSrc ?hLen (.inr (Nat.succ_pos _)) ?_)
        case hOwn => exact HO3.out
        case hSrc => first | exact HSI.out | (rw [hs2]; exact HSI.out)
        case hLen => first | (simp; omega) | omega
        intro v7 w7 g7 ho7 hg7 hr7
        have hv7 : ∃ a4 N4 c4, v7 = .slice a4 N4 c4 := ho7.shape.elim fun a4 h => h.elim fun c4 h2 => ⟨a4, _, c4, h2.1⟩
        obtain ⟨a7, N7, c7, rfl⟩ := hv7
        obtain ⟨⟨e7, f7⟩, hcell, hrow, hpu⟩ := HMORE.out w7 _ g7 ho7 hg7 hr7
        have z8 := hcell wr.heap.size _ (Nat.le_refl _) z0
        have HROW := Hid.mkR hrow
        have HPU := Hid.mkR hpu
        clear ho7 hg7 hr7 HMORE HO3 HSI k0 z0 hcell hrow hpu
        obtain ⟨w8, hw8⟩ : ∃ w8, w7.setCell ⟨gp, 0, none⟩ (.slice a7 N7 c7) = w8 := ⟨_, rfl⟩
        rw [hw8] at z8 HROW HPU
        go_wp2_with (at_builtin; refine wpList_append_nw _ rfl _ _ rfl _ _ ((dirI (im.take i) 0).map nwOf) [nwOf (k, i)] r rfl rfl ?hOwn ?hSrc ?hLen (.inr (Nat.succ_pos _)) ?_)
        case hOwn => exact HROW.out.later ((Below.refl _ _).alloc (Nat.le_refl _) _)
        case hSrc => exact src_nw w8 (nwOf (k, i))
        case hLen => rw [List.length_map, dirI_len, hil]; simp; omega
        intro v9 w9 g9 ho9 hg9 hr9
        have hv9 : ∃ a4 N4 c4, v9 = .slice a4 N4 c4 := ho9.shape.elim fun a4 h => h.elim fun c4 h2 => ⟨a4, _, c4, h2.1⟩
        obtain ⟨a9, N9, c9, rfl⟩ := hv9
        have HF : Hid (LdR w q (im.take (i + 1)) gp (.slice a9 N9 c9) w9) := by
          unfold Hid
          rw [HTK.out]
          exact HPU.out _ _ _ _ (by rw [hil]; exact ho9) hg9 (by simpa using hr9)
        clear ho9 hg9 hr9 HPU HROW z8 e7 f7
        go_wp2
        go_roundw
        case rel => exact ⟨i + 1, by omega, by go_num, HF⟩
        case measure => simp [intOf]; omega
      · obtain ⟨j, hij⟩ : ∃ j, i = j + 1 := ⟨i - 1, by omega⟩
        have hd0 : decide (0 < i) = true := by simp; omega
        obtain ⟨⟨k0, l0⟩, hkl0⟩ : ∃ p, im[j]? = some p := ⟨_, List.getElem?_eq_getElem (by omega)⟩
        obtain ⟨ad0, nd0, cd0, g4, g5, g6⟩ := f1 j k0 l0 hkl0
        have hlt := HU.out j _ _ hkl0 (by rw [← hij]; exact hkl)
        have hwj : IntKind.i64.wrap ((i : Int) - 1) = (j : Int) := by rw [IntKind.wrap_i64]; omega
        have g4a : wA.cell? ⟨b, j * 2, none⟩ = some (.string (str k0)) := (hbA.cell (cell_lt g4)).trans g4
        have hji : j < im.length := by omega
        have hjz : (j : Int) < (im.length : Int) := by omega
        have hj0 : (0 : Int) ≤ (j : Int) := by omega
        have hle : (Op.bytesLess (str k).toList (str k0).toList || (str k).toList == (str k0).toList) = false := hlt
        clear hi0 hxA f0 f1 g3 hk hkl hne hR hT hD hr hB hbA hkl0 g4 g5 g6 hij
        have HXL := Hid.mkR hxl
        clear hxl
        go_wp2_with fail
        refine (HNM.out _).mono ?_
        rintro e w' ⟨rfl, rfl⟩
        go_wp2_with fail
        go_quiet (fail)
        have b0' : (w'.drewN nq).cell? ⟨wr.heap.size, 0, none⟩ = some (.string (str k)) := b0
        have b1' : (w'.drewN nq).cell? ⟨wr.heap.size, 1, none⟩ = some (.slice ad nd cd) := b1
        have hbB : Below wr.heap.size wr (w'.drewN nq) := below_drewN HBA.out nq
        have HCP := Hid.mkR (copiedR (w := w'.drewN nq) (HBY.out.later (below_drewN (Below.refl _ _) nq)) hll)
        have hsB : (w'.drewN nq).heap.size = wr.heap.size + 1 := hsA
        clear b0 b1 HBA HBY hwA hsA HNM
        generalize w'.drewN nq = wB at *
        go_wp2_with fail
        refine HCP.out.mono ?_
        rintro e w4 ⟨a3, N3, c3, r3, rfl, hn4⟩
        have hb4 : Below wr.heap.size wr w4 := hbB.trans (hn4.below.mono hbB.size)
        have z0 := (hn4.below.cell (p := ⟨wr.heap.size, 0, none⟩) (cell_lt b0')).trans b0'
        have HR3 : Hid (∀ g, r3 = some g → wr.heap.size ≤ g) := fun g e => by have := hn4.new g e; omega
        have HO4 := Hid.mkR hn4.row
        have HB4 := Hid.mkR hb4
        obtain ⟨u1, hu1⟩ : ∃ u1, w4.alloc (.cells #[.slice a3 N3 c3] 34) = u1 := ⟨_, rfl⟩
        obtain ⟨u2, hu2⟩ : ∃ u2, u1.alloc (.cells #[.int .i64 (-1)] 3) = u2 := ⟨_, rfl⟩
        obtain ⟨u3, hu3⟩ : ∃ u3, u2.alloc (.cells #[.slice (some ⟨w4.heap.size, 0, none⟩) 1 1, .slice (some ⟨w4.heap.size + 1, 0, none⟩) 1 1] 83) = u3 := ⟨_, rfl⟩
        have hs1 : u1.heap.size = w4.heap.size + 1 := by rw [← hu1]; simp
        have hs2 : u2.heap.size = w4.heap.size + 2 := by rw [← hu2]; simp [hs1]
        have hb3 : Below w4.heap.size w4 u3 := by rw [← hu3, ← hu2, ← hu1]; exact (((Below.refl _ _).alloc (Nat.le_refl _) _).alloc (by simp) _).alloc (by simp; omega) _
        have k0 := (rcells (HR.out.later hb4).cells).1.1
        obtain ⟨aF0, cF0, eF0, -, -⟩ := HR.out.F.shape
        rw [eF0] at k0
        have HO3 : Hid (OwnIno u3 (.slice aF0 xs.length cF0) xs (blk 0)) := by rw [← eF0]; exact (HR.out.later (hb4.trans (hb3.mono hb4.size))).F
        have HSI : Hid (Src Tryz.prog 2 49 (.slice (some ⟨u2.heap.size, 0, none⟩) 1 1) [(⟨.slice (some ⟨w4.heap.size, 0, none⟩) 1 1, .slice (some ⟨w4.heap.size + 1, 0, none⟩) 1 1⟩ : Ino)].length (inocells [⟨.slice (some ⟨w4.heap.size, 0, none⟩) 1 1, .slice (some ⟨w4.heap.size + 1, 0, none⟩) 1 1⟩]) u3) := by rw [← hu3]; exact src_ino u2 _ _ 1 1 1 1
        rw [hs2] at HSI
        have HMORE : Hid (∀ (w7 : World) (v7 : Value) (g7 : Nat), OwnIno w7 v7 (xs ++ [⟨.slice (some ⟨w4.heap.size, 0, none⟩) 1 1, .slice (some ⟨w4.heap.size + 1, 0, none⟩) 1 1⟩]) (some g7) → u3.grownBy w7 (blk 0) → (some g7 = blk 0 ∨ g7 = u3.heap.size) → (w7.cell? ⟨gp, 0, none⟩ = some (.slice aF0 xs.length cF0) ∧ w7.frozen? ⟨gp, 0, none⟩ = false) ∧ (∀ p x, wr.heap.size ≤ p → w4.cell? ⟨p, 0, none⟩ = some x → (w7.setCell ⟨gp, 0, none⟩ v7).cell? ⟨p, 0, none⟩ = some x) ∧ OwnNw (w7.setCell ⟨gp, 0, none⟩ v7) (.slice aD i cD) ((dirI (im.take i) 0).map nwOf) r ∧ ∀ o2 v9 w9 g9, OwnNw w9 v9 ((dirI (im.take i) 0).map nwOf ++ [nwOf (k, (im.take i).length)]) (some g9) → ((w7.setCell ⟨gp, 0, none⟩ v7).alloc o2).grownBy w9 r → (some g9 = r ∨ g9 = ((w7.setCell ⟨gp, 0, none⟩ v7).alloc o2).heap.size) → LdR w q (im.take i ++ [(k, l)]) gp v9 w9) := fun w7 v7 g7 q1 q2 q3 => by
          have := LdR.more (nm := k) (w10 := w7) (v9 := v7) (g9 := 0) (o2 := .cells #[] 0) HR.out HT.out HD.out HRR.out HB.out HB4.out HO4.out HR3.out hu1 hu2 hu3 q1 q2 q3
          rw [eF0] at this
          exact this
        have hxb : xs.length < 2199023255000 := by rw [HXL.out]; omega
        clear hb3 hn4 hb4 hbB b0' b1' HCP eF0 hsB HR3 HO4 HB4
        go_wp2_with (at_builtin; refine wpList_append_ino _ rfl _ _ rfl _ _ xs [⟨.slice (some ⟨w4.heap.size, 0, none⟩) 1 1, .slice (some ⟨w4.heap.size + 1, 0, none⟩) 1 1⟩] (blk 0) rfl rfl ?hOwn ?hSrc ?hLen (.inr (Nat.succ_pos _)) ?_)
        case hOwn => exact HO3.out
        case hSrc => first | exact HSI.out | (rw [hs2]; exact HSI.out)
        case hLen => first | (simp; omega) | omega
        intro v7 w7 g7 ho7 hg7 hr7
        have hv7 : ∃ a4 N4 c4, v7 = .slice a4 N4 c4 := ho7.shape.elim fun a4 h => h.elim fun c4 h2 => ⟨a4, _, c4, h2.1⟩
        obtain ⟨a7, N7, c7, rfl⟩ := hv7
        obtain ⟨⟨e7, f7⟩, hcell, hrow, hpu⟩ := HMORE.out w7 _ g7 ho7 hg7 hr7
        have z8 := hcell wr.heap.size _ (Nat.le_refl _) z0
        have HROW := Hid.mkR hrow
        have HPU := Hid.mkR hpu
        clear ho7 hg7 hr7 HMORE HO3 HSI k0 z0 hcell hrow hpu
        obtain ⟨w8, hw8⟩ : ∃ w8, w7.setCell ⟨gp, 0, none⟩ (.slice a7 N7 c7) = w8 := ⟨_, rfl⟩
        rw [hw8] at z8 HROW HPU
        go_wp2_with (at_builtin; refine wpList_append_nw _ rfl _ _ rfl _ _ ((dirI (im.take i) 0).map nwOf) [nwOf (k, i)] r rfl rfl ?hOwn ?hSrc ?hLen (.inr (Nat.succ_pos _)) ?_)
        case hOwn => exact HROW.out.later ((Below.refl _ _).alloc (Nat.le_refl _) _)
        case hSrc => exact src_nw w8 (nwOf (k, i))
        case hLen => rw [List.length_map, dirI_len, hil]; simp; omega
        intro v9 w9 g9 ho9 hg9 hr9
        have hv9 : ∃ a4 N4 c4, v9 = .slice a4 N4 c4 := ho9.shape.elim fun a4 h => h.elim fun c4 h2 => ⟨a4, _, c4, h2.1⟩
        obtain ⟨a9, N9, c9, rfl⟩ := hv9
        have HF : Hid (LdR w q (im.take (i + 1)) gp (.slice a9 N9 c9) w9) := by
          unfold Hid
          rw [HTK.out]
          exact HPU.out _ _ _ _ (by rw [hil]; exact ho9) hg9 (by simpa using hr9)
        clear ho9 hg9 hr9 HPU HROW z8 e7 f7
        go_wp2
        go_roundw
        case rel => exact ⟨i + 1, by omega, by go_num, HF⟩
        case measure => simp [intOf]; omega
    · have hke : i = im.length := by omega
      obtain ⟨aD, nD, cD, rfl⟩ : ∃ a n c, u8 = .slice a n c := by
        obtain ⟨_, _, _, _, _, _, _, _, _, -, -, h, -⟩ := HK.out
        exact h.shape.elim fun a4 h => h.elim fun c4 h2 => ⟨a4, _, c4, h2.1⟩
      have hK2 : LdR w q im gp (.slice aD nD cD) wr := by have := HK.out; rw [hke, List.take_length] at this; exact this
      obtain ⟨u1, hu1⟩ : ∃ u1, wr.alloc (.cells #[.slice aD nD cD] 78) = u1 := ⟨_, rfl⟩
      obtain ⟨fz, hc, hnew⟩ := hK2.fin hu1
      obtain ⟨x, hx⟩ := Option.isSome_iff_exists.mp hc
      have HF := Hid.mkR hnew
      clear hc hnew hK2 HK hke
      go_wp2
      go_ret2
      exact ⟨_, rfl, HF.out⟩
end Go.Proofs.YthcnhjmkcekdaaaGreat

namespace Go.Proofs.YthcnhjmkcekdaaaGreat
open Go.RowKit Go.Maps Plain
set_option linter.unusedVariables false
set_option linter.unusedSimpArgs false
set_option maxHeartbeats 4000000 in
set_option maxRecDepth 1000000 in
theorem readE {S : Nat → Prop} {w w1 : World} {d : Nat} {k : Dk} (h : St S w d k w1) (s : ByteArray) (hs : s.size ≤ maxLen) (x y : Int) (h0 : (fnd k.dead k.L s).2 ≠ 0) : Calls Tryz.prog 58 #[.pointer (some ⟨d, 0, none⟩), .string s, .int .i64 x, .int .i64 y] w1 fun e w' => e = .returned (.tuple #[.slice none 0 0, .int .i64 (fnd k.dead k.L s).2]) ∧ Below w1.heap.size w1 w' := by
  have HF : Hid (Calls Tryz.prog 79 #[.pointer (some ⟨d, 0, none⟩), .string s] w1 fun e w' => e = .returned (.tuple #[.pointer none, .int .i64 (fnd k.dead k.L s).2]) ∧ w' = w1.alloc (.cells #[.string s] 9)) := by
    have := findSt h s hs
    rw [fnd_bad h0] at this
    exact this
  have HB : Hid (Below w1.heap.size w1 (w1.alloc (.cells #[.string s] 9))) := (Below.refl _ _).alloc (Nat.le_refl _) _
  clear h
  generalize (fnd k.dead k.L s).2 = z at *
  go_enter Tryz.func58, Tryz.ntmps58
  go_wp2_with fail
  refine HF.out.mono ?_
  rintro e w2 ⟨rfl, rfl⟩
  go_wp2
  go_ret2
  exact ⟨rfl, HB.out⟩
set_option maxHeartbeats 4000000 in
set_option maxRecDepth 1000000 in
theorem readA {S : Nat → Prop} {w w1 : World} {d n : Nat} {k : Dk} (h : St S w d k w1) (hk : k.Ok n) (s : ByteArray) (hs : s.size ≤ maxLen) (x y : Int) (h0 : (fnd k.dead k.L s).2 = 0) (hx : x < 0 ∨ (sizeK k s : Int) < x ∨ y < 0) : Calls Tryz.prog 58 #[.pointer (some ⟨d, 0, none⟩), .string s, .int .i64 x, .int .i64 y] w1 fun e w' => e = .returned (.tuple #[.slice none 0 0, .int .i64 3]) ∧ Below w1.heap.size w1 w' := by
  have hb1 : Below w1.heap.size w1 (w1.alloc (.cells #[.string s] 9)) := (Below.refl _ _).alloc (Nat.le_refl _) _
  have HS : St S w d k (w1.alloc (.cells #[.string s] 9)) := h.below hb1
  have HF := findSt h s hs
  obtain ⟨G, hl, hfe⟩ := fnd_ok h0
  rw [hfe] at HF
  have HF := Hid.mkR HF
  have hG : k.live G := hk.refs _ (look_mem hl)
  obtain ⟨vs, rs, g0, hown⟩ := HS.fown hG
  have hsz : sizeK k s = (k.file G).seen.length := by unfold sizeK; rw [hl]; rfl
  obtain ⟨va, N, vc, rfl⟩ := isSliceO hown
  have hlen := own_len hown
  rw [hsz, hlen] at hx
  have HB := Hid.mkR hb1
  clear h HS hfe hown hlen hsz hb1 hl hG h0
  by_cases h1 : x < 0
  · clear hx
    go_enter Tryz.func58, Tryz.ntmps58
    go_wp2_with fail
    refine HF.out.mono ?_
    rintro e w2 ⟨rfl, rfl⟩
    go_wp2
    go_ret2
    exact ⟨rfl, HB.out⟩
  · by_cases h2 : (N : Int) < x
    · clear hx
      go_enter Tryz.func58, Tryz.ntmps58
      go_wp2_with fail
      refine HF.out.mono ?_
      rintro e w2 ⟨rfl, rfl⟩
      go_wp2
      go_ret2
      exact ⟨rfl, HB.out⟩
    · have h3 : y < 0 := by omega
      clear hx
      go_enter Tryz.func58, Tryz.ntmps58
      go_wp2_with fail
      refine HF.out.mono ?_
      rintro e w2 ⟨rfl, rfl⟩
      go_wp2
      go_ret2
      exact ⟨rfl, HB.out⟩
end Go.Proofs.YthcnhjmkcekdaaaGreat

namespace Go.Proofs.YthcnhjmkcekdaaaGreat
open Go.RowKit Go.Maps Plain
set_option linter.unusedVariables false
set_option linter.unusedSimpArgs false
abbrev ChPostP (P : Nat → Prop) (W : World) (d : Nat) (f : Nat → Int × Dk) (w1 : World) : Ending → World → Prop := fun e w2 => ∃ G, w1.heap.size ≤ G ∧ e = .returned (.tuple #[.int .i64 (f G).1, .bool true]) ∧ DskP P W d (f G).2 w2
set_option maxHeartbeats 1000000 in
set_option maxRecDepth 1000000 in
theorem changeCreateP {P : Nat → Prop} {W w : World} {d n : Nat} {k : Dk} (nm to : ByteArray) (at' m : Int) (vb vp : Value) (h : DskP P W d k w) (hs : nm.size ≤ maxLen) (hk : k.Dok n) (hn : n ≤ 4398046511103) :
    Calls Tryz.prog 13 #[.pointer (some ⟨d, 0, none⟩), .agg #[.int .i64 1, .string nm, .string to, .int .i64 at', .int .i64 m, vb, vp]] w (ChPostP P W d (createK k nm) w) := by
  have HC : Hid (∀ w1, Below w.heap.size w w1 → Calls Tryz.prog 40 #[.pointer (some ⟨d, 0, none⟩), .string nm] w1 fun e w2 => ∃ G, w1.heap.size ≤ G ∧ PPost P W d (createK k nm G) e w2) := fun w1 hb => createP (h.later hb) hs hk hn
  clear h hk
  go_enter Tryz.func13, Tryz.ntmps13
  go_wp2_with fail
  refine (HC.out _ ((Below.refl _ _).alloc (Nat.le_refl _) _)).mono ?_
  rintro e w1 ⟨G, hG, rfl, h1⟩
  have HP : Hid (ChPostP P W d (createK k nm) w (.returned (.tuple #[.int .i64 (createK k nm G).1, .bool true])) w1) := ⟨G, by simp at hG; omega, rfl, h1⟩
  clear h1
  generalize (createK k nm G).1 = z at *
  go_wp2
  go_ret2
  exact HP.out
set_option maxHeartbeats 1000000 in
set_option maxRecDepth 1000000 in
theorem changeTruncP {P : Nat → Prop} {W w : World} {d n : Nat} {k : Dk} (nm to : ByteArray) (at' m : Int) (vb vp : Value) (h : DskP P W d k w) (hs : nm.size ≤ maxLen) (hm : I64 m) (hk : k.Dok n) (hu : k.Uok) (hn : n ≤ 4398046511103) :
    Calls Tryz.prog 13 #[.pointer (some ⟨d, 0, none⟩), .agg #[.int .i64 3, .string nm, .string to, .int .i64 at', .int .i64 m, vb, vp]] w (ChPostP P W d (fun _ => truncK k nm m) w) := by
  have HC : Hid (∀ w1, Below w.heap.size w w1 → Calls Tryz.prog 44 #[.pointer (some ⟨d, 0, none⟩), .string nm, .int .i64 m] w1 (PPost P W d (truncK k nm m))) := fun w1 hb => truncP (h.later hb) hs hm hk hu hn
  clear h hk hu
  go_enter Tryz.func13, Tryz.ntmps13
  go_wp2_with fail
  refine (HC.out _ ((Below.refl _ _).alloc (Nat.le_refl _) _)).mono ?_
  rintro e w1 ⟨rfl, h1⟩
  have HP : Hid (ChPostP P W d (fun _ => truncK k nm m) w (.returned (.tuple #[.int .i64 (truncK k nm m).1, .bool true])) w1) := ⟨_, Nat.le_refl _, rfl, h1⟩
  clear h1
  generalize (truncK k nm m).1 = z at *
  go_wp2
  go_ret2
  exact HP.out
set_option maxHeartbeats 1000000 in
set_option maxRecDepth 1000000 in
theorem changeSyncP {P : Nat → Prop} {W w : World} {d n : Nat} {k : Dk} (nm to : ByteArray) (at' m : Int) (vb vp : Value) (h : DskP P W d k w) (hs : nm.size ≤ maxLen) (hk : k.Dok n) (hn : n ≤ 4398046511103) :
    Calls Tryz.prog 13 #[.pointer (some ⟨d, 0, none⟩), .agg #[.int .i64 4, .string nm, .string to, .int .i64 at', .int .i64 m, vb, vp]] w (ChPostP P W d (fun _ => syncK k nm) w) := by
  have HC : Hid (∀ w1, Below w.heap.size w w1 → Calls Tryz.prog 45 #[.pointer (some ⟨d, 0, none⟩), .string nm] w1 (PPost P W d (syncK k nm))) := fun w1 hb => syncP (h.later hb) hs hk hn
  clear h hk
  go_enter Tryz.func13, Tryz.ntmps13
  go_wp2_with fail
  refine (HC.out _ ((Below.refl _ _).alloc (Nat.le_refl _) _)).mono ?_
  rintro e w1 ⟨rfl, h1⟩
  have HP : Hid (ChPostP P W d (fun _ => syncK k nm) w (.returned (.tuple #[.int .i64 (syncK k nm).1, .bool true])) w1) := ⟨_, Nat.le_refl _, rfl, h1⟩
  clear h1
  generalize (syncK k nm).1 = z at *
  go_wp2
  go_ret2
  exact HP.out
set_option maxHeartbeats 1000000 in
set_option maxRecDepth 1000000 in
theorem changeSyncDirP {P : Nat → Prop} {W w : World} {d n : Nat} {k : Dk} (nm to : ByteArray) (at' m : Int) (vb vp : Value) (h : DskP P W d k w) (hk : k.Dok n) (hn : n ≤ 4398046511103) :
    Calls Tryz.prog 13 #[.pointer (some ⟨d, 0, none⟩), .agg #[.int .i64 5, .string nm, .string to, .int .i64 at', .int .i64 m, vb, vp]] w (ChPostP P W d (fun _ => syncDirK k) w) := by
  have HC : Hid (∀ w1, Below w.heap.size w w1 → Calls Tryz.prog 46 #[.pointer (some ⟨d, 0, none⟩)] w1 (PPost P W d (syncDirK k))) := fun w1 hb => syncDirP (h.later hb) hk hn
  clear h hk
  go_enter Tryz.func13, Tryz.ntmps13
  go_wp2_with fail
  refine (HC.out _ ((Below.refl _ _).alloc (Nat.le_refl _) _)).mono ?_
  rintro e w1 ⟨rfl, h1⟩
  have HP : Hid (ChPostP P W d (fun _ => syncDirK k) w (.returned (.tuple #[.int .i64 (syncDirK k).1, .bool true])) w1) := ⟨_, Nat.le_refl _, rfl, h1⟩
  clear h1
  generalize (syncDirK k).1 = z at *
  go_wp2
  go_ret2
  exact HP.out
set_option maxHeartbeats 1000000 in
set_option maxRecDepth 1000000 in
theorem changeRenameP {P : Nat → Prop} {W w : World} {d n : Nat} {k : Dk} (nm to : ByteArray) (at' m : Int) (vb vp : Value) (h : DskP P W d k w) (hs : nm.size ≤ maxLen) (ht : to.size ≤ maxLen) (hk : k.Dok n) (hu : k.Uok) (hn : n ≤ 4398046511103) :
    Calls Tryz.prog 13 #[.pointer (some ⟨d, 0, none⟩), .agg #[.int .i64 6, .string nm, .string to, .int .i64 at', .int .i64 m, vb, vp]] w (ChPostP P W d (fun _ => renameK k nm to) w) := by
  have HC : Hid (∀ w1, Below w.heap.size w w1 → Calls Tryz.prog 47 #[.pointer (some ⟨d, 0, none⟩), .string nm, .string to] w1 (PPost P W d (renameK k nm to))) := fun w1 hb => renameP (h.later hb) hs ht hk hu hn
  clear h hk hu
  go_enter Tryz.func13, Tryz.ntmps13
  go_wp2_with fail
  refine (HC.out _ ((Below.refl _ _).alloc (Nat.le_refl _) _)).mono ?_
  rintro e w1 ⟨rfl, h1⟩
  have HP : Hid (ChPostP P W d (fun _ => renameK k nm to) w (.returned (.tuple #[.int .i64 (renameK k nm to).1, .bool true])) w1) := ⟨_, Nat.le_refl _, rfl, h1⟩
  clear h1
  generalize (renameK k nm to).1 = z at *
  go_wp2
  go_ret2
  exact HP.out
set_option maxHeartbeats 1000000 in
set_option maxRecDepth 1000000 in
theorem changeRemoveP {P : Nat → Prop} {W w : World} {d n : Nat} {k : Dk} (nm to : ByteArray) (at' m : Int) (vb vp : Value) (h : DskP P W d k w) (hs : nm.size ≤ maxLen) (hk : k.Dok n) (hu : k.Uok) (hn : n ≤ 4398046511103) :
    Calls Tryz.prog 13 #[.pointer (some ⟨d, 0, none⟩), .agg #[.int .i64 7, .string nm, .string to, .int .i64 at', .int .i64 m, vb, vp]] w (ChPostP P W d (fun _ => removeK k nm) w) := by
  have HC : Hid (∀ w1, Below w.heap.size w w1 → Calls Tryz.prog 48 #[.pointer (some ⟨d, 0, none⟩), .string nm] w1 (PPost P W d (removeK k nm))) := fun w1 hb => removeP (h.later hb) hs hk hu hn
  clear h hk hu
  go_enter Tryz.func13, Tryz.ntmps13
  go_wp2_with fail
  refine (HC.out _ ((Below.refl _ _).alloc (Nat.le_refl _) _)).mono ?_
  rintro e w1 ⟨rfl, h1⟩
  have HP : Hid (ChPostP P W d (fun _ => removeK k nm) w (.returned (.tuple #[.int .i64 (removeK k nm).1, .bool true])) w1) := ⟨_, Nat.le_refl _, rfl, h1⟩
  clear h1
  generalize (removeK k nm).1 = z at *
  go_wp2
  go_ret2
  exact HP.out
set_option maxHeartbeats 4000000 in
set_option maxRecDepth 1000000 in
theorem changeAppendP {P : Nat → Prop} {W w : World} {d n : Nat} {k : Dk} (nm to : ByteArray) (at' m : Int) (vb vp : Value) (l : List Nat) (h : DskP P W d k w) (hs : nm.size ≤ maxLen) (hb : BytesAt w vb l) (hw : ∀ w', Keep P W w' → BytesAt w' vb l) (hl : l.length ≤ 140737488351232) (hk : k.Dok n) (hu : k.Uok) (hn : n ≤ 4398046511103) :
    Calls Tryz.prog 13 #[.pointer (some ⟨d, 0, none⟩), .agg #[.int .i64 2, .string nm, .string to, .int .i64 at', .int .i64 m, vb, vp]] w (ChPostP P W d (fun _ => appendK k nm l) w) := by
  obtain ⟨h1, S, h2, h3⟩ := h
  have hS := h2.rng
  have HB : Hid (BytesAt w vb l) := hb
  have HWW : Hid (∀ w', Keep P W w' → BytesAt w' vb l) := hw
  have H0 : Hid (Keep P W w ∧ DiskAt w d k S ∧ (∀ x, S x → ¬ P x) ∧ ∀ x, S x → x < w.heap.size) := ⟨h1, h2, h3, hS⟩
  have HAP : Hid (∀ (w1 : World) (g cap : Nat), Below w.heap.size w w1 → w.heap.size ≤ g → Own w1 (.slice (some ⟨g, 0, none⟩) (l.length + 8) cap) (l ++ marks 8) (some g) → Calls Tryz.prog 42 #[.pointer (some ⟨d, 0, none⟩), .string nm, .slice (some ⟨g, 0, none⟩) l.length cap] w1 (OpPost d (appendK k nm l) S w1)) := fun w1 g cap hb1 hg ho =>
    appendOf d k n S nm hs _ l w1 (h2.later hb1) hk.ok hu hn (fun w' hc => BytesAt.head (ho.apart hc (fun e => by have := hS g e; omega)))
  have hW0 := h1.size
  obtain ⟨R, hR⟩ : ∃ R, appendK k nm l = R := ⟨_, rfl⟩
  rw [hR] at HAP
  rw [show (fun _ : Nat => appendK k nm l) = fun _ => R by rw [hR]]
  clear h1 h2 h3 hS hb hw hk hu hR
  go_enter Tryz.func13, Tryz.ntmps13
  go_wp2_with fail
  refine (roomy _ l _ (HB.out.later ((Below.refl _ _).alloc (Nat.le_refl _) _)) hl).mono ?_
  rintro e w1 ⟨g, cap, rfl, ho, hg, hb1⟩
  have HO : Hid (Own w1 (.slice (some ⟨g, 0, none⟩) (l.length + 8) cap) (l ++ marks 8) (some g)) := ho
  have hgw : w.heap.size + 1 ≤ g := by simpa using hg
  have HB1 : Hid (Below (w.heap.size + 1) (w.alloc (.cells #[.int .i64 2, .string nm, .string to, .int .i64 at', .int .i64 m, vb, vp] 37)) w1) := by unfold Hid; simpa using hb1
  have HBL : Hid (Below w.heap.size w w1) := ((Below.refl _ _).alloc (Nat.le_refl _) _).trans (HB1.out.mono (by omega))
  clear ho hg hb1
  have c1 : w1.cell? ⟨w.heap.size, 1, none⟩ = some (.string nm) := by
    rw [HB1.out.cell (p := ⟨_, _, none⟩) (by simp)]; simp
  have c5 : w1.cell? ⟨w.heap.size, 5, none⟩ = some vb := by
    rw [HB1.out.cell (p := ⟨_, _, none⟩) (by simp)]; simp
  have hs1 := HB1.out.size
  go_wp2_with fail
  refine (HAP.out w1 g cap HBL.out (by omega) HO.out).mono ?_
  rintro e w2 ⟨rfl, hd2, hc2⟩
  have hs2 := hc2.size
  have hglt : g < w1.heap.size := HO.out.lt
  have hnS : ∀ x, w.heap.size ≤ x → ¬ S x := fun x hx e => by have := H0.out.2.2.2 x e; omega
  have HD2 : Hid (DiskAt w2 d R.2 (Ext S w1 w2) ∧ (∀ x, Ext S w1 w2 x → ¬ P x) ∧ ¬ Ext S w1 w2 g) := by
    refine ⟨hd2, DskP.ext (H0.out.1.later HBL.out) H0.out.2.2.1, fun hx => ?_⟩
    · rcases hx with hx | hx
      · exact hnS g (by omega) hx
      · omega
  have HBB : Hid (Keep P W w2) := (H0.out.1.later HBL.out).chg hc2 H0.out.2.2.1
  have d5 : w2.cell? ⟨w.heap.size, 5, none⟩ = some vb := by
    rw [World.cell?_of_block (w := w1) (a := ⟨w.heap.size, 5, none⟩) (hc2.block w.heap.size (by simp at hs1; omega) (hnS _ (Nat.le_refl _)))]; exact c5
  have HO2 : Hid (Own w2 (.slice (some ⟨g, 0, none⟩) (l.length + 8) cap) (l ++ marks 8) (some g)) := HO.out.apart hc2 (hnS g (by omega))
  clear c1 c5 HO HB1 hs1 hd2 hc2 hnS HAP
  go_wp2_with fail
  refine (kept g cap l l vb w2 (HWW.out w2 HBB.out) rfl HO2.out).mono ?_
  rintro e w3 ⟨rfl, q, rfl⟩
  obtain ⟨hby, hr⟩ := HO2.out
  rcases hr with ⟨e, _⟩ | ⟨g', cap', e, e2, hg, h1, h2, h3, h4, h5⟩
  · simp at e
  simp at e; subst e
  simp only [Value.slice.injEq, true_and] at e2
  obtain ⟨-, rfl⟩ := e2
  have hc8 : l.length + 8 ≤ cap := by simp [marks_len] at h1; omega
  have H3 : Hid (∀ j, j < cap → w2.frozen? ⟨g, j, none⟩ = false) := h3
  have H4 : Hid (∀ j, j < cap → (w2.cell? ⟨g, j, none⟩).isSome = true) := h4
  unfold maxLen at h2
  clear hby h1 h3 h4 h5 HO2 hg d5
  simp only [decide_true]
  go_wp2
  go_loopw [9] (fun i wr => ∃ kk : Nat, kk ≤ l.length ∧ i = .int .i64 kk ∧ Keep P W wr ∧ DiskAt wr d R.2 (Ext S w1 w2) ∧ (∀ j, wr.frozen? ⟨g, j, none⟩ = w2.frozen? ⟨g, j, none⟩) ∧ (∀ j, j < cap → (wr.cell? ⟨g, j, none⟩).isSome = true)) (fun i _ => l.length - (intOf i).toNat)
  case atStart => exact ⟨0, by omega, rfl, HBB.out.later (below_drewN' w2 q), HD2.out.1.later (below_drewN' w2 q), fun _ => rfl, H4.out⟩
  case round =>
    obtain ⟨kk, hkk, rfl, hbl, hdd, hfr, hsome⟩ := hrel
    by_cases hlt : kk < l.length
    · obtain ⟨old, hold⟩ := Option.isSome_iff_exists.mp (hsome kk (by omega))
      have hfz : wr.frozen? ⟨g, kk, none⟩ = false := by rw [hfr]; exact H3.out kk (by omega)
      have HREL : Hid (Keep P W (wr.setCell ⟨g, kk, none⟩ (.int .u8 77)) ∧ DiskAt (wr.setCell ⟨g, kk, none⟩ (.int .u8 77)) d R.2 (Ext S w1 w2) ∧ (∀ j, (wr.setCell ⟨g, kk, none⟩ (.int .u8 77)).frozen? ⟨g, j, none⟩ = w2.frozen? ⟨g, j, none⟩) ∧
          (∀ j, j < cap → ((wr.setCell ⟨g, kk, none⟩ (.int .u8 77)).cell? ⟨g, j, none⟩).isSome = true)) := by
        refine ⟨hbl.chg (S := fun x => x = g) ((Chg.refl _ _).grown (grow_set wr g kk (.int .u8 77)) (fun g' e => by simp at e; exact .inl e.symm)) (fun x hx hp => by have := hbl.lt x hp; subst hx; omega), hdd.frame (by simp) (fun x hx => (grow_set wr g kk (.int .u8 77)).block x (hdd.rng x hx) (fun e => by simp at e; subst e; exact HD2.out.2.2 hx)), fun j => ?_, fun j hj => ?_⟩
        · rw [← hfr j]; exact World.frozen?_setCells g [.int .u8 77] kk wr _
        · exact isSome_setCells g [.int .u8 77] kk wr _ (hsome j hj)
      clear hbl hfr hsome hdd
      go_wp2
      go_roundw
      case rel => exact ⟨kk + 1, by omega, by go_num, HREL.out⟩
      case measure => simp [intOf]; omega
    · have HP : Hid (ChPostP P W d (fun _ => R) w (.returned (.tuple #[.int .i64 R.1, .bool true])) wr) := ⟨_, Nat.le_refl _, rfl, hbl, _, hdd, HD2.out.2.1⟩
      clear hbl hfr hsome hdd
      go_wp2
      go_ret2
      exact HP.out
theorem changeAllP {P : Nat → Prop} {W w : World} {d n : Nat} {k : Dk} (kd : Int) (nm to : ByteArray) (at' m : Int) (vb vp : Value) (l : List Nat) (hk1 : 1 ≤ kd) (hk7 : kd ≤ 7) (h : DskP P W d k w) (hs : nm.size ≤ maxLen) (ht : to.size ≤ maxLen) (hm : I64 m) (hw : ∀ w', Keep P W w' → BytesAt w' vb l) (hl : l.length ≤ 140737488351232) (hk : k.Dok n) (hu : k.Uok) (hn : n ≤ 4398046511103) :
    Calls Tryz.prog 13 #[.pointer (some ⟨d, 0, none⟩), .agg #[.int .i64 kd, .string nm, .string to, .int .i64 at', .int .i64 m, vb, vp]] w (ChPostP P W d (chK k kd nm to m l) w) := by
  have : kd = 1 ∨ kd = 2 ∨ kd = 3 ∨ kd = 4 ∨ kd = 5 ∨ kd = 6 ∨ kd = 7 := by omega
  rcases this with rfl | rfl | rfl | rfl | rfl | rfl | rfl
  · exact changeCreateP nm to at' m vb vp h hs hk hn
  · exact changeAppendP nm to at' m vb vp l h hs (hw _ h.1) hw hl hk hu hn
  · exact changeTruncP nm to at' m vb vp h hs hm hk hu hn
  · exact changeSyncP nm to at' m vb vp h hs hk hn
  · exact changeSyncDirP nm to at' m vb vp h hk hn
  · exact changeRenameP nm to at' m vb vp h hs ht hk hu hn
  · exact changeRemoveP nm to at' m vb vp h hs hk hu hn
end Go.Proofs.YthcnhjmkcekdaaaGreat
