import Derived.Test.YthcnhjmkcekdaaaGreatQs48
import Derived.Test.YthcnhjmkcekdaaaGreatQlA
namespace Go.Proofs.YthcnhjmkcekdaaaGreat
open Go.RowKit Go.Maps Plain
set_option linter.unusedVariables false
set_option linter.unusedSimpArgs false
set_option maxHeartbeats 8000000 in
set_option maxRecDepth 1000000 in
theorem rloadTo (q : Int) (hq : qB q = true) (v : Value) (im : List (Nm × List Nat)) (i0 : Nat) (w : World) (h : ImO w v im) (hfew : im.length ≤ 65536) (hi00 : i0 ≤ im.length) (hz : ∀ p ∈ im, (str p.1).size ≤ maxLen) (hg : ∀ i, i < i0 → goodI im i = true) (hbad : i0 < im.length → goodI im i0 = false) (hlen : ∀ p ∈ im, p.2.length ≤ 140737488355328) :
    Calls Tryz.prog 11 #[v, .int .i64 q] w fun e w' => (i0 = im.length ∧ ∃ gp, e = .returned (.tuple #[.pointer (some ⟨gp, 0, none⟩), .int .i64 0]) ∧ RdNew w gp (rkB q im) w') ∨ (i0 < im.length ∧ e = .returned (.tuple #[.pointer none, .int .i64 36]) ∧ Below w.heap.size w w') := by
  have HNEW := Hid.mkR (rnewOf q hq w)
  have HIM := Hid.mkR h
  have HN : Hid (∀ p ∈ im, (str p.1).size ≤ maxLen) := fun p hp => hz p hp
  have HG : Hid (∀ i k l, i < i0 → im[i]? = some (k, l) → nmL k = true) := fun i k l hi e => (goodI_is e (hg i hi)).1
  have HU : Hid (∀ (i : Nat) p q, i + 1 < i0 → im[i]? = some p → im[i + 1]? = some q → leB q.1 p.1 = false) := fun i p q hi e1 e2 => (goodI_is e2 (hg (i + 1) hi)).2 i p rfl e1
  have HBAD : Hid (i0 < im.length → ∀ k l, im[i0]? = some (k, l) → nmL k = false ∨ (nmL k = true ∧ ∃ i q, i0 = i + 1 ∧ im[i]? = some q ∧ leB k q.1 = true)) := fun hi k l e => goodI_not e (hbad hi)
  have HLN := Hid.mkR hlen
  obtain ⟨a, c, rfl, p1, p2, p3⟩ := h
  have hfi : ¬ (65536 : Int) < (im.length : Int) := by omega
  clear p3 hq hz hg hbad hlen
  go_enter Tryz.func11, Tryz.ntmps11
  go_wp2_with fail
  refine HNEW.out.mono ?_
  rintro e w1 ⟨gp, B0, blk0, vF0, vD0, xs0, dv0, sv0, tv0, rfl, hR0, hT0, hB0⟩
  have HL0 : Hid (LdR w q (im.take 0) gp (.slice none 0 0) w1) := ⟨B0, blk0, vF0, vD0, xs0, dv0, sv0, tv0, none, hR0, hT0, OwnNw.nil _, by simp, hB0⟩
  clear HNEW hR0 hT0 hB0
  go_wp2
  go_loopw [8, 9] (fun v i wr => ∃ j : Nat, j ≤ i0 ∧ i = .int .i64 j ∧ Hid (LdR w q (im.take j) gp v wr)) (fun _ i _ => im.length - (intOf i).toNat)
  case atStart => exact ⟨0, by omega, rfl, HL0.out⟩
  case round =>
    obtain ⟨i, hj, rfl, HK⟩ := hrel
    by_cases hlt0 : i < i0
    · have hlt : i < im.length := by omega
      have hki : (i : Int) < (im.length : Int) := by omega
      have hne : im ≠ [] := by rintro rfl; simp at hlt
      obtain ⟨⟨k, l⟩, hkl⟩ : ∃ p, im[i]? = some p := ⟨_, List.getElem?_eq_getElem hlt⟩
      obtain ⟨B, blk, vF, vD, xs, dv, sv, tv, r, hR, hT, hD, hr, hB⟩ := HK.out
      obtain ⟨a0, c0, e0, _, _, f0⟩ := HIM.out.after hB
      obtain ⟨b, o, eb, f1⟩ := f0 hne
      cases e0
      subst eb
      obtain ⟨ad, nd, cd, g1, g2, g3⟩ := f1 i k l hkl
      have hk := (⟨HG.out i k l hlt0 hkl, HN.out _ (List.mem_of_getElem? hkl)⟩ : nmL k = true ∧ (str k).size ≤ maxLen)
      have hll : l.length ≤ 140737488355328 := HLN.out _ (List.mem_of_getElem? hkl)
      have HNM : Hid (∀ w1, Calls Tryz.prog 37 #[.string (str k)] w1 fun e w' => e = .returned (.bool true) ∧ w' = w1) := fun w1 => by
        have := rnameF (str k) w1 hk.2
        rw [str_list, hk.1] at this
        exact this
      have HTK : Hid (im.take (i + 1) = im.take i ++ [(k, l)]) := by unfold Hid; rw [List.take_add_one, hkl]; rfl
      obtain ⟨wA, hwA⟩ : ∃ wA, wr.alloc (.cells #[.string (str k), .slice ad nd cd] 46) = wA := ⟨_, rfl⟩
      have hbA : Below wr.heap.size wr wA := by rw [← hwA]; exact (Below.refl _ _).alloc (Nat.le_refl _) _
      have hsA : wA.heap.size = wr.heap.size + 1 := by rw [← hwA]; simp
      have hxA : wA.heap[wr.heap.size]? = some (.cells #[.string (str k), .slice ad nd cd] 46) := by rw [← hwA]; show (wr.heap.push _)[wr.heap.size]? = _; simp
      have b0 : wA.cell? ⟨wr.heap.size, 0, none⟩ = some (.string (str k)) := by simp [World.cell?, hxA]
      have b1 : wA.cell? ⟨wr.heap.size, 1, none⟩ = some (.slice ad nd cd) := by simp [World.cell?, hxA]
      have HBY := Hid.mkR (g3.later hbA)
      have HBA := Hid.mkR hbA
      have HR := Hid.mkR hR
      have HT := Hid.mkR hT
      have HD := Hid.mkR hD
      have HRR := Hid.mkR hr
      have HB := Hid.mkR hB
      have hil : (im.take i).length = i := by rw [List.length_take]; omega
      have hxl : xs.length = i := by have := hR.fl; rw [this]; simp [rkL]; omega
      obtain ⟨aD, cD, eD, -, -⟩ := hD.shape
      have hDl : ((dirI (im.take i) 0).map nwOf).length = i := by rw [List.length_map, dirI_len, hil]
      subst eD
      rw [hDl] at *
      rcases Nat.eq_zero_or_pos i with hi0 | hi0
      · have hd0 : decide (0 < i) = false := by simp; omega
        have hd1 : ¬ (0 : Int) < (i : Int) := by omega
        clear hi0 hxA f0 f1 g3 hk hkl hne hR hT hD hr hB hbA
        have HXL := Hid.mkR hxl
        clear hxl
        go_wp2_with fail
        refine (HNM.out _).mono ?_
        rintro e w' ⟨rfl, rfl⟩
        go_wp2_with fail
        go_quiet (fail)
        have b0' : (w'.drewN nq).cell? ⟨wr.heap.size, 0, none⟩ = some (.string (str k)) := b0
        have b1' : (w'.drewN nq).cell? ⟨wr.heap.size, 1, none⟩ = some (.slice ad nd cd) := b1
        have hbB : Below wr.heap.size wr (w'.drewN nq) := below_drewN HBA.out nq
        have HCP := Hid.mkR (copiedR (w := w'.drewN nq) (HBY.out.later (below_drewN (Below.refl _ _) nq)) hll)
        have hsB : (w'.drewN nq).heap.size = wr.heap.size + 1 := hsA
        clear b0 b1 HBA HBY hwA hsA HNM
        generalize w'.drewN nq = wB at *
        go_wp2_with fail
        refine HCP.out.mono ?_
        rintro e w4 ⟨a3, N3, c3, r3, rfl, hn4⟩
        have hb4 : Below wr.heap.size wr w4 := hbB.trans (hn4.below.mono hbB.size)
        have z0 := (hn4.below.cell (p := ⟨wr.heap.size, 0, none⟩) (cell_lt b0')).trans b0'
        have HR3 : Hid (∀ g, r3 = some g → wr.heap.size ≤ g) := fun g e => by have := hn4.new g e; omega
        have HO4 := Hid.mkR hn4.row
        have HB4 := Hid.mkR hb4
        obtain ⟨u1, hu1⟩ : ∃ u1, w4.alloc (.cells #[.slice a3 N3 c3] 34) = u1 := ⟨_, rfl⟩
        obtain ⟨u2, hu2⟩ : ∃ u2, u1.alloc (.cells #[.int .i64 (-1)] 3) = u2 := ⟨_, rfl⟩
        obtain ⟨u3, hu3⟩ : ∃ u3, u2.alloc (.cells #[.slice (some ⟨w4.heap.size, 0, none⟩) 1 1, .slice (some ⟨w4.heap.size + 1, 0, none⟩) 1 1] 83) = u3 := ⟨_, rfl⟩
        have hs1 : u1.heap.size = w4.heap.size + 1 := by rw [← hu1]; simp
        have hs2 : u2.heap.size = w4.heap.size + 2 := by rw [← hu2]; simp [hs1]
        have hb3 : Below w4.heap.size w4 u3 := by rw [← hu3, ← hu2, ← hu1]; exact (((Below.refl _ _).alloc (Nat.le_refl _) _).alloc (by simp) _).alloc (by simp; omega) _
        have k0 := (rcells (HR.out.later hb4).cells).1.1
        obtain ⟨aF0, cF0, eF0, -, -⟩ := HR.out.F.shape
        rw [eF0] at k0
        have HO3 : Hid (OwnIno u3 (.slice aF0 xs.length cF0) xs (blk 0)) := by rw [← eF0]; exact (HR.out.later (hb4.trans (hb3.mono hb4.size))).F
        have HSI : Hid (Src Tryz.prog 2 49 (.slice (some ⟨u2.heap.size, 0, none⟩) 1 1) [(⟨.slice (some ⟨w4.heap.size, 0, none⟩) 1 1, .slice (some ⟨w4.heap.size + 1, 0, none⟩) 1 1⟩ : Ino)].length (inocells [⟨.slice (some ⟨w4.heap.size, 0, none⟩) 1 1, .slice (some ⟨w4.heap.size + 1, 0, none⟩) 1 1⟩]) u3) := by rw [← hu3]; exact src_ino u2 _ _ 1 1 1 1
        rw [hs2] at HSI
        have HMORE : Hid (∀ (w7 : World) (v7 : Value) (g7 : Nat), OwnIno w7 v7 (xs ++ [⟨.slice (some ⟨w4.heap.size, 0, none⟩) 1 1, .slice (some ⟨w4.heap.size + 1, 0, none⟩) 1 1⟩]) (some g7) → u3.grownBy w7 (blk 0) → (some g7 = blk 0 ∨ g7 = u3.heap.size) → (w7.cell? ⟨gp, 0, none⟩ = some (.slice aF0 xs.length cF0) ∧ w7.frozen? ⟨gp, 0, none⟩ = false) ∧ (∀ p x, wr.heap.size ≤ p → w4.cell? ⟨p, 0, none⟩ = some x → (w7.setCell ⟨gp, 0, none⟩ v7).cell? ⟨p, 0, none⟩ = some x) ∧ OwnNw (w7.setCell ⟨gp, 0, none⟩ v7) (.slice aD i cD) ((dirI (im.take i) 0).map nwOf) r ∧ ∀ o2 v9 w9 g9, OwnNw w9 v9 ((dirI (im.take i) 0).map nwOf ++ [nwOf (k, (im.take i).length)]) (some g9) → ((w7.setCell ⟨gp, 0, none⟩ v7).alloc o2).grownBy w9 r → (some g9 = r ∨ g9 = ((w7.setCell ⟨gp, 0, none⟩ v7).alloc o2).heap.size) → LdR w q (im.take i ++ [(k, l)]) gp v9 w9) := fun w7 v7 g7 q1 q2 q3 => by
          have := LdR.more (nm := k) (w10 := w7) (v9 := v7) (g9 := 0) (o2 := .cells #[] 0) HR.out HT.out HD.out HRR.out HB.out HB4.out HO4.out HR3.out hu1 hu2 hu3 q1 q2 q3
          rw [eF0] at this
          exact this
        have hxb : xs.length < 2199023255000 := by rw [HXL.out]; omega
        clear hb3 hn4 hb4 hbB b0' b1' HCP eF0 hsB HR3 HO4 HB4
        go_wp2_with (at_builtin; refine wpList_append_ino _ rfl _ _ rfl _ _ xs [⟨.slice (some ⟨w4.heap.size, 0, none⟩) 1 1, .slice (some ⟨w4.heap.size + 1, 0, none⟩) 1 1⟩] (blk 0) rfl rfl ?hOwn ?hSrc ?hLen (.inr (Nat.succ_pos _)) ?_)
        case hOwn => exact HO3.out
        case hSrc => first | exact HSI.out | (rw [hs2]; exact HSI.out)
        case hLen => first | (simp; omega) | omega
        intro v7 w7 g7 ho7 hg7 hr7
        have hv7 : ∃ a4 N4 c4, v7 = .slice a4 N4 c4 := ho7.shape.elim fun a4 h => h.elim fun c4 h2 => ⟨a4, _, c4, h2.1⟩
        obtain ⟨a7, N7, c7, rfl⟩ := hv7
        obtain ⟨⟨e7, f7⟩, hcell, hrow, hpu⟩ := HMORE.out w7 _ g7 ho7 hg7 hr7
        have z8 := hcell wr.heap.size _ (Nat.le_refl _) z0
        have HROW := Hid.mkR hrow
        have HPU := Hid.mkR hpu
        clear ho7 hg7 hr7 HMORE HO3 HSI k0 z0 hcell hrow hpu
        obtain ⟨w8, hw8⟩ : ∃ w8, w7.setCell ⟨gp, 0, none⟩ (.slice a7 N7 c7) = w8 := ⟨_, rfl⟩
        rw [hw8] at z8 HROW HPU
        go_wp2_with (at_builtin; refine wpList_append_nw _ rfl _ _ rfl _ _ ((dirI (im.take i) 0).map nwOf) [nwOf (k, i)] r rfl rfl ?hOwn ?hSrc ?hLen (.inr (Nat.succ_pos _)) ?_)
        case hOwn => exact HROW.out.later ((Below.refl _ _).alloc (Nat.le_refl _) _)
        case hSrc => exact src_nw w8 (nwOf (k, i))
        case hLen => rw [List.length_map, dirI_len, hil]; simp; omega
        intro v9 w9 g9 ho9 hg9 hr9
        have hv9 : ∃ a4 N4 c4, v9 = .slice a4 N4 c4 := ho9.shape.elim fun a4 h => h.elim fun c4 h2 => ⟨a4, _, c4, h2.1⟩
        obtain ⟨a9, N9, c9, rfl⟩ := hv9
        have HF : Hid (LdR w q (im.take (i + 1)) gp (.slice a9 N9 c9) w9) := by
          unfold Hid
          rw [HTK.out]
          exact HPU.out _ _ _ _ (by rw [hil]; exact ho9) hg9 (by simpa using hr9)
        clear ho9 hg9 hr9 HPU HROW z8 e7 f7
        go_wp2
        go_roundw
        case rel => exact ⟨i + 1, by omega, by go_num, HF⟩
        case measure => simp [intOf]; omega
      · obtain ⟨j, hij⟩ : ∃ j, i = j + 1 := ⟨i - 1, by omega⟩
        have hd0 : decide (0 < i) = true := by simp; omega
        obtain ⟨⟨k0, l0⟩, hkl0⟩ : ∃ p, im[j]? = some p := ⟨_, List.getElem?_eq_getElem (by omega)⟩
        obtain ⟨ad0, nd0, cd0, g4, g5, g6⟩ := f1 j k0 l0 hkl0
        have hlt := HU.out j _ _ (by omega) hkl0 (by rw [← hij]; exact hkl)
        have hwj : IntKind.i64.wrap ((i : Int) - 1) = (j : Int) := by rw [IntKind.wrap_i64]; omega
        have g4a : wA.cell? ⟨b, o + j * 2, none⟩ = some (.string (str k0)) := (hbA.cell (cell_lt g4)).trans g4
        have hji : j < im.length := by omega
        have hjz : (j : Int) < (im.length : Int) := by omega
        have hj0 : (0 : Int) ≤ (j : Int) := by omega
        have hle : (Op.bytesLess (str k).toList (str k0).toList || (str k).toList == (str k0).toList) = false := hlt
        clear hi0 hxA f0 f1 g3 hk hkl hne hR hT hD hr hB hbA hkl0 g4 g5 g6 hij
        have HXL := Hid.mkR hxl
        clear hxl
        go_wp2_with fail
        refine (HNM.out _).mono ?_
        rintro e w' ⟨rfl, rfl⟩
        go_wp2_with fail
        go_quiet (fail)
        have b0' : (w'.drewN nq).cell? ⟨wr.heap.size, 0, none⟩ = some (.string (str k)) := b0
        have b1' : (w'.drewN nq).cell? ⟨wr.heap.size, 1, none⟩ = some (.slice ad nd cd) := b1
        have hbB : Below wr.heap.size wr (w'.drewN nq) := below_drewN HBA.out nq
        have HCP := Hid.mkR (copiedR (w := w'.drewN nq) (HBY.out.later (below_drewN (Below.refl _ _) nq)) hll)
        have hsB : (w'.drewN nq).heap.size = wr.heap.size + 1 := hsA
        clear b0 b1 HBA HBY hwA hsA HNM
        generalize w'.drewN nq = wB at *
        go_wp2_with fail
        refine HCP.out.mono ?_
        rintro e w4 ⟨a3, N3, c3, r3, rfl, hn4⟩
        have hb4 : Below wr.heap.size wr w4 := hbB.trans (hn4.below.mono hbB.size)
        have z0 := (hn4.below.cell (p := ⟨wr.heap.size, 0, none⟩) (cell_lt b0')).trans b0'
        have HR3 : Hid (∀ g, r3 = some g → wr.heap.size ≤ g) := fun g e => by have := hn4.new g e; omega
        have HO4 := Hid.mkR hn4.row
        have HB4 := Hid.mkR hb4
        obtain ⟨u1, hu1⟩ : ∃ u1, w4.alloc (.cells #[.slice a3 N3 c3] 34) = u1 := ⟨_, rfl⟩
        obtain ⟨u2, hu2⟩ : ∃ u2, u1.alloc (.cells #[.int .i64 (-1)] 3) = u2 := ⟨_, rfl⟩
        obtain ⟨u3, hu3⟩ : ∃ u3, u2.alloc (.cells #[.slice (some ⟨w4.heap.size, 0, none⟩) 1 1, .slice (some ⟨w4.heap.size + 1, 0, none⟩) 1 1] 83) = u3 := ⟨_, rfl⟩
        have hs1 : u1.heap.size = w4.heap.size + 1 := by rw [← hu1]; simp
        have hs2 : u2.heap.size = w4.heap.size + 2 := by rw [← hu2]; simp [hs1]
        have hb3 : Below w4.heap.size w4 u3 := by rw [← hu3, ← hu2, ← hu1]; exact (((Below.refl _ _).alloc (Nat.le_refl _) _).alloc (by simp) _).alloc (by simp; omega) _
        have k0 := (rcells (HR.out.later hb4).cells).1.1
        obtain ⟨aF0, cF0, eF0, -, -⟩ := HR.out.F.shape
        rw [eF0] at k0
        have HO3 : Hid (OwnIno u3 (.slice aF0 xs.length cF0) xs (blk 0)) := by rw [← eF0]; exact (HR.out.later (hb4.trans (hb3.mono hb4.size))).F
        have HSI : Hid (Src Tryz.prog 2 49 (.slice (some ⟨u2.heap.size, 0, none⟩) 1 1) [(⟨.slice (some ⟨w4.heap.size, 0, none⟩) 1 1, .slice (some ⟨w4.heap.size + 1, 0, none⟩) 1 1⟩ : Ino)].length (inocells [⟨.slice (some ⟨w4.heap.size, 0, none⟩) 1 1, .slice (some ⟨w4.heap.size + 1, 0, none⟩) 1 1⟩]) u3) := by rw [← hu3]; exact src_ino u2 _ _ 1 1 1 1
        rw [hs2] at HSI
        have HMORE : Hid (∀ (w7 : World) (v7 : Value) (g7 : Nat), OwnIno w7 v7 (xs ++ [⟨.slice (some ⟨w4.heap.size, 0, none⟩) 1 1, .slice (some ⟨w4.heap.size + 1, 0, none⟩) 1 1⟩]) (some g7) → u3.grownBy w7 (blk 0) → (some g7 = blk 0 ∨ g7 = u3.heap.size) → (w7.cell? ⟨gp, 0, none⟩ = some (.slice aF0 xs.length cF0) ∧ w7.frozen? ⟨gp, 0, none⟩ = false) ∧ (∀ p x, wr.heap.size ≤ p → w4.cell? ⟨p, 0, none⟩ = some x → (w7.setCell ⟨gp, 0, none⟩ v7).cell? ⟨p, 0, none⟩ = some x) ∧ OwnNw (w7.setCell ⟨gp, 0, none⟩ v7) (.slice aD i cD) ((dirI (im.take i) 0).map nwOf) r ∧ ∀ o2 v9 w9 g9, OwnNw w9 v9 ((dirI (im.take i) 0).map nwOf ++ [nwOf (k, (im.take i).length)]) (some g9) → ((w7.setCell ⟨gp, 0, none⟩ v7).alloc o2).grownBy w9 r → (some g9 = r ∨ g9 = ((w7.setCell ⟨gp, 0, none⟩ v7).alloc o2).heap.size) → LdR w q (im.take i ++ [(k, l)]) gp v9 w9) := fun w7 v7 g7 q1 q2 q3 => by
          have := LdR.more (nm := k) (w10 := w7) (v9 := v7) (g9 := 0) (o2 := .cells #[] 0) HR.out HT.out HD.out HRR.out HB.out HB4.out HO4.out HR3.out hu1 hu2 hu3 q1 q2 q3
          rw [eF0] at this
          exact this
        have hxb : xs.length < 2199023255000 := by rw [HXL.out]; omega
        clear hb3 hn4 hb4 hbB b0' b1' HCP eF0 hsB HR3 HO4 HB4
        go_wp2_with (at_builtin; refine wpList_append_ino _ rfl _ _ rfl _ _ xs [⟨.slice (some ⟨w4.heap.size, 0, none⟩) 1 1, .slice (some ⟨w4.heap.size + 1, 0, none⟩) 1 1⟩] (blk 0) rfl rfl ?hOwn ?hSrc ?hLen (.inr (Nat.succ_pos _)) ?_)
        case hOwn => exact HO3.out
        case hSrc => first | exact HSI.out | (rw [hs2]; exact HSI.out)
        case hLen => first | (simp; omega) | omega
        intro v7 w7 g7 ho7 hg7 hr7
        have hv7 : ∃ a4 N4 c4, v7 = .slice a4 N4 c4 := ho7.shape.elim fun a4 h => h.elim fun c4 h2 => ⟨a4, _, c4, h2.1⟩
        obtain ⟨a7, N7, c7, rfl⟩ := hv7
        obtain ⟨⟨e7, f7⟩, hcell, hrow, hpu⟩ := HMORE.out w7 _ g7 ho7 hg7 hr7
        have z8 := hcell wr.heap.size _ (Nat.le_refl _) z0
        have HROW := Hid.mkR hrow
        have HPU := Hid.mkR hpu
        clear ho7 hg7 hr7 HMORE HO3 HSI k0 z0 hcell hrow hpu
        obtain ⟨w8, hw8⟩ : ∃ w8, w7.setCell ⟨gp, 0, none⟩ (.slice a7 N7 c7) = w8 := ⟨_, rfl⟩
        rw [hw8] at z8 HROW HPU
        go_wp2_with (at_builtin; refine wpList_append_nw _ rfl _ _ rfl _ _ ((dirI (im.take i) 0).map nwOf) [nwOf (k, i)] r rfl rfl ?hOwn ?hSrc ?hLen (.inr (Nat.succ_pos _)) ?_)
        case hOwn => exact HROW.out.later ((Below.refl _ _).alloc (Nat.le_refl _) _)
        case hSrc => exact src_nw w8 (nwOf (k, i))
        case hLen => rw [List.length_map, dirI_len, hil]; simp; omega
        intro v9 w9 g9 ho9 hg9 hr9
        have hv9 : ∃ a4 N4 c4, v9 = .slice a4 N4 c4 := ho9.shape.elim fun a4 h => h.elim fun c4 h2 => ⟨a4, _, c4, h2.1⟩
        obtain ⟨a9, N9, c9, rfl⟩ := hv9
        have HF : Hid (LdR w q (im.take (i + 1)) gp (.slice a9 N9 c9) w9) := by
          unfold Hid
          rw [HTK.out]
          exact HPU.out _ _ _ _ (by rw [hil]; exact ho9) hg9 (by simpa using hr9)
        clear ho9 hg9 hr9 HPU HROW z8 e7 f7
        go_wp2
        go_roundw
        case rel => exact ⟨i + 1, by omega, by go_num, HF⟩
        case measure => simp [intOf]; omega
    · by_cases hfull : i0 = im.length
      · have hke : i = im.length := by omega
        obtain ⟨aD, nD, cD, rfl⟩ : ∃ a n c, u8 = .slice a n c := by
          obtain ⟨_, _, _, _, _, _, _, _, _, -, -, h, -⟩ := HK.out
          exact h.shape.elim fun a4 h => h.elim fun c4 h2 => ⟨a4, _, c4, h2.1⟩
        have hK2 : LdR w q im gp (.slice aD nD cD) wr := by have := HK.out; rw [hke, List.take_length] at this; exact this
        obtain ⟨u1, hu1⟩ : ∃ u1, wr.alloc (.cells #[.slice aD nD cD] 78) = u1 := ⟨_, rfl⟩
        obtain ⟨fz, hc, hnew⟩ := hK2.fin hu1
        obtain ⟨x, hx⟩ := Option.isSome_iff_exists.mp hc
        have HF := Hid.mkR hnew
        clear hc hnew hK2 HK hke
        go_wp2
        go_ret2
        exact .inl ⟨hfull, _, rfl, HF.out⟩
      · have hii : i0 = i := by omega
        subst hii
        have hlt : i0 < im.length := by omega
        have hki : (i0 : Int) < (im.length : Int) := by omega
        have hne : im ≠ [] := by rintro rfl; simp at hlt
        obtain ⟨⟨k, l⟩, hkl⟩ : ∃ p, im[i0]? = some p := ⟨_, List.getElem?_eq_getElem hlt⟩
        obtain ⟨B, blk, vF, vD, xs, dv, sv, tv, r, hR, hT, hD, hr, hB⟩ := HK.out
        obtain ⟨aD, cD, eD, -, -⟩ := hD.shape
        subst eD
        obtain ⟨a0, c0, e0, _, _, f0⟩ := HIM.out.after hB
        obtain ⟨b, o, eb, f1⟩ := f0 hne
        cases e0
        subst eb
        obtain ⟨ad, nd, cd, g1, g2, g3⟩ := f1 i0 k l hkl
        have hks := HN.out _ (List.mem_of_getElem? hkl)
        obtain ⟨wA, hwA⟩ : ∃ wA, wr.alloc (.cells #[.string (str k), .slice ad nd cd] 46) = wA := ⟨_, rfl⟩
        have hbA : Below wr.heap.size wr wA := by rw [← hwA]; exact (Below.refl _ _).alloc (Nat.le_refl _) _
        have hxA : wA.heap[wr.heap.size]? = some (.cells #[.string (str k), .slice ad nd cd] 46) := by rw [← hwA]; show (wr.heap.push _)[wr.heap.size]? = _; simp
        have b0 : wA.cell? ⟨wr.heap.size, 0, none⟩ = some (.string (str k)) := by simp [World.cell?, hxA]
        have b1 : wA.cell? ⟨wr.heap.size, 1, none⟩ = some (.slice ad nd cd) := by simp [World.cell?, hxA]
        have HF : Hid (∀ n, Below w.heap.size w (wA.drewN n)) := fun n => below_drewN (hB.trans (hbA.mono hB.size)) n
        have HLT := Hid.mkR hlt
        rcases HBAD.out hlt k l hkl with hb0 | ⟨hb0, j, ⟨k0, l0⟩, hij, hkl0, hle0⟩
        · have HNM : Hid (∀ w1, Calls Tryz.prog 37 #[.string (str k)] w1 fun e w' => e = .returned (.bool false) ∧ w' = w1) := fun w1 => by
            have := rnameF (str k) w1 hks
            rw [str_list, hb0] at this
            exact this
          clear hxA f0 f1 g3 hkl hne hR hT hD hr hB hbA hb0 hks HN HG HU HBAD HK HIM HLN HL0
          go_wp2_with fail
          refine (HNM.out _).mono ?_
          rintro e w' ⟨rfl, rfl⟩
          go_wp2_with fail
          go_quiet (fail)
          go_wp2
          go_ret2
          exact .inr ⟨HLT.out, rfl, HF.out _⟩
        · have HNM : Hid (∀ w1, Calls Tryz.prog 37 #[.string (str k)] w1 fun e w' => e = .returned (.bool true) ∧ w' = w1) := fun w1 => by
            have := rnameF (str k) w1 hks
            rw [str_list, hb0] at this
            exact this
          have hd0 : decide (0 < i0) = true := by simp; omega
          obtain ⟨ad0, nd0, cd0, g4, g5, g6⟩ := f1 j k0 l0 hkl0
          have hwj : IntKind.i64.wrap ((i0 : Int) - 1) = (j : Int) := by rw [IntKind.wrap_i64]; omega
          have g4a : wA.cell? ⟨b, o + j * 2, none⟩ = some (.string (str k0)) := (hbA.cell (cell_lt g4)).trans g4
          have hji : j < im.length := by omega
          have hjz : (j : Int) < (im.length : Int) := by omega
          have hj0 : (0 : Int) ≤ (j : Int) := by omega
          have hle : (Op.bytesLess (str k).toList (str k0).toList || (str k).toList == (str k0).toList) = true := hle0
          clear hxA f0 f1 g3 hkl hne hR hT hD hr hB hbA hkl0 g4 g5 g6 hij hb0 hks hle0 HN HG HU HBAD HK HIM HLN HL0
          go_wp2_with fail
          refine (HNM.out _).mono ?_
          rintro e w' ⟨rfl, rfl⟩
          go_wp2_with fail
          go_quiet (fail)
          go_wp2
          go_ret2
          exact .inr ⟨HLT.out, rfl, HF.out _⟩
set_option maxRecDepth 100000 in
theorem rloadQ (q : Int) (hq : qB q = false) (a : Option Addr) (n c : Nat) (w : World) : Calls Tryz.prog 11 #[.slice a n c, .int .i64 q] w fun e w' => e = .returned (.tuple #[.pointer none, .int .i64 3]) ∧ Below w.heap.size w w' := by
  have HN := Hid.mkR (rnewBad q hq w)
  clear hq
  go_enter Tryz.func11, Tryz.ntmps11
  go_wp2_with fail
  refine HN.out.mono ?_
  rintro e w1 ⟨rfl, hb⟩
  have HB := Hid.mkR hb
  clear hb HN
  go_wp2
  go_ret2
  exact ⟨rfl, HB.out⟩
set_option maxRecDepth 100000 in
theorem rloadMany (q : Int) (hq : qB q = true) (a : Option Addr) (n c : Nat) (hn : 65536 < n) (hn2 : n ≤ 9223372036854775807) (w : World) : Calls Tryz.prog 11 #[.slice a n c, .int .i64 q] w fun e w' => e = .returned (.tuple #[.pointer none, .int .i64 35]) ∧ Below w.heap.size w w' := by
  have HN := Hid.mkR (rnewOf q hq w)
  have hni : (65536 : Int) < (n : Int) := by omega
  clear hq
  go_enter Tryz.func11, Tryz.ntmps11
  go_wp2_with fail
  refine HN.out.mono ?_
  rintro e w1 ⟨gp, B0, blk0, vF0, vD0, xs0, dv0, sv0, tv0, rfl, -, -, hb⟩
  have HB := Hid.mkR hb
  clear hb HN
  go_wp2
  go_ret2
  exact ⟨rfl, HB.out⟩
end Go.Proofs.YthcnhjmkcekdaaaGreat
