import Derived.Test.YtklfmgkfcacfkaaRw1
/-! The document's Write: the walk. -/
namespace Go.Proofs.Ytklfmgkfcacfkaa
open Go.RowKit Plain
set_option linter.unusedVariables false
set_option linter.unusedSimpArgs false

set_option maxHeartbeats 4000000 in
set_option maxRecDepth 100000 in
theorem refWriteGood (sv : Value) (tg : List Tg) (w : World) (h : TRd w sv tg) (hgood : (tlen tg 0).2 = 0) : Calls Try.prog 27 #[sv] w (WrtPost w tg) := by
  have HTR : Hid (TRd w sv tg) := h
  obtain ⟨a, cap, rfl, hlc, hcm, hok, hcells⟩ := h
  unfold maxLen at hcm
  obtain ⟨hf1, hf2, hf3⟩ := tlen_fine tg 0 (by omega) hgood
  have HCS : Hid (tg ≠ [] → ∃ b off, a = some ⟨b, off, none⟩ ∧ ∀ k (hk : k < tg.length), w.cell? ⟨b, off + k * 3, none⟩ = some tg[k].v ∧ w.cell? ⟨b, off + k * 3 + 1, none⟩ = some (.int .i64 tg[k].d) ∧ w.cell? ⟨b, off + k * 3 + 2, none⟩ = some (.int .i64 tg[k].n)) := hcells
  have HOK : Hid (∀ t ∈ tg, t.ok w) := hok
  have HFI : Hid (∀ t ∈ tg, t.fine) := hf3
  have HGD : Hid ((tlen tg 0).2 = 0) := hgood
  obtain ⟨M, hM⟩ : ∃ M, (tlen tg 0).1 = M := ⟨_, rfl⟩
  rw [hM] at hf1 hf2
  have HM : Hid ((tlen tg 0).1 = M) := hM
  have htg : tg.length ≤ 4096 := by omega
  clear hcells hok hf3 hgood hM
  go_enter Try.func27, Try.ntmps27
  go_wp2_with fail
  refine (refExpand _ tg w HTR.out).mono ?_
  rintro e w1 ⟨he, hb1⟩
  rcases he with ⟨h0, _⟩ | ⟨_, vx, rx, rfl, hox, _, hlx⟩
  · exact absurd HGD.out h0
  obtain ⟨ax, cx, rfl⟩ := hox.isSlice
  rw [hlx, HM.out]
  have HB1 : Hid (Below w.heap.size w w1) := hb1
  clear hb1 hox hlx
  go_wp2_with fail
  refine (refNumber M w1 (by omega)).mono ?_
  rintro e w2 ⟨v2, g2, rfl, ho2, hg2, hb2⟩
  obtain ⟨a2, c2, rfl⟩ := ho2.isSlice
  have HG2 : Hid (Gw w w2 (.slice a2 (uv M).length c2) (uv M) (some g2)) := ⟨ho2, fun g e => by simp at e; have := HB1.out.size; omega, below_on HB1.out hb2⟩
  have hul : (uv M).length ≤ 10 := uv_len10 (by omega)
  generalize hn2 : (uv M).length = n2 at HG2 hul ⊢
  have HN2 : Hid ((uv M).length = n2) := hn2
  clear ho2 hg2 hb2 hn2
  go_wp2
  go_loopw [6, 7] (fun s6 s7 wr => ∃ (k : Nat) (q : Option Nat) (a6 : Option Addr) (n6 c6 : Nat), s7 = .int .i64 k ∧ k ≤ tg.length ∧ s6 = .slice a6 n6 c6 ∧ Gw w wr (.slice a6 n6 c6) (uv M ++ (tg.take k).flatMap Tg.enc) q) (fun _ s _ => tg.length - (intOf s).toNat)
  case atStart => exact ⟨0, some g2, a2, n2, c2, rfl, by omega, rfl, by simpa using HG2.out⟩
  case round =>
    obtain ⟨k, q, a6, n6, c6, rfl, hk, rfl, hgw⟩ := hrel
    have HG : Hid (Gw w wr (.slice a6 n6 c6) (uv M ++ (tg.take k).flatMap Tg.enc) q) := hgw
    have HLN : Hid ((uv M ++ (tg.take k).flatMap Tg.enc).length ≤ 30000000) := by
      have h1 := encG_len (tg.take k) (fun t ht => HFI.out t (List.mem_of_mem_take ht))
      have h2 := HN2.out
      unfold Hid
      have h3 : (tg.take k).length ≤ 4096 := by simp; omega
      have h4 := Nat.mul_le_mul_left 5000 h3
      rw [List.length_append]
      omega
    clear hgw HG2
    by_cases hlt : k < tg.length
    · obtain ⟨b, off, rfl, HC⟩ := HCS.out (by rintro rfl; simp at hlt)
      have hck := HC k hlt
      obtain ⟨t, ht⟩ : ∃ t, tg[k] = t := ⟨_, rfl⟩
      have hmem : t ∈ tg := by rw [← ht]; exact List.getElem_mem hlt
      have hokt : t.ok w := HOK.out t hmem
      have hfin : t.fine := HFI.out t hmem
      have HX : Hid (uv M ++ (tg.take (k + 1)).flatMap Tg.enc = uv M ++ (tg.take k).flatMap Tg.enc ++ t.enc) := by unfold Hid; rw [encG_take tg k hlt, ht, List.append_assoc]
      rw [ht] at hck
      generalize uv M ++ (tg.take k).flatMap Tg.enc = X at HG HLN HX
      clear HC ht hmem
      obtain ⟨tv, tl, td, tn⟩ := t
      obtain ⟨c0, c1, c2'⟩ := hck
      simp only at c0 c1 c2'
      have hbl := cell_lt c0
      simp only at hbl
      have HCELL : Hid (∀ W, Below w.heap.size w W → W.cell? ⟨b, off + k * 3, none⟩ = some tv ∧ W.cell? ⟨b, off + k * 3 + 1, none⟩ = some (.int .i64 td) ∧ W.cell? ⟨b, off + k * 3 + 2, none⟩ = some (.int .i64 tn)) := fun W hW =>
        ⟨by rw [hW.cell (p := ⟨b, _, none⟩) hbl]; exact c0, by rw [hW.cell (p := ⟨b, _, none⟩) hbl]; exact c1, by rw [hW.cell (p := ⟨b, _, none⟩) hbl]; exact c2'⟩
      have HLIT : Hid (∀ W, Below w.heap.size w W → BytesAt W tv tl) := fun W hW => hokt.1.later hW
      obtain ⟨htb, htl, htd1, htd2, htn1, htn2⟩ := hokt
      change BytesAt w tv tl at htb
      obtain ⟨a9, c9, rfl, hlc6, hcm6, -, -⟩ := htb
      simp only at htl htd1 htd2 htn1 htn2
      unfold maxLen at hcm6
      obtain ⟨d0, d1, d2⟩ := HCELL.out wr HG.out.be
      clear c0 c1 c2'
      rcases hfin with ⟨h0, h1, h2, h3, h4⟩ | ⟨h0, h1, h2, h3⟩
      · simp only at h0 h1 h2 h3 h4
        subst h0
        obtain ⟨N, rfl, hN⟩ : ∃ N : Nat, tn = (N : Int) ∧ N ≤ 258 := ⟨tn.toNat, by omega, by omega⟩
        obtain ⟨D, rfl, hD⟩ : ∃ D : Nat, td = (D : Int) ∧ D ≤ 2048 := ⟨td.toNat, by omega, by omega⟩
        have HEN : Hid (Tg.enc ⟨.slice a9 ([] : List Nat).length c9, [], (D : Int), (N : Int)⟩ = uv (2 * N + 1) ++ uv D) := by unfold Hid Tg.enc; simp
        obtain ⟨P, hP⟩ : ∃ P, 2 * N + 1 = P := ⟨_, rfl⟩
        have eP : 2 * (N : Int) + 1 = (P : Int) := by omega
        rw [hP] at HEN
        have hPb : P ≤ 600 := by omega
        clear hP h1 h2 h3 h4
        go_wp2_with fail
        refine (refNumber P wr (by omega)).mono ?_
        rintro e w3 ⟨v3, g3, rfl, ho3, hg3, hb3⟩
        obtain ⟨a3, c3, rfl⟩ := ho3.isSlice
        have HO3 : Hid (Own w3 (.slice a3 (uv P).length c3) (uv P) (some g3)) := ho3
        have HG3 : Hid (Gw w w3 (.slice a6 n6 c6) X q) := HG.out.later hb3
        have HQ3 : Hid (∀ g, q = some g → g ≠ g3) := fun g e => by subst e; have := HG.out.ow.lt; omega
        obtain ⟨d0, d1, d2⟩ := HCELL.out w3 HG3.out.be
        generalize hu3 : (uv P).length = n3 at HO3 ⊢
        clear ho3 hg3 hb3 hu3
        go_wp2_with fail
        refine (refNumber D w3 (by omega)).mono ?_
        rintro e w4 ⟨v4, g4, rfl, ho4, hg4, hb4⟩
        obtain ⟨a4, c4, rfl⟩ := ho4.isSlice
        have HO4 : Hid (Own w4 (.slice a4 (uv D).length c4) (uv D) (some g4)) := ho4
        have HO34 : Hid (Own w4 (.slice a3 n3 c3) (uv P) (some g3)) := HO3.out.later hb4
        have HG4 : Hid (Gw w w4 (.slice a6 n6 c6) X q) := HG3.out.later hb4
        have HQ4 : Hid (∀ g, q = some g → g ≠ g4) := fun g e => by subst e; have := HG3.out.ow.lt; omega
        generalize hu4 : (uv D).length = n4 at HO4 ⊢
        have HUP : Hid ((uv P).length ≤ 10 ∧ (uv D).length ≤ 10) := ⟨uv_len10 (by omega), uv_len10 (by omega)⟩
        clear ho4 hg4 hb4 hu4 HG HG3 HO3 HQ3
        go_wp2_with (at_builtin; refine wpList_append_row _ rfl _ _ 22 22 rfl Try.underlying22 _ _ X (uv P) q rfl rfl ?hOwn ?hByte ?hSrc ?hLen ?_)
        case hOwn => exact HG4.out.ow
        case hByte => exact uv_byte P
        case hSrc => exact src_of Try.underlying22 HO34.out.bytes
        case hLen => have h1 := HLN.out; have h2 := HUP.out; omega
        intro v5 w5 r5 ho5 hg5 hr5 hn5
        obtain ⟨a5, c5, rfl⟩ := ho5.isSlice
        have HG5 : Hid (Gw w w5 (.slice a5 (X ++ uv P).length c5) (X ++ uv P) r5) := HG4.out.more (Below.refl _ _) ho5 hg5 hr5
        have HO5 : Hid (Own w5 (.slice a4 n4 c4) (uv D) (some g4)) := HO4.out.kept hg5 (.inr (fun e => HQ4.out g4 e.symm rfl))
        have HX5 : Hid ((X ++ uv P).length ≤ 30000010) := by have h1 := HLN.out; have h2 := HUP.out; unfold Hid; rw [List.length_append]; omega
        generalize hu5 : (X ++ uv P).length = n5 at HG5 ⊢
        clear ho5 hg5 hr5 hn5 hu5
        go_wp2_with (at_builtin; refine wpList_append_row _ rfl _ _ 22 22 rfl Try.underlying22 _ _ (X ++ uv P) (uv D) r5 rfl rfl ?hOwn2 ?hByte2 ?hSrc2 ?hLen2 ?_)
        case hOwn2 => exact HG5.out.ow
        case hByte2 => exact uv_byte D
        case hSrc2 => exact src_of Try.underlying22 HO5.out.bytes
        case hLen2 => have h1 := HX5.out; have h2 := HUP.out; omega
        intro v7 w7 r7 ho7 hg7 hr7 hn7
        obtain ⟨a7, c7, rfl⟩ := ho7.isSlice
        have HG7 : Hid (Gw w w7 (.slice a7 (X ++ (uv P ++ uv D)).length c7) (uv M ++ (tg.take (k + 1)).flatMap Tg.enc) r7) := by unfold Hid; rw [HX.out, HEN.out]; exact HG5.out.more (Below.refl _ _) ho7 hg7 hr7
        generalize hu7 : (X ++ (uv P ++ uv D)).length = n7 at HG7 ⊢
        clear ho7 hg7 hr7 hn7 hu7
        go_wp2
        go_roundw
        case rel => exact ⟨k + 1, r7, a7, n7, c7, by go_num, by omega, rfl, HG7.out⟩
        case measure => simp [intOf]; omega
      · simp only at h0 h1 h2 h3
        subst h1 h2
        have HEN : Hid (Tg.enc ⟨.slice a9 tl.length c9, tl, 0, 0⟩ = uv (2 * tl.length) ++ tl) := by unfold Hid Tg.enc; rw [if_neg h0]
        obtain ⟨P, hP⟩ : ∃ P, 2 * tl.length = P := ⟨_, rfl⟩
        have eP : 2 * (tl.length : Int) = (P : Int) := by omega
        rw [hP] at HEN
        have hPb : P ≤ 8192 := by omega
        have hpos : ((tl.length : Nat) : Int) > 0 := by have := List.length_pos_iff.mpr h0; omega
        clear hP h0
        go_wp2_with fail
        refine (refNumber P wr (by omega)).mono ?_
        rintro e w3 ⟨v3, g3, rfl, ho3, hg3, hb3⟩
        obtain ⟨a3, c3, rfl⟩ := ho3.isSlice
        have HO3 : Hid (Own w3 (.slice a3 (uv P).length c3) (uv P) (some g3)) := ho3
        have HG3 : Hid (Gw w w3 (.slice a6 n6 c6) X q) := HG.out.later hb3
        have HUP : Hid ((uv P).length ≤ 10) := uv_len10 (by omega)
        generalize hu3 : (uv P).length = n3 at HO3 ⊢
        clear ho3 hg3 hb3 hu3 HG d0 d1 d2
        go_wp2_with (at_builtin; refine wpList_append_row _ rfl _ _ 22 22 rfl Try.underlying22 _ _ X (uv P) q rfl rfl ?hOwn3 ?hByte3 ?hSrc3 ?hLen3 ?_)
        case hOwn3 => exact HG3.out.ow
        case hByte3 => exact uv_byte P
        case hSrc3 => exact src_of Try.underlying22 HO3.out.bytes
        case hLen3 => have h1 := HLN.out; have h2 := HUP.out; omega
        intro v5 w5 r5 ho5 hg5 hr5 hn5
        obtain ⟨a5, c5, rfl⟩ := ho5.isSlice
        have HG5 : Hid (Gw w w5 (.slice a5 (X ++ uv P).length c5) (X ++ uv P) r5) := HG3.out.more (Below.refl _ _) ho5 hg5 hr5
        have HX5 : Hid ((X ++ uv P).length ≤ 30000010) := by have h1 := HLN.out; have h2 := HUP.out; unfold Hid; rw [List.length_append]; omega
        obtain ⟨d0, d1, d2⟩ := HCELL.out w5 HG5.out.be
        generalize hu5 : (X ++ uv P).length = n5 at HG5 ⊢
        clear ho5 hg5 hr5 hn5 hu5
        go_wp2_with (at_builtin; refine wpList_append_row _ rfl _ _ 22 22 rfl Try.underlying22 _ _ (X ++ uv P) tl r5 rfl rfl ?hOwn4 ?hByte4 ?hSrc4 ?hLen4 ?_)
        case hOwn4 => exact HG5.out.ow
        case hByte4 => exact (HLIT.out w5 HG5.out.be).byte
        case hSrc4 => exact src_of Try.underlying22 (HLIT.out w5 HG5.out.be)
        case hLen4 => have h1 := HX5.out; omega
        intro v7 w7 r7 ho7 hg7 hr7 hn7
        obtain ⟨a7, c7, rfl⟩ := ho7.isSlice
        have HG7 : Hid (Gw w w7 (.slice a7 (X ++ (uv P ++ tl)).length c7) (uv M ++ (tg.take (k + 1)).flatMap Tg.enc) r7) := by unfold Hid; rw [HX.out, HEN.out]; exact HG5.out.more (Below.refl _ _) ho7 hg7 hr7
        generalize hu7 : (X ++ (uv P ++ tl)).length = n7 at HG7 ⊢
        clear ho7 hg7 hr7 hn7 hu7
        go_wp2
        go_roundw
        case rel => exact ⟨k + 1, r7, a7, n7, c7, by go_num, by omega, rfl, HG7.out⟩
        case measure => simp [intOf]; omega
    · obtain rfl : k = tg.length := by omega
      have HF : Hid (Gw w wr (.slice a6 n6 c6) (blkG M tg) q) := by have := HG.out; rw [List.take_length] at this; exact this
      clear HCS HG
      go_wp2
      go_ret2
      exact ⟨.inr ⟨HGD.out, _, q, rfl, by rw [HM.out]; exact HF.out.ow, HF.out.qb⟩, HF.out.be⟩
end Go.Proofs.Ytklfmgkfcacfkaa
