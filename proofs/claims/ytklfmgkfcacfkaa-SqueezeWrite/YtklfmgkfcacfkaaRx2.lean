import Derived.Test.YtklfmgkfcacfkaaRx1
/-! The document's Expand: the walk. -/
namespace Go.Proofs.Ytklfmgkfcacfkaa
open Go.RowKit Plain
set_option linter.unusedVariables false
set_option linter.unusedSimpArgs false

theorem Own.get {w : World} {a : Option Addr} {n c : Nat} {x : List Nat} {q : Option Nat} (h : Own w (.slice a n c) x q) {j : Nat} (hj : j < x.length) : ∃ g, q = some g ∧ a = some ⟨g, 0, none⟩ ∧ w.cell? ⟨g, j, none⟩ = some (.int .u8 ((x.getD j 0 : Nat) : Int)) := by
  rcases h.2 with ⟨_, rfl, _⟩ | ⟨g, cap, rfl, e, hg, h1, h2, h3, h4, h5⟩
  · simp at hj
  · injection e with e1 e2 e3
    exact ⟨g, rfl, e1, h5 j hj⟩

set_option maxHeartbeats 4000000 in
set_option maxRecDepth 100000 in
theorem refExpand (sv : Value) (tg : List Tg) (w : World) (h : TRd w sv tg) : Calls Try.prog 12 #[sv] w (ExpPost w tg) := by
  obtain ⟨a, cap, rfl, hlc, hcm, hok, hcells⟩ := h
  unfold maxLen at hcm
  have HCS : Hid (tg ≠ [] → ∃ b off, a = some ⟨b, off, none⟩ ∧ ∀ k (hk : k < tg.length), w.cell? ⟨b, off + k * 3, none⟩ = some tg[k].v ∧ w.cell? ⟨b, off + k * 3 + 1, none⟩ = some (.int .i64 tg[k].d) ∧ w.cell? ⟨b, off + k * 3 + 2, none⟩ = some (.int .i64 tg[k].n)) := hcells
  have HOK : Hid (∀ t ∈ tg, t.ok w) := hok
  clear hcells hok
  go_enter Try.func12, Try.ntmps12
  go_wp2
  go_loopw [4, 5] (fun s4 s5 wr => ∃ (k : Nat) (x : List Nat) (q : Option Nat) (a4 : Option Addr) (n4 c4 : Nat), s5 = .int .i64 k ∧ k ≤ tg.length ∧ s4 = .slice a4 n4 c4 ∧ n4 = x.length ∧ x.length ≤ 4096 ∧ Hid (x = expd (tg.take k) ∧ tlen (tg.drop k) x.length = tlen tg 0) ∧ Gw w wr (.slice a4 n4 c4) x q) (fun _ s _ => tg.length - (intOf s).toNat)
  case atStart => exact ⟨0, [], none, none, 0, 0, rfl, by omega, rfl, rfl, by simp, ⟨by simp [expd], by simp⟩, ⟨Own.nil _, by simp, Below.refl _ _⟩⟩
  case round =>
    obtain ⟨k, x, q, a4, n4, c4, rfl, hk, rfl, hn4, hx4, HE, hgw⟩ := hrel
    have HG : Hid (Gw w wr (.slice a4 n4 c4) x q) := hgw
    have HN4 : Hid (n4 = x.length) := hn4
    have hn4' : n4 ≤ 4096 := by omega
    clear hgw hn4
    by_cases hlt : k < tg.length
    · obtain ⟨b, off, rfl, HC⟩ := HCS.out (by rintro rfl; simp at hlt)
      have hck := HC k hlt
      obtain ⟨t, ht⟩ : ∃ t, tg[k] = t := ⟨_, rfl⟩
      have hokt : t.ok w := HOK.out t (by rw [← ht]; exact List.getElem_mem hlt)
      have HT : Hid (tlen (t :: tg.drop (k + 1)) x.length = tlen tg 0) := by
        have := HE.out.2
        rw [List.drop_eq_getElem_cons hlt, ht] at this
        exact this
      have HX : Hid (expd (tg.take (k + 1)) = Tg.grow x t) := by unfold Hid; rw [expd_take hlt, ht, HE.out.1]
      rw [ht] at hck
      clear HC ht HE
      obtain ⟨tv, tl, td, tn⟩ := t
      obtain ⟨c0, c1, c2⟩ := hck
      simp only at c0 c1 c2
      have hbl := cell_lt c0
      simp only at hbl
      have HCELL : Hid (∀ W, Below w.heap.size w W → W.cell? ⟨b, off + k * 3, none⟩ = some tv ∧ W.cell? ⟨b, off + k * 3 + 1, none⟩ = some (.int .i64 td) ∧ W.cell? ⟨b, off + k * 3 + 2, none⟩ = some (.int .i64 tn)) := fun W hW =>
        ⟨by rw [hW.cell (p := ⟨b, _, none⟩) hbl]; exact c0, by rw [hW.cell (p := ⟨b, _, none⟩) hbl]; exact c1, by rw [hW.cell (p := ⟨b, _, none⟩) hbl]; exact c2⟩
      have HLIT : Hid (∀ W, Below w.heap.size w W → BytesAt W tv tl) := fun W hW => hokt.1.later hW
      have HTOK : Hid (∀ W, Below w.heap.size w W → Tg.ok W ⟨tv, tl, td, tn⟩) := fun W hW => ⟨hokt.1.later hW, hokt.2⟩
      obtain ⟨htb, htl, htd1, htd2, htn1, htn2⟩ := hokt
      change BytesAt w tv tl at htb
      obtain ⟨a6, c6, rfl, hlc6, hcm6, -, -⟩ := htb
      simp only at htl htd1 htd2 htn1 htn2
      unfold maxLen at hcm6
      obtain ⟨d0, d1, d2⟩ := HCELL.out wr HG.out.be
      clear c0 c1 c2
      have hrt : (tlen (⟨.slice a6 tl.length c6, tl, td, tn⟩ :: tg.drop (k + 1)) x.length) = if Tg.right ⟨.slice a6 tl.length c6, tl, td, tn⟩ x.length = false then (0, 21) else if 4096 < x.length + Tg.add ⟨.slice a6 tl.length c6, tl, td, tn⟩ then (0, 2) else tlen (tg.drop (k + 1)) (x.length + Tg.add ⟨.slice a6 tl.length c6, tl, td, tn⟩) := rfl
      have HRT : Hid (tlen tg 0 = if Tg.right ⟨.slice a6 tl.length c6, tl, td, tn⟩ x.length = false then (0, 21) else if 4096 < x.length + (tl.length + tn.toNat) then (0, 2) else tlen (tg.drop (k + 1)) (x.length + (tl.length + tn.toNat))) := by unfold Hid; rw [← HT.out, hrt]; rfl
      clear hrt
      go_wp2_with fail
      refine (refRight ⟨.slice a6 tl.length c6, tl, td, tn⟩ n4 wr (HTOK.out wr HG.out.be) hn4').mono ?_
      rintro e w1 ⟨rfl, hb1⟩
      rw [show Tg.right ⟨.slice a6 tl.length c6, tl, td, tn⟩ n4 = Tg.right ⟨.slice a6 tl.length c6, tl, td, tn⟩ x.length by rw [HN4.out]]
      have HG1 : Hid (Gw w w1 (.slice a4 n4 c4) x q) := HG.out.later hb1
      obtain ⟨d0, d1, d2⟩ := HCELL.out w1 HG1.out.be
      clear hb1 HG
      cases hr : Tg.right ⟨.slice a6 tl.length c6, tl, td, tn⟩ x.length with
      | false =>
        have HBAD : Hid (tlen tg 0 = (0, 21)) := by unfold Hid; rw [HRT.out, if_pos hr]
        clear HRT
        go_wp2
        go_ret2
        exact ⟨.inl ⟨by rw [HBAD.out]; simp, by rw [HBAD.out]; rfl⟩, HG1.out.be⟩
      | true =>
        have hcase : (tl = [] ∧ 5 ≤ tn ∧ tn ≤ 258 ∧ 1 ≤ td ∧ td ≤ x.length) ∨ (tl ≠ [] ∧ td = 0 ∧ tn = 0) := by
          unfold Tg.right at hr
          simp only at hr
          by_cases e : tl = []
          · rw [if_pos e] at hr
            simp at hr
            exact .inl ⟨e, by omega⟩
          · rw [if_neg e] at hr
            simp at hr
            exact .inr ⟨e, hr⟩
        obtain ⟨N, hN⟩ : ∃ N : Nat, tn = (N : Int) ∧ N ≤ 258 := ⟨tn.toNat, by rcases hcase with h | h <;> omega, by rcases hcase with h | h <;> omega⟩
        obtain ⟨rfl, hN2⟩ := hN
        obtain ⟨Dd, rfl, hDd⟩ : ∃ Dd : Nat, td = (Dd : Int) ∧ Dd ≤ x.length := ⟨td.toNat, by rcases hcase with h | h <;> omega, by rcases hcase with h | h <;> omega⟩
        have hDn : N ≠ 0 → 1 ≤ Dd := fun h => by rcases hcase with h' | h' <;> omega
        have HDN : Hid (N ≠ 0 → 1 ≤ Dd) := hDn
        clear hcase hDn
        by_cases hlong : 4096 < x.length + (tl.length + N)
        · have HBAD : Hid (tlen tg 0 = (0, 2)) := by unfold Hid; rw [HRT.out, if_neg (by simp [hr]), if_pos (by simpa using hlong)]
          have hl4 : (n4 : Int) + (tl.length : Int) + (N : Int) > 4096 := by have := HN4.out; omega
          clear HRT
          go_wp2
          go_quiet (fail)
          go_wp2
          go_ret2
          exact ⟨.inl ⟨by rw [HBAD.out]; simp, by rw [HBAD.out]; rfl⟩, below_drewN HG1.out.be _⟩
        · have HNX : Hid (tlen (tg.drop (k + 1)) (x.length + (tl.length + N)) = tlen tg 0) := by unfold Hid; rw [HRT.out, if_neg (by simp [hr]), if_neg (by simpa using hlong)]; simp
          have hl4 : ¬ ((n4 : Int) + (tl.length : Int) + (N : Int) > 4096) := by have := HN4.out; omega
          have htl4 : tl.length ≤ 4096 := by omega
          have HGR : Hid (Tg.grow x ⟨.slice a6 tl.length c6, tl, (Dd : Int), (N : Int)⟩ = cpy (x ++ tl) Dd N) := by unfold Hid Tg.grow; simp
          have hx4b : x.length + (tl.length + N) ≤ 4096 := by omega
          have HDX : Hid (Dd ≤ x.length) := hDd
          clear HRT hlong hr
          go_wp2
          go_quiet (fail)
          go_wp2
          go_loopw [4, 7] (fun s4 s7 wx => ∃ (j : Nat) (q : Option Nat) (a4 : Option Addr) (n4 c4 : Nat), s7 = .int .i64 j ∧ j ≤ tl.length ∧ s4 = .slice a4 n4 c4 ∧ n4 = x.length + j ∧ Gw w wx (.slice a4 n4 c4) (x ++ tl.take j) q) (fun _ s _ => tl.length - (intOf s).toNat)
          case atStart => exact ⟨0, q, a4, n4, c4, rfl, by omega, rfl, by have := HN4.out; omega, by simpa using HG1.out.drew _⟩
          case round =>
            obtain ⟨j, q, a4, n4, c4, rfl, hj, rfl, hn4, hgw⟩ := hrel
            have HGj : Hid (Gw w wr (.slice a4 n4 c4) (x ++ tl.take j) q) := hgw
            obtain ⟨d0, d1, d2⟩ := HCELL.out wr hgw.be
            clear hgw HG1
            by_cases hjl : j < tl.length
            · obtain ⟨a9, c9, e9, -, -, hby, hcs⟩ := HLIT.out wr HGj.out.be
              injection e9 with e1 e2 e3
              subst e1 e3
              clear e2
              obtain ⟨lb, lo, rfl, hcl⟩ := hcs (by rintro rfl; simp at hjl)
              have hcj := hcl j hjl
              have HXB : Hid (tl.getD j 0 < 256) := hby _ (by rw [List.getD_eq_getElem?_getD, List.getElem?_eq_getElem hjl]; exact List.getElem_mem _)
              have HTK : Hid (x ++ tl.take (j + 1) = x ++ tl.take j ++ [tl.getD j 0]) := by unfold Hid; rw [take_snoc hjl, List.append_assoc]
              have HLX : Hid ((x ++ tl.take j).length = x.length + j) := by unfold Hid; simp; omega
              generalize tl.getD j 0 = y at hcj HXB HTK
              generalize x ++ tl.take j = X at HGj HTK HLX
              clear hcs hcl hby
              go_wp2_with (at_builtin; refine wpList_append_row _ rfl _ _ 22 22 rfl Try.underlying22 _ _ X [y] q rfl rfl ?hOwn ?hByte ?hSrc ?hLen ?_)
              case hOwn => exact HGj.out.ow.later ((Below.refl _ _).alloc (Nat.le_refl _) _)
              case hByte => first | exact HXB.out | (intro z hz; rw [List.mem_singleton] at hz; have := HXB.out; omega)
              case hSrc => exact src_one wr y 22 5 Try.underlying22
              case hLen => have := HLX.out; simp; omega
              intro v' w3 r3 ho3 hg3 hr3 hn3
              obtain ⟨a3, c3, rfl⟩ := ho3.isSlice
              have hl3 : (X ++ [y]).length = x.length + (j + 1) := by have := HLX.out; simp; omega
              rw [hl3] at ho3 ⊢
              have HG3 : Hid (Gw w w3 (.slice a3 (x.length + (j + 1)) c3) (x ++ tl.take (j + 1)) r3) := by unfold Hid; rw [HTK.out]; exact HGj.out.more ((Below.refl _ _).alloc (Nat.le_refl _) _) ho3 hg3 (by simpa using hr3)
              generalize hn3' : x.length + (j + 1) = n3 at HG3 ⊢
              clear ho3 hg3 hr3 hn3 hl3
              go_wp2
              go_roundw
              case rel => exact ⟨j + 1, r3, a3, n3, c3, by go_num, by omega, rfl, by omega, HG3.out⟩
              case measure => simp [intOf]; omega
            · obtain rfl : j = tl.length := by omega
              have HG5 : Hid (Gw w wr (.slice a4 n4 c4) (x ++ tl) q) := by have := HGj.out; rwa [List.take_length] at this
              clear HGj hjl hj
              go_wp2
              go_loopw [4, 8] (fun s4 s8 wx => ∃ (j : Nat) (q : Option Nat) (a4 : Option Addr) (n4 c4 : Nat), s8 = .int .i64 j ∧ j ≤ N ∧ s4 = .slice a4 n4 c4 ∧ n4 = x.length + tl.length + j ∧ Gw w wx (.slice a4 n4 c4) (cpy (x ++ tl) Dd j) q) (fun _ s _ => N - (intOf s).toNat)
              case atStart => exact ⟨0, q, a4, n4, c4, rfl, by omega, rfl, by omega, HG5.out⟩
              case round =>
                obtain ⟨j, q, a4, n4, c4, rfl, hj, rfl, hn4, hgw⟩ := hrel
                have HGj : Hid (Gw w wr (.slice a4 n4 c4) (cpy (x ++ tl) Dd j) q) := hgw
                have HNN : Hid (n4 = x.length + tl.length + j) := hn4
                have hn4b : n4 ≤ 4096 := by omega
                have hn4c : x.length ≤ n4 := by omega
                clear hn4
                obtain ⟨d0, d1, d2⟩ := HCELL.out wr hgw.be
                clear hgw HG5
                by_cases hjl : j < N
                · have hD1 : 1 ≤ Dd := HDN.out (by omega)
                  have HLC : Hid ((cpy (x ++ tl) Dd j).length = n4) := by have := HNN.out; unfold Hid; rw [cpy_len]; simp; omega
                  have hDx := HDX.out
                  obtain ⟨g, hqg, hag, hcg⟩ := HGj.out.ow.get (j := n4 - Dd) (by rw [HLC.out]; omega)
                  subst hqg hag
                  have HSC : Hid (cpy (x ++ tl) Dd (j + 1) = cpy (x ++ tl) Dd j ++ [(cpy (x ++ tl) Dd j).getD (n4 - Dd) 0]) := by unfold Hid; rw [cpy_succ, HLC.out]
                  have HYB : Hid ((cpy (x ++ tl) Dd j).getD (n4 - Dd) 0 < 256) := HGj.out.ow.byte _ (by
                    have h9 : n4 - Dd < (cpy (x ++ tl) Dd j).length := by rw [HLC.out]; omega
                    rw [List.getD_eq_getElem?_getD, List.getElem?_eq_getElem h9]; exact List.getElem_mem _)
                  generalize (cpy (x ++ tl) Dd j).getD (n4 - Dd) 0 = y at hcg HSC HYB
                  generalize cpy (x ++ tl) Dd j = X at HGj HSC HLC
                  obtain ⟨p, hp⟩ : ∃ p, n4 - Dd = p := ⟨_, rfl⟩
                  rw [hp] at hcg
                  have ep : (n4 : Int) - (Dd : Int) = (p : Int) := by omega
                  have hpn : p < n4 := by omega
                  clear hp
                  go_wp2_with (at_builtin; refine wpList_append_row _ rfl _ _ 22 22 rfl Try.underlying22 _ _ X [y] (some g) rfl rfl ?hOwn2 ?hByte2 ?hSrc2 ?hLen2 ?_)
                  case hOwn2 => exact HGj.out.ow.later ((Below.refl _ _).alloc (Nat.le_refl _) _)
                  case hByte2 => first | exact HYB.out | (intro z hz; rw [List.mem_singleton] at hz; have := HYB.out; omega)
                  case hSrc2 => exact src_one wr y 22 5 Try.underlying22
                  case hLen2 => have := HLC.out; simp; omega
                  intro v' w3 r3 ho3 hg3 hr3 hn3
                  obtain ⟨a3, c3, rfl⟩ := ho3.isSlice
                  have hl3 : (X ++ [y]).length = n4 + 1 := by have := HLC.out; simp; omega
                  rw [hl3] at ho3 ⊢
                  have HG3 : Hid (Gw w w3 (.slice a3 (n4 + 1) c3) (cpy (x ++ tl) Dd (j + 1)) r3) := by unfold Hid; rw [HSC.out]; exact HGj.out.more ((Below.refl _ _).alloc (Nat.le_refl _) _) ho3 hg3 (by simpa using hr3)
                  generalize hn3' : n4 + 1 = n3 at HG3 ⊢
                  clear ho3 hg3 hr3 hn3 hl3
                  go_wp2
                  go_roundw
                  case rel => exact ⟨j + 1, r3, a3, n3, c3, by go_num, by omega, rfl, by have := HNN.out; omega, HG3.out⟩
                  case measure => simp [intOf]; omega
                · obtain rfl : j = N := by omega
                  have HG7 : Hid (Gw w wr (.slice a4 n4 c4) (expd (tg.take (k + 1))) q) := by unfold Hid; rw [HX.out, HGR.out]; exact HGj.out
                  have HL7 : Hid ((expd (tg.take (k + 1))).length = x.length + (tl.length + j)) := by unfold Hid; rw [HX.out, HGR.out, cpy_len]; simp; omega
                  clear HGj
                  go_wp2
                  go_roundw
                  case rel => exact ⟨k + 1, expd (tg.take (k + 1)), q, a4, n4, c4, by go_num, by omega, rfl, by rw [HL7.out]; have := HNN.out; omega, by rw [HL7.out]; omega, ⟨rfl, by rw [HL7.out]; exact HNX.out⟩, HG7.out⟩
                  case measure => simp [intOf]; omega
    · obtain rfl : k = tg.length := by omega
      have HF : Hid (x = expd tg ∧ tlen tg 0 = (x.length, 0)) := by
        have h1 := HE.out.1
        have h2 := HE.out.2
        rw [List.take_length] at h1
        rw [List.drop_length] at h2
        exact ⟨h1, h2.symm⟩
      clear HE HCS
      go_wp2
      go_ret2
      refine ⟨.inr ⟨by rw [HF.out.2], _, q, rfl, by rw [← HF.out.1]; exact HG.out.ow, HG.out.qb, by rw [HF.out.2, ← HF.out.1]⟩, HG.out.be⟩
end Go.Proofs.Ytklfmgkfcacfkaa
