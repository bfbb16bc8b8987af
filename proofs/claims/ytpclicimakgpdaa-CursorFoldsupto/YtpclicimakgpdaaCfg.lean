import Derived.Test.YtpclicimakgpdaaCff
import Derived.Deep.RegionHeld3
/-! cursor: the document's Fold. -/
namespace Go.Proofs.Ytpclicimakgpdaa
open Go.RowKit Go.Maps Plain
set_option linter.unusedVariables false
set_option linter.unusedSimpArgs false

theorem PpNew.since {w w1 w2 : World} {v : Value} {M : List Pp} {r : Option Nat} (hb : Below w.heap.size w w1) (h : PpNew w1 w2 v M r) : PpNew w w2 v M r := ⟨h.row, fun g e => Nat.le_trans hb.size (h.new g e), below_step hb h.below⟩
set_option maxHeartbeats 8000000 in
set_option maxRecDepth 100000 in
theorem rfoldOf (va : Value) (st : List Pp) (vr : Value) (rs : List Rc) (w : World) (ha : PpsAt w va st) (hr : RecsAt w vr rs) (n1 : st.length ≤ 1048576) (n2 : rs.length ≤ 1048576) :
    Calls Try.prog 5 #[va, vr] w fun e w' => ∃ z r, e = .returned z ∧ PpNew w w' z (foldP st rs) r := by
  obtain ⟨a, cap, rfl, hcl, hok, hcells⟩ := ha
  obtain ⟨a', cap', rfl, hcl', hok', hcells'⟩ := hr
  have HC : Hid (∀ u m, Below w.heap.size w u → m < st.length → ∃ b off, a = some ⟨b, off, none⟩ ∧ Pp.CellsAt u b (off + m * 4) (st.getD m Pp.zero)) := fun u m hu hm => by
    obtain ⟨b, off, e, hc⟩ := hcells (by intro e; rw [e] at hm; simp at hm)
    exact ⟨b, off, e, (hc m hm).block (hu.block _ (hc m hm).lt)⟩
  have HR : Hid (∀ u m, Below w.heap.size w u → m < rs.length → ∃ b off, a' = some ⟨b, off, none⟩ ∧ CellsAt u b (off + m * 7) (rs.getD m Rc.none)) := fun u m hu hm => by
    obtain ⟨b, off, e, hc⟩ := hcells' (by intro e; rw [e] at hm; simp at hm)
    exact ⟨b, off, e, (hc m hm).block (hu.block _ (hc m hm).lt)⟩
  have HOA : Hid (∀ m, m < st.length → (st.getD m Pp.zero).Ok) := fun m hm => getD_ok hok hm
  have HOR : Hid (∀ m, m < rs.length → (rs.getD m Rc.none).Ok) := fun m hm => getD_ok hok' hm
  have HS1 : Hid (∀ n, n < st.length → startP st (n + 1) = insP (st.getD n Pp.zero) (delP (startP st n) (kb (st.getD n Pp.zero).key))) := fun n hn => startP_succ hn
  have HL1 : Hid (∀ n, n ≤ st.length → (startP st n).length ≤ n ∧ ∀ x ∈ startP st n, x.Ok) := fun n hn => ⟨startP_len st n hn, startP_ok hok n hn⟩
  have HS2 : Hid (∀ n, n < rs.length → recsP st rs (n + 1) = stepF (recsP st rs n) (rs.getD n Rc.none)) := fun n hn => recsP_succ hn
  have HL2 : Hid (∀ n, n ≤ rs.length → (recsP st rs n).length ≤ st.length + n ∧ ∀ x ∈ recsP st rs n, x.Ok) := fun n hn => ⟨recsP_len st rs n hn, recsP_ok hok hok' n hn⟩
  have HZ1 : Hid (startP st 0 = []) := rfl
  have HZ2 : Hid (recsP st rs 0 = startP st st.length) := rfl
  have HF : Hid (foldP st rs = recsP st rs rs.length) := rfl
  have HWO : Hid (∀ (u : World) (v : Value) (M : List Pp) (key : ByteArray), PpsAt u v M → Calls Try.prog 12 #[v, .string key] u fun e w' => ∃ z r, e = .returned z ∧ PpNew u w' z (delP M (kb key)) r) := fun u v M key h => withoutOf v M key u h
  have HWI : Hid (∀ (u : World) (v : Value) (M : List Pp) (p : Pp), PpsAt u v M → p.Ok → Calls Try.prog 11 #[v, p.agg] u fun e w' => ∃ z r, e = .returned z ∧ PpNew u w' z (insP p M) r) := fun u v M p h hp => withOf v M p u h hp
  clear hcells hok hcells' hok'
  go_enter Try.func5, Try.ntmps5
  go_wp2
  go_loopw [5, 6] (fun s5 i wr => ∃ (k : Nat) (M : List Pp) (x : Option Addr) (c : Nat) (r : Option Nat), k ≤ st.length ∧ i = .int .i64 k ∧ s5 = .slice x M.length c ∧ Hid (M = startP st k) ∧ Hid (PpNew w wr (.slice x M.length c) M r))
    (fun _ i _ => st.length - (intOf i).toNat)
  case atStart => exact ⟨0, [], none, 0, none, Nat.zero_le _, rfl, rfl, HZ1.out.symm, PpNew.nil w⟩
  case round =>
    obtain ⟨k, M, x, c, r, hk, rfl, rfl, HM, HA⟩ := hrel
    have HMO : Hid (M.length ≤ k ∧ ∀ x ∈ M, x.Ok) := by unfold Hid; rw [HM.out]; exact HL1.out k hk
    have hMl := HMO.out.1
    by_cases hlt : k < st.length
    · obtain ⟨b, off, rfl, hc⟩ := HC.out wr k HA.out.below hlt
      have HCX : Hid (∀ u, Below w.heap.size w u → Pp.CellsAt u b (off + k * 4) (st.getD k Pp.zero)) := fun u hu => by
        obtain ⟨b', off', e, h⟩ := HC.out u k hu hlt
        simp at e
        obtain ⟨rfl, rfl⟩ := e
        exact h
      have HXO : Hid ((st.getD k Pp.zero).Ok) := HOA.out k hlt
      have HN : Hid (startP st (k + 1) = insP (st.getD k Pp.zero) (delP M (kb (st.getD k Pp.zero).key))) := by unfold Hid; rw [HM.out]; exact HS1.out k hlt
      generalize st.getD k Pp.zero = xx at hc HCX HN HXO
      obtain ⟨xk, xv, xo, xt⟩ := xx
      obtain ⟨c0, c1, c2, c3⟩ := hc
      simp only at c0 c1 c2 c3 HN
      have hki : (k : Int) < (st.length : Int) := by omega
      have HPR : Hid (PpsAt wr (.slice x M.length c) M) := HA.out.row.recs (by omega) HMO.out.2
      have HPL : Hid (∀ u z q, PpNew wr u z (delP M (kb xk)) q → PpsAt u z (delP M (kb xk)) ∧ Below w.heap.size w u) := fun u z q h => ⟨h.row.recs (by have := len_delP M (kb xk); omega) (fun y hy => HMO.out.2 y (mem_delP hy)), below_step HA.out.below h.below⟩
      go_wp2_with fail
      go_region_held3 (fun u => u.cell? ⟨b, off + k * 4, none⟩ = some (.string xk) ∧ u.cell? ⟨b, off + k * 4 + 1, none⟩ = some (.string xv) ∧ u.cell? ⟨b, off + k * 4 + 2, none⟩ = some (.int .i64 xo) ∧ u.cell? ⟨b, off + k * 4 + 3, none⟩ = some (.int .i64 xt)) (go_keep) (first
        | (go_at_call 12
           refine (HWO.out _ _ M xk (HPR.out.later ((Below.refl _ wr).drew))).mono ?_
           rintro e u1 ⟨z1, r1, rfl, h1⟩
           have HU1 : Hid (PpNew wr u1 z1 (delP M (kb xk)) r1) := PpNew.since ((Below.refl _ wr).drew) h1
           obtain ⟨d0, d1, d2, d3⟩ := HCX.out u1 (HPL.out _ _ _ HU1.out).2
           simp only at d0 d1 d2 d3
           clear h1)
        | (go_at_call 11
           refine (HWI.out _ _ (delP M (kb xk)) ⟨xk, xv, xo, xt⟩ (HPL.out _ _ _ HU1.out).1 HXO.out).mono ?_
           rintro e u2 ⟨z2, r2, rfl, h2⟩
           have HU2 : Hid (PpNew w u2 z2 (startP st (k + 1)) r2) := by
             unfold Hid
             rw [HN.out]
             exact PpNew.since (HPL.out _ _ _ HU1.out).2 h2
           obtain ⟨f0, f1, f2, f3⟩ := HCX.out u2 HU2.out.below
           simp only at f0 f1 f2 f3
           clear h2))
      obtain ⟨x2, c2', rfl, -, -⟩ := HU2.out.row.shape
      go_wp2
      go_roundw
      case rel => exact ⟨k + 1, startP st (k + 1), x2, c2', r2, by omega, by go_num, rfl, rfl, HU2.out⟩
      case measure => simp [intOf]; omega
    · obtain rfl : k = st.length := by omega
      have HA0 : Hid (PpNew w wr (.slice x M.length c) M r ∧ M = recsP st rs 0) := ⟨HA.out, HM.out⟩
      clear HA HM HMO hMl
      go_wp2
      go_loopw [5, 7, 8] (fun s5 i s8 wx => ∃ (k : Nat) (M : List Pp) (x : Option Addr) (c : Nat) (r : Option Nat), k ≤ rs.length ∧ i = .int .i64 k ∧ s5 = .slice x M.length c ∧ Hid (M = recsP st rs k) ∧ Hid (PpNew w wx (.slice x M.length c) M r))
        (fun _ i _ _ => rs.length - (intOf i).toNat)
      case atStart => exact ⟨0, M, x, c, r, Nat.zero_le _, rfl, rfl, HA0.out.2, HA0.out.1⟩
      case round =>
        clear HA0 HC HOA HS1 HL1 HZ1
        obtain ⟨k, M, x, c, r, hk, rfl, rfl, HM, HA⟩ := hrel
        have HMO : Hid (M.length ≤ st.length + k ∧ ∀ x ∈ M, x.Ok) := by unfold Hid; rw [HM.out]; exact HL2.out k hk
        have hMl := HMO.out.1
        by_cases hlt : k < rs.length
        · obtain ⟨b, off, rfl, hc⟩ := HR.out wr k HA.out.below hlt
          have HXO : Hid ((rs.getD k Rc.none).Ok) := HOR.out k hlt
          have HN : Hid (recsP st rs (k + 1) = stepF M (rs.getD k Rc.none)) := by unfold Hid; rw [HM.out]; exact HS2.out k hlt
          generalize rs.getD k Rc.none = xx at hc HN HXO
          obtain ⟨xk, xo, xt, xp, xq, xkey, xval⟩ := xx
          obtain ⟨c0, c1, c2, c3, c4, c5, c6⟩ := hc
          simp only at c0 c1 c2 c3 c4 c5 c6
          have hki : (k : Int) < (rs.length : Int) := by omega
          obtain ⟨wA, hwA⟩ : ∃ wA, wr.alloc (.cells #[.int .i64 xk, .int .i64 xo, .int .i64 xt, .int .i64 xp, .int .i64 xq, .string xkey, .string xval] 31) = wA := ⟨_, rfl⟩
          have HAA : Hid (PpNew w wA (.slice x M.length c) M r) := HA.out.later (by rw [← hwA]; exact bel_al _ _)
          have HCA : Hid (∀ u, Below wA.heap.size wA u → CellsAt u wr.heap.size 0 ⟨xk, xo, xt, xp, xq, xkey, xval⟩) := fun u hu => by
            have h0 : CellsAt wA wr.heap.size 0 ⟨xk, xo, xt, xp, xq, xkey, xval⟩ := by
              rw [← hwA]
              exact ⟨World.cell?_alloc_at _ _ _ _ rfl, World.cell?_alloc_at _ _ _ _ rfl, World.cell?_alloc_at _ _ _ _ rfl, World.cell?_alloc_at _ _ _ _ rfl, World.cell?_alloc_at _ _ _ _ rfl, World.cell?_alloc_at _ _ _ _ rfl, World.cell?_alloc_at _ _ _ _ rfl⟩
            exact h0.block (hu.block _ h0.lt)
          have HPR : Hid (PpsAt wA (.slice x M.length c) M) := HAA.out.row.recs (by omega) HMO.out.2
          have HPL : Hid (∀ u z q, PpNew wA u z (delP M (kb xkey)) q → PpsAt u z (delP M (kb xkey)) ∧ Below w.heap.size w u) := fun u z q h => ⟨h.row.recs (by have := len_delP M (kb xkey); omega) (fun y hy => HMO.out.2 y (mem_delP hy)), below_step HAA.out.below h.below⟩
          obtain ⟨e0, e1, e2, e3, e4, e5, e6⟩ := HCA.out wA (Below.refl _ _)
          simp only at e0 e1 e2 e3 e4 e5 e6
          go_wp2_with fail
          refine (HWO.out wA _ M xkey HPR.out).mono ?_
          rintro e u1 ⟨z1, r1, rfl, h1⟩
          have HU1 : Hid (PpNew wA u1 z1 (delP M (kb xkey)) r1) := h1
          clear h1 e0 e1 e2 e3 e4 e5 e6
          obtain ⟨e0, e1, e2, e3, e4, e5, e6⟩ := HCA.out u1 HU1.out.below
          simp only at e0 e1 e2 e3 e4 e5 e6
          by_cases hk2 : xk = 2
          · have HN2 : Hid (recsP st rs (k + 1) = delP M (kb xkey)) := by
              unfold Hid
              rw [HN.out]
              show (if xk = 2 then _ else _) = _
              rw [if_pos hk2]
            obtain ⟨x1, c1', rfl, -, -⟩ := HU1.out.row.shape
            subst hk2
            have HF1 : Hid (PpNew w u1 (.slice x1 (delP M (kb xkey)).length c1') (delP M (kb xkey)) r1) := PpNew.since HAA.out.below HU1.out
            generalize delP M (kb xkey) = M1 at HF1 HN2
            clear HU1 HPL
            go_wp2
            go_roundw
            case rel => exact ⟨k + 1, M1, x1, c1', r1, by omega, by go_num, rfl, HN2.out.symm, HF1.out⟩
            case measure => simp [intOf]; omega
          · have HN2 : Hid (recsP st rs (k + 1) = insP ⟨xkey, xval, xo, xt⟩ (delP M (kb xkey))) := by
              unfold Hid
              rw [HN.out]
              show (if xk = 2 then _ else _) = _
              rw [if_neg hk2]
              rfl
            have hb2 : (xk == 2) = false := by simpa using hk2
            have HWJ : Hid (∀ u, Below u1.heap.size u1 u → Calls Try.prog 11 #[z1, .agg #[.string xkey, .string xval, .int .i64 xo, .int .i64 xt]] u fun e w' => ∃ z q, e = .returned z ∧ PpNew w w' z (recsP st rs (k + 1)) q) := fun u hu => by
              refine (HWI.out u z1 (delP M (kb xkey)) ⟨xkey, xval, xo, xt⟩ ((HPL.out _ _ _ HU1.out).1.later hu) ⟨HXO.out.key, HXO.out.val, HXO.out.o, HXO.out.t⟩).mono ?_
              rintro e w' ⟨z, q, rfl, h⟩
              refine ⟨z, q, rfl, ?_⟩
              rw [HN2.out]
              exact PpNew.since (below_step (HPL.out _ _ _ HU1.out).2 hu) h
            go_wp2_with fail
            refine (HWJ.out u1 (Below.refl _ _)).mono ?_
            rintro e u2 ⟨z2, r2, rfl, h2⟩
            have HU2 : Hid (PpNew w u2 z2 (recsP st rs (k + 1)) r2) := h2
            obtain ⟨x2, c2', rfl, -, -⟩ := h2.row.shape
            clear h2 HWJ
            go_wp2
            go_roundw
            case rel => exact ⟨k + 1, recsP st rs (k + 1), x2, c2', r2, by omega, by go_num, rfl, rfl, HU2.out⟩
            case measure => simp [intOf]; omega
        · obtain rfl : k = rs.length := by omega
          have HE : Hid (foldP st rs = M) := by unfold Hid; rw [HF.out, HM.out]
          go_wp2
          go_ret
          refine ⟨_, r, rfl, ?_⟩
          rw [HE.out]
          exact HA.out
end Go.Proofs.Ytpclicimakgpdaa
