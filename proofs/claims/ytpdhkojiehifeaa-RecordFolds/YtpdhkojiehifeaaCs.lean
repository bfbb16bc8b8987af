import Derived.Test.YtpdhkojiehifeaaCr
/-! The document's Compact, where nothing is refused at once. -/
namespace Go.Proofs.Ytpdhkojiehifeaa
open Go.RowKit Plain Go.WideMaps Go.Maps
set_option linter.unusedVariables false

set_option maxHeartbeats 2000000 in
theorem refGood (v : Value) (st : List Rc) (now hz : Int) (w : World) (h : RecsAt w v st) (h1 : ¬ now < 0) (h2 : ¬ hz < 0) (hn2 : now ≤ 9223372036854775807) (hz2 : hz ≤ 9223372036854775807) : Calls Try.prog 9 #[v, .int .i64 now, .int .i64 hz] w (CompPost w st now hz) := by
  have HPB : Hid (st.all okB = false → ∀ w', Below w.heap.size w w' → CompPost w st now hz (.returned (.tuple #[.slice none 0 0, .int .i64 0])) w') := fun hb w' hw => by
    have e : comp st now hz = ([], 0) := comp_bad (by unfold badC; simp [hb])
    exact ⟨_, none, by rw [e], by rw [e]; exact OwnR.nil _, by simp, hw⟩
  have HEB : Hid (st.all okB = true → comp st now hz = cmp st now hz st.length) := fun hb => by unfold comp; rw [if_neg (by unfold badC; simp [hb]; omega)]
  have HFB : Hid (st.all okB = true → ∀ x ∈ st, Fine x) := fun hb x hx => fine_of (List.all_eq_true.mp hb x hx)
  have HR : Hid (RecsAt w v st) := h
  obtain ⟨a, cap, rfl, hcl, hok, hcells⟩ := h
  have HC : Hid (st ≠ [] → ∃ b off, a = some ⟨b, off, none⟩ ∧ ∀ j, j < st.length → CellsAt w b (off + j * 7) (st.getD j Rc.none)) := hcells
  have HOK : Hid (∀ x ∈ st, x.Ok) := hok
  clear hcells hok
  go_enter Try.func9, Try.ntmps9
  go_wp2
  go_loopw [8] (fun i wr => ∃ k : Nat, k ≤ st.length ∧ i = .int .i64 k ∧ (st.take k).all okB = true ∧ Below w.heap.size w wr) (fun i _ => st.length - (intOf i).toNat)
  case atStart => exact ⟨0, by omega, rfl, by simp, Below.refl _ _⟩
  case round =>
    obtain ⟨k, hk, rfl, hall, hbl⟩ := hrel
    have HA : Hid ((st.take k).all okB = true) := hall
    have HB : Hid (Below w.heap.size w wr) := hbl
    clear hall hbl
    by_cases hlt : k < st.length
    · have hne : st ≠ [] := by rintro rfl; simp at hlt
      obtain ⟨b, off, rfl, hc⟩ := HC.out hne
      have hck := hc k hlt
      have hck' := hck.block (HB.out.block b hck.lt)
      have HX : Hid (st.getD k Rc.none).Ok := HOK.out (st.getD k Rc.none) (by simp [hlt])
      have HT : Hid (okB (st.getD k Rc.none) = true → (st.take (k + 1)).all okB = true) := fun h => by rw [take_snoc_r st k hlt, List.all_append, HA.out, Bool.true_and, List.all_cons, h]; rfl
      have HF : Hid (okB (st.getD k Rc.none) = false → st.all okB = false) := fun h => by
        rw [List.all_eq_false]
        exact ⟨st.getD k Rc.none, by simp [hlt], by rw [h]; decide⟩
      generalize st.getD k Rc.none = x at hck' HX HT HF
      obtain ⟨xk, xo, xt, xp, xq, xkey, xval⟩ := x
      obtain ⟨c0, c1, c2, c3, c4, c5, c6⟩ := hck'
      simp only at c0 c1 c2 c3 c4 c5 c6
      clear hck hc hne
      go_wp2_with fail
      refine (refCheckAny ⟨xk, xo, xt, xp, xq, xkey, xval⟩ HX.out _).mono ?_
      rintro e w1 ⟨rfl, hb1⟩
      have HB1 : Hid (Below w.heap.size w w1) := below_on HB.out hb1
      have HE : Hid (okB ⟨xk, xo, xt, xp, xq, xkey, xval⟩ = (chk ⟨xk, xo, xt, xp, xq, xkey, xval⟩ == 0)) := rfl
      generalize chk ⟨xk, xo, xt, xp, xq, xkey, xval⟩ = cc at HE ⊢
      clear hb1 c0 c1 c2 c3 c4 c5 c6
      cases hcc : (cc == 0) with
      | true =>
        obtain rfl : cc = 0 := by simpa using hcc
        have HT1 : Hid ((st.take (k + 1)).all okB = true) := HT.out (by rw [HE.out]; rfl)
        clear HT HF HE hcc
        go_wp2
        go_roundw
        case rel => exact ⟨k + 1, by omega, by go_num, HT1.out, HB1.out⟩
        case measure => simp [intOf]; omega
      | false =>
        have hc' : (cc != 0) = true := by simpa using hcc
        have HPB1 : Hid (∀ w', Below w.heap.size w w' → CompPost w st now hz (.returned (.tuple #[.slice none 0 0, .int .i64 0])) w') := HPB.out (HF.out (by rw [HE.out]; exact hcc))
        clear HT HF HE hcc
        go_wp2
        go_ret2
        exact HPB1.out _ HB1.out
    · obtain rfl : k = st.length := by omega
      have hb : st.all okB = true := by have := HA.out; rwa [List.take_length] at this
      have HF2 : Hid (comp st now hz = cmp st now hz st.length) := HEB.out hb
      have HFN : Hid (∀ x ∈ st, Fine x) := HFB.out hb
      obtain ⟨w2, hw2⟩ : ∃ w2, w2 = wr := ⟨_, rfl⟩
      rw [← hw2] at HB ⊢
      have HB2 : Hid (Below w.heap.size w w2) := HB.out
      clear HA HB hb HPB HEB HFB hlt hk hw2
      go_wp2
      go_loopw [9, 10, 11] (fun s9 s10 s11 wr => ∃ (k : Nat) (q : Option Nat) (a9 : Option Addr) (n9 c9 : Nat), k ≤ st.length ∧ s11 = .int .i64 k ∧ s9 = .slice a9 n9 c9 ∧ s10 = .int .i64 (cmp st now hz k).2 ∧ OwnR wr (.slice a9 n9 c9) (cmp st now hz k).1 q ∧ (∀ g, q = some g → w2.heap.size ≤ g) ∧ Below w2.heap.size w2 wr) (fun _ _ i _ => st.length - (intOf i).toNat)
      case atStart => exact ⟨0, none, none, 0, 0, by omega, rfl, rfl, rfl, OwnR.nil _, by simp, Below.refl _ _⟩
      case round =>
        obtain ⟨k, q, a9, n9, c9, hk, rfl, rfl, rfl, hown, hq, hbl⟩ := hrel
        have HO : Hid (OwnR wr (.slice a9 n9 c9) (cmp st now hz k).1 q) := hown
        have HQ : Hid (∀ g, q = some g → w2.heap.size ≤ g) := hq
        have HBL : Hid (Below w2.heap.size w2 wr) := hbl
        have HBW : Hid (Below w.heap.size w wr) := below_on HB2.out hbl
        have HLEN : Hid ((cmp st now hz k).1.length ≤ k) := cmp_len st now hz k
        have hmk := cmp_mark st now hz HFN.out k hk
        clear hown hq hbl
        by_cases hlt : k < st.length
        · have hne : st ≠ [] := by rintro rfl; simp at hlt
          obtain ⟨b, off, rfl, hc⟩ := HC.out hne
          have hck := hc k hlt
          have hck' := hck.block (HBW.out.block b hck.lt)
          have hmem : st.getD k Rc.none ∈ st := by rw [List.getD_eq_getElem?_getD, List.getElem?_eq_getElem hlt]; exact List.getElem_mem _
          have hfx := HFN.out _ hmem
          have HFX : Hid (Fine (st.getD k Rc.none)) := hfx
          have HS0 : Hid (lastB st k = false → cmp st now hz (k + 1) = cmp st now hz k) := fun h => cstep_skip _ h
          have HS1 : Hid (lastB st k = true → keepB now hz (st.getD k Rc.none) = true → cmp st now hz (k + 1) = ((cmp st now hz k).1 ++ [st.getD k Rc.none], (cmp st now hz k).2)) := fun h h' => cstep_keep _ h h'
          have HS2 : Hid (lastB st k = true → keepB now hz (st.getD k Rc.none) = false → cmp st now hz (k + 1) = ((cmp st now hz k).1, if (st.getD k Rc.none).o + 1 > (cmp st now hz k).2 then (st.getD k Rc.none).o + 1 else (cmp st now hz k).2)) := fun h h' => cstep_mark _ h h'
          have HKP : Hid (keepB now hz (st.getD k Rc.none) = ((st.getD k Rc.none).k == 1 || youngB now hz (st.getD k Rc.none))) := rfl
          generalize st.getD k Rc.none = x at hck' hfx HFX HS1 HS2 HKP
          obtain ⟨xk, xo, xt, xp, xq, xkey, xval⟩ := x
          obtain ⟨c0, c1, c2, c3, c4, c5, c6⟩ := hck'
          obtain ⟨f0, f1, f2⟩ := hfx
          simp only at c0 c1 c2 c3 c4 c5 c6 f0 f1 f2 HS2 HKP
          have hoff : wrap64 (xo + 1) = xo + 1 := by unfold wrap64; omega
          clear hck hc hne hmem
          generalize hM : (cmp st now hz k).2 = M at hmk HS1 HS2 ⊢
          cases hlb : lastB st k with
          | false =>
            have HN1 : Hid (cmp st now hz (k + 1) = cmp st now hz k) := HS0.out hlb
            clear HS0 HS1 HS2 HKP
            go_wp2_with fail
            refine (lastAny _ st k hlt wr (HR.out.later HBW.out)).mono ?_
            rintro e w' ⟨rfl, nq, rfl⟩
            rw [hlb]
            go_wp2
            go_roundw
            case rel => exact ⟨k + 1, q, a9, n9, c9, by omega, by go_num, rfl, by rw [HN1.out, hM], by rw [HN1.out]; exact HO.out.later (below_drewN (Below.refl _ _) _), HQ.out, below_drewN HBL.out _⟩
            case measure => simp [intOf]; omega
          | true =>
            rcases f0 with rfl | rfl
            · have HN1 : Hid (cmp st now hz (k + 1) = ((cmp st now hz k).1 ++ [⟨1, xo, xt, xp, xq, xkey, xval⟩], M)) := HS1.out hlb (by rw [HKP.out]; rfl)
              clear HS0 HS1 HS2 HKP
              go_wp2_with fail
              refine (lastAny _ st k hlt wr (HR.out.later HBW.out)).mono ?_
              rintro e w' ⟨rfl, nq, rfl⟩
              rw [hlb]
              go_wp2_with (at_builtin; refine wpList_append_recs _ rfl _ _ rfl _ _ (cmp st now hz k).1 [⟨1, xo, xt, xp, xq, xkey, xval⟩] q rfl rfl ?hOwn ?hSrc ?hLen ?hR ?_)
              case hOwn => exact HO.out.later ((below_drewN (Below.refl _ _) _).alloc (Nat.le_refl _) _)
              case hSrc => exact src_rec (wr.drewN nq) ⟨1, xo, xt, xp, xq, xkey, xval⟩
              case hLen => have := HLEN.out; simp; omega
              case hR => exact .inr (by simp)
              intro v' w3 g3 ho3 hg3 hr3
              obtain ⟨a3, c3', rfl, -, -⟩ := ho3.shape
              have HO3 : Hid (OwnR w3 (.slice a3 ((cmp st now hz k).1 ++ [(⟨1, xo, xt, xp, xq, xkey, xval⟩ : Rc)]).length c3') (cmp st now hz (k + 1)).1 (some g3)) := by unfold Hid; rw [HN1.out]; exact ho3
              have HBQ : Hid (Below w2.heap.size w2 (wr.drewN nq)) := below_drewN HBL.out _
              have HQ3 : Hid (w2.heap.size ≤ g3) := by
                have h1 := HBQ.out.size
                unfold Hid
                rcases hr3 with e | rfl
                · exact HQ.out g3 e.symm
                · simp at h1 ⊢; omega
              have HB3 : Hid (Below w2.heap.size w2 w3) := (HBQ.out.alloc HBQ.out.size _).trans (grow_below hg3 (by have := HBL.out.size; simp; omega) HQ.out)
              have HM1 : Hid ((cmp st now hz (k + 1)).2 = M) := by unfold Hid; rw [HN1.out]
              generalize ((cmp st now hz k).1 ++ [(⟨1, xo, xt, xp, xq, xkey, xval⟩ : Rc)]).length = n3 at HO3 ⊢
              clear ho3 hg3 hr3
              go_wp2
              go_roundw
              case rel => exact ⟨k + 1, some g3, a3, n3, c3', by omega, by go_num, rfl, by rw [HM1.out], HO3.out, fun g hg => by simp at hg; have := HQ3.out; omega, HB3.out⟩
              case measure => simp [intOf]; omega
            · cases hy : youngB now hz ⟨2, xo, xt, xp, xq, xkey, xval⟩ with
              | true =>
                have HN1 : Hid (cmp st now hz (k + 1) = ((cmp st now hz k).1 ++ [⟨2, xo, xt, xp, xq, xkey, xval⟩], M)) := HS1.out hlb (by rw [HKP.out, hy]; rfl)
                clear HS0 HS1 HS2 HKP
                go_wp2_with fail
                refine (lastAny _ st k hlt wr (HR.out.later HBW.out)).mono ?_
                rintro e w' ⟨rfl, nq, rfl⟩
                rw [hlb]
                go_wp2_with fail
                refine (youngAny ⟨2, xo, xt, xp, xq, xkey, xval⟩ now hz HFX.out (by omega) _).mono ?_
                rintro e w' ⟨rfl, rfl⟩
                rw [hy]
                go_wp2_with (at_builtin; refine wpList_append_recs _ rfl _ _ rfl _ _ (cmp st now hz k).1 [⟨2, xo, xt, xp, xq, xkey, xval⟩] q rfl rfl ?hOwn ?hSrc ?hLen ?hR ?_)
                case hOwn => exact HO.out.later ((below_drewN (Below.refl _ _) _).alloc (Nat.le_refl _) _)
                case hSrc => exact src_rec (wr.drewN nq) ⟨2, xo, xt, xp, xq, xkey, xval⟩
                case hLen => have := HLEN.out; simp; omega
                case hR => exact .inr (by simp)
                intro v' w3 g3 ho3 hg3 hr3
                obtain ⟨a3, c3', rfl, -, -⟩ := ho3.shape
                have HO3 : Hid (OwnR w3 (.slice a3 ((cmp st now hz k).1 ++ [(⟨2, xo, xt, xp, xq, xkey, xval⟩ : Rc)]).length c3') (cmp st now hz (k + 1)).1 (some g3)) := by unfold Hid; rw [HN1.out]; exact ho3
                have HBQ : Hid (Below w2.heap.size w2 (wr.drewN nq)) := below_drewN HBL.out _
                have HQ3 : Hid (w2.heap.size ≤ g3) := by
                  have h1 := HBQ.out.size
                  unfold Hid
                  rcases hr3 with e | rfl
                  · exact HQ.out g3 e.symm
                  · simp at h1 ⊢; omega
                have HB3 : Hid (Below w2.heap.size w2 w3) := (HBQ.out.alloc HBQ.out.size _).trans (grow_below hg3 (by have := HBL.out.size; simp; omega) HQ.out)
                have HM1 : Hid ((cmp st now hz (k + 1)).2 = M) := by unfold Hid; rw [HN1.out]
                generalize ((cmp st now hz k).1 ++ [(⟨2, xo, xt, xp, xq, xkey, xval⟩ : Rc)]).length = n3 at HO3 ⊢
                clear ho3 hg3 hr3
                go_wp2
                go_roundw
                case rel => exact ⟨k + 1, some g3, a3, n3, c3', by omega, by go_num, rfl, by rw [HM1.out], HO3.out, fun g hg => by simp at hg; have := HQ3.out; omega, HB3.out⟩
                case measure => simp [intOf]; omega
              | false =>
                have HN1 : Hid (cmp st now hz (k + 1) = ((cmp st now hz k).1, if xo + 1 > M then xo + 1 else M)) := HS2.out hlb (by rw [HKP.out, hy]; rfl)
                clear HS0 HS1 HS2 HKP
                go_wp2_with fail
                refine (lastAny _ st k hlt wr (HR.out.later HBW.out)).mono ?_
                rintro e w' ⟨rfl, nq, rfl⟩
                rw [hlb]
                go_wp2_with fail
                refine (youngAny ⟨2, xo, xt, xp, xq, xkey, xval⟩ now hz HFX.out (by omega) _).mono ?_
                rintro e w' ⟨rfl, rfl⟩
                rw [hy]
                have HMX : Hid ((if xo + 1 > M then xo + 1 else M) = (cmp st now hz (k + 1)).2) := by unfold Hid; rw [HN1.out]
                go_wp2_with (refine wpList_maxN (by with_reducible rfl) _ _ 2 2 _ _ _ (by with_reducible rfl) (by rfl) (by rfl) HMX.out ?_)
                go_wp2
                go_roundw
                case rel => exact ⟨k + 1, q, a9, n9, c9, by omega, by go_num, rfl, rfl, by rw [HN1.out]; exact HO.out.later (below_drewN (Below.refl _ _) _), HQ.out, below_drewN HBL.out _⟩
                case measure => simp [intOf]; omega
        · obtain rfl : k = st.length := by omega
          clear HC
          go_wp2
          go_ret2
          exact ⟨_, q, by rw [HF2.out]; rfl, by rw [HF2.out]; exact HO.out, fun g hg => by have := HQ.out g hg; have := HB2.out.size; omega, HBW.out⟩
end Go.Proofs.Ytpdhkojiehifeaa
