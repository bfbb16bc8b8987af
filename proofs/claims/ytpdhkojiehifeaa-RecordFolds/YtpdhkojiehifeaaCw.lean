import Derived.Test.YtpdhkojiehifeaaCp
/-! The program's Compact. -/
namespace Go.Proofs.Ytpdhkojiehifeaa
open Go.RowKit Plain Go.WideMaps Go.Maps
set_option linter.unusedVariables false

def CompPost (w : World) (st : List Rc) (now hz : Int) : Ending → World → Prop := fun e w' =>
  ∃ v r, e = .returned (.tuple #[v, .int .i64 (comp st now hz).2]) ∧ OwnR w' v (comp st now hz).1 r ∧ (∀ g, r = some g → w.heap.size ≤ g) ∧ Below w.heap.size w w'

theorem comp_bad {st : List Rc} {now hz : Int} (h : badC st now hz = true) : comp st now hz = ([], 0) := by unfold comp; rw [if_pos h]

theorem compactBad0 (v : Value) (st : List Rc) (now hz : Int) (w : World) (h : RecsAt w v st) (hb : now < 0 ∨ hz < 0) : Calls Try.prog 6 #[v, .int .i64 now, .int .i64 hz] w (CompPost w st now hz) := by
  have HP : Hid (∀ w', Below w.heap.size w w' → CompPost w st now hz (.returned (.tuple #[.slice none 0 0, .int .i64 0])) w') := fun w' hw => by
    have e : comp st now hz = ([], 0) := comp_bad (by unfold badC; rcases hb with h | h <;> simp [h])
    exact ⟨_, none, by rw [e], by rw [e]; exact OwnR.nil _, by simp, hw⟩
  obtain ⟨a, cap, rfl, hcl, -, -⟩ := h
  by_cases h1 : now < 0
  · clear hb
    go_enter Try.func6, Try.ntmps6
    go_wp2
    go_ret2
    exact HP.out _ (Below.refl _ _)
  · have h2 : hz < 0 := by omega
    clear hb
    go_enter Try.func6, Try.ntmps6
    go_wp2
    go_ret2
    exact HP.out _ (Below.refl _ _)

theorem compactBad1 (v : Value) (st : List Rc) (now hz : Int) (w : World) (h : RecsAt w v st) (h1 : ¬ now < 0) (h2 : ¬ hz < 0) (hb : st.all okB = false) : Calls Try.prog 6 #[v, .int .i64 now, .int .i64 hz] w (CompPost w st now hz) := by
  have HP : Hid (∀ w', Below w.heap.size w w' → CompPost w st now hz (.returned (.tuple #[.slice none 0 0, .int .i64 0])) w') := fun w' hw => by
    have e : comp st now hz = ([], 0) := comp_bad (by unfold badC; simp [hb])
    exact ⟨_, none, by rw [e], by rw [e]; exact OwnR.nil _, by simp, hw⟩
  have HR : Hid (RecsAt w v st) := h
  obtain ⟨a, cap, rfl, hcl, -, -⟩ := h
  go_enter Try.func6, Try.ntmps6
  go_wp2_with fail
  refine (allRightAny _ st w HR.out).mono ?_
  rintro e w1 ⟨rfl, hb1⟩
  have HB1 : Hid (Below w.heap.size w w1) := hb1
  clear hb1
  go_wp2
  go_ret2
  exact HP.out _ HB1.out

set_option maxHeartbeats 2000000 in
theorem compactGood (v : Value) (st : List Rc) (now hz : Int) (w : World) (h : RecsAt w v st) (h1 : ¬ now < 0) (h2 : ¬ hz < 0) (hn2 : now ≤ 9223372036854775807) (hz2 : hz ≤ 9223372036854775807) (hb : st.all okB = true) : Calls Try.prog 6 #[v, .int .i64 now, .int .i64 hz] w (CompPost w st now hz) := by
  have HE : Hid (comp st now hz = cmp st now hz st.length) := by unfold Hid comp; rw [if_neg (by unfold badC; simp [hb]; omega)]
  have HFN : Hid (∀ x ∈ st, Fine x) := fun x hx => fine_of (List.all_eq_true.mp hb x hx)
  have HR : Hid (RecsAt w v st) := h
  obtain ⟨a, cap, rfl, hcl, hok, hcells⟩ := h
  have HC : Hid (st ≠ [] → ∃ b off, a = some ⟨b, off, none⟩ ∧ ∀ j, j < st.length → CellsAt w b (off + j * 7) (st.getD j Rc.none)) := hcells
  have HOK : Hid (∀ x ∈ st, x.Ok) := hok
  obtain ⟨Hz, hHz⟩ : ∃ Hz, hor hz = Hz := ⟨_, rfl⟩
  have hHzb : 0 ≤ Hz ∧ Hz ≤ 1099511627776 := by rw [← hHz]; unfold hor; split <;> omega
  have HMIN : Hid ((if (1099511627776 : Int) < hz then 1099511627776 else hz) = Hz) := hHz
  have HHZ : Hid (hor hz = Hz) := hHz
  clear hcells hok hHz
  go_enter Try.func6, Try.ntmps6
  go_wp2_with fail
  refine (allRightAny _ st w HR.out).mono ?_
  rintro e w1 ⟨rfl, hb1⟩
  have HB1 : Hid (Below w.heap.size w w1) := hb1
  clear hb1
  go_wp2_with (refine wpList_minN (by with_reducible rfl) _ _ 2 2 _ _ _ (by with_reducible rfl) (by rfl) (by rfl) HMIN.out ?_)
  go_wp2_with fail
  refine (lastOfKeys (H := Unit) _ st w1 (HR.out.later HB1.out)).mono ?_
  rintro e w2 ⟨rfl, ⟨D, hD, hLD⟩, hb2⟩
  have HD : Hid (w2.ownsMap Try.prog 9 (plainElem Try.prog 3) w1.heap.size st.length D) := hD
  have HL : Hid (LastD st st.length D) := hLD
  have HB2 : Hid (Below w.heap.size w w2) := below_on HB1.out hb2
  clear hD hLD hb2 hb
  go_wp2
  go_loopw [9, 10, 30] (fun s9 s10 s30 wr => ∃ (k : Nat) (q : Option Nat) (a9 : Option Addr) (n9 c9 : Nat), k ≤ st.length ∧ s30 = .int .i64 k ∧ s9 = .slice a9 n9 c9 ∧ s10 = .int .i64 (cmp st now hz k).2 ∧ OwnR wr (.slice a9 n9 c9) (cmp st now hz k).1 q ∧ (∀ g, q = some g → w2.heap.size ≤ g) ∧ Below w2.heap.size w2 wr) (fun _ _ i _ => st.length - (intOf i).toNat)
  case atStart => exact ⟨0, none, none, 0, 0, by omega, rfl, rfl, rfl, OwnR.nil _, by simp, Below.refl _ _⟩
  case round =>
    obtain ⟨k, q, a9, n9, c9, hk, rfl, rfl, rfl, hown, hq, hbl⟩ := hrel
    have HO : Hid (OwnR wr (.slice a9 n9 c9) (cmp st now hz k).1 q) := hown
    have HQ : Hid (∀ g, q = some g → w2.heap.size ≤ g) := hq
    have HBL : Hid (Below w2.heap.size w2 wr) := hbl
    have HBW : Hid (Below w.heap.size w wr) := below_on HB2.out hbl
    have HMP : Hid (wr.ownsMap Try.prog 9 (plainElem Try.prog 3) w1.heap.size st.length D) := ownsMap_later HD.out hbl
    have HLEN : Hid ((cmp st now hz k).1.length ≤ k) := cmp_len st now hz k
    have hmk := cmp_mark st now hz HFN.out k hk
    clear hown hq hbl
    by_cases hlt : k < st.length
    · have hne : st ≠ [] := by rintro rfl; simp at hlt
      obtain ⟨b, off, rfl, hc⟩ := HC.out hne
      have hck := hc k hlt
      have hck' := hck.block (HBW.out.block b hck.lt)
      have hmem : st.getD k Rc.none ∈ st := by rw [List.getD_eq_getElem?_getD, List.getElem?_eq_getElem hlt]; exact List.getElem_mem _
      have hkey : keyOf Try.prog 9 (.string (rk st k)) = some (klit (rk st k)) := keyOf_string_mk Try.underlying9 (HOK.out _ hmem).key
      have hfx := HFN.out _ hmem
      have HFD : Hid (∀ c : Int, D.atKey (klit (rk st k)) (.lit (.int .i64 0)) = .lit (.int .i64 c) → (c == (k : Int)) = lastB st k) := fun c hc => HL.out.found hlt hc
      have HS0 : Hid (lastB st k = false → cmp st now hz (k + 1) = cmp st now hz k) := fun h => cstep_skip _ h
      have HS1 : Hid (lastB st k = true → keepB now hz (st.getD k Rc.none) = true → cmp st now hz (k + 1) = ((cmp st now hz k).1 ++ [st.getD k Rc.none], (cmp st now hz k).2)) := fun h h' => cstep_keep _ h h'
      have HS2 : Hid (lastB st k = true → keepB now hz (st.getD k Rc.none) = false → cmp st now hz (k + 1) = ((cmp st now hz k).1, if (st.getD k Rc.none).o + 1 > (cmp st now hz k).2 then (st.getD k Rc.none).o + 1 else (cmp st now hz k).2)) := fun h h' => cstep_mark _ h h'
      have HKP : Hid (keepB now hz (st.getD k Rc.none) = ((st.getD k Rc.none).k == 1 || decide (now < (st.getD k Rc.none).t + Hz))) := by unfold Hid keepB youngB; rw [HHZ.out]
      unfold rk at hkey HFD
      generalize st.getD k Rc.none = x at hck' hkey hfx HFD HS1 HS2 HKP
      obtain ⟨xk, xo, xt, xp, xq, xkey, xval⟩ := x
      obtain ⟨c0, c1, c2, c3, c4, c5, c6⟩ := hck'
      obtain ⟨f0, f1, f2⟩ := hfx
      simp only at c0 c1 c2 c3 c4 c5 c6 hkey f0 f1 f2 HFD HS2 HKP
      have hsum : wrap64 (xt + Hz) = xt + Hz := by unfold wrap64; omega
      have hoff : wrap64 (xo + 1) = xo + 1 := by unfold wrap64; omega
      clear hck hc hne hmem
      have HBA : Hid (Below w2.heap.size w2 (wr.alloc (.cells #[.int .i64 xk, .int .i64 xo, .int .i64 xt, .int .i64 xp, .int .i64 xq, .string xkey, .string xval] 32))) := HBL.out.alloc HBL.out.size _
      generalize hM : (cmp st now hz k).2 = M at hmk HS1 HS2
      cases hlb : lastB st k with
      | false =>
        have HN1 : Hid (cmp st now hz (k + 1) = cmp st now hz k) := HS0.out hlb
        clear HS0 HS1 HS2 HKP
        go_wp2_with (at_lookup; refine wpList_lookup_own_int _ rfl _ _ 33 rfl 9 3 .i64 klaw Try.underlying33 Try.underlying3 (kzero _) w1.heap.size st.length _ rfl (HMP.out.alloc _) _ _ rfl hkey ?_)
        intro c hat hwc
        have hcne : (c != (k : Int)) = true := by have := HFD.out c hat; rw [hlb] at this; simpa using this
        clear hat hwc
        go_wp2
        go_roundw
        case rel => exact ⟨k + 1, q, a9, n9, c9, by omega, by go_num, rfl, by rw [HN1.out, hM], by rw [HN1.out]; exact HO.out.later ((Below.refl _ _).alloc (Nat.le_refl _) _), HQ.out, HBA.out⟩
        case measure => simp [intOf]; omega
      | true =>
        rcases f0 with rfl | rfl
        · have HN1 : Hid (cmp st now hz (k + 1) = ((cmp st now hz k).1 ++ [⟨1, xo, xt, xp, xq, xkey, xval⟩], M)) := HS1.out hlb (by rw [HKP.out]; rfl)
          clear HS0 HS1 HS2 HKP
          go_wp2_with (at_lookup; refine wpList_lookup_own_int _ rfl _ _ 33 rfl 9 3 .i64 klaw Try.underlying33 Try.underlying3 (kzero _) w1.heap.size st.length _ rfl (HMP.out.alloc _) _ _ rfl hkey ?_)
          intro c hat hwc
          obtain rfl : c = (k : Int) := by have := HFD.out c hat; rw [hlb] at this; simpa using this
          clear hat hwc
          go_wp2_with (at_builtin; refine wpList_append_recs _ rfl _ _ rfl _ _ (cmp st now hz k).1 [⟨1, xo, xt, xp, xq, xkey, xval⟩] q rfl rfl ?hOwn ?hSrc ?hLen ?hR ?_)
          case hOwn => exact HO.out.later (((Below.refl _ _).alloc (Nat.le_refl _) _).alloc (by simp) _)
          case hSrc =>
            have := src_rec (wr.alloc (.cells #[.int .i64 1, .int .i64 xo, .int .i64 xt, .int .i64 xp, .int .i64 xq, .string xkey, .string xval] 32)) ⟨1, xo, xt, xp, xq, xkey, xval⟩
            rw [show (wr.alloc (.cells #[.int .i64 1, .int .i64 xo, .int .i64 xt, .int .i64 xp, .int .i64 xq, .string xkey, .string xval] 32)).heap.size = wr.heap.size + 1 by simp] at this
            exact this
          case hLen => have := HLEN.out; simp; omega
          case hR => exact .inr (by simp)
          intro v' w3 g3 ho3 hg3 hr3
          obtain ⟨a3, c3', rfl, -, -⟩ := ho3.shape
          have HO3 : Hid (OwnR w3 (.slice a3 ((cmp st now hz k).1 ++ [(⟨1, xo, xt, xp, xq, xkey, xval⟩ : Rc)]).length c3') (cmp st now hz (k + 1)).1 (some g3)) := by unfold Hid; rw [HN1.out]; exact ho3
          have HQ3 : Hid (w2.heap.size ≤ g3) := by
            have h1 := HBL.out.size
            unfold Hid
            rcases hr3 with e | rfl
            · exact HQ.out g3 e.symm
            · simp; omega
          have HB3 : Hid (Below w2.heap.size w2 w3) := (HBA.out.alloc HBA.out.size _).trans (grow_below hg3 (by have := HBL.out.size; simp; omega) HQ.out)
          have HM1 : Hid ((cmp st now hz (k + 1)).2 = M) := by unfold Hid; rw [HN1.out]
          generalize ((cmp st now hz k).1 ++ [(⟨1, xo, xt, xp, xq, xkey, xval⟩ : Rc)]).length = n3 at HO3 ⊢
          clear ho3 hg3 hr3
          go_wp2
          go_roundw
          case rel => exact ⟨k + 1, some g3, a3, n3, c3', by omega, by go_num, rfl, by rw [HM1.out], HO3.out, fun g hg => by simp at hg; have := HQ3.out; omega, HB3.out⟩
          case measure => simp [intOf]; omega
        · by_cases hy : now < xt + Hz
          · have HN1 : Hid (cmp st now hz (k + 1) = ((cmp st now hz k).1 ++ [⟨2, xo, xt, xp, xq, xkey, xval⟩], M)) := HS1.out hlb (by rw [HKP.out]; simp [hy])
            clear HS0 HS1 HS2 HKP
            go_wp2_with (at_lookup; refine wpList_lookup_own_int _ rfl _ _ 33 rfl 9 3 .i64 klaw Try.underlying33 Try.underlying3 (kzero _) w1.heap.size st.length _ rfl (HMP.out.alloc _) _ _ rfl hkey ?_)
            intro c hat hwc
            obtain rfl : c = (k : Int) := by have := HFD.out c hat; rw [hlb] at this; simpa using this
            clear hat hwc
            go_wp2_with (at_builtin; refine wpList_append_recs _ rfl _ _ rfl _ _ (cmp st now hz k).1 [⟨2, xo, xt, xp, xq, xkey, xval⟩] q rfl rfl ?hOwn ?hSrc ?hLen ?hR ?_)
            case hOwn => exact HO.out.later (((Below.refl _ _).alloc (Nat.le_refl _) _).alloc (by simp) _)
            case hSrc =>
              have := src_rec (wr.alloc (.cells #[.int .i64 2, .int .i64 xo, .int .i64 xt, .int .i64 xp, .int .i64 xq, .string xkey, .string xval] 32)) ⟨2, xo, xt, xp, xq, xkey, xval⟩
              rw [show (wr.alloc (.cells #[.int .i64 2, .int .i64 xo, .int .i64 xt, .int .i64 xp, .int .i64 xq, .string xkey, .string xval] 32)).heap.size = wr.heap.size + 1 by simp] at this
              exact this
            case hLen => have := HLEN.out; simp; omega
            case hR => exact .inr (by simp)
            intro v' w3 g3 ho3 hg3 hr3
            obtain ⟨a3, c3', rfl, -, -⟩ := ho3.shape
            have HO3 : Hid (OwnR w3 (.slice a3 ((cmp st now hz k).1 ++ [(⟨2, xo, xt, xp, xq, xkey, xval⟩ : Rc)]).length c3') (cmp st now hz (k + 1)).1 (some g3)) := by unfold Hid; rw [HN1.out]; exact ho3
            have HQ3 : Hid (w2.heap.size ≤ g3) := by
              have h1 := HBL.out.size
              unfold Hid
              rcases hr3 with e | rfl
              · exact HQ.out g3 e.symm
              · simp; omega
            have HB3 : Hid (Below w2.heap.size w2 w3) := (HBA.out.alloc HBA.out.size _).trans (grow_below hg3 (by have := HBL.out.size; simp; omega) HQ.out)
            have HM1 : Hid ((cmp st now hz (k + 1)).2 = M) := by unfold Hid; rw [HN1.out]
            generalize ((cmp st now hz k).1 ++ [(⟨2, xo, xt, xp, xq, xkey, xval⟩ : Rc)]).length = n3 at HO3 ⊢
            clear ho3 hg3 hr3
            go_wp2
            go_roundw
            case rel => exact ⟨k + 1, some g3, a3, n3, c3', by omega, by go_num, rfl, by rw [HM1.out], HO3.out, fun g hg => by simp at hg; have := HQ3.out; omega, HB3.out⟩
            case measure => simp [intOf]; omega
          · have HN1 : Hid (cmp st now hz (k + 1) = ((cmp st now hz k).1, if xo + 1 > M then xo + 1 else M)) := HS2.out hlb (by rw [HKP.out]; simp; omega)
            clear HS0 HS1 HS2 HKP
            go_wp2_with (at_lookup; refine wpList_lookup_own_int _ rfl _ _ 33 rfl 9 3 .i64 klaw Try.underlying33 Try.underlying3 (kzero _) w1.heap.size st.length _ rfl (HMP.out.alloc _) _ _ rfl hkey ?_)
            intro c hat hwc
            obtain rfl : c = (k : Int) := by have := HFD.out c hat; rw [hlb] at this; simpa using this
            clear hat hwc
            have HMX : Hid ((if xo + 1 > M then xo + 1 else M) = (cmp st now hz (k + 1)).2) := by unfold Hid; rw [HN1.out]
            go_wp2_with (refine wpList_maxN (by with_reducible rfl) _ _ 2 2 _ _ _ (by with_reducible rfl) (by rfl) (by rfl) HMX.out ?_)
            go_wp2
            go_roundw
            case rel => exact ⟨k + 1, q, a9, n9, c9, by omega, by go_num, rfl, rfl, by rw [HN1.out]; exact HO.out.later ((Below.refl _ _).alloc (Nat.le_refl _) _), HQ.out, HBA.out⟩
            case measure => simp [intOf]; omega
    · obtain rfl : k = st.length := by omega
      have HF2 : Hid (comp st now hz = cmp st now hz st.length) := HE.out
      clear HC
      go_wp2
      go_ret2
      exact ⟨_, q, by rw [HF2.out]; rfl, by rw [HF2.out]; exact HO.out, fun g hg => by have := HQ.out g hg; have := HB2.out.size; omega, HBW.out⟩
end Go.Proofs.Ytpdhkojiehifeaa
