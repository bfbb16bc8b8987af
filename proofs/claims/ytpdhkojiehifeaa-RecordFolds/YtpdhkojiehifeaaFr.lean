import Derived.Test.YtpdhkojiehifeaaAp
import Derived.Test.YtpdhkojiehifeaaFp
import Derived.Test.YtpdhkojiehifeaaCr
/-! The document's Fold. -/
namespace Go.Proofs.Ytpdhkojiehifeaa
open Go.RowKit Plain Go.WideMaps Go.Maps
set_option linter.unusedVariables false

theorem quiet_plus {P : Program} {f : FuncId} {args : Array Value} {w : World} {n x : Nat} {v : Value}
    (h : Calls P f args (w.drewN (n + x)) fun e w' => e = .returned v ∧ ∃ m, w' = (w.drewN (n + x)).drewN m) : Calls P f args (w.drewN (n + x)) fun e w'' => e = .returned v ∧ ∃ m, w'' = w.drewN (n + m) :=
  h.mono fun _ _ ⟨he, m, hm⟩ => ⟨he, x + m, by rw [hm, World.drewN_drewN, Nat.add_assoc]⟩

def FoldPost (w : World) (st : List Rc) : Ending → World → Prop := fun e w' =>
  ∃ v r L, e = .returned v ∧ Folded st L ∧ OwnR w' v L r ∧ (∀ g, r = some g → w.heap.size ≤ g) ∧ Below w.heap.size w w'

set_option maxHeartbeats 2000000 in
theorem refFold (v : Value) (st : List Rc) (w : World) (h : RecsAt w v st) : Calls Try.prog 13 #[v] w (FoldPost w st) := by
  have HR : Hid (RecsAt w v st) := h
  obtain ⟨a, cap, rfl, hcl, hok, hcells⟩ := h
  have HC : Hid (st ≠ [] → ∃ b off, a = some ⟨b, off, none⟩ ∧ ∀ j, j < st.length → CellsAt w b (off + j * 7) (st.getD j Rc.none)) := hcells
  have HOK : Hid (∀ x ∈ st, x.Ok) := hok
  have HFD : Hid (Folded st (rf st st.length)) := rf_folded st
  clear hcells hok
  go_enter Try.func13, Try.ntmps13
  go_wp2
  go_loopw [3, 4] (fun s3 s4 wr => ∃ (k : Nat) (q : Option Nat) (a3 : Option Addr) (n3 c3 : Nat), k ≤ st.length ∧ s4 = .int .i64 k ∧ s3 = .slice a3 n3 c3 ∧ OwnR wr (.slice a3 n3 c3) (rf st k) q ∧ (∀ g, q = some g → w.heap.size ≤ g) ∧ Below w.heap.size w wr) (fun _ i _ => st.length - (intOf i).toNat)
  case atStart => exact ⟨0, none, none, 0, 0, by omega, rfl, rfl, OwnR.nil _, by simp, Below.refl _ _⟩
  case round =>
    obtain ⟨k, q, a3, n3, c3, hk, rfl, rfl, hown, hq, hbl⟩ := hrel
    have HO : Hid (OwnR wr (.slice a3 n3 c3) (rf st k) q) := hown
    have HQ : Hid (∀ g, q = some g → w.heap.size ≤ g) := hq
    have HBL : Hid (Below w.heap.size w wr) := hbl
    have HLEN : Hid ((rf st k).length ≤ k) := rf_len st k
    have HN3 : Hid (n3 = (rf st k).length) := by
      unfold Hid
      rcases hown with ⟨h0, h1, _⟩ | ⟨_, _, _, h0, _⟩
      · injection h0 with _ h0 _; rw [h1, h0]; rfl
      · injection h0 with _ h0 _
    have hnb : n3 ≤ 2199023255000 := by have := HN3.out; have := HLEN.out; omega
    clear hown hq hbl
    by_cases hlt : k < st.length
    · have hne : st ≠ [] := by rintro rfl; simp at hlt
      obtain ⟨b, off, rfl, hc⟩ := HC.out hne
      have hck := hc k hlt
      have hck' := hck.block (HBL.out.block b hck.lt)
      have hbl2 := hck'.lt
      have HX : Hid (st.getD k Rc.none).Ok := HOK.out (st.getD k Rc.none) (by simp [hlt])
      have HLB : Hid (liveB st k = (lastB st k && ((st.getD k Rc.none).k == 1))) := rfl
      have HY : Hid (liveB st k = true → rf st (k + 1) = ins (st.getD k Rc.none) (rf st k)) := fun h => rf_yes h
      have HNO : Hid (liveB st k = false → rf st (k + 1) = rf st k) := fun h => rf_no h
      have HOO : Hid (∀ x ∈ rf st k, x.Ok) := fun x hx => HOK.out x (rf_mem st k hk x hx)
      have hckx := hck
      generalize st.getD k Rc.none = x at hck' hckx HX HLB HY
      obtain ⟨xk, xo, xt, xp, xq, xkey, xval⟩ := x
      have HCK : Hid (CellsAt w b (off + k * 7) ⟨xk, xo, xt, xp, xq, xkey, xval⟩) := hckx
      clear hckx
      obtain ⟨c0, c1, c2, c3', c4, c5, c6⟩ := hck'
      simp only at c0 c1 c2 c3' c4 c5 c6 HLB
      clear hck hc hne
      by_cases hk1 : xk = 1
      · subst hk1
        cases hlb : lastB st k with
        | false =>
          have HN1 : Hid (rf st (k + 1) = rf st k) := HNO.out (by rw [HLB.out, hlb]; rfl)
          clear HY HNO
          go_wp2_with fail
          refine (lastAny _ st k hlt wr (HR.out.later HBL.out)).mono ?_
          rintro e w' ⟨rfl, nq, rfl⟩
          rw [hlb]
          go_wp2
          go_roundw
          case rel => exact ⟨k + 1, q, a3, n3, c3, by omega, by go_num, rfl, by rw [HN1.out]; exact HO.out.later (below_drewN (Below.refl _ _) _), HQ.out, below_drewN HBL.out _⟩
          case measure => simp [intOf]; omega
        | true =>
          have HN1 : Hid (rf st (k + 1) = ins ⟨1, xo, xt, xp, xq, xkey, xval⟩ (rf st k)) := HY.out (by rw [HLB.out, hlb]; rfl)
          clear HY HNO
          go_wp2_with fail
          refine (lastAny _ st k hlt wr (HR.out.later HBL.out)).mono ?_
          rintro e w' ⟨rfl, nq, rfl⟩
          rw [hlb]
          go_wp2
          obtain ⟨w5, hw5⟩ : ∃ w5, w5 = wr := ⟨_, rfl⟩
          subst hw5
          go_loopw [6] (fun s6 wx => ∃ j n : Nat, wx = w5.drewN n ∧ j ≤ n3 ∧ s6 = .int .i64 j ∧ Hid (∀ i, i < j → ltK ((rf st k).getD i Rc.none) ⟨1, xo, xt, xp, xq, xkey, xval⟩ = true)) (fun i _ => n3 - (intOf i).toNat)
          case atStart => exact ⟨0, _, rfl, by omega, rfl, fun i hi => by omega⟩
          case round =>
            obtain ⟨j, n, rfl, hj, rfl, HJ⟩ := hrel
            by_cases hjl : j < n3
            · obtain ⟨g, hqg, hag⟩ : ∃ g, q = some g ∧ a3 = some ⟨g, 0, none⟩ := by
                rcases HO.out with ⟨h0, _, _⟩ | ⟨g, cap', e, e2, _⟩
                · injection h0 with _ h0 _; omega
                · injection e2 with e3 _ _; exact ⟨g, e, e3⟩
              subst hqg hag
              have hd := HO.out.at (j := j) (by rw [← HN3.out]; exact hjl)
              have d5 := hd.c5
              have hgl := hd.lt
              have hyo : ((rf st k).getD j Rc.none).Ok := HOO.out _ (by have := HN3.out; rw [List.getD_eq_getElem?_getD, List.getElem?_eq_getElem (by omega)]; exact List.getElem_mem _)
              have HCM : Hid (∀ w, Calls Try.prog 22 #[.string ((rf st k).getD j Rc.none).key, .string xkey] w fun e w' => e = .returned (.int .i64 (cmpL ((rf st k).getD j Rc.none).key.data.toList xkey.data.toList)) ∧ ∃ n, w' = w.drewN n) := fun w => refCompare _ _ w hyo.key HX.out.key
              have HT : Hid (cmpL ((rf st k).getD j Rc.none).key.data.toList xkey.data.toList < 0 → ∀ i, i < j + 1 → ltK ((rf st k).getD i Rc.none) ⟨1, xo, xt, xp, xq, xkey, xval⟩ = true) := fun h i hi => by
                by_cases e : i = j
                · subst e; rw [ltK_t]; exact h
                · exact HJ.out i (by omega)
              have HE : Hid (¬ cmpL ((rf st k).getD j Rc.none).key.data.toList xkey.data.toList < 0 → j = pl ⟨1, xo, xt, xp, xq, xkey, xval⟩ (rf st k)) := fun h => pl_is _ _ j (by have := HN3.out; omega) HJ.out (fun _ => by rw [ltK_f]; exact h)
              generalize cmpL ((rf st k).getD j Rc.none).key.data.toList xkey.data.toList = C at HCM HT HE
              generalize ((rf st k).getD j Rc.none).key = ykey at d5 HCM
              clear hd hyo
              by_cases hC : C < 0
              · have HT1 : Hid (∀ i, i < j + 1 → ltK ((rf st k).getD i Rc.none) ⟨1, xo, xt, xp, xq, xkey, xval⟩ = true) := HT.out hC
                clear HT HE
                go_wp2
                go_quiet ((go_at_call 22; exact quiet_plus (HCM.out _)))
                go_wp2
                go_roundw
                case rel => exact ⟨j + 1, _, rfl, by omega, by go_num, HT1.out⟩
                case measure => simp [intOf]; omega
              · have HE1 : Hid (j = pl ⟨1, xo, xt, xp, xq, xkey, xval⟩ (rf st k)) := HE.out hC
                clear HT HE
                go_wp2
                go_quiet ((go_at_call 22; exact quiet_plus (HCM.out _)))
                have hc3 : n3 ≤ c3 ∧ c3 ≤ 9223372036854775807 := by
                  rcases HO.out with ⟨h0, _, _⟩ | ⟨g, cap', e, e2, _, h1, h2, _⟩
                  · injection h0 with _ h0 h3; omega
                  · injection e2 with _ e3 e4; unfold maxLen at h2; omega
                have HT0 : Hid (rf st (k + 1) = (rf st k).take j ++ [⟨1, xo, xt, xp, xq, xkey, xval⟩] ++ (rf st k).drop j) := by unfold Hid; rw [HN1.out]; unfold ins; rw [← HE1.out]
                have hTl : ((rf st k).take j).length = j := by have := HN3.out; simp; omega
                have hDl : ((rf st k).drop j).length = n3 - j := by have := HN3.out; simp; omega
                have HS1 : Hid (∀ W', Below w5.heap.size w5 W' → Src Try.prog 7 22 (.slice (some ⟨g, 0, none⟩) j c3) ((rf st k).take j).length (rcells ((rf st k).take j)) W') := fun W' hW => (HO.out.later hW).srcTake (by have := HN3.out; omega) c3
                have HS2 : Hid (∀ W', OwnR W' (.slice (some ⟨g, 0, none⟩) n3 c3) (rf st k) (some g) → ¬ c3 = j → Src Try.prog 7 22 (.slice (some ⟨g, j * 7, none⟩) (n3 - j) (c3 - j)) ((rf st k).drop j).length (rcells ((rf st k).drop j)) W') := fun W' hW _ => hW.srcDrop (by have := HN3.out; omega) _ _ (by have := HN3.out; omega)
                have HS3 : Hid (c3 = j → (rf st k).drop j = []) := fun h => List.eq_nil_of_length_eq_zero (by omega)
                generalize (rf st k).take j = T at HT0 hTl HS1
                generalize (rf st k).drop j = Dp at HT0 hDl HS2 HS3
                go_wp2_with (at_builtin; refine wpList_append_any _ rfl _ _ rfl _ _ [] T none rfl rfl (OwnR.nil _) ?hSrcA ?hLenA ?_)
                case hSrcA => first | exact HS1.out _ (below_drewN (Below.refl _ _) _) | exact HS1.out _ (below_drewN (below_drewN (Below.refl _ _) _) _)
                case hLenA => simp; omega
                intro v6 w6 r6 ho6 hg6 hr6
                have HO6 : Hid (OwnR w6 v6 T r6) := ho6
                have HB6 : Hid (Below w5.heap.size w5 w6) := by
                  unfold Hid
                  first | exact (below_drewN (Below.refl _ _) _).trans (grow_below hg6 (Nat.le_refl _) (by simp)) | exact (below_drewN (below_drewN (Below.refl _ _) _) _).trans (grow_below hg6 (Nat.le_refl _) (by simp))
                have HR6 : Hid (∀ g', r6 = some g' → w5.heap.size ≤ g') := fun g' hg' => by
                  rcases hr6 with rfl | rfl
                  · simp at hg'
                  · simp at hg'; omega
                obtain ⟨a6, c6', rfl, -, -⟩ := HO6.out.shape
                rw [hTl] at HO6 ⊢
                have hx6 := HCK.out.block ((below_on HBL.out HB6.out).block b HCK.out.lt)
                obtain ⟨e0, e1, e2, e3, e4, e5, e6⟩ := hx6
                simp only at e0 e1 e2 e3 e4 e5 e6
                have HKO6 : Hid (OwnR w6 (.slice (some ⟨g, 0, none⟩) n3 c3) (rf st k) (some g)) := HO.out.later HB6.out
                clear ho6 hg6 hr6
                go_wp2_with (at_builtin; refine wpList_append_any _ rfl _ _ rfl _ _ T [⟨1, xo, xt, xp, xq, xkey, xval⟩] r6 rfl rfl ?hOwnB ?hSrcB ?hLenB ?_)
                case hOwnB => exact HO6.out.later ((Below.refl _ _).alloc (Nat.le_refl _) _)
                case hSrcB => exact src_rec w6 ⟨1, xo, xt, xp, xq, xkey, xval⟩
                case hLenB => simp; omega
                intro v7 w7 r7 ho7 hg7 hr7
                have HO7 : Hid (OwnR w7 v7 (T ++ [⟨1, xo, xt, xp, xq, xkey, xval⟩]) r7) := ho7
                have HR7 : Hid (∀ g', r7 = some g' → w5.heap.size ≤ g') := fun g' hg' => by
                  have := HB6.out.size
                  rcases hr7 with rfl | rfl
                  · exact HR6.out g' hg'
                  · simp at hg'; omega
                have HB7 : Hid (Below w5.heap.size w5 w7) := (HB6.out.alloc HB6.out.size _).trans (grow_below hg7 (by have := HB6.out.size; simp; omega) HR6.out)
                have HKO7 : Hid (OwnR w7 (.slice (some ⟨g, 0, none⟩) n3 c3) (rf st k) (some g)) := HO.out.later HB7.out
                obtain ⟨a7, c7', rfl, -, -⟩ := HO7.out.shape
                have hl7 : (T ++ [(⟨1, xo, xt, xp, xq, xkey, xval⟩ : Rc)]).length = j + 1 := by rw [List.length_append, hTl]; rfl
                rw [hl7] at HO7 ⊢
                clear ho7 hg7 hr7 e0 e1 e2 e3 e4 e5 e6
                by_cases hcj : c3 = j
                · have hnj : n3 = j := by omega
                  have HDN : Hid (Dp = []) := HS3.out hcj
                  go_wp2_with (at_builtin; refine wpList_append_any _ rfl _ _ rfl _ _ (T ++ [⟨1, xo, xt, xp, xq, xkey, xval⟩]) Dp r7 rfl rfl ?hOwnC ?hSrcC ?hLenC ?_)
                  case hOwnC => exact HO7.out
                  case hSrcC => rw [HDN.out]; exact Src.ofSlice w7 Try.underlying22 _ 0 _ [] (by simp) (by simp) (by simp)
                  case hLenC => simp; omega
                  intro v8 w8 r8 ho8 hg8 hr8
                  have HO8 : Hid (OwnR w8 v8 (rf st (k + 1)) r8) := by unfold Hid; rw [HT0.out]; first | exact ho8 | simpa using ho8
                  have HR8 : Hid (∀ g', r8 = some g' → w.heap.size ≤ g') := fun g' hg' => by
                    have h1 := HB7.out.size
                    have h2 := HBL.out.size
                    rcases hr8 with rfl | rfl
                    · have := HR7.out g' hg'; omega
                    · simp at hg'; omega
                  have HB8 : Hid (Below w.heap.size w w8) := (below_on HBL.out HB7.out).trans (grow_below hg8 (by have h1 := HB7.out.size; have h2 := HBL.out.size; omega) (fun g' hg' => by have := HR7.out g' hg'; have h2 := HBL.out.size; omega))
                  obtain ⟨a8, c8', rfl, -, -⟩ := HO8.out.shape
                  clear ho8 hg8 hr8
                  generalize hn8 : (rf st (k + 1)).length = n8 at HO8 ⊢
                  go_wp2
                  go_roundw
                  case rel => exact ⟨k + 1, r8, a8, n8, c8', by omega, by go_num, rfl, HO8.out, HR8.out, HB8.out⟩
                  case measure => simp [intOf]; omega
                · go_wp2_with (at_builtin; refine wpList_append_any _ rfl _ _ rfl _ _ (T ++ [⟨1, xo, xt, xp, xq, xkey, xval⟩]) Dp r7 rfl rfl ?hOwnC ?hSrcC ?hLenC ?_)
                  case hOwnC => exact HO7.out
                  case hSrcC =>
                    first
                      | exact HS2.out _ HKO7.out hcj
                      | (have h9 := HS2.out _ HKO7.out hcj; rw [show n3 - j = 0 by omega] at h9; exact h9)
                  case hLenC => simp; omega
                  intro v8 w8 r8 ho8 hg8 hr8
                  have HO8 : Hid (OwnR w8 v8 (rf st (k + 1)) r8) := by unfold Hid; rw [HT0.out]; first | exact ho8 | simpa using ho8
                  have HR8 : Hid (∀ g', r8 = some g' → w.heap.size ≤ g') := fun g' hg' => by
                    have h1 := HB7.out.size
                    have h2 := HBL.out.size
                    rcases hr8 with rfl | rfl
                    · have := HR7.out g' hg'; omega
                    · simp at hg'; omega
                  have HB8 : Hid (Below w.heap.size w w8) := (below_on HBL.out HB7.out).trans (grow_below hg8 (by have h1 := HB7.out.size; have h2 := HBL.out.size; omega) (fun g' hg' => by have := HR7.out g' hg'; have h2 := HBL.out.size; omega))
                  obtain ⟨a8, c8', rfl, -, -⟩ := HO8.out.shape
                  clear ho8 hg8 hr8
                  generalize hn8 : (rf st (k + 1)).length = n8 at HO8 ⊢
                  go_wp2
                  go_roundw
                  case rel => exact ⟨k + 1, r8, a8, n8, c8', by omega, by go_num, rfl, HO8.out, HR8.out, HB8.out⟩
                  case measure => simp [intOf]; omega
            · have hjn : n3 ≤ j := by omega
              have HE1 : Hid (j = pl ⟨1, xo, xt, xp, xq, xkey, xval⟩ (rf st k)) := pl_is _ _ j (by have := HN3.out; omega) HJ.out (fun h => by have := HN3.out; omega)
              go_wp2
              go_quiet (fail)
              have hc3 : n3 ≤ c3 ∧ c3 ≤ 9223372036854775807 := by
                rcases HO.out with ⟨h0, _, _⟩ | ⟨g, cap', e, e2, _, h1, h2, _⟩
                · injection h0 with _ h0 h3; omega
                · injection e2 with _ e3 e4; unfold maxLen at h2; omega
              rcases HO.out with ⟨h0, _, hq0⟩ | ⟨g, cap', hq0, h0, _⟩
              · injection h0 with h1 h2 h3
                subst h1 hq0
                obtain rfl : n3 = 0 := h2
                obtain rfl : c3 = 0 := h3
                obtain rfl : j = 0 := by omega
                have HT0 : Hid (rf st (k + 1) = (rf st k).take 0 ++ [⟨1, xo, xt, xp, xq, xkey, xval⟩] ++ (rf st k).drop 0) := by unfold Hid; rw [HN1.out]; unfold ins; rw [← HE1.out]
                have hTl : ((rf st k).take 0).length = 0 := by simp
                have hDl : ((rf st k).drop 0).length = 0 - 0 := by have := HN3.out; simp; omega
                have HS4 : Hid ((rf st k).take 0 = [] ∧ (rf st k).drop 0 = []) := ⟨List.eq_nil_of_length_eq_zero (by omega), List.eq_nil_of_length_eq_zero (by omega)⟩
                generalize (rf st k).take 0 = T at HT0 hTl HS4
                generalize (rf st k).drop 0 = Dp at HT0 hDl HS4
                go_wp2_with (at_builtin; refine wpList_append_any _ rfl _ _ rfl _ _ [] T none rfl rfl (OwnR.nil _) ?hSrcA ?hLenA ?_)
                case hSrcA => rw [HS4.out.1]; exact src_none _
                case hLenA => simp; omega
                intro v6 w6 r6 ho6 hg6 hr6
                have HO6 : Hid (OwnR w6 v6 T r6) := ho6
                have HB6 : Hid (Below w5.heap.size w5 w6) := by
                  unfold Hid
                  first | exact (below_drewN (Below.refl _ _) _).trans (grow_below hg6 (Nat.le_refl _) (by simp)) | exact (below_drewN (below_drewN (Below.refl _ _) _) _).trans (grow_below hg6 (Nat.le_refl _) (by simp))
                have HR6 : Hid (∀ g', r6 = some g' → w5.heap.size ≤ g') := fun g' hg' => by
                  rcases hr6 with rfl | rfl
                  · simp at hg'
                  · simp at hg'; omega
                obtain ⟨a6, c6', rfl, -, -⟩ := HO6.out.shape
                rw [hTl] at HO6 ⊢
                have hx6 := HCK.out.block ((below_on HBL.out HB6.out).block b HCK.out.lt)
                obtain ⟨e0, e1, e2, e3, e4, e5, e6⟩ := hx6
                simp only at e0 e1 e2 e3 e4 e5 e6
                have HKO6 : Hid (OwnR w6 (.slice none 0 0) (rf st k) none) := HO.out.later HB6.out
                clear ho6 hg6 hr6
                go_wp2_with (at_builtin; refine wpList_append_any _ rfl _ _ rfl _ _ T [⟨1, xo, xt, xp, xq, xkey, xval⟩] r6 rfl rfl ?hOwnB ?hSrcB ?hLenB ?_)
                case hOwnB => exact HO6.out.later ((Below.refl _ _).alloc (Nat.le_refl _) _)
                case hSrcB => exact src_rec w6 ⟨1, xo, xt, xp, xq, xkey, xval⟩
                case hLenB => simp; omega
                intro v7 w7 r7 ho7 hg7 hr7
                have HO7 : Hid (OwnR w7 v7 (T ++ [⟨1, xo, xt, xp, xq, xkey, xval⟩]) r7) := ho7
                have HR7 : Hid (∀ g', r7 = some g' → w5.heap.size ≤ g') := fun g' hg' => by
                  have := HB6.out.size
                  rcases hr7 with rfl | rfl
                  · exact HR6.out g' hg'
                  · simp at hg'; omega
                have HB7 : Hid (Below w5.heap.size w5 w7) := (HB6.out.alloc HB6.out.size _).trans (grow_below hg7 (by have := HB6.out.size; simp; omega) HR6.out)
                have HKO7 : Hid (OwnR w7 (.slice none 0 0) (rf st k) none) := HO.out.later HB7.out
                obtain ⟨a7, c7', rfl, -, -⟩ := HO7.out.shape
                have hl7 : (T ++ [(⟨1, xo, xt, xp, xq, xkey, xval⟩ : Rc)]).length = 0 + 1 := by rw [List.length_append, hTl]; rfl
                rw [hl7] at HO7 ⊢
                clear ho7 hg7 hr7 e0 e1 e2 e3 e4 e5 e6
                go_wp2_with (at_builtin; refine wpList_append_any _ rfl _ _ rfl _ _ (T ++ [⟨1, xo, xt, xp, xq, xkey, xval⟩]) Dp r7 rfl rfl ?hOwnC ?hSrcC ?hLenC ?_)
                case hOwnC => exact HO7.out
                case hSrcC => rw [HS4.out.2]; exact src_none _
                case hLenC => simp; omega
                intro v8 w8 r8 ho8 hg8 hr8
                have HO8 : Hid (OwnR w8 v8 (rf st (k + 1)) r8) := by unfold Hid; rw [HT0.out]; first | exact ho8 | simpa using ho8
                have HR8 : Hid (∀ g', r8 = some g' → w.heap.size ≤ g') := fun g' hg' => by
                  have h1 := HB7.out.size
                  have h2 := HBL.out.size
                  rcases hr8 with rfl | rfl
                  · have := HR7.out g' hg'; omega
                  · simp at hg'; omega
                have HB8 : Hid (Below w.heap.size w w8) := (below_on HBL.out HB7.out).trans (grow_below hg8 (by have h1 := HB7.out.size; have h2 := HBL.out.size; omega) (fun g' hg' => by have := HR7.out g' hg'; have h2 := HBL.out.size; omega))
                obtain ⟨a8, c8', rfl, -, -⟩ := HO8.out.shape
                clear ho8 hg8 hr8
                generalize hn8 : (rf st (k + 1)).length = n8 at HO8 ⊢
                go_wp2
                go_roundw
                case rel => exact ⟨k + 1, r8, a8, n8, c8', by omega, by go_num, rfl, HO8.out, HR8.out, HB8.out⟩
                case measure => simp [intOf]; omega
              · injection h0 with h1 h2 h3
                subst h1 hq0
                clear h2 h3
                have HT0 : Hid (rf st (k + 1) = (rf st k).take j ++ [⟨1, xo, xt, xp, xq, xkey, xval⟩] ++ (rf st k).drop j) := by unfold Hid; rw [HN1.out]; unfold ins; rw [← HE1.out]
                have hTl : ((rf st k).take j).length = j := by have := HN3.out; simp; omega
                have hDl : ((rf st k).drop j).length = n3 - j := by have := HN3.out; simp; omega
                have HS1 : Hid (∀ W', Below w5.heap.size w5 W' → Src Try.prog 7 22 (.slice (some ⟨g, 0, none⟩) j c3) ((rf st k).take j).length (rcells ((rf st k).take j)) W') := fun W' hW => (HO.out.later hW).srcTake (by have := HN3.out; omega) c3
                have HS2 : Hid (∀ W', OwnR W' (.slice (some ⟨g, 0, none⟩) n3 c3) (rf st k) (some g) → ¬ c3 = j → Src Try.prog 7 22 (.slice (some ⟨g, j * 7, none⟩) (n3 - j) (c3 - j)) ((rf st k).drop j).length (rcells ((rf st k).drop j)) W') := fun W' hW _ => hW.srcDrop (by have := HN3.out; omega) _ _ (by have := HN3.out; omega)
                have HS3 : Hid (c3 = j → (rf st k).drop j = []) := fun h => List.eq_nil_of_length_eq_zero (by omega)
                generalize (rf st k).take j = T at HT0 hTl HS1
                generalize (rf st k).drop j = Dp at HT0 hDl HS2 HS3
                go_wp2_with (at_builtin; refine wpList_append_any _ rfl _ _ rfl _ _ [] T none rfl rfl (OwnR.nil _) ?hSrcA ?hLenA ?_)
                case hSrcA => first | exact HS1.out _ (below_drewN (Below.refl _ _) _) | exact HS1.out _ (below_drewN (below_drewN (Below.refl _ _) _) _)
                case hLenA => simp; omega
                intro v6 w6 r6 ho6 hg6 hr6
                have HO6 : Hid (OwnR w6 v6 T r6) := ho6
                have HB6 : Hid (Below w5.heap.size w5 w6) := by
                  unfold Hid
                  first | exact (below_drewN (Below.refl _ _) _).trans (grow_below hg6 (Nat.le_refl _) (by simp)) | exact (below_drewN (below_drewN (Below.refl _ _) _) _).trans (grow_below hg6 (Nat.le_refl _) (by simp))
                have HR6 : Hid (∀ g', r6 = some g' → w5.heap.size ≤ g') := fun g' hg' => by
                  rcases hr6 with rfl | rfl
                  · simp at hg'
                  · simp at hg'; omega
                obtain ⟨a6, c6', rfl, -, -⟩ := HO6.out.shape
                rw [hTl] at HO6 ⊢
                have hx6 := HCK.out.block ((below_on HBL.out HB6.out).block b HCK.out.lt)
                obtain ⟨e0, e1, e2, e3, e4, e5, e6⟩ := hx6
                simp only at e0 e1 e2 e3 e4 e5 e6
                have HKO6 : Hid (OwnR w6 (.slice (some ⟨g, 0, none⟩) n3 c3) (rf st k) (some g)) := HO.out.later HB6.out
                clear ho6 hg6 hr6
                go_wp2_with (at_builtin; refine wpList_append_any _ rfl _ _ rfl _ _ T [⟨1, xo, xt, xp, xq, xkey, xval⟩] r6 rfl rfl ?hOwnB ?hSrcB ?hLenB ?_)
                case hOwnB => exact HO6.out.later ((Below.refl _ _).alloc (Nat.le_refl _) _)
                case hSrcB => exact src_rec w6 ⟨1, xo, xt, xp, xq, xkey, xval⟩
                case hLenB => simp; omega
                intro v7 w7 r7 ho7 hg7 hr7
                have HO7 : Hid (OwnR w7 v7 (T ++ [⟨1, xo, xt, xp, xq, xkey, xval⟩]) r7) := ho7
                have HR7 : Hid (∀ g', r7 = some g' → w5.heap.size ≤ g') := fun g' hg' => by
                  have := HB6.out.size
                  rcases hr7 with rfl | rfl
                  · exact HR6.out g' hg'
                  · simp at hg'; omega
                have HB7 : Hid (Below w5.heap.size w5 w7) := (HB6.out.alloc HB6.out.size _).trans (grow_below hg7 (by have := HB6.out.size; simp; omega) HR6.out)
                have HKO7 : Hid (OwnR w7 (.slice (some ⟨g, 0, none⟩) n3 c3) (rf st k) (some g)) := HO.out.later HB7.out
                obtain ⟨a7, c7', rfl, -, -⟩ := HO7.out.shape
                have hl7 : (T ++ [(⟨1, xo, xt, xp, xq, xkey, xval⟩ : Rc)]).length = j + 1 := by rw [List.length_append, hTl]; rfl
                rw [hl7] at HO7 ⊢
                clear ho7 hg7 hr7 e0 e1 e2 e3 e4 e5 e6
                by_cases hcj : c3 = j
                · have hnj : n3 = j := by omega
                  have HDN : Hid (Dp = []) := HS3.out hcj
                  go_wp2_with (at_builtin; refine wpList_append_any _ rfl _ _ rfl _ _ (T ++ [⟨1, xo, xt, xp, xq, xkey, xval⟩]) Dp r7 rfl rfl ?hOwnC ?hSrcC ?hLenC ?_)
                  case hOwnC => exact HO7.out
                  case hSrcC => rw [HDN.out]; exact Src.ofSlice w7 Try.underlying22 _ 0 _ [] (by simp) (by simp) (by simp)
                  case hLenC => simp; omega
                  intro v8 w8 r8 ho8 hg8 hr8
                  have HO8 : Hid (OwnR w8 v8 (rf st (k + 1)) r8) := by unfold Hid; rw [HT0.out]; first | exact ho8 | simpa using ho8
                  have HR8 : Hid (∀ g', r8 = some g' → w.heap.size ≤ g') := fun g' hg' => by
                    have h1 := HB7.out.size
                    have h2 := HBL.out.size
                    rcases hr8 with rfl | rfl
                    · have := HR7.out g' hg'; omega
                    · simp at hg'; omega
                  have HB8 : Hid (Below w.heap.size w w8) := (below_on HBL.out HB7.out).trans (grow_below hg8 (by have h1 := HB7.out.size; have h2 := HBL.out.size; omega) (fun g' hg' => by have := HR7.out g' hg'; have h2 := HBL.out.size; omega))
                  obtain ⟨a8, c8', rfl, -, -⟩ := HO8.out.shape
                  clear ho8 hg8 hr8
                  generalize hn8 : (rf st (k + 1)).length = n8 at HO8 ⊢
                  go_wp2
                  go_roundw
                  case rel => exact ⟨k + 1, r8, a8, n8, c8', by omega, by go_num, rfl, HO8.out, HR8.out, HB8.out⟩
                  case measure => simp [intOf]; omega
                · go_wp2_with (at_builtin; refine wpList_append_any _ rfl _ _ rfl _ _ (T ++ [⟨1, xo, xt, xp, xq, xkey, xval⟩]) Dp r7 rfl rfl ?hOwnC ?hSrcC ?hLenC ?_)
                  case hOwnC => exact HO7.out
                  case hSrcC =>
                    first
                      | exact HS2.out _ HKO7.out hcj
                      | (have h9 := HS2.out _ HKO7.out hcj; rw [show n3 - j = 0 by omega] at h9; exact h9)
                  case hLenC => simp; omega
                  intro v8 w8 r8 ho8 hg8 hr8
                  have HO8 : Hid (OwnR w8 v8 (rf st (k + 1)) r8) := by unfold Hid; rw [HT0.out]; first | exact ho8 | simpa using ho8
                  have HR8 : Hid (∀ g', r8 = some g' → w.heap.size ≤ g') := fun g' hg' => by
                    have h1 := HB7.out.size
                    have h2 := HBL.out.size
                    rcases hr8 with rfl | rfl
                    · have := HR7.out g' hg'; omega
                    · simp at hg'; omega
                  have HB8 : Hid (Below w.heap.size w w8) := (below_on HBL.out HB7.out).trans (grow_below hg8 (by have h1 := HB7.out.size; have h2 := HBL.out.size; omega) (fun g' hg' => by have := HR7.out g' hg'; have h2 := HBL.out.size; omega))
                  obtain ⟨a8, c8', rfl, -, -⟩ := HO8.out.shape
                  clear ho8 hg8 hr8
                  generalize hn8 : (rf st (k + 1)).length = n8 at HO8 ⊢
                  go_wp2
                  go_roundw
                  case rel => exact ⟨k + 1, r8, a8, n8, c8', by omega, by go_num, rfl, HO8.out, HR8.out, HB8.out⟩
                  case measure => simp [intOf]; omega
      · have hk1' : (xk != 1) = true := by simpa using hk1
        have HN1 : Hid (rf st (k + 1) = rf st k) := HNO.out (by rw [HLB.out]; simp [hk1])
        clear HY HNO hk1
        go_wp2
        go_roundw
        case rel => exact ⟨k + 1, q, a3, n3, c3, by omega, by go_num, rfl, by rw [HN1.out]; exact HO.out, HQ.out, HBL.out⟩
        case measure => simp [intOf]; omega
    · obtain rfl : k = st.length := by omega
      clear HC
      go_wp2
      go_ret
      exact ⟨_, q, _, rfl, HFD.out, HO.out, HQ.out, HBL.out⟩
end Go.Proofs.Ytpdhkojiehifeaa
