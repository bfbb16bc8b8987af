import Derived.Test.YtmhaodcgognhiaaMgh
/-! merge: the document's Compact. -/
namespace Go.Proofs.Ytmhaodcgognhiaa
open Go.RowKit Plain Go.WideMaps Go.Maps
set_option linter.unusedVariables false
set_option linter.unusedSimpArgs false

theorem rise_two {se la : List Rc} {z : Int} (h : riseF (-1) se = true → se ≠ [] → z = aheadF (-1) se) : riseF (-1) (se ++ la) = (riseF (-1) se && riseF (ahd z (decide (se.length = 0))) la) := by
  rw [riseF_app]
  cases hb : riseF (-1) se with
  | false => rfl
  | true =>
    by_cases hs : se = []
    · subst hs; rfl
    · rw [show decide (se.length = 0) = false by simpa using hs]
      rw [h hb hs]
      rfl

set_option maxHeartbeats 8000000 in
theorem rmcompactOf (v0 v1 : Value) (se la : List Rc) (now hz : Int) (hn : I64 now) (hh : I64 hz) (w : World) (h0 : RecsAt w v0 se) (h1 : RecsAt w v1 la) :
    Calls Try.prog 11 #[v0, v1, .int .i64 now, .int .i64 hz] w (MPost w se la now hz) := by
  have HR0 : Hid (RecsAt w v0 se) := h0
  have HR1 : Hid (RecsAt w v1 la) := h1
  obtain ⟨a, cap, rfl, hcl, hok, hcells⟩ := h0
  obtain ⟨a', cap', rfl, -⟩ := h1
  have HC : Hid (se ≠ [] → ∃ b off, a = some ⟨b, off, none⟩ ∧ ∀ j, j < se.length → CellsAt w b (off + j * 7) (se.getD j Rc.none)) := hcells
  have HOK : Hid (∀ x ∈ se, x.Ok) := hok
  unfold I64 at hn hh
  obtain ⟨E, hE⟩ : ∃ E : Bool, decide (se.length = 0) = E := ⟨_, rfl⟩
  have HEE : Hid (decide (se.length = 0) = E) := hE
  have hl0 : ((se.length : Int) == 0) = E := by
    rw [← hE]
    by_cases h : se.length = 0
    · simp [h]
    · simp [h]
  clear hE
  clear hcells hok
  go_enter Try.func11, Try.ntmps11
  go_wp2_with fail
  refine (rriseOf _ se 0 true (by omega) _ HR0.out).mono ?_
  rintro e w1 ⟨z, rfl, hz1, hz2, hz3, hb1⟩
  have HB1 : Hid (Below w.heap.size w w1) := hb1
  have HT : Hid (riseF (-1) (se ++ la) = (riseF (-1) se && riseF (ahd z E) la)) := by have := rise_two (la := la) hz3; rw [HEE.out] at this; exact this
  clear hb1 hz3
  rw [show ahd 0 true = -1 from rfl]
  generalize riseF (-1) se = bA at HT ⊢
  go_wp2_with fail
  refine (rriseOf _ la z E ⟨hz1, hz2⟩ _ (HR1.out.later HB1.out)).mono ?_
  rintro e w2 ⟨z2, rfl, -, -, -, hb2⟩
  have HB2 : Hid (Below w.heap.size w w2) := below_on HB1.out hb2
  clear hb2 hl0
  generalize riseF (ahd z E) la = bB at HT ⊢
  cases hr : riseF (-1) (se ++ la) with
  | false =>
    have HP : Hid (MPost w se la now hz (.returned (.tuple #[.slice none 0 0, .int .i64 0, .int .i64 51])) w2) := MPost.no (mcomp_bad hr) HB2.out
    have hab : bA = false ∨ (bA = true ∧ bB = false) := by have h9 := HT.out; rw [hr] at h9; clear HP HT hr; revert h9; cases bA <;> cases bB <;> simp
    rcases hab with rfl | ⟨rfl, rfl⟩
    · go_wp2
      go_ret3
      exact HP.out
    · go_wp2
      go_ret3
      exact HP.out
  | true =>
    obtain ⟨rfl, rfl⟩ : bA = true ∧ bB = true := by have h9 := HT.out; rw [hr] at h9; clear HT hr; revert h9; cases bA <;> cases bB <;> simp
    by_cases hn0 : now < 0
    · have HP : Hid (MPost w se la now hz (.returned (.tuple #[.slice none 0 0, .int .i64 0, .int .i64 3])) w2) := MPost.no (mcomp_arg hr (.inl hn0)) HB2.out
      go_wp2
      go_ret3
      exact HP.out
    by_cases hh0 : hz < 0
    · have HP : Hid (MPost w se la now hz (.returned (.tuple #[.slice none 0 0, .int .i64 0, .int .i64 3])) w2) := MPost.no (mcomp_arg hr (.inr hh0)) HB2.out
      go_wp2
      go_ret3
      exact HP.out
    have HE : Hid (mcomp se la now hz = ((mcmp (se ++ la) now hz se.length).1, (mcmp (se ++ la) now hz se.length).2, 0)) := mcomp_ok hr (by omega)
    have HRS : Hid (riseF (-1) (se ++ la) = true) := hr
    have hd1 : decide (now < 0) = false := by simp; omega
    have hd2 : decide (hz < 0) = false := by simp; omega
    clear hr HT
    by_cases hbig : hz > 1099511627776
    · have HHZ : Hid (horM hz = 1099511627776) := by unfold Hid horM; rw [if_pos (by omega)]
      go_wp2
      clear hd1 hd2
      go_loopw [15, 16, 17] (fun s13 s14 s38 wr => ∃ (k : Nat) (q : Option Nat) (a9 : Option Addr) (n9 c9 : Nat), k ≤ se.length ∧ s38 = .int .i64 k ∧ s13 = .slice a9 n9 c9 ∧ s14 = .int .i64 (mcmp (se ++ la) now hz k).2 ∧ OwnR wr (.slice a9 n9 c9) (mcmp (se ++ la) now hz k).1 q ∧ (∀ g, q = some g → w2.heap.size ≤ g) ∧ Below w2.heap.size w2 wr) (fun _ _ i _ => se.length - (intOf i).toNat)
      case atStart => exact ⟨0, none, none, 0, 0, by omega, rfl, rfl, rfl, OwnR.nil _, by simp, Below.refl _ _⟩
      case round =>
        obtain ⟨k, q, a9, n9, c9, hk, rfl, rfl, rfl, hown, hq, hbl⟩ := hrel
        have HO : Hid (OwnR wr (.slice a9 n9 c9) (mcmp (se ++ la) now hz k).1 q) := hown
        have HQ : Hid (∀ g, q = some g → w2.heap.size ≤ g) := hq
        have HBL : Hid (Below w2.heap.size w2 wr) := hbl
        have HBW : Hid (Below w.heap.size w wr) := below_on HB2.out hbl
        have HLEN : Hid ((mcmp (se ++ la) now hz k).1.length ≤ k) := mcmp_len _ now hz k
        clear hown hq hbl
        by_cases hlt : k < se.length
        · have hlt2 : k < (se ++ la).length := by simp; omega
          have hgd : (se ++ la).getD k Rc.none = se.getD k Rc.none := by simp [List.getElem?_append_left hlt]
          have hne : se ≠ [] := by rintro rfl; simp at hlt
          have HRA : Hid (RecsAt wr (.slice a se.length cap) se) := HR0.out.later HBW.out
          have HRB : Hid (RecsAt wr (.slice a' la.length cap') la) := HR1.out.later HBW.out
          obtain ⟨b, off, rfl, hc⟩ := HC.out hne
          have hck := hc k hlt
          have hck' := hck.block (HBW.out.block b hck.lt)
          have hmem : se.getD k Rc.none ∈ se := by rw [List.getD_eq_getElem?_getD, List.getElem?_eq_getElem hlt]; exact List.getElem_mem _
          have hro := (riseF_ix _ _ HRS.out).1 k hlt2
          have hmk := (mcmp_mark _ now hz HRS.out k (by simp; omega))
          have hmk2 := hmk.2.1 k (Nat.le_refl _) hlt2
          have HS0 : Hid (lastB (se ++ la) k = false → mcmp (se ++ la) now hz (k + 1) = mcmp (se ++ la) now hz k) := fun h => mstep_skip _ h
          have HS1 : Hid (lastB (se ++ la) k = true → keepM now hz (se.getD k Rc.none) = true → mcmp (se ++ la) now hz (k + 1) = ((mcmp (se ++ la) now hz k).1 ++ [se.getD k Rc.none], (mcmp (se ++ la) now hz k).2)) := fun h h' => by rw [← hgd]; exact mstep_keep _ h (by rw [hgd]; exact h')
          have HS2 : Hid (lastB (se ++ la) k = true → keepM now hz (se.getD k Rc.none) = false → mcmp (se ++ la) now hz (k + 1) = ((mcmp (se ++ la) now hz k).1, (se.getD k Rc.none).o + 1)) := fun h h' => by rw [← hgd]; exact mstep_mark _ h (by rw [hgd]; exact h')
          have HKP : Hid (keepM now hz (se.getD k Rc.none) = ((se.getD k Rc.none).k != 2 || decide (now < (se.getD k Rc.none).t + 1099511627776))) := by unfold Hid keepM; rw [HHZ.out]
          rw [hgd] at hro hmk2
          have HXO : Hid (se.getD k Rc.none).Ok := HOK.out _ hmem
          generalize se.getD k Rc.none = x at hck' HS1 HS2 HKP hro hmk2 HXO
          obtain ⟨xk, xo, xt, xp, xq, xkey, xval⟩ := x
          obtain ⟨c0, c1, c2, c3, c4, c5, c6⟩ := hck'
          simp only at c0 c1 c2 c3 c4 c5 c6 HS2 HKP hro hmk2
          have hoff : wrap64 (xo + 1) = xo + 1 := by unfold wrap64; omega
          clear hck hc hne hmem hgd hlt2
          have HB0 : Hid (Below wr.heap.size wr (wr.alloc (.cells #[.int .i64 xk, .int .i64 xo, .int .i64 xt, .int .i64 xp, .int .i64 xq, .string xkey, .string xval] 33))) := (Below.refl _ _).alloc (Nat.le_refl _) _
          have hmk0 := hmk.1
          generalize hM : (mcmp (se ++ la) now hz k).2 = M at HS1 HS2 hmk2 hmk0
          clear hmk
          go_wp2_with fail
          refine (newestOf _ _ se la k hlt _ (HRA.out.later HB0.out) (HRB.out.later HB0.out)).mono ?_
          rintro e u1 ⟨rfl, n1, hn1⟩
          have HB4 : Hid (Below wr.heap.size wr u1) := by subst hn1; exact ⟨HB0.out.os, HB0.out.tape, HB0.out.output, HB0.out.size, HB0.out.block⟩
          obtain ⟨d0, d1, d2, d3, d4, d5, d6⟩ : CellsAt u1 wr.heap.size 0 ⟨xk, xo, xt, xp, xq, xkey, xval⟩ := by
            subst hn1
            have hc : ∀ j, (wr.alloc (.cells #[.int .i64 xk, .int .i64 xo, .int .i64 xt, .int .i64 xp, .int .i64 xq, .string xkey, .string xval] 33)).cell? ⟨wr.heap.size, j, none⟩ = (#[Value.int .i64 xk, .int .i64 xo, .int .i64 xt, .int .i64 xp, .int .i64 xq, .string xkey, .string xval] : Array Value)[j]? := fun j => World.cell?_alloc_at _ _ _ _ rfl
            exact ⟨hc 0, hc 1, hc 2, hc 3, hc 4, hc 5, hc 6⟩
          simp only [Nat.zero_add] at d0 d1 d2 d3 d4 d5 d6
          have HBA : Hid (Below w2.heap.size w2 u1) := below_on HBL.out HB4.out
          have HO4 : Hid (OwnR u1 (.slice a9 n9 c9) (mcmp (se ++ la) now hz k).1 q) := HO.out.later HB4.out
          clear hn1 HO HRA HRB c0 c1 c2 c3 c4 c5 c6
          cases hlb : lastB (se ++ la) k with
          | false =>
            have HN1 : Hid (mcmp (se ++ la) now hz (k + 1) = mcmp (se ++ la) now hz k) := HS0.out hlb
            clear HS0 HS1 HS2 HKP
            go_wp2
            go_roundw
            case rel => exact ⟨k + 1, q, a9, n9, c9, by omega, by go_num, rfl, by rw [HN1.out, hM], by rw [HN1.out]; exact HO4.out, HQ.out, HBA.out⟩
            case measure => simp [intOf]; omega
          | true =>
            by_cases hk2 : xk = 2
            · subst hk2
              have HNK : Hid (now < xt + 1099511627776 → mcmp (se ++ la) now hz (k + 1) = ((mcmp (se ++ la) now hz k).1 ++ [⟨2, xo, xt, xp, xq, xkey, xval⟩], M)) := fun h => HS1.out hlb (by rw [HKP.out]; simp [h])
              have HNM : Hid (xt + 1099511627776 ≤ now → mcmp (se ++ la) now hz (k + 1) = ((mcmp (se ++ la) now hz k).1, xo + 1)) := fun h => HS2.out hlb (by rw [HKP.out]; simp; omega)
              clear HS0 HS1 HS2 HKP
              go_wp2_with fail
              refine (youngOf xt now 1099511627776 HXO.out.t (by omega) (by omega) _).mono ?_
              rintro e u2 ⟨rfl, rfl⟩
              by_cases hy : now < xt + 1099511627776
              · have HN1 : Hid (mcmp (se ++ la) now hz (k + 1) = ((mcmp (se ++ la) now hz k).1 ++ [⟨2, xo, xt, xp, xq, xkey, xval⟩], M)) := HNK.out hy
                have hyd : decide (now < xt + 1099511627776) = true := by simp [hy]
                clear HNK HNM
                rw [hyd]
                clear hyd
                go_wp2_with (at_builtin; refine wpList_append_recs _ rfl _ _ rfl _ _ (mcmp (se ++ la) now hz k).1 [⟨2, xo, xt, xp, xq, xkey, xval⟩] q rfl rfl ?hOwn ?hSrc ?hLen ?hR ?_)
                case hOwn => exact HO4.out.later ((Below.refl _ _).alloc (Nat.le_refl _) _)
                case hSrc => exact src_recM _ ⟨2, xo, xt, xp, xq, xkey, xval⟩
                case hLen => have := HLEN.out; simp; omega
                case hR => exact .inr (by simp)
                intro v' w3 g3 ho3 hg3 hr3
                obtain ⟨a3, c3', rfl, -, -⟩ := ho3.shape
                have HO3 : Hid (OwnR w3 (.slice a3 ((mcmp (se ++ la) now hz k).1 ++ [(⟨2, xo, xt, xp, xq, xkey, xval⟩ : Rc)]).length c3') (mcmp (se ++ la) now hz (k + 1)).1 (some g3)) := by unfold Hid; rw [HN1.out]; exact ho3
                have HQ3 : Hid (w2.heap.size ≤ g3) := by
                  have h1 := HBA.out.size
                  unfold Hid
                  rcases hr3 with e | rfl
                  · exact HQ.out g3 e.symm
                  · simp; omega
                have HB3 : Hid (Below w2.heap.size w2 w3) := (HBA.out.alloc HBA.out.size _).trans (grow_below hg3 (by have := HBA.out.size; simp; omega) HQ.out)
                have HM1 : Hid ((mcmp (se ++ la) now hz (k + 1)).2 = M) := by unfold Hid; rw [HN1.out]
                generalize ((mcmp (se ++ la) now hz k).1 ++ [(⟨2, xo, xt, xp, xq, xkey, xval⟩ : Rc)]).length = n3 at HO3 ⊢
                clear ho3 hg3 hr3
                go_wp2
                go_roundw
                case rel => exact ⟨k + 1, some g3, a3, n3, c3', by omega, by go_num, rfl, by rw [HM1.out], HO3.out, fun g hg => by simp at hg; have := HQ3.out; omega, HB3.out⟩
                case measure => simp [intOf]; omega
              · have HN1 : Hid (mcmp (se ++ la) now hz (k + 1) = ((mcmp (se ++ la) now hz k).1, xo + 1)) := HNM.out (by omega)
                have hyd : decide (now < xt + 1099511627776) = false := by simp; omega
                have hgt : xo + 1 > M := by omega
                clear HNK HNM
                rw [hyd]
                clear hyd
                go_wp2
                go_roundw
                case rel => exact ⟨k + 1, q, a9, n9, c9, by omega, by go_num, rfl, by rw [HN1.out], by rw [HN1.out]; exact HO4.out, HQ.out, HBA.out⟩
                case measure => simp [intOf]; omega
            · have hk2' : (xk != 2) = true := by simpa using hk2
              have HN1 : Hid (mcmp (se ++ la) now hz (k + 1) = ((mcmp (se ++ la) now hz k).1 ++ [⟨xk, xo, xt, xp, xq, xkey, xval⟩], M)) := HS1.out hlb (by rw [HKP.out, hk2']; rfl)
              clear HS0 HS1 HS2 HKP
              go_wp2_with (at_builtin; refine wpList_append_recs _ rfl _ _ rfl _ _ (mcmp (se ++ la) now hz k).1 [⟨xk, xo, xt, xp, xq, xkey, xval⟩] q rfl rfl ?hOwn ?hSrc ?hLen ?hR ?_)
              case hOwn => exact HO4.out.later ((Below.refl _ _).alloc (Nat.le_refl _) _)
              case hSrc => exact src_recM _ ⟨xk, xo, xt, xp, xq, xkey, xval⟩
              case hLen => have := HLEN.out; simp; omega
              case hR => exact .inr (by simp)
              intro v' w3 g3 ho3 hg3 hr3
              obtain ⟨a3, c3', rfl, -, -⟩ := ho3.shape
              have HO3 : Hid (OwnR w3 (.slice a3 ((mcmp (se ++ la) now hz k).1 ++ [(⟨xk, xo, xt, xp, xq, xkey, xval⟩ : Rc)]).length c3') (mcmp (se ++ la) now hz (k + 1)).1 (some g3)) := by unfold Hid; rw [HN1.out]; exact ho3
              have HQ3 : Hid (w2.heap.size ≤ g3) := by
                have h1 := HBA.out.size
                unfold Hid
                rcases hr3 with e | rfl
                · exact HQ.out g3 e.symm
                · simp; omega
              have HB3 : Hid (Below w2.heap.size w2 w3) := (HBA.out.alloc HBA.out.size _).trans (grow_below hg3 (by have := HBA.out.size; simp; omega) HQ.out)
              have HM1 : Hid ((mcmp (se ++ la) now hz (k + 1)).2 = M) := by unfold Hid; rw [HN1.out]
              generalize ((mcmp (se ++ la) now hz k).1 ++ [(⟨xk, xo, xt, xp, xq, xkey, xval⟩ : Rc)]).length = n3 at HO3 ⊢
              clear ho3 hg3 hr3
              go_wp2
              go_roundw
              case rel => exact ⟨k + 1, some g3, a3, n3, c3', by omega, by go_num, rfl, by rw [HM1.out], HO3.out, fun g hg => by simp at hg; have := HQ3.out; omega, HB3.out⟩
              case measure => simp [intOf]; omega
        · obtain rfl : k = se.length := by omega
          have HF2 : Hid (mcomp se la now hz = ((mcmp (se ++ la) now hz se.length).1, (mcmp (se ++ la) now hz se.length).2, 0)) := HE.out
          clear HC
          go_wp2
          go_ret3
          exact ⟨_, q, by rw [HF2.out]; rfl, by rw [HF2.out]; exact HO.out, fun g hg => by have := HQ.out g hg; have := HB2.out.size; omega, HBW.out⟩
    · have HHZ : Hid (horM hz = hz) := by unfold Hid horM; rw [if_neg (by omega)]
      go_wp2
      clear hd1 hd2
      go_loopw [15, 16, 17] (fun s13 s14 s38 wr => ∃ (k : Nat) (q : Option Nat) (a9 : Option Addr) (n9 c9 : Nat), k ≤ se.length ∧ s38 = .int .i64 k ∧ s13 = .slice a9 n9 c9 ∧ s14 = .int .i64 (mcmp (se ++ la) now hz k).2 ∧ OwnR wr (.slice a9 n9 c9) (mcmp (se ++ la) now hz k).1 q ∧ (∀ g, q = some g → w2.heap.size ≤ g) ∧ Below w2.heap.size w2 wr) (fun _ _ i _ => se.length - (intOf i).toNat)
      case atStart => exact ⟨0, none, none, 0, 0, by omega, rfl, rfl, rfl, OwnR.nil _, by simp, Below.refl _ _⟩
      case round =>
        obtain ⟨k, q, a9, n9, c9, hk, rfl, rfl, rfl, hown, hq, hbl⟩ := hrel
        have HO : Hid (OwnR wr (.slice a9 n9 c9) (mcmp (se ++ la) now hz k).1 q) := hown
        have HQ : Hid (∀ g, q = some g → w2.heap.size ≤ g) := hq
        have HBL : Hid (Below w2.heap.size w2 wr) := hbl
        have HBW : Hid (Below w.heap.size w wr) := below_on HB2.out hbl
        have HLEN : Hid ((mcmp (se ++ la) now hz k).1.length ≤ k) := mcmp_len _ now hz k
        clear hown hq hbl
        by_cases hlt : k < se.length
        · have hlt2 : k < (se ++ la).length := by simp; omega
          have hgd : (se ++ la).getD k Rc.none = se.getD k Rc.none := by simp [List.getElem?_append_left hlt]
          have hne : se ≠ [] := by rintro rfl; simp at hlt
          have HRA : Hid (RecsAt wr (.slice a se.length cap) se) := HR0.out.later HBW.out
          have HRB : Hid (RecsAt wr (.slice a' la.length cap') la) := HR1.out.later HBW.out
          obtain ⟨b, off, rfl, hc⟩ := HC.out hne
          have hck := hc k hlt
          have hck' := hck.block (HBW.out.block b hck.lt)
          have hmem : se.getD k Rc.none ∈ se := by rw [List.getD_eq_getElem?_getD, List.getElem?_eq_getElem hlt]; exact List.getElem_mem _
          have hro := (riseF_ix _ _ HRS.out).1 k hlt2
          have hmk := (mcmp_mark _ now hz HRS.out k (by simp; omega))
          have hmk2 := hmk.2.1 k (Nat.le_refl _) hlt2
          have HS0 : Hid (lastB (se ++ la) k = false → mcmp (se ++ la) now hz (k + 1) = mcmp (se ++ la) now hz k) := fun h => mstep_skip _ h
          have HS1 : Hid (lastB (se ++ la) k = true → keepM now hz (se.getD k Rc.none) = true → mcmp (se ++ la) now hz (k + 1) = ((mcmp (se ++ la) now hz k).1 ++ [se.getD k Rc.none], (mcmp (se ++ la) now hz k).2)) := fun h h' => by rw [← hgd]; exact mstep_keep _ h (by rw [hgd]; exact h')
          have HS2 : Hid (lastB (se ++ la) k = true → keepM now hz (se.getD k Rc.none) = false → mcmp (se ++ la) now hz (k + 1) = ((mcmp (se ++ la) now hz k).1, (se.getD k Rc.none).o + 1)) := fun h h' => by rw [← hgd]; exact mstep_mark _ h (by rw [hgd]; exact h')
          have HKP : Hid (keepM now hz (se.getD k Rc.none) = ((se.getD k Rc.none).k != 2 || decide (now < (se.getD k Rc.none).t + hz))) := by unfold Hid keepM; rw [HHZ.out]
          rw [hgd] at hro hmk2
          have HXO : Hid (se.getD k Rc.none).Ok := HOK.out _ hmem
          generalize se.getD k Rc.none = x at hck' HS1 HS2 HKP hro hmk2 HXO
          obtain ⟨xk, xo, xt, xp, xq, xkey, xval⟩ := x
          obtain ⟨c0, c1, c2, c3, c4, c5, c6⟩ := hck'
          simp only at c0 c1 c2 c3 c4 c5 c6 HS2 HKP hro hmk2
          have hoff : wrap64 (xo + 1) = xo + 1 := by unfold wrap64; omega
          clear hck hc hne hmem hgd hlt2
          have HB0 : Hid (Below wr.heap.size wr (wr.alloc (.cells #[.int .i64 xk, .int .i64 xo, .int .i64 xt, .int .i64 xp, .int .i64 xq, .string xkey, .string xval] 33))) := (Below.refl _ _).alloc (Nat.le_refl _) _
          have hmk0 := hmk.1
          generalize hM : (mcmp (se ++ la) now hz k).2 = M at HS1 HS2 hmk2 hmk0
          clear hmk
          go_wp2_with fail
          refine (newestOf _ _ se la k hlt _ (HRA.out.later HB0.out) (HRB.out.later HB0.out)).mono ?_
          rintro e u1 ⟨rfl, n1, hn1⟩
          have HB4 : Hid (Below wr.heap.size wr u1) := by subst hn1; exact ⟨HB0.out.os, HB0.out.tape, HB0.out.output, HB0.out.size, HB0.out.block⟩
          obtain ⟨d0, d1, d2, d3, d4, d5, d6⟩ : CellsAt u1 wr.heap.size 0 ⟨xk, xo, xt, xp, xq, xkey, xval⟩ := by
            subst hn1
            have hc : ∀ j, (wr.alloc (.cells #[.int .i64 xk, .int .i64 xo, .int .i64 xt, .int .i64 xp, .int .i64 xq, .string xkey, .string xval] 33)).cell? ⟨wr.heap.size, j, none⟩ = (#[Value.int .i64 xk, .int .i64 xo, .int .i64 xt, .int .i64 xp, .int .i64 xq, .string xkey, .string xval] : Array Value)[j]? := fun j => World.cell?_alloc_at _ _ _ _ rfl
            exact ⟨hc 0, hc 1, hc 2, hc 3, hc 4, hc 5, hc 6⟩
          simp only [Nat.zero_add] at d0 d1 d2 d3 d4 d5 d6
          have HBA : Hid (Below w2.heap.size w2 u1) := below_on HBL.out HB4.out
          have HO4 : Hid (OwnR u1 (.slice a9 n9 c9) (mcmp (se ++ la) now hz k).1 q) := HO.out.later HB4.out
          clear hn1 HO HRA HRB c0 c1 c2 c3 c4 c5 c6
          cases hlb : lastB (se ++ la) k with
          | false =>
            have HN1 : Hid (mcmp (se ++ la) now hz (k + 1) = mcmp (se ++ la) now hz k) := HS0.out hlb
            clear HS0 HS1 HS2 HKP
            go_wp2
            go_roundw
            case rel => exact ⟨k + 1, q, a9, n9, c9, by omega, by go_num, rfl, by rw [HN1.out, hM], by rw [HN1.out]; exact HO4.out, HQ.out, HBA.out⟩
            case measure => simp [intOf]; omega
          | true =>
            by_cases hk2 : xk = 2
            · subst hk2
              have HNK : Hid (now < xt + hz → mcmp (se ++ la) now hz (k + 1) = ((mcmp (se ++ la) now hz k).1 ++ [⟨2, xo, xt, xp, xq, xkey, xval⟩], M)) := fun h => HS1.out hlb (by rw [HKP.out]; simp [h])
              have HNM : Hid (xt + hz ≤ now → mcmp (se ++ la) now hz (k + 1) = ((mcmp (se ++ la) now hz k).1, xo + 1)) := fun h => HS2.out hlb (by rw [HKP.out]; simp; omega)
              clear HS0 HS1 HS2 HKP
              go_wp2_with fail
              refine (youngOf xt now hz HXO.out.t (by omega) (by omega) _).mono ?_
              rintro e u2 ⟨rfl, rfl⟩
              by_cases hy : now < xt + hz
              · have HN1 : Hid (mcmp (se ++ la) now hz (k + 1) = ((mcmp (se ++ la) now hz k).1 ++ [⟨2, xo, xt, xp, xq, xkey, xval⟩], M)) := HNK.out hy
                have hyd : decide (now < xt + hz) = true := by simp [hy]
                clear HNK HNM
                rw [hyd]
                clear hyd
                go_wp2_with (at_builtin; refine wpList_append_recs _ rfl _ _ rfl _ _ (mcmp (se ++ la) now hz k).1 [⟨2, xo, xt, xp, xq, xkey, xval⟩] q rfl rfl ?hOwn ?hSrc ?hLen ?hR ?_)
                case hOwn => exact HO4.out.later ((Below.refl _ _).alloc (Nat.le_refl _) _)
                case hSrc => exact src_recM _ ⟨2, xo, xt, xp, xq, xkey, xval⟩
                case hLen => have := HLEN.out; simp; omega
                case hR => exact .inr (by simp)
                intro v' w3 g3 ho3 hg3 hr3
                obtain ⟨a3, c3', rfl, -, -⟩ := ho3.shape
                have HO3 : Hid (OwnR w3 (.slice a3 ((mcmp (se ++ la) now hz k).1 ++ [(⟨2, xo, xt, xp, xq, xkey, xval⟩ : Rc)]).length c3') (mcmp (se ++ la) now hz (k + 1)).1 (some g3)) := by unfold Hid; rw [HN1.out]; exact ho3
                have HQ3 : Hid (w2.heap.size ≤ g3) := by
                  have h1 := HBA.out.size
                  unfold Hid
                  rcases hr3 with e | rfl
                  · exact HQ.out g3 e.symm
                  · simp; omega
                have HB3 : Hid (Below w2.heap.size w2 w3) := (HBA.out.alloc HBA.out.size _).trans (grow_below hg3 (by have := HBA.out.size; simp; omega) HQ.out)
                have HM1 : Hid ((mcmp (se ++ la) now hz (k + 1)).2 = M) := by unfold Hid; rw [HN1.out]
                generalize ((mcmp (se ++ la) now hz k).1 ++ [(⟨2, xo, xt, xp, xq, xkey, xval⟩ : Rc)]).length = n3 at HO3 ⊢
                clear ho3 hg3 hr3
                go_wp2
                go_roundw
                case rel => exact ⟨k + 1, some g3, a3, n3, c3', by omega, by go_num, rfl, by rw [HM1.out], HO3.out, fun g hg => by simp at hg; have := HQ3.out; omega, HB3.out⟩
                case measure => simp [intOf]; omega
              · have HN1 : Hid (mcmp (se ++ la) now hz (k + 1) = ((mcmp (se ++ la) now hz k).1, xo + 1)) := HNM.out (by omega)
                have hyd : decide (now < xt + hz) = false := by simp; omega
                have hgt : xo + 1 > M := by omega
                clear HNK HNM
                rw [hyd]
                clear hyd
                go_wp2
                go_roundw
                case rel => exact ⟨k + 1, q, a9, n9, c9, by omega, by go_num, rfl, by rw [HN1.out], by rw [HN1.out]; exact HO4.out, HQ.out, HBA.out⟩
                case measure => simp [intOf]; omega
            · have hk2' : (xk != 2) = true := by simpa using hk2
              have HN1 : Hid (mcmp (se ++ la) now hz (k + 1) = ((mcmp (se ++ la) now hz k).1 ++ [⟨xk, xo, xt, xp, xq, xkey, xval⟩], M)) := HS1.out hlb (by rw [HKP.out, hk2']; rfl)
              clear HS0 HS1 HS2 HKP
              go_wp2_with (at_builtin; refine wpList_append_recs _ rfl _ _ rfl _ _ (mcmp (se ++ la) now hz k).1 [⟨xk, xo, xt, xp, xq, xkey, xval⟩] q rfl rfl ?hOwn ?hSrc ?hLen ?hR ?_)
              case hOwn => exact HO4.out.later ((Below.refl _ _).alloc (Nat.le_refl _) _)
              case hSrc => exact src_recM _ ⟨xk, xo, xt, xp, xq, xkey, xval⟩
              case hLen => have := HLEN.out; simp; omega
              case hR => exact .inr (by simp)
              intro v' w3 g3 ho3 hg3 hr3
              obtain ⟨a3, c3', rfl, -, -⟩ := ho3.shape
              have HO3 : Hid (OwnR w3 (.slice a3 ((mcmp (se ++ la) now hz k).1 ++ [(⟨xk, xo, xt, xp, xq, xkey, xval⟩ : Rc)]).length c3') (mcmp (se ++ la) now hz (k + 1)).1 (some g3)) := by unfold Hid; rw [HN1.out]; exact ho3
              have HQ3 : Hid (w2.heap.size ≤ g3) := by
                have h1 := HBA.out.size
                unfold Hid
                rcases hr3 with e | rfl
                · exact HQ.out g3 e.symm
                · simp; omega
              have HB3 : Hid (Below w2.heap.size w2 w3) := (HBA.out.alloc HBA.out.size _).trans (grow_below hg3 (by have := HBA.out.size; simp; omega) HQ.out)
              have HM1 : Hid ((mcmp (se ++ la) now hz (k + 1)).2 = M) := by unfold Hid; rw [HN1.out]
              generalize ((mcmp (se ++ la) now hz k).1 ++ [(⟨xk, xo, xt, xp, xq, xkey, xval⟩ : Rc)]).length = n3 at HO3 ⊢
              clear ho3 hg3 hr3
              go_wp2
              go_roundw
              case rel => exact ⟨k + 1, some g3, a3, n3, c3', by omega, by go_num, rfl, by rw [HM1.out], HO3.out, fun g hg => by simp at hg; have := HQ3.out; omega, HB3.out⟩
              case measure => simp [intOf]; omega
        · obtain rfl : k = se.length := by omega
          have HF2 : Hid (mcomp se la now hz = ((mcmp (se ++ la) now hz se.length).1, (mcmp (se ++ la) now hz se.length).2, 0)) := HE.out
          clear HC
          go_wp2
          go_ret3
          exact ⟨_, q, by rw [HF2.out]; rfl, by rw [HF2.out]; exact HO.out, fun g hg => by have := HQ.out g hg; have := HB2.out.size; omega, HBW.out⟩
end Go.Proofs.Ytmhaodcgognhiaa
