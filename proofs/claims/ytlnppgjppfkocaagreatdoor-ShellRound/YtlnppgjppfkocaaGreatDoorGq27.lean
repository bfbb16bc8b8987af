import Derived.Test.YtlnppgjppfkocaaGreatDoorGq26
import Derived.Deep.QuietTactic
import Derived.BigQuiet
/-! strconv's Unquote, right on all that quoting writes: the walk. -/
namespace Go.Proofs.YtlnppgjppfkocaaGreatDoor.Xs
open Go.RowKit Plain
set_option linter.unusedVariables false
set_option linter.unusedSimpArgs false

theorem ob_later {B : Nat} {e : TypeId} {v : Value} {n : Nat} {xs : List Value} {W0 w w' : World} (h : Lib.OwnBuf B e v n xs W0 w) (hb : Below w.heap.size w w') : Lib.OwnBuf B e v n xs W0 w' :=
  ⟨h.1.kept (row := none) (below_grow hb none) (by cases hv : v.ownBlock <;> simp), h.2.1.trans (hb.mono h.2.2), Nat.le_trans h.2.2 hb.size⟩
theorem conv_ob {B : Nat} {W0 w : World} {v : Value} {b : By} (h : Lib.OwnBuf B 5 v b.length (Lib.byteCells b) W0 w) (u : World) (hb : Below w.heap.size w u) : (convert 25 9 v).run Tryz.prog u = .ok (.string (ba b)) u := by
  have h' := ob_later h hb
  rcases h'.1.2 with ⟨e, e2⟩ | ⟨g, cap, cur, fz, e, hg, hh, _⟩
  · have hbn : b = [] := List.length_eq_zero_iff.1 e2
    rw [e, hbn]
    have := run_convert_bytes_nil (P := Tryz.prog) u 25 5 Tryz.underlying25 Tryz.underlying5 0 0 9 Tryz.underlying9
    exact this
  · have hc := h'.1.cells (g := g) (by rw [e]; rfl)
    rw [e]
    have := run_convert_bytes_back (P := Tryz.prog) u 25 9 5 ⟨g, 0, none⟩ cap b Tryz.underlying25 Tryz.underlying5 Tryz.underlying9 (fun j hj => hc j _ (by
      unfold Lib.byteCells
      rw [List.getElem?_map, List.getElem?_eq_getElem hj]
      rfl))
    exact this
theorem wrap_byte : ∀ c : UInt8, IntKind.u8.wrap (c.toNat : Int) = (c.toNat : Int) := all256 (by decide +kernel)
theorem byte_snoc (b : By) {y : Int} (h1 : 0 ≤ y) (h2 : y ≤ 255) : Lib.byteCells (b ++ [UInt8.ofNat y.toNat]) = Lib.byteCells b ++ [.int .u8 y] := by
  unfold Lib.byteCells
  rw [List.map_append]
  congr 1
  simp only [List.map_cons, List.map_nil]
  rw [UInt8.toNat_ofNat_of_lt' (by show y.toNat < 256; omega), show ((y.toNat : Nat) : Int) = y by omega]
/-- What unquote answers. -/
def UnP (s : By) (e : Ending) : Prop :=
  (∃ y rem : By, e = .returned (.tuple #[.string (ba y), .string (ba rem), .nilIface]) ∧ y.length ≤ 4 * s.length ∧ (∀ x, s = quo x → y = x ∧ rem = [])) ∨
  ((∀ x, s ≠ quo x) ∧ ∃ (y rem : By) (T : TypeId) (p : Value), e = .returned (.tuple #[.string (ba y), .string (ba rem), .iface T p]))
theorem results_tmp3 {fn : Func} {a b c : Tmp} (h : fn.results = #[.tmp a, .tmp b, .tmp c]) (tmps : Array Value) (P : Program) (w : World) :
    (results fn tmps).run P w = .ok (.tuple #[tmps.getD a undef, tmps.getD b undef, tmps.getD c undef]) w := by
  simp only [results, h]
  simp [Sem.run_bind, Result.andThen]
set_option maxHeartbeats 64000000 in
set_option maxRecDepth 100000 in
theorem unquoteOf (W : World) (s : By) (h34 : s.getD 0 0 = 34) (hl0 : s.length ≠ 0) (hl : s.length ≤ 4096) (w : World) (hE : ErrAt W) (hb : Below W.heap.size W w) (hU : Lib.Utf8Tabs 4 5 W) :
    Calls Tryz.prog 136 #[.string (ba s), .bool true] w fun e w' => UnP s e ∧ Below w.heap.size w w' := by
  have hsz : (ba s).size = s.length := rfl
  obtain ⟨⟨te, pe, hs⟩, _⟩ := hE.later hb
  have hkb : 0 < (ba s).size := by rw [hsz]; omega
  have hz : (((ba s)[0]'hkb).toNat : Int) = 34 := by rw [ba_get hkb, h34]; rfl
  by_cases h2 : s.length < 2
  · have HN : Hid (∀ x, s ≠ quo x) := fun x e => by have := quo_len2 x; rw [← e] at this; omega
    have h2i : (s.length : Int) < 2 := by omega
    go_enter Tryz.func136, Tryz.ntmps136
    go_wp2
    go_quiet (fail)
    go_wp2
    refine bodyPost_ret (by rw [results_tmp3 rfl]) rfl ?_
    exact ⟨Or.inr ⟨HN.out, [], _, te, pe, rfl⟩, Below.drewN' (Below.refl _ _) _⟩
  · have h2i : ¬ (s.length : Int) < 2 := by omega
    obtain ⟨l1, hl1⟩ : ∃ l1, s.drop 1 = l1 := ⟨_, rfl⟩
    have HL1 := mkW hl1
    have hex1 : (ba s).extract 1 s.length = ba l1 := by rw [ba_sub, List.take_length, hl1]
    have HI : Hid (∀ u, Calls Tryz.prog 148 #[.string (ba l1), .int .u8 34] u fun e w' => e = .returned (.int .i64 (Lib.indexByte l1 34)) ∧ w' = u) := fun u => indexOf l1 34 u
    have hge := Lib.indexByte_ge l1 34
    by_cases hneg : Lib.indexByte l1 34 < 0
    · have HN : Hid (∀ x, s ≠ quo x) := fun x e => by
        have := quo_has x
        rw [← e, hl1] at this
        omega
      generalize Lib.indexByte l1 34 = o at *
      clear hl1
      go_enter Tryz.func136, Tryz.ntmps136
      go_wp2_with (go_at_call 148; refine (HI.out _).mono ?_; rintro e w1 ⟨rfl, rfl⟩)
      go_quiet (fail)
      go_wp2
      refine bodyPost_ret (by rw [results_tmp3 rfl]) rfl ?_
      exact ⟨Or.inr ⟨HN.out, [], _, te, pe, rfl⟩, Below.drewN' (Below.refl _ _) _⟩
    · obtain ⟨o, ho⟩ : ∃ o : Nat, Lib.indexByte l1 34 = o := ⟨(Lib.indexByte l1 34).toNat, by omega⟩
      have hol : o + 1 < s.length := by have := idx_lt ho; rw [← hl1, List.length_drop] at this; omega
      have HO : Hid (Lib.indexByte (s.drop 1) 34 = o) := by unfold Hid; rw [hl1]; exact ho
      rw [ho] at HI
      clear ho hge hneg hl1
      have hexE : (ba s).extract 0 (o + 2) = ba (s.take (o + 2)) := by rw [ba_sub]; rfl
      have HC1 : Hid (∀ u, Calls Tryz.prog 149 #[.string (ba (s.take (o + 2))), .int .u8 92] u fun e w' => e = .returned (.bool (Lib.indexByte (s.take (o + 2)) 92 != -1)) ∧ w' = u) := fun u => containsOf (s.take (o + 2)) 92 u
      have HC2 : Hid (∀ u, Calls Tryz.prog 149 #[.string (ba (s.take (o + 2))), .int .u8 10] u fun e w' => e = .returned (.bool (Lib.indexByte (s.take (o + 2)) 10 != -1)) ∧ w' = u) := fun u => containsOf (s.take (o + 2)) 10 u
      have HNB : Hid ((Lib.indexByte (s.take (o + 2)) 92 != -1) = false → (92 : UInt8) ∉ s.take (o + 2)) := fun h => idx_not (by simpa using h)
      generalize (Lib.indexByte (s.take (o + 2)) 92 != -1) = c1 at *
      generalize (Lib.indexByte (s.take (o + 2)) 10 != -1) = c2 at *
      have hslM : ∀ u, (Instr.slice 9 (.string (ba s)) (some (.int .i64 1)) (some (.int .i64 ((o : Int) + 2 - 1))) none).run Tryz.prog u = .ok (.string (ba ((s.take (o + 1)).drop 1))) u := fun u => by
        rw [run_slice_string u 9 (ba s) .i64 .i64 1 ((o : Int) + 2 - 1) Tryz.underlying9 (by omega) (by omega) (by rw [hsz]; omega)]
        rw [show ((1 : Int)).toNat = 1 by decide, show ((o : Int) + 2 - 1).toNat = o + 1 by omega, ba_sub]
      have hslF : ∀ u, (Instr.slice 9 (.string (ba (s.take (o + 2)))) (some (.int .i64 1)) (some (.int .i64 ((o : Int) + 2 - 1))) none).run Tryz.prog u = .ok (.string (ba (((s.take (o + 2)).take (o + 1)).drop 1))) u := fun u => by
        rw [run_slice_string u 9 (ba (s.take (o + 2))) .i64 .i64 1 ((o : Int) + 2 - 1) Tryz.underlying9 (by omega) (by omega) (by show _ ≤ (((s.take (o + 2)).length : Nat) : Int); rw [List.length_take]; omega)]
        rw [show ((1 : Int)).toNat = 1 by decide, show ((o : Int) + 2 - 1).toNat = o + 1 by omega, ba_sub]
      have HV : Hid (∀ u, Below W.heap.size W u → Calls Tryz.prog 150 #[.string (ba ((s.take (o + 1)).drop 1))] u fun e w' => e = .returned (.bool (Lib.validD ((s.take (o + 1)).drop 1))) ∧ Below u.heap.size u w') := fun u hu => by
        have := Any.utf8_ValidString Tryz.lValid (ba ((s.take (o + 1)).drop 1)) u (by show ((s.take (o + 1)).drop 1).length ≤ _; rw [List.length_drop, List.length_take]; omega) (utabs_on hU hu)
        rwa [ba_list2] at this
      generalize Lib.validD ((s.take (o + 1)).drop 1) = vr at *
      generalize (s.take (o + 1)).drop 1 = m at *
      obtain ⟨C, hC⟩ : ∃ C, 3 * (o + 2) / 2 = C := ⟨_, rfl⟩
      have HCap : Hid ((3 * ((o : Int) + 2) / 2) = (C : Int)) := by unfold Hid; omega
      have hCl : C ≤ 10000 := by omega
      clear hC
      obtain ⟨i0, hi0, hi1, hi2, hi3⟩ := info_parts Tryz.infoU8
      have HI0 : Hid (Tryz.prog.info? 5 = some i0 ∧ i0.zero = some (.int .u8 0) ∧ i0.size = 1 ∧ i0.bytes = 1) := ⟨hi0, hi1, hi2, hi3⟩
      clear hi0 hi1 hi2 hi3
      have hbV := hb
      cases c1 with
      | false =>
        have hno := HNB.out rfl
        have HF : Hid (∀ x, s = quo x → ((s.take (o + 2)).take (o + 1)).drop 1 = x ∧ s.drop (o + 2) = []) := fun x e => quo_fast e HO.out hno
        clear hno HNB
        cases c2 with
        | false =>
          cases vr with
          | true =>
            have HFl : Hid ((((s.take (o + 2)).take (o + 1)).drop 1).length ≤ 4 * s.length) := by unfold Hid; rw [List.length_drop, List.length_take, List.length_take]; omega
            generalize ((s.take (o + 2)).take (o + 1)).drop 1 = F at *
            have hexR : (ba s).extract (o + 2) s.length = ba (s.drop (o + 2)) := by rw [ba_sub, List.take_length]
            go_enter Tryz.func136, Tryz.ntmps136
            go_wp2_with (first | (go_at_call 148; refine (HI.out _).mono ?_; rintro e w1 ⟨rfl, rfl⟩) | (go_at_call 149; first | (refine (HC1.out _).mono ?_; rintro e w2 ⟨rfl, rfl⟩) | (refine (HC2.out _).mono ?_; rintro e w3 ⟨rfl, rfl⟩)) | (go_at_call 150; refine (HV.out _ hbV).mono ?_; rintro e w4 ⟨rfl, hb4⟩))
            go_quiet (fail)
            go_wp2
            refine bodyPost_ret (by rw [results_tmp3 rfl]) rfl ?_
            exact ⟨Or.inl ⟨F, s.drop (o + 2), (by rw [← hexR]; rfl), HFl.out, HF.out⟩, Below.drewN' hb4 _⟩
          | false =>
            go_enter Tryz.func136, Tryz.ntmps136
            go_wp2_with (first | (go_at_call 148; refine (HI.out _).mono ?_; rintro e w1 ⟨rfl, rfl⟩) | (go_at_call 149; first | (refine (HC1.out _).mono ?_; rintro e w2 ⟨rfl, rfl⟩) | (refine (HC2.out _).mono ?_; rintro e w3 ⟨rfl, rfl⟩)) | (go_at_call 150; refine (HV.out _ hbV).mono ?_; rintro e w4 ⟨rfl, hb4⟩) | (at_make; refine wpList_make_own _ rfl _ _ 25 rfl w4.heap.size 5 i0 _ 1 Tryz.underlying25 HI0.out.1 HI0.out.2.1 HI0.out.2.2.1 .i64 .i64 _ C rfl rfl HCap.out (by rw [HI0.out.2.2.2]; omega) (by unfold maxLen; omega) (Nat.le_refl _) ?_))
            intro w5 ho5 hg5
            have HOB : Hid (Lib.OwnBuf w4.heap.size 5 (.slice (some ⟨w4.heap.size, 0, none⟩) 0 C) ([] : By).length (Lib.byteCells []) w4 w5) := ⟨World.ownsRowF_of ho5, grow_below hg5 (Nat.le_refl _) (by simp), hg5.size⟩
            have HBW : Hid (Below W.heap.size W w4) := below_on hb hb4
            have HB0 : Hid (Below w3.heap.size w3 w4) := hb4
            generalize (Value.slice (some ⟨w4.heap.size, 0, none⟩) 0 C) = vb at *
            clear ho5 hg5
            go_wp2
            go_loopw [0, 14] (fun vi vb wl => ∃ (i : Nat) (b : By), vi = .string (ba (s.drop i)) ∧ 1 ≤ i ∧ i ≤ s.length ∧ b.length ≤ 4 * i ∧ Hid (RdT s i b) ∧ Hid (Lib.OwnBuf w4.heap.size 5 vb b.length (Lib.byteCells b) w4 wl)) (fun vi _ _ => match vi with | .string r => r.size | _ => 0)
            case atStart => exact ⟨1, [], by rw [HL1.out], by omega, by omega, by simp, RdT.start s, HOB.out⟩
            case round =>
              obtain ⟨i, b, rfl, hi1, hi2, hbl, HR, HB⟩ := hrel
              obtain ⟨t, ht⟩ : ∃ t, s.drop i = t := ⟨_, rfl⟩
              have HT := mkW ht
              have HTL : Hid (t.length = s.length - i) := by unfold Hid; rw [← ht, List.length_drop]
              rw [ht]
              clear ht HOB
              have hszt : (ba t).size = t.length := rfl
              have hbw : Below W.heap.size W wr := below_on HBW.out (HB.out.2.1)
              obtain ⟨⟨te', pe', hs'⟩, _⟩ := hE.later hbw
              by_cases h0 : t.length = 0
              · have HN : Hid (∀ x, s ≠ quo x) := fun x e => by
                  have := rdt_ne HR.out e
                  rw [HT.out] at this
                  exact this (List.length_eq_zero_iff.1 h0)
                have h0i : (t.length : Int) = 0 := by omega
                go_wp2
                go_quiet (fail)
                go_wp2
                refine bodyPost_ret (by rw [results_tmp3 rfl]) rfl ?_
                exact ⟨Or.inr ⟨HN.out, [], _, te', pe', rfl⟩, Below.drewN' (below_on HB0.out HB.out.2.1) _⟩
              · have hkt : 0 < (ba t).size := by rw [hszt]; omega
                have hbg := ba_get hkt
                obtain ⟨z, hzt⟩ : ∃ z : Int, (((ba t)[0]'hkt).toNat : Int) = z := ⟨_, rfl⟩
                have HZ : Hid (z = ((t.getD 0 0).toNat : Int)) := by unfold Hid; rw [← hzt, hbg]
                clear hbg
                have h0i : (0 : Int) < (t.length : Int) := by omega
                by_cases hq : z = 34
                · subst hq
                  have HE : Hid (∀ x, s = quo x → b = x ∧ s.drop (i + 1) = []) := fun x e => rdt_end HR.out e (by
                    rw [HT.out]; exact UInt8.toNat_inj.1 (by have := HZ.out; show _ = 34; omega))
                  have hext : (ba t).extract 1 t.length = ba (s.drop (i + 1)) := by rw [ba_sub, List.take_length, ← HT.out, List.drop_drop]
                  have hcv := conv_ob HB.out wr (Below.refl _ _)
                  have HBL : Hid (b.length ≤ 4 * s.length) := by unfold Hid; omega
                  go_wp2
                  refine bodyPost_ret (by rw [results_tmp3 rfl]) rfl ?_
                  exact ⟨Or.inl ⟨b, s.drop (i + 1), (by rw [← hext]; rfl), HBL.out, HE.out⟩, below_on HB0.out HB.out.2.1⟩
                · have hqf : (z == 34) = false := by rw [beq_eq_false_iff_ne]; exact hq
                  have HQ34 : Hid ((s.drop i).getD 0 0 ≠ 34) := fun e => hq (by rw [HZ.out, ← HT.out, e]; rfl)
                  have HONE : Hid (∀ x, s = quo x → ∃ c rest, t = esc c ++ rest) := fun x e => by
                    obtain ⟨c, q, _, e2⟩ := rdt_one HR.out e HQ34.out
                    exact ⟨c, _, HT.out.symm.trans e2⟩
                  have HUQ := mkW (uqCharOf W t (by have := HTL.out; omega) wr hE hbw hU)
                  have HZ10 : Hid (z = 10 → ∀ x, s ≠ quo x) := fun h x e => by
                    obtain ⟨c, rest, e2⟩ := HONE.out x e
                    exact esc_no10 e2 (UInt8.toNat_inj.1 (by have := HZ.out; show _ = 10; omega))
                  go_wp2_with (go_at_call 151; refine HUQ.out.mono ?_)
                  rintro e w6 ⟨⟨r, mb, k, rfl, hk1, hk2, hr, hex⟩ | ⟨hn, r, mb, tl, T, pv, rfl⟩, hb6⟩
                  · have HEX := mkW hex
                    have HOB6 := mkW (ob_later HB.out hb6)
                    have hs6 := (hb6.cell (cell_lt hs')).trans hs'
                    clear hex HUQ hb6 HB
                    by_cases h10 : z = 10
                    · have HN := mkW (HZ10.out h10)
                      have h10t : (z == 10) = true := by rw [h10]; rfl
                      clear h10 HEX
                      go_wp2
                      go_quiet (fail)
                      go_wp2
                      refine bodyPost_ret (by rw [results_tmp3 rfl]) rfl ?_
                      exact ⟨Or.inr ⟨HN.out, [], _, te', pe', rfl⟩, Below.drewN' (below_on HB0.out HOB6.out.2.1) _⟩
                    · have h10f : (z == 10) = false := by rw [beq_eq_false_iff_ne]; exact h10
                      have HTK : Hid (t.drop k = s.drop (i + k)) := by unfold Hid; rw [← HT.out, List.drop_drop]
                      have HIK : Hid (i + k ≤ s.length ∧ 1 ≤ i + k) := by have := HTL.out; exact ⟨by omega, by omega⟩
                      have HNB : Hid (∀ b' : By, 4 * i + 4 ≤ 4 * (i + k)) := fun _ => by omega
                      clear h10
                      by_cases hr128 : r < 128
                      · skip
                        have hdum : True := trivial
                        have HY0 : Hid (∀ c rest, t = esc c ++ rest → r % 256 = (c.toNat : Int)) := fun c rest e => by have := c.toNat_lt; rw [(HEX.out c rest e).1]; omega
                        go_wp2_with (at_builtin; refine Lib.wpList_append_byte rfl _ _ 25 rfl _ 5 i0 Tryz.underlying25 HI0.out.1 HI0.out.2.1 HI0.out.2.2.1 HI0.out.2.2.2 _ _ _ rfl w4 _ _ HOB6.out rfl (by omega) ?_; intro v7 w7 hb7)
                        have HB7 := mkW hb7
                        clear hb7
                        go_wp2
                        go_roundw
                        case rel =>
                          refine ⟨i + k, b ++ [UInt8.ofNat (r % 256).toNat], by rw [HTK.out], HIK.out.2, HIK.out.1, by rw [List.length_append, List.length_singleton]; omega, rdt_next HR.out HQ34.out (fun c rest e => ?_), ?_⟩
                          · rw [HT.out] at e
                            refine ⟨?_, (HEX.out c rest e).2.2⟩
                            have := HY0.out c rest e
                            rw [this]; simp
                          · have := HB7.out
                            rw [List.length_append, List.length_singleton, byte_snoc b (y := r % 256) (by omega) (by omega)]
                            exact this
                        case measure =>
                          show (ba (t.drop k)).size < (ba t).size
                          show (t.drop k).length < t.length
                          rw [List.length_drop]; omega
                      · cases mb with
                        | false =>
                        skip
                        have hdum : True := trivial
                        have HY0 : Hid (∀ c rest, t = esc c ++ rest → r % 256 = (c.toNat : Int)) := fun c rest e => by have := c.toNat_lt; rw [(HEX.out c rest e).1]; omega
                        go_wp2_with (at_builtin; refine Lib.wpList_append_byte rfl _ _ 25 rfl _ 5 i0 Tryz.underlying25 HI0.out.1 HI0.out.2.1 HI0.out.2.2.1 HI0.out.2.2.2 _ _ _ rfl w4 _ _ HOB6.out rfl (by omega) ?_; intro v7 w7 hb7)
                        have HB7 := mkW hb7
                        clear hb7
                        go_wp2
                        go_roundw
                        case rel =>
                          refine ⟨i + k, b ++ [UInt8.ofNat (r % 256).toNat], by rw [HTK.out], HIK.out.2, HIK.out.1, by rw [List.length_append, List.length_singleton]; omega, rdt_next HR.out HQ34.out (fun c rest e => ?_), ?_⟩
                          · rw [HT.out] at e
                            refine ⟨?_, (HEX.out c rest e).2.2⟩
                            have := HY0.out c rest e
                            rw [this]; simp
                          · have := HB7.out
                            rw [List.length_append, List.length_singleton, byte_snoc b (y := r % 256) (by omega) (by omega)]
                            exact this
                        case measure =>
                          show (ba (t.drop k)).size < (ba t).size
                          show (t.drop k).length < t.length
                          rw [List.length_drop]; omega
                        | true =>
                        have HNO : Hid (∀ x, s ≠ quo x) := fun x e => by
                          obtain ⟨c, rest, e2⟩ := HONE.out x e
                          have := (HEX.out c rest e2).2.1
                          cases this
                        have hbs := HOB6.out.2.2
                        have HAR := mkW (Any.utf8_AppendRune_row Tryz.lRune Tryz.infoU8 w4.heap.size _ b.length (Lib.byteCells b) r hr.1 hr.2 w6 HOB6.out.1 (by omega) hbs)
                        have hrl := Lib.runeCells_le r
                        go_wp2_with (go_at_call 152; refine HAR.out.mono ?_)
                        rintro e w7 ⟨v7, rfl, hown7, ob, hg7⟩
                        have HB7 : Hid (Lib.OwnBuf w4.heap.size 5 v7 (b.length + (Lib.runeCells r).length) (Lib.byteCells b ++ Lib.runeCells r) w4 w7) := (HOB6.out.alloc ob).grown hown7 hg7
                        clear hown7 hg7 HAR
                        go_wp2
                        go_roundw
                        case rel =>
                          refine ⟨i + k, b ++ Lib.encodeRune r, by rw [HTK.out], HIK.out.2, HIK.out.1, ?_, fun x hx => absurd hx (HNO.out x), ?_⟩
                          · rw [List.length_append, ← Lib.runeCells_length]; omega
                          · have := HB7.out
                            rw [List.length_append, ← Lib.runeCells_length]
                            rw [show Lib.byteCells (b ++ Lib.encodeRune r) = Lib.byteCells b ++ Lib.runeCells r by rw [← Lib.byteCells_encodeRune]; unfold Lib.byteCells; rw [List.map_append]]
                            exact this
                        case measure =>
                          show (ba (t.drop k)).size < (ba t).size
                          show (t.drop k).length < t.length
                          rw [List.length_drop]; omega
                  · have HN : Hid (∀ x, s ≠ quo x) := fun x e => by
                      obtain ⟨c, rest, e2⟩ := HONE.out x e
                      exact hn c rest e2
                    have HBF := mkW (below_on HB0.out (below_on HB.out.2.1 hb6))
                    have hs6 := (hb6.cell (cell_lt hs')).trans hs'
                    clear hn HUQ hb6 HB
                    cases h10 : (z == 10) with
                    | true =>
                      go_wp2
                      go_quiet (fail)
                      go_wp2
                      refine bodyPost_ret (by rw [results_tmp3 rfl]) rfl ?_
                      exact ⟨Or.inr ⟨HN.out, [], _, te', pe', rfl⟩, Below.drewN' HBF.out _⟩
                    | false =>
                      go_wp2
                      go_quiet (fail)
                      go_wp2
                      refine bodyPost_ret (by rw [results_tmp3 rfl]) rfl ?_
                      exact ⟨Or.inr ⟨HN.out, [], _, te', pe', rfl⟩, Below.drewN' HBF.out _⟩
        | true =>
            go_enter Tryz.func136, Tryz.ntmps136
            go_wp2_with (first | (go_at_call 148; refine (HI.out _).mono ?_; rintro e w1 ⟨rfl, rfl⟩) | (go_at_call 149; first | (refine (HC1.out _).mono ?_; rintro e w2 ⟨rfl, rfl⟩) | (refine (HC2.out _).mono ?_; rintro e w3 ⟨rfl, rfl⟩)) | (go_at_call 150; refine (HV.out _ hbV).mono ?_; rintro e w4 ⟨rfl, hb4⟩) | (at_make; refine wpList_make_own _ rfl _ _ 25 rfl w3.heap.size 5 i0 _ 1 Tryz.underlying25 HI0.out.1 HI0.out.2.1 HI0.out.2.2.1 .i64 .i64 _ C rfl rfl HCap.out (by rw [HI0.out.2.2.2]; omega) (by unfold maxLen; omega) (Nat.le_refl _) ?_))
            intro w5 ho5 hg5
            have HOB : Hid (Lib.OwnBuf w3.heap.size 5 (.slice (some ⟨w3.heap.size, 0, none⟩) 0 C) ([] : By).length (Lib.byteCells []) w3 w5) := ⟨World.ownsRowF_of ho5, grow_below hg5 (Nat.le_refl _) (by simp), hg5.size⟩
            have HBW : Hid (Below W.heap.size W w3) := hb
            have HB0 : Hid (Below w3.heap.size w3 w3) := Below.refl _ _
            generalize (Value.slice (some ⟨w3.heap.size, 0, none⟩) 0 C) = vb at *
            clear ho5 hg5
            go_wp2
            go_loopw [0, 14] (fun vi vb wl => ∃ (i : Nat) (b : By), vi = .string (ba (s.drop i)) ∧ 1 ≤ i ∧ i ≤ s.length ∧ b.length ≤ 4 * i ∧ Hid (RdT s i b) ∧ Hid (Lib.OwnBuf w3.heap.size 5 vb b.length (Lib.byteCells b) w3 wl)) (fun vi _ _ => match vi with | .string r => r.size | _ => 0)
            case atStart => exact ⟨1, [], by rw [HL1.out], by omega, by omega, by simp, RdT.start s, HOB.out⟩
            case round =>
              obtain ⟨i, b, rfl, hi1, hi2, hbl, HR, HB⟩ := hrel
              obtain ⟨t, ht⟩ : ∃ t, s.drop i = t := ⟨_, rfl⟩
              have HT := mkW ht
              have HTL : Hid (t.length = s.length - i) := by unfold Hid; rw [← ht, List.length_drop]
              rw [ht]
              clear ht HOB
              have hszt : (ba t).size = t.length := rfl
              have hbw : Below W.heap.size W wr := below_on HBW.out (HB.out.2.1)
              obtain ⟨⟨te', pe', hs'⟩, _⟩ := hE.later hbw
              by_cases h0 : t.length = 0
              · have HN : Hid (∀ x, s ≠ quo x) := fun x e => by
                  have := rdt_ne HR.out e
                  rw [HT.out] at this
                  exact this (List.length_eq_zero_iff.1 h0)
                have h0i : (t.length : Int) = 0 := by omega
                go_wp2
                go_quiet (fail)
                go_wp2
                refine bodyPost_ret (by rw [results_tmp3 rfl]) rfl ?_
                exact ⟨Or.inr ⟨HN.out, [], _, te', pe', rfl⟩, Below.drewN' (below_on HB0.out HB.out.2.1) _⟩
              · have hkt : 0 < (ba t).size := by rw [hszt]; omega
                have hbg := ba_get hkt
                obtain ⟨z, hzt⟩ : ∃ z : Int, (((ba t)[0]'hkt).toNat : Int) = z := ⟨_, rfl⟩
                have HZ : Hid (z = ((t.getD 0 0).toNat : Int)) := by unfold Hid; rw [← hzt, hbg]
                clear hbg
                have h0i : (0 : Int) < (t.length : Int) := by omega
                by_cases hq : z = 34
                · subst hq
                  have HE : Hid (∀ x, s = quo x → b = x ∧ s.drop (i + 1) = []) := fun x e => rdt_end HR.out e (by
                    rw [HT.out]; exact UInt8.toNat_inj.1 (by have := HZ.out; show _ = 34; omega))
                  have hext : (ba t).extract 1 t.length = ba (s.drop (i + 1)) := by rw [ba_sub, List.take_length, ← HT.out, List.drop_drop]
                  have hcv := conv_ob HB.out wr (Below.refl _ _)
                  have HBL : Hid (b.length ≤ 4 * s.length) := by unfold Hid; omega
                  go_wp2
                  refine bodyPost_ret (by rw [results_tmp3 rfl]) rfl ?_
                  exact ⟨Or.inl ⟨b, s.drop (i + 1), (by rw [← hext]; rfl), HBL.out, HE.out⟩, below_on HB0.out HB.out.2.1⟩
                · have hqf : (z == 34) = false := by rw [beq_eq_false_iff_ne]; exact hq
                  have HQ34 : Hid ((s.drop i).getD 0 0 ≠ 34) := fun e => hq (by rw [HZ.out, ← HT.out, e]; rfl)
                  have HONE : Hid (∀ x, s = quo x → ∃ c rest, t = esc c ++ rest) := fun x e => by
                    obtain ⟨c, q, _, e2⟩ := rdt_one HR.out e HQ34.out
                    exact ⟨c, _, HT.out.symm.trans e2⟩
                  have HUQ := mkW (uqCharOf W t (by have := HTL.out; omega) wr hE hbw hU)
                  have HZ10 : Hid (z = 10 → ∀ x, s ≠ quo x) := fun h x e => by
                    obtain ⟨c, rest, e2⟩ := HONE.out x e
                    exact esc_no10 e2 (UInt8.toNat_inj.1 (by have := HZ.out; show _ = 10; omega))
                  go_wp2_with (go_at_call 151; refine HUQ.out.mono ?_)
                  rintro e w6 ⟨⟨r, mb, k, rfl, hk1, hk2, hr, hex⟩ | ⟨hn, r, mb, tl, T, pv, rfl⟩, hb6⟩
                  · have HEX := mkW hex
                    have HOB6 := mkW (ob_later HB.out hb6)
                    have hs6 := (hb6.cell (cell_lt hs')).trans hs'
                    clear hex HUQ hb6 HB
                    by_cases h10 : z = 10
                    · have HN := mkW (HZ10.out h10)
                      have h10t : (z == 10) = true := by rw [h10]; rfl
                      clear h10 HEX
                      go_wp2
                      go_quiet (fail)
                      go_wp2
                      refine bodyPost_ret (by rw [results_tmp3 rfl]) rfl ?_
                      exact ⟨Or.inr ⟨HN.out, [], _, te', pe', rfl⟩, Below.drewN' (below_on HB0.out HOB6.out.2.1) _⟩
                    · have h10f : (z == 10) = false := by rw [beq_eq_false_iff_ne]; exact h10
                      have HTK : Hid (t.drop k = s.drop (i + k)) := by unfold Hid; rw [← HT.out, List.drop_drop]
                      have HIK : Hid (i + k ≤ s.length ∧ 1 ≤ i + k) := by have := HTL.out; exact ⟨by omega, by omega⟩
                      have HNB : Hid (∀ b' : By, 4 * i + 4 ≤ 4 * (i + k)) := fun _ => by omega
                      clear h10
                      by_cases hr128 : r < 128
                      · skip
                        have hdum : True := trivial
                        have HY0 : Hid (∀ c rest, t = esc c ++ rest → r % 256 = (c.toNat : Int)) := fun c rest e => by have := c.toNat_lt; rw [(HEX.out c rest e).1]; omega
                        go_wp2_with (at_builtin; refine Lib.wpList_append_byte rfl _ _ 25 rfl _ 5 i0 Tryz.underlying25 HI0.out.1 HI0.out.2.1 HI0.out.2.2.1 HI0.out.2.2.2 _ _ _ rfl w3 _ _ HOB6.out rfl (by omega) ?_; intro v7 w7 hb7)
                        have HB7 := mkW hb7
                        clear hb7
                        go_wp2
                        go_roundw
                        case rel =>
                          refine ⟨i + k, b ++ [UInt8.ofNat (r % 256).toNat], by rw [HTK.out], HIK.out.2, HIK.out.1, by rw [List.length_append, List.length_singleton]; omega, rdt_next HR.out HQ34.out (fun c rest e => ?_), ?_⟩
                          · rw [HT.out] at e
                            refine ⟨?_, (HEX.out c rest e).2.2⟩
                            have := HY0.out c rest e
                            rw [this]; simp
                          · have := HB7.out
                            rw [List.length_append, List.length_singleton, byte_snoc b (y := r % 256) (by omega) (by omega)]
                            exact this
                        case measure =>
                          show (ba (t.drop k)).size < (ba t).size
                          show (t.drop k).length < t.length
                          rw [List.length_drop]; omega
                      · cases mb with
                        | false =>
                        skip
                        have hdum : True := trivial
                        have HY0 : Hid (∀ c rest, t = esc c ++ rest → r % 256 = (c.toNat : Int)) := fun c rest e => by have := c.toNat_lt; rw [(HEX.out c rest e).1]; omega
                        go_wp2_with (at_builtin; refine Lib.wpList_append_byte rfl _ _ 25 rfl _ 5 i0 Tryz.underlying25 HI0.out.1 HI0.out.2.1 HI0.out.2.2.1 HI0.out.2.2.2 _ _ _ rfl w3 _ _ HOB6.out rfl (by omega) ?_; intro v7 w7 hb7)
                        have HB7 := mkW hb7
                        clear hb7
                        go_wp2
                        go_roundw
                        case rel =>
                          refine ⟨i + k, b ++ [UInt8.ofNat (r % 256).toNat], by rw [HTK.out], HIK.out.2, HIK.out.1, by rw [List.length_append, List.length_singleton]; omega, rdt_next HR.out HQ34.out (fun c rest e => ?_), ?_⟩
                          · rw [HT.out] at e
                            refine ⟨?_, (HEX.out c rest e).2.2⟩
                            have := HY0.out c rest e
                            rw [this]; simp
                          · have := HB7.out
                            rw [List.length_append, List.length_singleton, byte_snoc b (y := r % 256) (by omega) (by omega)]
                            exact this
                        case measure =>
                          show (ba (t.drop k)).size < (ba t).size
                          show (t.drop k).length < t.length
                          rw [List.length_drop]; omega
                        | true =>
                        have HNO : Hid (∀ x, s ≠ quo x) := fun x e => by
                          obtain ⟨c, rest, e2⟩ := HONE.out x e
                          have := (HEX.out c rest e2).2.1
                          cases this
                        have hbs := HOB6.out.2.2
                        have HAR := mkW (Any.utf8_AppendRune_row Tryz.lRune Tryz.infoU8 w3.heap.size _ b.length (Lib.byteCells b) r hr.1 hr.2 w6 HOB6.out.1 (by omega) hbs)
                        have hrl := Lib.runeCells_le r
                        go_wp2_with (go_at_call 152; refine HAR.out.mono ?_)
                        rintro e w7 ⟨v7, rfl, hown7, ob, hg7⟩
                        have HB7 : Hid (Lib.OwnBuf w3.heap.size 5 v7 (b.length + (Lib.runeCells r).length) (Lib.byteCells b ++ Lib.runeCells r) w3 w7) := (HOB6.out.alloc ob).grown hown7 hg7
                        clear hown7 hg7 HAR
                        go_wp2
                        go_roundw
                        case rel =>
                          refine ⟨i + k, b ++ Lib.encodeRune r, by rw [HTK.out], HIK.out.2, HIK.out.1, ?_, fun x hx => absurd hx (HNO.out x), ?_⟩
                          · rw [List.length_append, ← Lib.runeCells_length]; omega
                          · have := HB7.out
                            rw [List.length_append, ← Lib.runeCells_length]
                            rw [show Lib.byteCells (b ++ Lib.encodeRune r) = Lib.byteCells b ++ Lib.runeCells r by rw [← Lib.byteCells_encodeRune]; unfold Lib.byteCells; rw [List.map_append]]
                            exact this
                        case measure =>
                          show (ba (t.drop k)).size < (ba t).size
                          show (t.drop k).length < t.length
                          rw [List.length_drop]; omega
                  · have HN : Hid (∀ x, s ≠ quo x) := fun x e => by
                      obtain ⟨c, rest, e2⟩ := HONE.out x e
                      exact hn c rest e2
                    have HBF := mkW (below_on HB0.out (below_on HB.out.2.1 hb6))
                    have hs6 := (hb6.cell (cell_lt hs')).trans hs'
                    clear hn HUQ hb6 HB
                    cases h10 : (z == 10) with
                    | true =>
                      go_wp2
                      go_quiet (fail)
                      go_wp2
                      refine bodyPost_ret (by rw [results_tmp3 rfl]) rfl ?_
                      exact ⟨Or.inr ⟨HN.out, [], _, te', pe', rfl⟩, Below.drewN' HBF.out _⟩
                    | false =>
                      go_wp2
                      go_quiet (fail)
                      go_wp2
                      refine bodyPost_ret (by rw [results_tmp3 rfl]) rfl ?_
                      exact ⟨Or.inr ⟨HN.out, [], _, te', pe', rfl⟩, Below.drewN' HBF.out _⟩

      | true =>
            clear HNB
            go_enter Tryz.func136, Tryz.ntmps136
            go_wp2_with (first | (go_at_call 148; refine (HI.out _).mono ?_; rintro e w1 ⟨rfl, rfl⟩) | (go_at_call 149; first | (refine (HC1.out _).mono ?_; rintro e w2 ⟨rfl, rfl⟩) | (refine (HC2.out _).mono ?_; rintro e w3 ⟨rfl, rfl⟩)) | (go_at_call 150; refine (HV.out _ hbV).mono ?_; rintro e w4 ⟨rfl, hb4⟩) | (at_make; refine wpList_make_own _ rfl _ _ 25 rfl w2.heap.size 5 i0 _ 1 Tryz.underlying25 HI0.out.1 HI0.out.2.1 HI0.out.2.2.1 .i64 .i64 _ C rfl rfl HCap.out (by rw [HI0.out.2.2.2]; omega) (by unfold maxLen; omega) (Nat.le_refl _) ?_))
            intro w5 ho5 hg5
            have HOB : Hid (Lib.OwnBuf w2.heap.size 5 (.slice (some ⟨w2.heap.size, 0, none⟩) 0 C) ([] : By).length (Lib.byteCells []) w2 w5) := ⟨World.ownsRowF_of ho5, grow_below hg5 (Nat.le_refl _) (by simp), hg5.size⟩
            have HBW : Hid (Below W.heap.size W w2) := hb
            have HB0 : Hid (Below w2.heap.size w2 w2) := Below.refl _ _
            generalize (Value.slice (some ⟨w2.heap.size, 0, none⟩) 0 C) = vb at *
            clear ho5 hg5
            go_wp2
            go_loopw [0, 14] (fun vi vb wl => ∃ (i : Nat) (b : By), vi = .string (ba (s.drop i)) ∧ 1 ≤ i ∧ i ≤ s.length ∧ b.length ≤ 4 * i ∧ Hid (RdT s i b) ∧ Hid (Lib.OwnBuf w2.heap.size 5 vb b.length (Lib.byteCells b) w2 wl)) (fun vi _ _ => match vi with | .string r => r.size | _ => 0)
            case atStart => exact ⟨1, [], by rw [HL1.out], by omega, by omega, by simp, RdT.start s, HOB.out⟩
            case round =>
              obtain ⟨i, b, rfl, hi1, hi2, hbl, HR, HB⟩ := hrel
              obtain ⟨t, ht⟩ : ∃ t, s.drop i = t := ⟨_, rfl⟩
              have HT := mkW ht
              have HTL : Hid (t.length = s.length - i) := by unfold Hid; rw [← ht, List.length_drop]
              rw [ht]
              clear ht HOB
              have hszt : (ba t).size = t.length := rfl
              have hbw : Below W.heap.size W wr := below_on HBW.out (HB.out.2.1)
              obtain ⟨⟨te', pe', hs'⟩, _⟩ := hE.later hbw
              by_cases h0 : t.length = 0
              · have HN : Hid (∀ x, s ≠ quo x) := fun x e => by
                  have := rdt_ne HR.out e
                  rw [HT.out] at this
                  exact this (List.length_eq_zero_iff.1 h0)
                have h0i : (t.length : Int) = 0 := by omega
                go_wp2
                go_quiet (fail)
                go_wp2
                refine bodyPost_ret (by rw [results_tmp3 rfl]) rfl ?_
                exact ⟨Or.inr ⟨HN.out, [], _, te', pe', rfl⟩, Below.drewN' (below_on HB0.out HB.out.2.1) _⟩
              · have hkt : 0 < (ba t).size := by rw [hszt]; omega
                have hbg := ba_get hkt
                obtain ⟨z, hzt⟩ : ∃ z : Int, (((ba t)[0]'hkt).toNat : Int) = z := ⟨_, rfl⟩
                have HZ : Hid (z = ((t.getD 0 0).toNat : Int)) := by unfold Hid; rw [← hzt, hbg]
                clear hbg
                have h0i : (0 : Int) < (t.length : Int) := by omega
                by_cases hq : z = 34
                · subst hq
                  have HE : Hid (∀ x, s = quo x → b = x ∧ s.drop (i + 1) = []) := fun x e => rdt_end HR.out e (by
                    rw [HT.out]; exact UInt8.toNat_inj.1 (by have := HZ.out; show _ = 34; omega))
                  have hext : (ba t).extract 1 t.length = ba (s.drop (i + 1)) := by rw [ba_sub, List.take_length, ← HT.out, List.drop_drop]
                  have hcv := conv_ob HB.out wr (Below.refl _ _)
                  have HBL : Hid (b.length ≤ 4 * s.length) := by unfold Hid; omega
                  go_wp2
                  refine bodyPost_ret (by rw [results_tmp3 rfl]) rfl ?_
                  exact ⟨Or.inl ⟨b, s.drop (i + 1), (by rw [← hext]; rfl), HBL.out, HE.out⟩, below_on HB0.out HB.out.2.1⟩
                · have hqf : (z == 34) = false := by rw [beq_eq_false_iff_ne]; exact hq
                  have HQ34 : Hid ((s.drop i).getD 0 0 ≠ 34) := fun e => hq (by rw [HZ.out, ← HT.out, e]; rfl)
                  have HONE : Hid (∀ x, s = quo x → ∃ c rest, t = esc c ++ rest) := fun x e => by
                    obtain ⟨c, q, _, e2⟩ := rdt_one HR.out e HQ34.out
                    exact ⟨c, _, HT.out.symm.trans e2⟩
                  have HUQ := mkW (uqCharOf W t (by have := HTL.out; omega) wr hE hbw hU)
                  have HZ10 : Hid (z = 10 → ∀ x, s ≠ quo x) := fun h x e => by
                    obtain ⟨c, rest, e2⟩ := HONE.out x e
                    exact esc_no10 e2 (UInt8.toNat_inj.1 (by have := HZ.out; show _ = 10; omega))
                  go_wp2_with (go_at_call 151; refine HUQ.out.mono ?_)
                  rintro e w6 ⟨⟨r, mb, k, rfl, hk1, hk2, hr, hex⟩ | ⟨hn, r, mb, tl, T, pv, rfl⟩, hb6⟩
                  · have HEX := mkW hex
                    have HOB6 := mkW (ob_later HB.out hb6)
                    have hs6 := (hb6.cell (cell_lt hs')).trans hs'
                    clear hex HUQ hb6 HB
                    by_cases h10 : z = 10
                    · have HN := mkW (HZ10.out h10)
                      have h10t : (z == 10) = true := by rw [h10]; rfl
                      clear h10 HEX
                      go_wp2
                      go_quiet (fail)
                      go_wp2
                      refine bodyPost_ret (by rw [results_tmp3 rfl]) rfl ?_
                      exact ⟨Or.inr ⟨HN.out, [], _, te', pe', rfl⟩, Below.drewN' (below_on HB0.out HOB6.out.2.1) _⟩
                    · have h10f : (z == 10) = false := by rw [beq_eq_false_iff_ne]; exact h10
                      have HTK : Hid (t.drop k = s.drop (i + k)) := by unfold Hid; rw [← HT.out, List.drop_drop]
                      have HIK : Hid (i + k ≤ s.length ∧ 1 ≤ i + k) := by have := HTL.out; exact ⟨by omega, by omega⟩
                      have HNB : Hid (∀ b' : By, 4 * i + 4 ≤ 4 * (i + k)) := fun _ => by omega
                      clear h10
                      by_cases hr128 : r < 128
                      · skip
                        have hdum : True := trivial
                        have HY0 : Hid (∀ c rest, t = esc c ++ rest → r % 256 = (c.toNat : Int)) := fun c rest e => by have := c.toNat_lt; rw [(HEX.out c rest e).1]; omega
                        go_wp2_with (at_builtin; refine Lib.wpList_append_byte rfl _ _ 25 rfl _ 5 i0 Tryz.underlying25 HI0.out.1 HI0.out.2.1 HI0.out.2.2.1 HI0.out.2.2.2 _ _ _ rfl w2 _ _ HOB6.out rfl (by omega) ?_; intro v7 w7 hb7)
                        have HB7 := mkW hb7
                        clear hb7
                        go_wp2
                        go_roundw
                        case rel =>
                          refine ⟨i + k, b ++ [UInt8.ofNat (r % 256).toNat], by rw [HTK.out], HIK.out.2, HIK.out.1, by rw [List.length_append, List.length_singleton]; omega, rdt_next HR.out HQ34.out (fun c rest e => ?_), ?_⟩
                          · rw [HT.out] at e
                            refine ⟨?_, (HEX.out c rest e).2.2⟩
                            have := HY0.out c rest e
                            rw [this]; simp
                          · have := HB7.out
                            rw [List.length_append, List.length_singleton, byte_snoc b (y := r % 256) (by omega) (by omega)]
                            exact this
                        case measure =>
                          show (ba (t.drop k)).size < (ba t).size
                          show (t.drop k).length < t.length
                          rw [List.length_drop]; omega
                      · cases mb with
                        | false =>
                        skip
                        have hdum : True := trivial
                        have HY0 : Hid (∀ c rest, t = esc c ++ rest → r % 256 = (c.toNat : Int)) := fun c rest e => by have := c.toNat_lt; rw [(HEX.out c rest e).1]; omega
                        go_wp2_with (at_builtin; refine Lib.wpList_append_byte rfl _ _ 25 rfl _ 5 i0 Tryz.underlying25 HI0.out.1 HI0.out.2.1 HI0.out.2.2.1 HI0.out.2.2.2 _ _ _ rfl w2 _ _ HOB6.out rfl (by omega) ?_; intro v7 w7 hb7)
                        have HB7 := mkW hb7
                        clear hb7
                        go_wp2
                        go_roundw
                        case rel =>
                          refine ⟨i + k, b ++ [UInt8.ofNat (r % 256).toNat], by rw [HTK.out], HIK.out.2, HIK.out.1, by rw [List.length_append, List.length_singleton]; omega, rdt_next HR.out HQ34.out (fun c rest e => ?_), ?_⟩
                          · rw [HT.out] at e
                            refine ⟨?_, (HEX.out c rest e).2.2⟩
                            have := HY0.out c rest e
                            rw [this]; simp
                          · have := HB7.out
                            rw [List.length_append, List.length_singleton, byte_snoc b (y := r % 256) (by omega) (by omega)]
                            exact this
                        case measure =>
                          show (ba (t.drop k)).size < (ba t).size
                          show (t.drop k).length < t.length
                          rw [List.length_drop]; omega
                        | true =>
                        have HNO : Hid (∀ x, s ≠ quo x) := fun x e => by
                          obtain ⟨c, rest, e2⟩ := HONE.out x e
                          have := (HEX.out c rest e2).2.1
                          cases this
                        have hbs := HOB6.out.2.2
                        have HAR := mkW (Any.utf8_AppendRune_row Tryz.lRune Tryz.infoU8 w2.heap.size _ b.length (Lib.byteCells b) r hr.1 hr.2 w6 HOB6.out.1 (by omega) hbs)
                        have hrl := Lib.runeCells_le r
                        go_wp2_with (go_at_call 152; refine HAR.out.mono ?_)
                        rintro e w7 ⟨v7, rfl, hown7, ob, hg7⟩
                        have HB7 : Hid (Lib.OwnBuf w2.heap.size 5 v7 (b.length + (Lib.runeCells r).length) (Lib.byteCells b ++ Lib.runeCells r) w2 w7) := (HOB6.out.alloc ob).grown hown7 hg7
                        clear hown7 hg7 HAR
                        go_wp2
                        go_roundw
                        case rel =>
                          refine ⟨i + k, b ++ Lib.encodeRune r, by rw [HTK.out], HIK.out.2, HIK.out.1, ?_, fun x hx => absurd hx (HNO.out x), ?_⟩
                          · rw [List.length_append, ← Lib.runeCells_length]; omega
                          · have := HB7.out
                            rw [List.length_append, ← Lib.runeCells_length]
                            rw [show Lib.byteCells (b ++ Lib.encodeRune r) = Lib.byteCells b ++ Lib.runeCells r by rw [← Lib.byteCells_encodeRune]; unfold Lib.byteCells; rw [List.map_append]]
                            exact this
                        case measure =>
                          show (ba (t.drop k)).size < (ba t).size
                          show (t.drop k).length < t.length
                          rw [List.length_drop]; omega
                  · have HN : Hid (∀ x, s ≠ quo x) := fun x e => by
                      obtain ⟨c, rest, e2⟩ := HONE.out x e
                      exact hn c rest e2
                    have HBF := mkW (below_on HB0.out (below_on HB.out.2.1 hb6))
                    have hs6 := (hb6.cell (cell_lt hs')).trans hs'
                    clear hn HUQ hb6 HB
                    cases h10 : (z == 10) with
                    | true =>
                      go_wp2
                      go_quiet (fail)
                      go_wp2
                      refine bodyPost_ret (by rw [results_tmp3 rfl]) rfl ?_
                      exact ⟨Or.inr ⟨HN.out, [], _, te', pe', rfl⟩, Below.drewN' HBF.out _⟩
                    | false =>
                      go_wp2
                      go_quiet (fail)
                      go_wp2
                      refine bodyPost_ret (by rw [results_tmp3 rfl]) rfl ?_
                      exact ⟨Or.inr ⟨HN.out, [], _, te', pe', rfl⟩, Below.drewN' HBF.out _⟩

end Go.Proofs.YtlnppgjppfkocaaGreatDoor.Xs
