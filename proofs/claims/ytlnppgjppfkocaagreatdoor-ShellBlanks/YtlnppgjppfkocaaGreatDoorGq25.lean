import Derived.Test.YtlnppgjppfkocaaGreatDoorGq24
import Derived.Deep.QuietTactic
import Derived.BigQuiet
/-! strconv's UnquoteChar, right on all that quoting writes. -/
namespace Go.Proofs.YtlnppgjppfkocaaGreatDoor.Xs
open Go.RowKit Plain
set_option linter.unusedVariables false
set_option linter.unusedSimpArgs false

theorem hxD_ok : ∀ c : UInt8, hxB? (hxD (c.toNat / 16)) ∧ hxB? (hxD (c.toNat % 16)) := by
  have key : ∀ c : UInt8, ((48 ≤ (hxD (c.toNat / 16)).toNat ∧ (hxD (c.toNat / 16)).toNat ≤ 57) ∨ (97 ≤ (hxD (c.toNat / 16)).toNat ∧ (hxD (c.toNat / 16)).toNat ≤ 102)) ∧ ((48 ≤ (hxD (c.toNat % 16)).toNat ∧ (hxD (c.toNat % 16)).toNat ≤ 57) ∨ (97 ≤ (hxD (c.toNat % 16)).toNat ∧ (hxD (c.toNat % 16)).toNat ≤ 102)) := all256 (by decide +kernel)
  exact key
theorem hxD_num : ∀ c : UInt8, hxV (hxD (c.toNat / 16)) * 16 + hxV (hxD (c.toNat % 16)) = c.toNat := all256 (by decide +kernel)
/-- What a sign that was quoted looks like. -/
theorem esc_if {t rest : By} {c : UInt8} (h : t = esc c ++ rest) :
    (t.getD 0 0 ≠ 92 ∧ t.getD 0 0 = c ∧ (esc c).length = 1 ∧ 32 ≤ c.toNat ∧ c.toNat ≤ 126 ∧ c ≠ 34) ∨
    (t.getD 0 0 = 92 ∧ 2 ≤ t.length ∧ t.getD 1 0 = c ∧ (c = 34 ∨ c = 92) ∧ (esc c).length = 2) ∨
    (t.getD 0 0 = 92 ∧ 4 ≤ t.length ∧ t.getD 1 0 = 120 ∧ hxB? (t.getD 2 0) ∧ hxB? (t.getD 3 0) ∧ c.toNat = hxV (t.getD 2 0) * 16 + hxV (t.getD 3 0) ∧ (esc c).length = 4) := by
  by_cases h1 : c = 34
  · right; left
    subst h1
    have e : esc 34 = [92, 34] := by decide
    rw [e] at h ⊢
    subst h
    exact ⟨rfl, by simp, rfl, .inl rfl, rfl⟩
  · by_cases h2 : c = 92
    · right; left
      subst h2
      have e : esc 92 = [92, 92] := by decide
      rw [e] at h ⊢
      subst h
      exact ⟨rfl, by simp, rfl, .inr rfl, rfl⟩
    · by_cases h3 : 32 ≤ c.toNat ∧ c.toNat ≤ 126
      · left
        have e : esc c = [c] := by unfold esc; rw [if_neg h1, if_neg h2, if_pos h3]
        rw [e] at h ⊢
        subst h
        exact ⟨h2, rfl, rfl, h3.1, h3.2, h1⟩
      · right; right
        have e : esc c = [92, 120, hxD (c.toNat / 16), hxD (c.toNat % 16)] := by unfold esc; rw [if_neg h1, if_neg h2, if_neg h3]; rfl
        rw [e] at h ⊢
        subst h
        exact ⟨rfl, by simp, rfl, (hxD_ok c).1, (hxD_ok c).2, (hxD_num c).symm, rfl⟩
theorem Below.drewN' {B : Nat} {a w : World} (h : Below B a w) (n : Nat) : Below B a (w.drewN n) := h.trans ⟨rfl, rfl, rfl, Nat.le_refl _, fun _ _ => rfl⟩
theorem or16f : ∀ i j : Fin 16, bits .or .i32 (wrap32 ((i.val : Int) * 16)) (j.val : Int) = (i.val : Int) * 16 + (j.val : Int) := by decide +kernel
theorem or16 (a b : Nat) (ha : a ≤ 15) (hb : b ≤ 15) : bits .or .i32 (wrap32 ((a : Int) * 16)) (b : Int) = (a : Int) * 16 + (b : Int) := or16f ⟨a, by omega⟩ ⟨b, by omega⟩
theorem or16a (b : Nat) (hb : b ≤ 15) : bits .or .i32 (wrap32 (0 * 16)) (b : Int) = (b : Int) := by
  have := or16 0 b (by omega) hb
  simpa using this
def I32 (z : Int) : Prop := -2147483648 ≤ z ∧ z ≤ 2147483647
/-- What UnquoteChar answers. -/
def UqP (t : By) (e : Ending) : Prop :=
  (∃ (r : Int) (mb : Bool) (k : Nat), e = .returned (.tuple #[.int .i32 r, .bool mb, .string (ba (t.drop k)), .nilIface]) ∧ 1 ≤ k ∧ k ≤ t.length ∧ I32 r ∧ (∀ c rest, t = esc c ++ rest → r = c.toNat ∧ mb = false ∧ k = (esc c).length)) ∨
  ((∀ c rest, t ≠ esc c ++ rest) ∧ ∃ (r : Int) (mb : Bool) (tl : By) (T : TypeId) (p : Value), e = .returned (.tuple #[.int .i32 r, .bool mb, .string (ba tl), .iface T p]))
theorem results_tmp4 {fn : Func} {a b c d : Tmp} (h : fn.results = #[.tmp a, .tmp b, .tmp c, .tmp d]) (tmps : Array Value) (P : Program) (w : World) :
    (results fn tmps).run P w = .ok (.tuple #[tmps.getD a undef, tmps.getD b undef, tmps.getD c undef, tmps.getD d undef]) w := by
  simp only [results, h]
  simp [Sem.run_bind, Result.andThen]
theorem utabs_later {w w' : World} (h : Lib.Utf8Tabs 4 5 w) (hb : Below w.heap.size w w') : Lib.Utf8Tabs 4 5 w' :=
  ⟨fun c hc => (hb.cell (cell_lt (h.1 c hc))).trans (h.1 c hc), fun i hi => ⟨(hb.cell (cell_lt (h.2 i hi).1)).trans (h.2 i hi).1, (hb.cell (cell_lt (h.2 i hi).2)).trans (h.2 i hi).2⟩⟩
theorem utabs_on {W w : World} (h : Lib.Utf8Tabs 4 5 W) (hb : Below W.heap.size W w) : Lib.Utf8Tabs 4 5 w := utabs_later h hb
set_option maxHeartbeats 32000000 in
set_option maxRecDepth 100000 in
theorem uqCharOf (W : World) (t : By) (hl : t.length ≤ 281474976710656) (w : World) (hE : ErrAt W) (hb : Below W.heap.size W w) (hU : Lib.Utf8Tabs 4 5 W) :
    Calls Tryz.prog 151 #[.string (ba t), .int .u8 34] w fun e w' => UqP t e ∧ Below w.heap.size w w' := by
  have hsz : (ba t).size = t.length := rfl
  obtain ⟨⟨te, pe, hs⟩, _⟩ := hE.later hb
  by_cases h0 : t.length = 0
  · have ht : t = [] := List.length_eq_zero_iff.1 h0
    have HN : Hid (∀ c rest, t ≠ esc c ++ rest) := fun c rest e => by
      rw [ht] at e
      exact esc_ne c (List.append_eq_nil_iff.1 e.symm).1
    subst ht
    go_enter Tryz.func151, Tryz.ntmps151
    go_wp2
    refine bodyPost_ret (by rw [results_tmp4 rfl]) rfl ?_
    exact ⟨Or.inr ⟨HN.out, _, _, [], te, pe, rfl⟩, Below.refl _ _⟩
  · have hkb : 0 < (ba t).size := by rw [hsz]; omega
    have hbg := ba_get hkb
    obtain ⟨z, hz⟩ : ∃ z : Int, (((ba t)[0]'hkb).toNat : Int) = z := ⟨_, rfl⟩
    have HZ : Hid (z = ((t.getD 0 0).toNat : Int)) := by unfold Hid; rw [← hz, hbg]
    have hz0 : 0 ≤ z ∧ z < 256 := by have := (t.getD 0 0).toNat_lt; have := HZ.out; omega
    obtain ⟨hz1, hz2⟩ := hz0
    clear hbg
    have hlb : ((t.length : Int) == 0) = false := by rw [beq_eq_false_iff_ne]; omega
    by_cases h34 : z = 34
    · subst h34
      have HN : Hid (∀ c rest, t ≠ esc c ++ rest) := fun c rest e => by
        have h1 := HZ.out
        rcases esc_if e with h | h | h
        · exact h.2.2.2.2.2 (UInt8.toNat_inj.1 (by rw [← h.2.1]; show _ = 34; omega))
        · rw [h.1] at h1; simp at h1
        · rw [h.1] at h1; simp at h1
      go_enter Tryz.func151, Tryz.ntmps151
      go_wp2
      refine bodyPost_ret (by rw [results_tmp4 rfl]) rfl ?_
      exact ⟨Or.inr ⟨HN.out, _, _, [], te, pe, rfl⟩, Below.refl _ _⟩
    · have h34f : (z == 34) = false := by rw [beq_eq_false_iff_ne]; exact h34
      by_cases h128 : 128 ≤ z
      · have HN : Hid (∀ c rest, t ≠ esc c ++ rest) := fun c rest e => by
          have h1 := HZ.out
          rcases esc_if e with h | h | h
          · rw [h.2.1] at h1; omega
          · rw [h.1] at h1; simp at h1; omega
          · rw [h.1] at h1; simp at h1; omega
        have hd : Lib.decodeGo (ba t) = Utf8.decode (ba t) 0 := by unfold Lib.decodeGo; rw [if_neg (by rw [hsz]; omega)]
        have h1 := Lib.width_le (ba t) hkb
        have h2 := (decode_high (ba t) 0 hkb (by omega)).2
        have h3 := decode_le (ba t) 0
        have HD : Hid (Calls Tryz.prog 114 #[.string (ba t)] w fun e w' => e = .returned (.tuple #[.int .i32 (Utf8.decode (ba t) 0).1, .int .i64 (Utf8.decode (ba t) 0).2]) ∧ Below w.heap.size w w') := by
          have := Any.utf8_DecodeRuneInString Tryz.lDecode (ba t) w (utabs_on hU hb)
          rwa [hd] at this
        clear hd
        obtain ⟨R, hR⟩ : ∃ R, (Utf8.decode (ba t) 0).1 = R := ⟨_, rfl⟩
        obtain ⟨K, hK⟩ : ∃ K, (Utf8.decode (ba t) 0).2 = K := ⟨_, rfl⟩
        rw [hR] at h3 HD
        rw [hK] at h1 h2 HD
        rw [hsz] at h1
        clear hR hK
        have hsl := slice_from t K h1
        go_enter Tryz.func151, Tryz.ntmps151
        go_wp2_with (go_at_call 114; refine HD.out.mono ?_; rintro e w1 ⟨rfl, hb1⟩)
        go_quiet (fail)
        go_wp2
        refine bodyPost_ret (by rw [results_tmp4 rfl]) rfl ?_
        exact ⟨Or.inl ⟨R, true, K, rfl, h2, h1, ⟨by omega, by omega⟩, fun c rest e => absurd e (HN.out c rest)⟩, Below.drewN' hb1 _⟩
      · by_cases h92 : z = 92
        · subst h92
          have HQ : Hid (∀ c rest, t = esc c ++ rest → (2 ≤ t.length ∧ t.getD 1 0 = c ∧ (c = 34 ∨ c = 92) ∧ (esc c).length = 2) ∨ (4 ≤ t.length ∧ t.getD 1 0 = 120 ∧ hxB? (t.getD 2 0) ∧ hxB? (t.getD 3 0) ∧ c.toNat = hxV (t.getD 2 0) * 16 + hxV (t.getD 3 0) ∧ (esc c).length = 4)) := fun c rest e => by
            rcases esc_if e with h | h | h
            · exact absurd (UInt8.toNat_inj.1 (by have := HZ.out; show _ = 92; omega)) h.1
            · exact .inl h.2
            · exact .inr h.2
          by_cases h1 : t.length ≤ 1
          · have HN : Hid (∀ c rest, t ≠ esc c ++ rest) := fun c rest e => by
              rcases HQ.out c rest e with h | h
              · have := h.1; omega
              · have := h.1; omega
            have h1i : (t.length : Int) ≤ 1 := by omega
            go_enter Tryz.func151, Tryz.ntmps151
            go_wp2
            refine bodyPost_ret (by rw [results_tmp4 rfl]) rfl ?_
            exact ⟨Or.inr ⟨HN.out, _, _, [], te, pe, rfl⟩, Below.refl _ _⟩
          · have hk1 : 1 < (ba t).size := by rw [hsz]; omega
            have h1i : ¬ (t.length : Int) ≤ 1 := by omega
            have hbg := ba_get hk1
            obtain ⟨y, hy⟩ : ∃ y : Int, (((ba t)[1]'hk1).toNat : Int) = y := ⟨_, rfl⟩
            have HY : Hid (y = ((t.getD 1 0).toNat : Int)) := by unfold Hid; rw [← hy, hbg]
            have hy0 : 0 ≤ y ∧ y < 256 := by have := (t.getD 1 0).toNat_lt; have := HY.out; omega
            obtain ⟨hy1, hy2⟩ := hy0
            have HYN : Hid (y ≠ 34 → y ≠ 92 → y ≠ 120 → ∀ c rest, t ≠ esc c ++ rest) := fun n1 n2 n3 c rest e => by
              have hq := HY.out
              rcases HQ.out c rest e with h | h
              · rw [h.2.1] at hq
                rcases h.2.2.1 with e | e <;> subst e
                · exact n1 hq
                · exact n2 hq
              · rw [h.2.1] at hq; exact n3 hq
            have hex : (ba t).extract 2 t.length = ba (t.drop 2) := by rw [ba_sub, List.take_length]
            clear hbg
            have HL2 : Hid (1 ≤ 2 ∧ 2 ≤ t.length) := ⟨by omega, by omega⟩
            by_cases hc97 : y = 97
            · subst hc97
              have HN := mkW (HYN.out (by decide) (by decide) (by decide))
              clear HQ HYN
              go_enter Tryz.func151, Tryz.ntmps151
              go_wp2
              refine bodyPost_ret (by rw [results_tmp4 rfl]) rfl ?_
              exact ⟨Or.inl ⟨7, false, 2, rfl, HL2.out.1, HL2.out.2, ⟨by decide, by decide⟩, fun c rest e => absurd e (HN.out c rest)⟩, Below.refl _ _⟩
            have hf97 : (y == 97) = false := by rw [beq_eq_false_iff_ne]; exact hc97
            by_cases hc98 : y = 98
            · subst hc98
              have HN := mkW (HYN.out (by decide) (by decide) (by decide))
              clear HQ HYN
              go_enter Tryz.func151, Tryz.ntmps151
              go_wp2
              refine bodyPost_ret (by rw [results_tmp4 rfl]) rfl ?_
              exact ⟨Or.inl ⟨8, false, 2, rfl, HL2.out.1, HL2.out.2, ⟨by decide, by decide⟩, fun c rest e => absurd e (HN.out c rest)⟩, Below.refl _ _⟩
            have hf98 : (y == 98) = false := by rw [beq_eq_false_iff_ne]; exact hc98
            by_cases hc102 : y = 102
            · subst hc102
              have HN := mkW (HYN.out (by decide) (by decide) (by decide))
              clear HQ HYN
              go_enter Tryz.func151, Tryz.ntmps151
              go_wp2
              refine bodyPost_ret (by rw [results_tmp4 rfl]) rfl ?_
              exact ⟨Or.inl ⟨12, false, 2, rfl, HL2.out.1, HL2.out.2, ⟨by decide, by decide⟩, fun c rest e => absurd e (HN.out c rest)⟩, Below.refl _ _⟩
            have hf102 : (y == 102) = false := by rw [beq_eq_false_iff_ne]; exact hc102
            by_cases hc110 : y = 110
            · subst hc110
              have HN := mkW (HYN.out (by decide) (by decide) (by decide))
              clear HQ HYN
              go_enter Tryz.func151, Tryz.ntmps151
              go_wp2
              refine bodyPost_ret (by rw [results_tmp4 rfl]) rfl ?_
              exact ⟨Or.inl ⟨10, false, 2, rfl, HL2.out.1, HL2.out.2, ⟨by decide, by decide⟩, fun c rest e => absurd e (HN.out c rest)⟩, Below.refl _ _⟩
            have hf110 : (y == 110) = false := by rw [beq_eq_false_iff_ne]; exact hc110
            by_cases hc114 : y = 114
            · subst hc114
              have HN := mkW (HYN.out (by decide) (by decide) (by decide))
              clear HQ HYN
              go_enter Tryz.func151, Tryz.ntmps151
              go_wp2
              refine bodyPost_ret (by rw [results_tmp4 rfl]) rfl ?_
              exact ⟨Or.inl ⟨13, false, 2, rfl, HL2.out.1, HL2.out.2, ⟨by decide, by decide⟩, fun c rest e => absurd e (HN.out c rest)⟩, Below.refl _ _⟩
            have hf114 : (y == 114) = false := by rw [beq_eq_false_iff_ne]; exact hc114
            by_cases hc116 : y = 116
            · subst hc116
              have HN := mkW (HYN.out (by decide) (by decide) (by decide))
              clear HQ HYN
              go_enter Tryz.func151, Tryz.ntmps151
              go_wp2
              refine bodyPost_ret (by rw [results_tmp4 rfl]) rfl ?_
              exact ⟨Or.inl ⟨9, false, 2, rfl, HL2.out.1, HL2.out.2, ⟨by decide, by decide⟩, fun c rest e => absurd e (HN.out c rest)⟩, Below.refl _ _⟩
            have hf116 : (y == 116) = false := by rw [beq_eq_false_iff_ne]; exact hc116
            by_cases hc118 : y = 118
            · subst hc118
              have HN := mkW (HYN.out (by decide) (by decide) (by decide))
              clear HQ HYN
              go_enter Tryz.func151, Tryz.ntmps151
              go_wp2
              refine bodyPost_ret (by rw [results_tmp4 rfl]) rfl ?_
              exact ⟨Or.inl ⟨11, false, 2, rfl, HL2.out.1, HL2.out.2, ⟨by decide, by decide⟩, fun c rest e => absurd e (HN.out c rest)⟩, Below.refl _ _⟩
            have hf118 : (y == 118) = false := by rw [beq_eq_false_iff_ne]; exact hc118
            by_cases hc92 : y = 92
            · subst hc92
              have HE : Hid (∀ c rest, t = esc c ++ rest → (92 : Int) = c.toNat ∧ (false : Bool) = false ∧ 2 = (esc c).length) := fun c rest e => by
                have hq := HY.out
                rcases HQ.out c rest e with h | h
                · rw [h.2.1] at hq; exact ⟨hq, rfl, h.2.2.2.symm⟩
                · rw [h.2.1] at hq; simp at hq
              clear HQ HYN
              go_enter Tryz.func151, Tryz.ntmps151
              go_wp2
              refine bodyPost_ret (by rw [results_tmp4 rfl]) rfl ?_
              exact ⟨Or.inl ⟨92, false, 2, rfl, HL2.out.1, HL2.out.2, ⟨by decide, by decide⟩, fun c rest e => ⟨(HE.out c rest e).1, rfl, (HE.out c rest e).2.2⟩⟩, Below.refl _ _⟩
            have hf92 : (y == 92) = false := by rw [beq_eq_false_iff_ne]; exact hc92
            by_cases hc34 : y = 34
            · subst hc34
              have HE : Hid (∀ c rest, t = esc c ++ rest → (34 : Int) = c.toNat ∧ (false : Bool) = false ∧ 2 = (esc c).length) := fun c rest e => by
                have hq := HY.out
                rcases HQ.out c rest e with h | h
                · rw [h.2.1] at hq; exact ⟨hq, rfl, h.2.2.2.symm⟩
                · rw [h.2.1] at hq; simp at hq
              clear HQ HYN
              go_enter Tryz.func151, Tryz.ntmps151
              go_wp2
              refine bodyPost_ret (by rw [results_tmp4 rfl]) rfl ?_
              exact ⟨Or.inl ⟨34, false, 2, rfl, HL2.out.1, HL2.out.2, ⟨by decide, by decide⟩, fun c rest e => ⟨(HE.out c rest e).1, rfl, (HE.out c rest e).2.2⟩⟩, Below.refl _ _⟩
            have hf34 : (y == 34) = false := by rw [beq_eq_false_iff_ne]; exact hc34
            by_cases hc39 : y = 39
            · subst hc39
              have HN := mkW (HYN.out (by decide) (by decide) (by decide))
              clear HQ HYN
              go_enter Tryz.func151, Tryz.ntmps151
              go_wp2
              refine bodyPost_ret (by rw [results_tmp4 rfl]) rfl ?_
              exact ⟨Or.inr ⟨HN.out, _, _, [], te, pe, rfl⟩, Below.refl _ _⟩
            have hf39 : (y == 39) = false := by rw [beq_eq_false_iff_ne]; exact hc39
            by_cases hoct : 48 ≤ y ∧ y ≤ 55
            · obtain ⟨ho1, ho2⟩ := hoct
              have HN := mkW (HYN.out (by omega) (by omega) (by omega))
              clear HQ HYN
              by_cases hle : t.length < 4
              · have hlei : ((t.drop 2).length : Int) < 2 := by rw [List.length_drop]; omega
                go_enter Tryz.func151, Tryz.ntmps151
                go_wp2
                all_goals (refine bodyPost_ret (by rw [results_tmp4 rfl]) rfl ?_; exact ⟨Or.inr ⟨HN.out, _, _, [], te, pe, rfl⟩, Below.refl _ _⟩)
              · have hlei : ¬ ((t.drop 2).length : Int) < 2 := by rw [List.length_drop]; omega
                have hszd : (ba (t.drop 2)).size = (t.drop 2).length := rfl
                have hex2 : (ba (t.drop 2)).extract 2 (t.length - 2) = ba (t.drop 4) := by rw [ba_sub, List.take_of_length_le (by rw [List.length_drop]; exact Nat.le_refl _), List.drop_drop]
                have hf120 : (y == 120) = false := by rw [beq_eq_false_iff_ne]; omega
                have hf117 : (y == 117) = false := by rw [beq_eq_false_iff_ne]; omega
                have hf85 : (y == 85) = false := by rw [beq_eq_false_iff_ne]; omega
                go_enter Tryz.func151, Tryz.ntmps151
                go_wp2
                all_goals (
                  go_loop [7, 17, 18] (fun er v j => ∃ (k : Nat) (V : Int), er = .nilIface ∧ j = .int .i64 k ∧ k ≤ 2 ∧ v = .int .i32 V ∧ I32 V) (fun _ _ j => 2 - (intOf j).toNat)
                  case atStart => exact ⟨0, _, rfl, rfl, by omega, rfl, ⟨by omega, by omega⟩⟩
                  case round =>
                    obtain ⟨k, V, rfl, rfl, hk, rfl, hV⟩ := hrel
                    by_cases hkn : k < 2
                    · have hki : (k : Int) < 2 := by omega
                      have hkb2 : k < (ba (t.drop 2)).size := by rw [hszd, List.length_drop]; omega
                      have hlt := ((ba (t.drop 2))[k]'hkb2).toNat_lt
                      obtain ⟨x, hxx⟩ : ∃ x : Int, (((ba (t.drop 2))[k]'hkb2).toNat : Int) = x := ⟨_, rfl⟩
                      have hx0 : 0 ≤ x ∧ x ≤ 255 := by omega
                      obtain ⟨hx1, hx2⟩ := hx0
                      clear hlt
                      by_cases hr1 : x - 48 < 0
                      · go_wp2
                        refine bodyPost_ret (by rw [results_tmp4 rfl]) rfl ?_
                        exact ⟨Or.inr ⟨HN.out, _, _, [], te, pe, rfl⟩, Below.refl _ _⟩
                      · by_cases hr2 : 7 < x - 48
                        · go_wp2
                          refine bodyPost_ret (by rw [results_tmp4 rfl]) rfl ?_
                          exact ⟨Or.inr ⟨HN.out, _, _, [], te, pe, rfl⟩, Below.refl _ _⟩
                        · have hd1 : decide (x - 48 < 0) = false := decide_eq_false hr1
                          have hd2 : decide (7 < x - 48) = false := decide_eq_false hr2
                          go_wp2
                          exact ⟨⟨k + 1, _, rfl, by go_num, by omega, rfl, ⟨bits_lo_i32 _ _ _, bits_hi_i32 _ _ _⟩⟩, by simp [intOf]; omega⟩
                    · have hkk : k = 2 := by omega
                      subst hkk
                      have HL4 : Hid (1 ≤ 4 ∧ 4 ≤ t.length) := ⟨by omega, by omega⟩
                      have HI := mkW hV
                      by_cases hv : 255 < V
                      · go_wp2
                        refine bodyPost_ret (by rw [results_tmp4 rfl]) rfl ?_
                        exact ⟨Or.inr ⟨HN.out, _, _, [], te, pe, rfl⟩, Below.refl _ _⟩
                      · go_wp2
                        refine bodyPost_ret (by rw [results_tmp4 rfl]) rfl ?_
                        exact ⟨Or.inl ⟨V, false, 4, rfl, HL4.out.1, HL4.out.2, HI.out, fun c rest e => absurd e (HN.out c rest)⟩, Below.refl _ _⟩)
            have hf48 : (y == 48) = false := by rw [beq_eq_false_iff_ne]; omega
            have hf49 : (y == 49) = false := by rw [beq_eq_false_iff_ne]; omega
            have hf50 : (y == 50) = false := by rw [beq_eq_false_iff_ne]; omega
            have hf51 : (y == 51) = false := by rw [beq_eq_false_iff_ne]; omega
            have hf52 : (y == 52) = false := by rw [beq_eq_false_iff_ne]; omega
            have hf53 : (y == 53) = false := by rw [beq_eq_false_iff_ne]; omega
            have hf54 : (y == 54) = false := by rw [beq_eq_false_iff_ne]; omega
            have hf55 : (y == 55) = false := by rw [beq_eq_false_iff_ne]; omega
            by_cases hx : y = 120
            · subst hx
              by_cases hle : t.length < 4
              · have HN : Hid (∀ c rest, t ≠ esc c ++ rest) := fun c rest e => by
                  have hq := HY.out
                  rcases HQ.out c rest e with h | h
                  · rw [h.2.1] at hq
                    rcases h.2.2.1 with e | e <;> subst e <;> simp at hq
                  · have := h.1; omega
                have hlei : ((t.drop 2).length : Int) < 2 := by rw [List.length_drop]; omega
                clear HQ HYN
                go_enter Tryz.func151, Tryz.ntmps151
                go_wp2
                refine bodyPost_ret (by rw [results_tmp4 rfl]) rfl ?_
                exact ⟨Or.inr ⟨HN.out, _, _, [], te, pe, rfl⟩, Below.refl _ _⟩
              · have hlei : ¬ ((t.drop 2).length : Int) < 2 := by rw [List.length_drop]; omega
                have hszd : (ba (t.drop 2)).size = (t.drop 2).length := rfl
                have hex2 : (ba (t.drop 2)).extract 2 (t.length - 2) = ba (t.drop 4) := by rw [ba_sub, List.take_of_length_le (by rw [List.length_drop]; exact Nat.le_refl _), List.drop_drop]
                go_enter Tryz.func151, Tryz.ntmps151
                go_wp2
                go_loop [7, 13, 14] (fun er v j => ∃ (k : Nat) (V : Int), er = .nilIface ∧ j = .int .i64 k ∧ k ≤ 2 ∧ v = .int .i32 V ∧ I32 V ∧ Hid (hxB? (t.getD 2 0) → hxB? (t.getD 3 0) → V = if k = 0 then 0 else if k = 1 then (hxV (t.getD 2 0) : Int) else (hxV (t.getD 2 0) : Int) * 16 + (hxV (t.getD 3 0) : Int))) (fun _ _ j => 2 - (intOf j).toNat)
                case atStart => exact ⟨0, 0, rfl, rfl, by omega, rfl, ⟨by omega, by omega⟩, fun _ _ => rfl⟩
                case round =>
                  obtain ⟨k, V, rfl, rfl, hk, rfl, hV, HV⟩ := hrel
                  by_cases hkn : k < 2
                  · have hki : (k : Int) < 2 := by omega
                    have hkb2 : k < (ba (t.drop 2)).size := by rw [hszd, List.length_drop]; omega
                    have hbg2 := ba_get hkb2
                    have hgd : (t.drop 2).getD k 0 = t.getD (2 + k) 0 := by simp [List.getD_eq_getElem?_getD]
                    have HH : Hid (∀ u, Calls Tryz.prog 159 #[.int .u8 (((ba (t.drop 2))[k]'hkb2).toNat : Int)] u (UnhP (t.getD (2 + k) 0) u)) := fun u => by rw [hbg2, hgd]; exact unhexOf _ u
                    clear hbg2 hgd
                    go_wp2_with (go_at_call 159; refine (HH.out _).mono ?_)
                    rintro e w1 ⟨⟨x, ok, rfl, hx0, hx1, hx2⟩, rfl⟩
                    have HX2 := mkW hx2
                    clear hx2 HH
                    cases ok with
                    | true =>
                      go_wp2
                      refine ⟨⟨k + 1, _, rfl, by go_num, by omega, rfl, ?_, ?_⟩, by simp [intOf]; omega⟩
                      · exact ⟨bits_lo_i32 _ _ _, bits_hi_i32 _ _ _⟩
                      · intro ha hb'
                        have hv := HV.out ha hb'
                        have : k = 0 ∨ k = 1 := by omega
                        rcases this with e | e <;> subst e
                        · rw [hv, (HX2.out ha).2]
                          exact or16a _ (hxV_le _)
                        · rw [hv, (HX2.out hb').2]
                          exact or16 _ _ (hxV_le _) (hxV_le _)
                    | false =>
                      have HN : Hid (∀ c rest, t ≠ esc c ++ rest) := fun c rest e => by
                        have hq := HY.out
                        rcases HQ.out c rest e with h | h
                        · rw [h.2.1] at hq
                          rcases h.2.2.1 with e | e <;> subst e <;> simp at hq
                        · have : k = 0 ∨ k = 1 := by omega
                          rcases this with e | e <;> subst e
                          · have := (HX2.out h.2.2.1).1; cases this
                          · have := (HX2.out h.2.2.2.1).1; cases this
                      clear HQ HYN HX2 HV
                      go_wp2
                      refine bodyPost_ret (by rw [results_tmp4 rfl]) rfl ?_
                      exact ⟨Or.inr ⟨HN.out, _, _, [], te, pe, rfl⟩, Below.refl _ _⟩
                  · have hkk : k = 2 := by omega
                    subst hkk
                    have HE : Hid (∀ c rest, t = esc c ++ rest → V = c.toNat ∧ (false : Bool) = false ∧ 4 = (esc c).length) := fun c rest e => by
                      have hq := HY.out
                      rcases HQ.out c rest e with h | h
                      · rw [h.2.1] at hq
                        rcases h.2.2.1 with e | e <;> subst e <;> simp at hq
                      · refine ⟨?_, rfl, h.2.2.2.2.2.symm⟩
                        have := HV.out h.2.2.1 h.2.2.2.1
                        rw [if_neg (by decide), if_neg (by decide)] at this
                        rw [this, h.2.2.2.2.1]; omega
                    have HL4 : Hid (1 ≤ 4 ∧ 4 ≤ t.length) := ⟨by omega, by omega⟩
                    have HI := mkW hV
                    clear HQ HYN HV
                    go_wp2
                    refine bodyPost_ret (by rw [results_tmp4 rfl]) rfl ?_
                    exact ⟨Or.inl ⟨V, false, 4, rfl, HL4.out.1, HL4.out.2, HI.out, fun c rest e => ⟨(HE.out c rest e).1, rfl, (HE.out c rest e).2.2⟩⟩, Below.refl _ _⟩
            have hf120 : (y == 120) = false := by rw [beq_eq_false_iff_ne]; exact hx
            by_cases hu : y = 117
            · subst hu
              have HN := mkW (HYN.out (by decide) (by decide) (by decide))
              clear HQ HYN
              by_cases hle : t.length < 6
              · have hlei : ((t.drop 2).length : Int) < 4 := by rw [List.length_drop]; omega
                go_enter Tryz.func151, Tryz.ntmps151
                go_wp2
                refine bodyPost_ret (by rw [results_tmp4 rfl]) rfl ?_
                exact ⟨Or.inr ⟨HN.out, _, _, [], te, pe, rfl⟩, Below.refl _ _⟩
              · have hlei : ¬ ((t.drop 2).length : Int) < 4 := by rw [List.length_drop]; omega
                have hszd : (ba (t.drop 2)).size = (t.drop 2).length := rfl
                have hex2 : (ba (t.drop 2)).extract 4 (t.length - 2) = ba (t.drop 6) := by rw [ba_sub, List.take_of_length_le (by rw [List.length_drop]; exact Nat.le_refl _), List.drop_drop]
                go_enter Tryz.func151, Tryz.ntmps151
                go_wp2
                go_loop [7, 13, 14] (fun er v j => ∃ (k : Nat) (V : Int), er = .nilIface ∧ j = .int .i64 k ∧ k ≤ 4 ∧ v = .int .i32 V ∧ I32 V) (fun _ _ j => 4 - (intOf j).toNat)
                case atStart => exact ⟨0, 0, rfl, rfl, by omega, rfl, ⟨by omega, by omega⟩⟩
                case round =>
                  obtain ⟨k, V, rfl, rfl, hk, rfl, hV⟩ := hrel
                  by_cases hkn : k < 4
                  · have hki : (k : Int) < 4 := by omega
                    have hkb2 : k < (ba (t.drop 2)).size := by rw [hszd, List.length_drop]; omega
                    have hbg2 := ba_get hkb2
                    have HH : Hid (∀ u, Calls Tryz.prog 159 #[.int .u8 (((ba (t.drop 2))[k]'hkb2).toNat : Int)] u (UnhP ((t.drop 2).getD k 0) u)) := fun u => by rw [hbg2]; exact unhexOf _ u
                    clear hbg2
                    go_wp2_with (go_at_call 159; refine (HH.out _).mono ?_)
                    rintro e w1 ⟨⟨x, ok, rfl, hx0, hx1, hx2⟩, rfl⟩
                    clear hx2 HH
                    cases ok with
                    | true =>
                      go_wp2
                      exact ⟨⟨k + 1, _, rfl, by go_num, by omega, rfl, ⟨bits_lo_i32 _ _ _, bits_hi_i32 _ _ _⟩⟩, by simp [intOf]; omega⟩
                    | false =>
                      go_wp2
                      refine bodyPost_ret (by rw [results_tmp4 rfl]) rfl ?_
                      exact ⟨Or.inr ⟨HN.out, _, _, [], te, pe, rfl⟩, Below.refl _ _⟩
                  · have hkk : k = 4 := by omega
                    subst hkk
                    have HL4 : Hid (1 ≤ 6 ∧ 6 ≤ t.length) := ⟨by omega, by omega⟩
                    have HI := mkW hV
                    have HVR : Hid (∀ u, Calls Tryz.prog 141 #[.int .i32 V] u fun e w' => e = .returned (.bool (Lib.validRune V)) ∧ w' = u) := fun u => Any.utf8_ValidRune Tryz.lValidR V u
                    generalize Lib.validRune V = vr at *
                    cases vr with
                    | true =>
                      go_wp2_with (go_at_call 141; refine (HVR.out _).mono ?_; rintro e w1 ⟨rfl, rfl⟩)
                      refine bodyPost_ret (by rw [results_tmp4 rfl]) rfl ?_
                      exact ⟨Or.inl ⟨V, true, 6, rfl, HL4.out.1, HL4.out.2, HI.out, fun c rest e => absurd e (HN.out c rest)⟩, Below.refl _ _⟩
                    | false =>
                      go_wp2_with (go_at_call 141; refine (HVR.out _).mono ?_; rintro e w1 ⟨rfl, rfl⟩)
                      refine bodyPost_ret (by rw [results_tmp4 rfl]) rfl ?_
                      exact ⟨Or.inr ⟨HN.out, _, _, [], te, pe, rfl⟩, Below.refl _ _⟩
            have hf117 : (y == 117) = false := by rw [beq_eq_false_iff_ne]; exact hu
            by_cases hU8 : y = 85
            · subst hU8
              have HN := mkW (HYN.out (by decide) (by decide) (by decide))
              clear HQ HYN
              by_cases hle : t.length < 10
              · have hlei : ((t.drop 2).length : Int) < 8 := by rw [List.length_drop]; omega
                go_enter Tryz.func151, Tryz.ntmps151
                go_wp2
                refine bodyPost_ret (by rw [results_tmp4 rfl]) rfl ?_
                exact ⟨Or.inr ⟨HN.out, _, _, [], te, pe, rfl⟩, Below.refl _ _⟩
              · have hlei : ¬ ((t.drop 2).length : Int) < 8 := by rw [List.length_drop]; omega
                have hszd : (ba (t.drop 2)).size = (t.drop 2).length := rfl
                have hex2 : (ba (t.drop 2)).extract 8 (t.length - 2) = ba (t.drop 10) := by rw [ba_sub, List.take_of_length_le (by rw [List.length_drop]; exact Nat.le_refl _), List.drop_drop]
                go_enter Tryz.func151, Tryz.ntmps151
                go_wp2
                go_loop [7, 13, 14] (fun er v j => ∃ (k : Nat) (V : Int), er = .nilIface ∧ j = .int .i64 k ∧ k ≤ 8 ∧ v = .int .i32 V ∧ I32 V) (fun _ _ j => 8 - (intOf j).toNat)
                case atStart => exact ⟨0, 0, rfl, rfl, by omega, rfl, ⟨by omega, by omega⟩⟩
                case round =>
                  obtain ⟨k, V, rfl, rfl, hk, rfl, hV⟩ := hrel
                  by_cases hkn : k < 8
                  · have hki : (k : Int) < 8 := by omega
                    have hkb2 : k < (ba (t.drop 2)).size := by rw [hszd, List.length_drop]; omega
                    have hbg2 := ba_get hkb2
                    have HH : Hid (∀ u, Calls Tryz.prog 159 #[.int .u8 (((ba (t.drop 2))[k]'hkb2).toNat : Int)] u (UnhP ((t.drop 2).getD k 0) u)) := fun u => by rw [hbg2]; exact unhexOf _ u
                    clear hbg2
                    go_wp2_with (go_at_call 159; refine (HH.out _).mono ?_)
                    rintro e w1 ⟨⟨x, ok, rfl, hx0, hx1, hx2⟩, rfl⟩
                    clear hx2 HH
                    cases ok with
                    | true =>
                      go_wp2
                      exact ⟨⟨k + 1, _, rfl, by go_num, by omega, rfl, ⟨bits_lo_i32 _ _ _, bits_hi_i32 _ _ _⟩⟩, by simp [intOf]; omega⟩
                    | false =>
                      go_wp2
                      refine bodyPost_ret (by rw [results_tmp4 rfl]) rfl ?_
                      exact ⟨Or.inr ⟨HN.out, _, _, [], te, pe, rfl⟩, Below.refl _ _⟩
                  · have hkk : k = 8 := by omega
                    subst hkk
                    have HL4 : Hid (1 ≤ 10 ∧ 10 ≤ t.length) := ⟨by omega, by omega⟩
                    have HI := mkW hV
                    have HVR : Hid (∀ u, Calls Tryz.prog 141 #[.int .i32 V] u fun e w' => e = .returned (.bool (Lib.validRune V)) ∧ w' = u) := fun u => Any.utf8_ValidRune Tryz.lValidR V u
                    generalize Lib.validRune V = vr at *
                    cases vr with
                    | true =>
                      go_wp2_with (go_at_call 141; refine (HVR.out _).mono ?_; rintro e w1 ⟨rfl, rfl⟩)
                      refine bodyPost_ret (by rw [results_tmp4 rfl]) rfl ?_
                      exact ⟨Or.inl ⟨V, true, 10, rfl, HL4.out.1, HL4.out.2, HI.out, fun c rest e => absurd e (HN.out c rest)⟩, Below.refl _ _⟩
                    | false =>
                      go_wp2_with (go_at_call 141; refine (HVR.out _).mono ?_; rintro e w1 ⟨rfl, rfl⟩)
                      refine bodyPost_ret (by rw [results_tmp4 rfl]) rfl ?_
                      exact ⟨Or.inr ⟨HN.out, _, _, [], te, pe, rfl⟩, Below.refl _ _⟩
            have hf85 : (y == 85) = false := by rw [beq_eq_false_iff_ne]; exact hU8
            have HN := mkW (HYN.out hc34 hc92 hx)
            clear HQ HYN
            go_enter Tryz.func151, Tryz.ntmps151
            go_wp2
            refine bodyPost_ret (by rw [results_tmp4 rfl]) rfl ?_
            exact ⟨Or.inr ⟨HN.out, _, _, [], te, pe, rfl⟩, Below.refl _ _⟩
        · have h92f : (z == 92) = false := by rw [beq_eq_false_iff_ne]; exact h92
          have hsl : ∀ u, (Instr.slice 9 (.string (ba t)) (some (.int .i64 1)) none none).run Tryz.prog u = .ok (.string (ba (t.drop 1))) u := fun u => slice_from t 1 (by omega) u
          have HE : Hid (∀ c rest, t = esc c ++ rest → z = c.toNat ∧ (false : Bool) = false ∧ 1 = (esc c).length) := fun c rest e => by
            have hq := HZ.out
            rcases esc_if e with h | h | h
            · rw [h.2.1] at hq; exact ⟨hq, rfl, h.2.2.1.symm⟩
            · rw [h.1] at hq; exact absurd hq h92
            · rw [h.1] at hq; exact absurd hq h92
          have HL1 : Hid (1 ≤ 1 ∧ 1 ≤ t.length) := ⟨by omega, by omega⟩
          go_enter Tryz.func151, Tryz.ntmps151
          go_wp2
          go_quiet (fail)
          go_wp2
          refine bodyPost_ret (by rw [results_tmp4 rfl]) rfl ?_
          exact ⟨Or.inl ⟨z, false, 1, (by rw [List.drop_one]; rfl), HL1.out.1, HL1.out.2, ⟨by omega, by omega⟩, fun c rest e => ⟨(HE.out c rest e).1, rfl, (HE.out c rest e).2.2⟩⟩, Below.drewN' (Below.refl _ _) _⟩
end Go.Proofs.YtlnppgjppfkocaaGreatDoor.Xs
