import Derived.Test.YtmhaodcgognhiaaMge
import Derived.Test.YtmhaodcgognhiaaLk
/-! merge: the document's rise, newest, young; the last offset of each key. -/
namespace Go.Proofs.Ytmhaodcgognhiaa
open Go.RowKit Plain Go.WideMaps Go.Maps
set_option linter.unusedVariables false
set_option linter.unusedSimpArgs false

def ahd (last : Int) (first : Bool) : Int := if first = true then -1 else last

set_option maxHeartbeats 2000000 in
theorem rriseOf (v : Value) (st : List Rc) (last : Int) (first : Bool) (hl : 0 ≤ last ∧ last < 1099511627776) (w : World) (h : RecsAt w v st) :
    Calls Try.prog 21 #[v, .int .i64 last, .bool first] w fun e w' => ∃ z : Int, e = .returned (.tuple #[.int .i64 z, .bool (riseF (ahd last first) st)]) ∧ 0 ≤ z ∧ z < 1099511627776 ∧ (riseF (ahd last first) st = true → st ≠ [] → z = aheadF (ahd last first) st) ∧ Below w.heap.size w w' := by
  obtain ⟨a, cap, rfl, hcl, hok, hcells⟩ := h
  have HC : Hid (st ≠ [] → ∃ b off, a = some ⟨b, off, none⟩ ∧ ∀ j, j < st.length → CellsAt w b (off + j * 7) (st.getD j Rc.none)) := hcells
  clear hcells hok
  go_enter Try.func21, Try.ntmps21
  go_wp2
  go_loopw [1, 2, 8] (fun s1 s2 s8 wr => ∃ (j : Nat) (L : Int) (F : Bool), j ≤ st.length ∧ s8 = .int .i64 j ∧ s1 = .int .i64 L ∧ s2 = .bool F ∧ (0 ≤ L ∧ L < 1099511627776) ∧ riseF (ahd last first) st = riseF (ahd L F) (st.drop j) ∧ aheadF (ahd last first) st = aheadF (ahd L F) (st.drop j) ∧ (j ≠ 0 → F = false) ∧ Below w.heap.size w wr) (fun _ _ i _ => st.length - (intOf i).toNat)
  case atStart => exact ⟨0, last, first, by omega, rfl, rfl, rfl, hl, rfl, rfl, by simp, Below.refl _ _⟩
  case round =>
    obtain ⟨j, L, F, hj, rfl, rfl, rfl, hL, hR, hA, hF, hbl⟩ := hrel
    have HR : Hid (riseF (ahd last first) st = riseF (ahd L F) (st.drop j)) := hR
    have HA : Hid (aheadF (ahd last first) st = aheadF (ahd L F) (st.drop j)) := hA
    have HF : Hid (j ≠ 0 → F = false) := hF
    have HB : Hid (Below w.heap.size w wr) := hbl
    clear hR hA hF hbl
    by_cases hlt : j < st.length
    · have hne : st ≠ [] := by rintro rfl; simp at hlt
      obtain ⟨b, off, rfl, hc⟩ := HC.out hne
      have hck := hc j hlt
      have hck' := hck.block (HB.out.block b hck.lt)
      have HD : Hid (st.drop j = st.getD j Rc.none :: st.drop (j + 1)) := drop_r st j hlt
      generalize st.getD j Rc.none = x at hck' HD
      have HNO : Hid (x.o ≤ ahd L F ∨ x.o ≥ 1099511627776 → riseF (ahd last first) st = false) := fun h => by rw [HR.out, HD.out]; exact riseF_no h
      have HYS : Hid (ahd L F < x.o → x.o < 1099511627776 → riseF (ahd last first) st = riseF (ahd x.o false) (st.drop (j + 1))) := fun h1 h2 => by rw [HR.out, HD.out]; exact riseF_yes h1 h2
      have HAH : Hid (aheadF (ahd last first) st = aheadF (ahd x.o false) (st.drop (j + 1))) := by unfold Hid; rw [HA.out, HD.out]; rfl
      obtain ⟨xk, xo, xt, xp, xq, xkey, xval⟩ := x
      obtain ⟨c0, c1, c2, c3, c4, c5, c6⟩ := hck'
      simp only at c0 c1 c2 c3 c4 c5 c6 HNO HYS HAH
      clear hck hc hne HR HA HD
      by_cases h0 : xo < 0
      · have HN : Hid (riseF (ahd last first) st = false) := HNO.out (.inl (by unfold ahd; split <;> omega))
        go_wp2
        go_ret2
        exact ⟨L, by rw [HN.out]; rfl, hL.1, hL.2, by rw [HN.out]; simp, HB.out⟩
      by_cases h2 : xo ≥ 1099511627776
      · have HN : Hid (riseF (ahd last first) st = false) := HNO.out (.inr h2)
        go_wp2
        go_ret2
        exact ⟨L, by rw [HN.out]; rfl, hL.1, hL.2, by rw [HN.out]; simp, HB.out⟩
      cases F with
      | true =>
        have HN : Hid (riseF (ahd last first) st = riseF (ahd xo false) (st.drop (j + 1))) := HYS.out (by unfold ahd; simp; omega) (by omega)
        go_wp2
        go_roundw
        case rel => exact ⟨j + 1, xo, false, by omega, by go_num, rfl, rfl, by omega, HN.out, HAH.out, fun _ => rfl, HB.out⟩
        case measure => simp [intOf]; omega
      | false =>
        by_cases h3 : xo ≤ L
        · have HN : Hid (riseF (ahd last first) st = false) := HNO.out (.inl (by unfold ahd; simp; omega))
          go_wp2
          go_ret2
          exact ⟨L, by rw [HN.out]; rfl, hL.1, hL.2, by rw [HN.out]; simp, HB.out⟩
        · have HN : Hid (riseF (ahd last first) st = riseF (ahd xo false) (st.drop (j + 1))) := HYS.out (by unfold ahd; simp; omega) (by omega)
          go_wp2
          go_roundw
          case rel => exact ⟨j + 1, xo, false, by omega, by go_num, rfl, rfl, by omega, HN.out, HAH.out, fun _ => rfl, HB.out⟩
          case measure => simp [intOf]; omega
    · obtain rfl : j = st.length := by omega
      have HN : Hid (riseF (ahd last first) st = true) := by unfold Hid; rw [HR.out, List.drop_length]; rfl
      have HZ : Hid (st ≠ [] → L = aheadF (ahd last first) st) := fun hne => by
        have hF := HF.out (by simpa using hne)
        subst hF
        rw [HA.out, List.drop_length]; rfl
      clear HC HR HA HF
      go_wp2
      go_ret2
      exact ⟨L, by rw [HN.out]; rfl, hL.1, hL.2, fun _ => HZ.out, HB.out⟩

theorem keysNe {a b : ByteArray} (h : ¬ a = b) : (a.toList == b.toList) = false := by
  rw [beq_eq_false_iff_ne, ByteArray.toList_eq, ByteArray.toList_eq]
  exact fun e => h (WideShapes.bytes_inj e)

set_option maxHeartbeats 2000000 in
theorem newestOf (v0 v1 : Value) (se la : List Rc) (i : Nat) (hi : i < se.length) (w : World) (h0 : RecsAt w v0 se) (h1 : RecsAt w v1 la) :
    Calls Try.prog 22 #[v0, v1, .int .i64 i] w fun e w' => e = .returned (.bool (lastB (se ++ la) i)) ∧ ∃ n, w' = w.drewN n := by
  obtain ⟨a, cap, rfl, hcl, hok, hcells⟩ := h0
  obtain ⟨a', cap', rfl, hcl', hok', hcells'⟩ := h1
  have hne : se ≠ [] := by rintro rfl; simp at hi
  obtain ⟨b, off, rfl, hc⟩ := hcells hne
  have HC : Hid (∀ j, j < se.length → CellsAt w b (off + j * 7) (se.getD j Rc.none)) := hc
  have HC' : Hid (la ≠ [] → ∃ b off, a' = some ⟨b, off, none⟩ ∧ ∀ j, j < la.length → CellsAt w b (off + j * 7) (la.getD j Rc.none)) := hcells'
  have d5 := (hc i hi).c5
  have HL0 : Hid (∀ m, m < se.length → rk (se ++ la) m = (se.getD m Rc.none).key) := fun m hm => by unfold rk; simp [List.getElem?_append_left hm]
  have HL1 : Hid (∀ m, m < la.length → rk (se ++ la) (se.length + m) = (la.getD m Rc.none).key) := fun m hm => by unfold rk; simp [List.getElem?_append_right]
  have HK : Hid (rk (se ++ la) i = (se.getD i Rc.none).key) := HL0.out i hi
  have HT : Hid (Last (se ++ la) i → lastB (se ++ la) i = true) := fun h => (lastB_iff _ i).mpr h
  have HF : Hid (∀ k, i < k → k < se.length + la.length → rk (se ++ la) k = (se.getD i Rc.none).key → lastB (se ++ la) i = false) := fun k h1 h2 h3 => by
    cases hb : lastB (se ++ la) i with
    | false => rfl
    | true => exact absurd (h3.trans HK.out.symm) ((lastB_iff _ i).mp hb k h1 (by simpa using h2))
  generalize (se.getD i Rc.none).key = ykey at d5 HK HF
  clear hcells hcells' hc hne hok hok'
  go_enter Try.func22, Try.ntmps22
  go_wp2
  go_loopw [7] (fun s w' => ∃ k n : Nat, w' = w.drewN n ∧ i < k ∧ k ≤ se.length ∧ s = .int .i64 k ∧ Hid (∀ m, i < m → m < k → rk (se ++ la) m ≠ ykey)) (fun i _ => se.length - (intOf i).toNat)
  case atStart => exact ⟨i + 1, 0, rfl, by omega, by omega, by go_num, fun m h1 h2 => by omega⟩
  case round =>
    obtain ⟨k, n, rfl, h1, h2, rfl, HA⟩ := hrel
    by_cases hlt : k < se.length
    · have c5 := (HC.out k hlt).c5
      have HX : Hid (rk (se ++ la) k = (se.getD k Rc.none).key) := HL0.out k hlt
      generalize (se.getD k Rc.none).key = xkey at c5 HX
      by_cases he : xkey = ykey
      · have HL : Hid (lastB (se ++ la) i = false) := HF.out k h1 (by omega) (HX.out.trans he)
        subst he
        clear HA HX
        go_wp2
        go_quiet (fail)
        go_wp2
        go_ret
        exact ⟨by rw [HL.out]; rfl, dn2 _ _ _⟩
      · have he' := keysNe he
        have HS1 : Hid (∀ m, i < m → m < k + 1 → rk (se ++ la) m ≠ ykey) := fun m a1 a2 => by
          by_cases e : m = k
          · subst e; rw [HX.out]; exact he
          · exact HA.out m a1 (by omega)
        clear HA HX
        go_wp2
        go_quiet (fail)
        go_wp2
        go_roundw
        case rel => exact ⟨k + 1, _, rfl, by omega, by omega, by go_num, HS1.out⟩
        case measure => simp [intOf]; omega
    · obtain rfl : k = se.length := by omega
      clear hlt h2
      go_wp2
      go_loopw [8] (fun s w' => ∃ k n : Nat, w' = w.drewN n ∧ k ≤ la.length ∧ s = .int .i64 k ∧ Hid (∀ m, i < m → m < se.length + k → rk (se ++ la) m ≠ ykey)) (fun i _ => la.length - (intOf i).toNat)
      case atStart => exact ⟨0, n, rfl, by omega, rfl, fun m h1 h2 => HA.out m h1 (by omega)⟩
      case round =>
        obtain ⟨k, n, rfl, h2, rfl, HA⟩ := hrel
        by_cases hlt : k < la.length
        · have hne : la ≠ [] := by rintro rfl; simp at hlt
          obtain ⟨b', off', rfl, hc'⟩ := HC'.out hne
          have c5 := (hc' k hlt).c5
          have HX : Hid (rk (se ++ la) (se.length + k) = (la.getD k Rc.none).key) := HL1.out k hlt
          generalize (la.getD k Rc.none).key = xkey at c5 HX
          clear hc' hne
          by_cases he : xkey = ykey
          · have HL : Hid (lastB (se ++ la) i = false) := HF.out (se.length + k) (by omega) (by omega) (HX.out.trans he)
            subst he
            clear HA HX
            go_wp2
            go_quiet (fail)
            go_wp2
            go_ret
            exact ⟨by rw [HL.out]; rfl, dn2 _ _ _⟩
          · have he' := keysNe he
            have HS1 : Hid (∀ m, i < m → m < se.length + (k + 1) → rk (se ++ la) m ≠ ykey) := fun m a1 a2 => by
              by_cases e : m = se.length + k
              · subst e; rw [HX.out]; exact he
              · exact HA.out m a1 (by omega)
            clear HA HX
            go_wp2
            go_quiet (fail)
            go_wp2
            go_roundw
            case rel => exact ⟨k + 1, _, rfl, by omega, by go_num, HS1.out⟩
            case measure => simp [intOf]; omega
        · obtain rfl : k = la.length := by omega
          have HL : Hid (lastB (se ++ la) i = true) := HT.out (fun m a1 a2 => by rw [HK.out]; exact HA.out m a1 (by simpa using a2))
          clear HA
          go_wp2
          go_ret
          exact ⟨by rw [HL.out]; rfl, _, rfl⟩
end Go.Proofs.Ytmhaodcgognhiaa
