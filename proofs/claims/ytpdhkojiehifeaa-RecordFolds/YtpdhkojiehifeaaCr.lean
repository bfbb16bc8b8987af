import Derived.Test.YtpdhkojiehifeaaCw
/-! The document's Compact. -/
namespace Go.Proofs.Ytpdhkojiehifeaa
open Go.RowKit Plain Go.WideMaps Go.Maps
set_option linter.unusedVariables false

theorem keys_ne {a b : ByteArray} (h : ¬ a = b) : (a.toList == b.toList) = false := by
  rw [beq_eq_false_iff_ne, ByteArray.toList_eq, ByteArray.toList_eq]
  exact fun e => h (WideShapes.bytes_inj e)

set_option maxHeartbeats 1000000 in
theorem lastAny (v : Value) (st : List Rc) (i : Nat) (hi : i < st.length) (w : World) (h : RecsAt w v st) :
    Calls Try.prog 17 #[v, .int .i64 i] w fun e w' => e = .returned (.bool (lastB st i)) ∧ ∃ n, w' = w.drewN n := by
  obtain ⟨a, cap, rfl, hcl, hok, hcells⟩ := h
  have hne : st ≠ [] := by rintro rfl; simp at hi
  obtain ⟨b, off, rfl, hc⟩ := hcells hne
  have HC : Hid (∀ j, j < st.length → CellsAt w b (off + j * 7) (st.getD j Rc.none)) := hc
  have d5 := (hc i hi).c5
  have HK : Hid (rk st i = (st.getD i Rc.none).key) := rfl
  have HT : Hid (Last st i → lastB st i = true) := fun h => (lastB_iff st i).mpr h
  have HF : Hid (∀ k, i < k → k < st.length → rk st k = (st.getD i Rc.none).key → lastB st i = false) := fun k h1 h2 h3 => by
    cases hb : lastB st i with
    | false => rfl
    | true => exact absurd h3 ((lastB_iff st i).mp hb k h1 h2)
  generalize (st.getD i Rc.none).key = ykey at d5 HK HF
  clear hcells hc hne hok
  go_enter Try.func17, Try.ntmps17
  go_wp2
  go_loopw [5] (fun s5 w' => ∃ k n : Nat, w' = w.drewN n ∧ i < k ∧ k ≤ st.length ∧ s5 = .int .i64 k ∧ Hid (∀ m, i < m → m < k → rk st m ≠ ykey)) (fun i _ => st.length - (intOf i).toNat)
  case atStart => exact ⟨i + 1, 0, rfl, by omega, by omega, by go_num, fun m h1 h2 => by omega⟩
  case round =>
    obtain ⟨k, n, rfl, h1, h2, rfl, HA⟩ := hrel
    by_cases hlt : k < st.length
    · have c5 := (HC.out k hlt).c5
      have HS : Hid (rk st k ≠ ykey → ∀ m, i < m → m < k + 1 → rk st m ≠ ykey) := fun h m a1 a2 => by
        by_cases e : m = k
        · subst e; exact h
        · exact HA.out m a1 (by omega)
      have HF1 : Hid (rk st k = ykey → lastB st i = false) := fun h => HF.out k h1 hlt h
      unfold rk at HS HF1
      generalize (st.getD k Rc.none).key = xkey at c5 HS HF1
      by_cases he : xkey = ykey
      · have HL : Hid (lastB st i = false) := HF1.out he
        subst he
        clear HS HF1 HA
        go_wp2
        go_quiet (fail)
        go_wp2
        go_ret
        exact ⟨by rw [HL.out]; rfl, dn2 _ _ _⟩
      · have he' := keys_ne he
        have HS1 : Hid (∀ m, i < m → m < k + 1 → rk st m ≠ ykey) := HS.out he
        clear HS HF1 HA
        go_wp2
        go_quiet (fail)
        go_wp2
        go_roundw
        case rel => exact ⟨k + 1, _, rfl, by omega, by omega, by go_num, HS1.out⟩
        case measure => simp [intOf]; omega
    · obtain rfl : k = st.length := by omega
      have HL : Hid (lastB st i = true) := HT.out (fun m a1 a2 => by rw [HK.out]; exact HA.out m a1 a2)
      clear HA
      go_wp2
      go_ret
      exact ⟨by rw [HL.out]; rfl, _, rfl⟩

theorem youngAny (x : Rc) (now hz : Int) (hx : Fine x) (h2 : 0 ≤ hz) (w : World) : Calls Try.prog 18 #[.int .i64 x.t, .int .i64 now, .int .i64 hz] w fun e w' => e = .returned (.bool (youngB now hz x)) ∧ w' = w := by
  obtain ⟨k, o, t, p, q, key, val⟩ := x
  have ht := hx.t
  simp only at ht
  obtain ⟨Hz, hHz⟩ : ∃ Hz, hor hz = Hz := ⟨_, rfl⟩
  have hHzb : 0 ≤ Hz ∧ Hz ≤ 1099511627776 := by rw [← hHz]; unfold hor; split <;> omega
  have HMIN : Hid ((if (1099511627776 : Int) < hz then 1099511627776 else hz) = Hz) := hHz
  have HY : Hid (youngB now hz ⟨k, o, t, p, q, key, val⟩ = decide (now < t + Hz)) := by unfold Hid youngB; rw [hHz]
  have hsum : wrap64 (t + Hz) = t + Hz := by unfold wrap64; omega
  clear hx hHz
  go_enter Try.func18, Try.ntmps18
  go_wp2_with (refine wpList_minN (by with_reducible rfl) _ _ 2 2 _ _ _ (by with_reducible rfl) (by rfl) (by rfl) HMIN.out ?_)
  go_wp2
  go_ret
  exact ⟨by rw [HY.out]; rfl, rfl⟩
theorem refBad0 (v : Value) (st : List Rc) (now hz : Int) (w : World) (h : RecsAt w v st) (hb : now < 0 ∨ hz < 0) : Calls Try.prog 9 #[v, .int .i64 now, .int .i64 hz] w (CompPost w st now hz) := by
  have HP : Hid (∀ w', Below w.heap.size w w' → CompPost w st now hz (.returned (.tuple #[.slice none 0 0, .int .i64 0])) w') := fun w' hw => by
    have e : comp st now hz = ([], 0) := comp_bad (by unfold badC; rcases hb with h | h <;> simp [h])
    exact ⟨_, none, by rw [e], by rw [e]; exact OwnR.nil _, by simp, hw⟩
  obtain ⟨a, cap, rfl, hcl, -, -⟩ := h
  by_cases h1 : now < 0
  · clear hb
    go_enter Try.func9, Try.ntmps9
    go_wp2
    go_ret2
    exact HP.out _ (Below.refl _ _)
  · have h2 : hz < 0 := by omega
    clear hb
    go_enter Try.func9, Try.ntmps9
    go_wp2
    go_ret2
    exact HP.out _ (Below.refl _ _)

end Go.Proofs.Ytpdhkojiehifeaa
