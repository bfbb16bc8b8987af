import Derived.Test.YtbeaefokpggmpabQvi
/-! quota: a stable sort, whole. -/
namespace Go.Proofs.Ytbeaefokpggmpab
open Go.RowKit Plain
set_option linter.unusedVariables false

set_option maxHeartbeats 16000000 in
set_option maxRecDepth 1000000 in
theorem sStabOf {W0 W : World} {g gb n cap : Nat} {rem : Nat → Int} (h : SRow W0 W g n id) (hr : RemAt W0 g gb n rem) (hn : n ≤ 64) :
    Calls Try.prog 39 #[.slice (some ⟨g, 0, none⟩) n cap, .int .i64 n, remFn gb] W fun e w' => e = .returned (.tuple #[]) ∧ ∃ f, SRow W0 w' g n f ∧ PermOn 0 n id f ∧ Srt rem 0 n f := by
  have HR : Hid (SRow W0 W g n id) := h
  have HM : Hid (RemAt W0 g gb n rem) := hr
  clear h hr
  have HINS : Hid (∀ (u : World) (f : Nat → Nat) (a b : Nat), SRow W0 u g n f → a ≤ b → b ≤ n → PermOn 0 n id f → (∀ k, a ≤ k → f k = k) → Calls Try.prog 44 #[.slice (some ⟨g, 0, none⟩) n cap, .int .i64 a, .int .i64 b, .func (.func 33) #[] #[.pointer (some ⟨gb, 0, none⟩)]] u fun e w' => e = .returned (.tuple #[]) ∧ ∃ f', SRow W0 w' g n f' ∧ PermOn a b f f' ∧ Srt rem a b f') := fun u f a b hu h1 h2 hp hid =>
    sInsOf hu HM.out hn h1 h2 (perm_id hp) (fun p q k1 k2 k3 => by rw [hid p k1, hid q (by omega)]; exact k2)
  have HSYM : Hid (∀ (u : World) (f : Nat → Nat) (a m b : Nat), SRow W0 u g n f → a < m → m < b → b ≤ n → PermOn 0 n id f → (Srt rem a m f ∧ Srt rem m b f ∧ Sep a m b f) → Calls Try.prog 45 #[.slice (some ⟨g, 0, none⟩) n cap, .int .i64 a, .int .i64 m, .int .i64 b, .func (.func 33) #[] #[.pointer (some ⟨gb, 0, none⟩)]] u (SymPost W0 g n a b f rem)) := fun u f a m b hu h1 h2 h3 hp hq =>
    symAll (b - a) W0 u g gb n cap a m b f rem (Nat.le_refl _) hu HM.out hn h1 h2 h3 (perm_id hp) hq.1 hq.2.1 hq.2.2
  unfold remFn
  go_enter Try.func39, Try.ntmps39
  go_wp2
  go_loopw [7, 8] (fun s t wr => ∃ (a : Nat) (f : Nat → Nat), s = .int .i64 a ∧ t = .int .i64 ((a : Int) + 20) ∧ a ≤ n ∧ a % 20 = 0 ∧ Hid (SRow W0 wr g n f) ∧ Hid (PermOn 0 n id f) ∧ Hid (Part rem 20 0 a f) ∧ Hid (∀ k, a ≤ k → f k = k)) (fun a _ _ => n - (intOf a).toNat)
  case atStart => exact ⟨0, id, rfl, rfl, by omega, rfl, HR, PermOn.refl _ _ _, Part.none _ _ _ _ _ (by omega), fun k _ => rfl⟩
  case round =>
    obtain ⟨a, f, rfl, rfl, han, ham, HRf, HPf, HQf, HIf⟩ := hrel
    by_cases hA : a + 20 ≤ n
    · have hki : (a : Int) + 20 ≤ (n : Int) := by omega
      have HI1 : Hid (∀ u, SRow W0 u g n f → Calls Try.prog 44 #[.slice (some ⟨g, 0, none⟩) n cap, .int .i64 a, .int .i64 ((a : Int) + 20), .func (.func 33) #[] #[.pointer (some ⟨gb, 0, none⟩)]] u fun e w' => e = .returned (.tuple #[]) ∧ ∃ f', SRow W0 w' g n f' ∧ PermOn a (a + 20) f f' ∧ Srt rem a (a + 20) f') := fun u hu => by
        have := HINS.out u f a (a + 20) hu (by omega) hA HPf.out HIf.out
        rw [show ((a + 20 : Nat) : Int) = (a : Int) + 20 by omega] at this
        exact this
      go_wp2_with fail
      refine (HI1.out _ HRf.out).mono ?_
      rintro e w1 ⟨rfl, f', hz1, hz2, hz3⟩
      have hq := part_ins (n := n) ham (by omega) (Nat.le_refl _) (.inl rfl) HQf.out HIf.out hz2 hz3
      have H1 : Hid (SRow W0 w1 g n f') := hz1
      have H2 : Hid (PermOn 0 n id f') := HPf.out.trans (hz2.mono (Nat.zero_le _) hA)
      have H3 : Hid (Part rem 20 0 (a + 20) f') := hq.1
      have H4 : Hid (∀ k, a + 20 ≤ k → f' k = k) := hq.2
      clear hz1 hz2 hz3 hq
      go_wp2
      go_roundw
      case rel => exact ⟨a + 20, f', by simp, by simp, hA, by omega, H1, H2, H3, H4⟩
      case measure => simp [intOf]; omega
    · have hki : ¬ (a : Int) + 20 ≤ (n : Int) := by omega
      go_wp2_with fail
      refine (HINS.out _ f a n HRf.out han (Nat.le_refl _) HPf.out HIf.out).mono ?_
      rintro e w1 ⟨rfl, f', hz1, hz2, hz3⟩
      have hq := part_ins (n := n) ham han (by omega) (.inr rfl) HQf.out HIf.out hz2 hz3
      have H1 : Hid (SRow W0 w1 g n f') := hz1
      have H2 : Hid (PermOn 0 n id f') := HPf.out.trans (hz2.mono (Nat.zero_le _) (Nat.le_refl _))
      have H3 : Hid (Part rem 20 0 n f') := hq.1
      clear hz1 hz2 hz3 hq HRf HPf HQf HIf
      go_wp2
      go_loopw [6] (fun s wq => ∃ (bs : Nat) (f : Nat → Nat), s = .int .i64 bs ∧ (bs = 20 ∨ bs = 40 ∨ bs = 80) ∧ Hid (SRow W0 wq g n f) ∧ Hid (PermOn 0 n id f) ∧ Hid (Part rem bs 0 n f)) (fun s _ => 80 - (intOf s).toNat)
      case atStart => exact ⟨20, f', rfl, .inl rfl, H1, H2, H3⟩
      case round =>
        clear H1 H2 H3 HR
        obtain ⟨bs, f, rfl, hbs, HRf, HPf, HQf⟩ := hrel
        by_cases hB : bs < n
        · have hkb : (bs : Int) < (n : Int) := by omega
          have hb2 : bs = 20 ∨ bs = 40 := by omega
          have HB2 : Hid (bs = 20 ∨ bs = 40) := hb2
          have hbu : (20 : Int) ≤ (bs : Int) ∧ (bs : Int) ≤ 40 := by omega
          clear hbs hb2
          go_wp2
          go_loopw [7, 8] (fun s t wq => ∃ (a : Nat) (f : Nat → Nat), s = .int .i64 a ∧ t = .int .i64 ((a : Int) + 2 * (bs : Int)) ∧ a ≤ n ∧ (a = 0 ∨ a = 2 * bs) ∧ Hid (SRow W0 wq g n f) ∧ Hid (PermOn 0 n id f) ∧ Hid (Part rem (2 * bs) 0 a f) ∧ Hid (Part rem bs a n f)) (fun a _ _ => n - (intOf a).toNat)
          case atStart => exact ⟨0, f, rfl, (show Value.int .i64 (2 * (bs : Int)) = Value.int .i64 (((0 : Nat) : Int) + 2 * (bs : Int)) from congrArg _ (by omega)), by omega, .inl rfl, HRf, HPf, Part.none _ _ _ _ _ (by omega), HQf⟩
          case round =>
            clear HRf HPf HQf
            obtain ⟨a, f, rfl, rfl, han, ha, HRf, HPf, HQa, HQb⟩ := hrel
            by_cases hC : a + 2 * bs ≤ n
            · have hkc : (a : Int) + 2 * (bs : Int) ≤ (n : Int) := by omega
              have HS1 : Hid (∀ u, SRow W0 u g n f → Calls Try.prog 45 #[.slice (some ⟨g, 0, none⟩) n cap, .int .i64 a, .int .i64 ((a : Int) + (bs : Int)), .int .i64 ((a : Int) + 2 * (bs : Int)), .func (.func 33) #[] #[.pointer (some ⟨gb, 0, none⟩)]] u (SymPost W0 g n a (a + 2 * bs) f rem)) := fun u hu => by
                have := HSYM.out u f a (a + bs) (a + 2 * bs) hu (by omega) (by omega) hC HPf.out (part_pre HB2.out ha (by omega) (Nat.le_refl _) hC HQb.out)
                rw [show ((a + 2 * bs : Nat) : Int) = (a : Int) + 2 * (bs : Int) by omega, show ((a + bs : Nat) : Int) = (a : Int) + (bs : Int) by omega] at this
                exact this
              go_wp2_with fail
              refine (HS1.out _ HRf.out).mono ?_
              rintro e w2 ⟨rfl, f2, hz1, hz2, hz3⟩
              have hq := part_post HB2.out ha (.inl rfl) (by omega) (Nat.le_refl _) hC HQa.out HQb.out (perm_id HPf.out) hz2 hz3
              have H1 : Hid (SRow W0 w2 g n f2) := hz1
              have H2 : Hid (PermOn 0 n id f2) := HPf.out.trans (hz2.mono (Nat.zero_le _) hC)
              have H3 : Hid (Part rem (2 * bs) 0 (a + 2 * bs) f2) := hq.1
              have H4 : Hid (Part rem bs (a + 2 * bs) n f2) := hq.2
              have HA2 : Hid (a + 2 * bs = 0 ∨ a + 2 * bs = 2 * bs) := by have := HB2.out; unfold Hid; omega
              clear hz1 hz2 hz3 hq
              go_wp2
              go_roundw
              case rel => exact ⟨a + 2 * bs, f2, by simp, (show Value.int .i64 ((a : Int) + 2 * (bs : Int) + 2 * (bs : Int)) = Value.int .i64 (((a + 2 * bs : Nat) : Int) + 2 * (bs : Int)) from congrArg _ (by omega)), hC, HA2.out, H1, H2, H3, H4⟩
              case measure => simp [intOf]; omega
            · have hkc : ¬ (a : Int) + 2 * (bs : Int) ≤ (n : Int) := by omega
              by_cases hD : a + bs < n
              · have hkd : (a : Int) + (bs : Int) < (n : Int) := by omega
                have HS1 : Hid (∀ u, SRow W0 u g n f → Calls Try.prog 45 #[.slice (some ⟨g, 0, none⟩) n cap, .int .i64 a, .int .i64 ((a : Int) + (bs : Int)), .int .i64 n, .func (.func 33) #[] #[.pointer (some ⟨gb, 0, none⟩)]] u (SymPost W0 g n a n f rem)) := fun u hu => by
                  have := HSYM.out u f a (a + bs) n hu (by omega) (by omega) (Nat.le_refl _) HPf.out (part_pre HB2.out ha (by omega) (by omega) (Nat.le_refl _) HQb.out)
                  rw [show ((a + bs : Nat) : Int) = (a : Int) + (bs : Int) by omega] at this
                  exact this
                go_wp2_with fail
                refine (HS1.out _ HRf.out).mono ?_
                rintro e w2 ⟨rfl, f2, hz1, hz2, hz3⟩
                have hq := part_post HB2.out ha (.inr rfl) han (by omega) (Nat.le_refl _) HQa.out HQb.out (perm_id HPf.out) hz2 hz3
                have H1 : Hid (SRow W0 w2 g n f2) := hz1
                have H2 : Hid (PermOn 0 n id f2) := HPf.out.trans (hz2.mono (Nat.zero_le _) (Nat.le_refl _))
                have H3 : Hid (Part rem (2 * bs) 0 n f2) := hq.1
                have HN2 : Hid (2 * bs = 20 ∨ 2 * bs = 40 ∨ 2 * bs = 80) := by have := HB2.out; unfold Hid; omega
                clear hz1 hz2 hz3 hq
                go_wp2
                go_roundw
                case rel => exact ⟨2 * bs, f2, (show Value.int .i64 ((bs : Int) * 2) = Value.int .i64 ((2 * bs : Nat) : Int) from congrArg _ (by omega)), HN2.out, H1, H2, H3⟩
                case measure => have := HB2.out; simp [intOf]; omega
              · have hkd : ¬ (a : Int) + (bs : Int) < (n : Int) := by omega
                have H3 : Hid (Part rem (2 * bs) 0 n f) := part_skip HB2.out ha han (by omega) HQa.out HQb.out (perm_id HPf.out)
                have HN2 : Hid (2 * bs = 20 ∨ 2 * bs = 40 ∨ 2 * bs = 80) := by have := HB2.out; unfold Hid; omega
                go_wp2
                go_roundw
                case rel => exact ⟨2 * bs, f, (show Value.int .i64 ((bs : Int) * 2) = Value.int .i64 ((2 * bs : Nat) : Int) from congrArg _ (by omega)), HN2.out, HRf, HPf, H3⟩
                case measure => have := HB2.out; simp [intOf]; omega
        · have hkb : ¬ (bs : Int) < (n : Int) := by omega
          have HF : Hid (∃ f, SRow W0 wr g n f ∧ PermOn 0 n id f ∧ Srt rem 0 n f) := ⟨f, HRf.out, HPf.out, part_all (by omega) HQf.out⟩
          go_wp2
          exact ⟨rfl, _, results_none rfl _ _ _, rfl, HF.out⟩
end Go.Proofs.Ytbeaefokpggmpab
