import Derived.Test.YtlnppgjppfkocaaDoorYbB
/-! The program's writer: quoted. -/
namespace Go.Proofs.YtlnppgjppfkocaaDoor.Xs
open Go.RowKit Plain
set_option linter.unusedVariables false
set_option linter.unusedSimpArgs false

theorem esc_len (c : UInt8) : (esc c).length ≤ 4 := by
  unfold esc
  split
  · simp
  · split
    · simp
    · split <;> simp [hxB]
theorem mkW {p : Prop} (h : p) : Hid p := h
theorem byte_neN {c : UInt8} {n : Nat} (hn : n < 256) (h : c ≠ UInt8.ofNat n) : ((c.toNat : Int) == (n : Int)) = false := by
  rw [beq_eq_false_iff_ne]
  intro e
  refine h (UInt8.toNat_inj.1 ?_)
  rw [UInt8.toNat_ofNat_of_lt' (by exact hn)]
  omega
set_option maxHeartbeats 8000000 in
set_option maxRecDepth 100000 in
theorem quotedOf (s : By) (hs : s.length ≤ 8796093022208) (w : World) :
    Calls Tryd.prog 22 #[.string (ba s)] w fun e w' => e = .returned (.string (ba (34 :: (s.flatMap esc ++ [34])))) ∧ Below w.heap.size w w' := by
  have hsz : (ba s).size = s.length := rfl
  have HG0 : Hid (Gb w (w.alloc (.cells #[.int .u8 34] 5)) (.slice (some ⟨w.heap.size, 0, none⟩) 1 1) [34]) := by
    refine ⟨some w.heap.size, Own.new w _ (nats [34]) 1 5 (nats_lt _) rfl (by simp [nats]) (by unfold maxLen; omega) (fun j hj => ?_), fun g e => by cases e; exact Nat.le_refl _, (Below.refl _ w).alloc (Nat.le_refl _) _⟩
    have : j = 0 := by simp [nats] at hj; omega
    subst this
    rfl
  go_enter Tryd.func22, Tryd.ntmps22
  go_wp2
  go_loopw [3, 9] (fun v i wl => ∃ (k : Nat) (b : By) (a : Option Addr) (cap : Nat), k ≤ s.length ∧ i = .int .i64 k ∧ v = .slice a b.length cap ∧ Hid (b = 34 :: (s.take k).flatMap esc) ∧ b.length ≤ 1 + 4 * k ∧ Hid (Gb w wl (.slice a b.length cap) b)) (fun _ i _ => s.length + 10 - (intOf i).toNat)
  case atStart => exact ⟨0, [34], _, _, Nat.zero_le _, rfl, rfl, rfl, by simp, HG0⟩
  case round =>
    clear HG0
    obtain ⟨k, b, a, cap, hk, rfl, rfl, HB, hbl, HG⟩ := hrel
    by_cases hp : k < s.length
    · have hki : (k : Int) < (s.length : Int) := by omega
      have hkb : k < (ba s).size := hp
      have hbg := ba_get hkb
      obtain ⟨c, hc⟩ : ∃ c, s.getD k 0 = c := ⟨_, rfl⟩
      rw [hc] at hbg
      have hz : (((ba s)[k]'hkb).toNat : Int) = (c.toNat : Int) := by rw [hbg]
      clear hbg
      have HB2 : Hid (b ++ esc c = 34 :: (s.take (k + 1)).flatMap esc) := by
        unfold Hid
        rw [HB.out, take_at hp, hc, List.flatMap_append]
        simp
      have hel := esc_len c
      have hb2 : (b ++ esc c).length ≤ 1 + 4 * (k + 1) := by rw [List.length_append]; omega
      clear hc
      by_cases c34 : c = 34
      · subst c34
        have he : esc 34 = [92, 34] := by decide
        rw [he] at HB2 hb2
        have HG3 : Hid True := trivial
        clear hel he HG3
        go_wp2_with (at_builtin; refine wpList_append_gbs wr _ rfl _ _ rfl _ _ b [92, 34] rfl rfl HG.out ?hBel ?hSrc ?hLen ?_)
        case hBel => exact (Below.refl _ _).alloc (Nat.le_refl _) _
        case hSrc => exact src_bytes wr [92, 34] _ _ _ rfl rfl (by simp)
        case hLen => (first | omega | (show b.length + 2 ≤ _; omega) | (show b.length + 1 ≤ _; omega))
        intro v' w3 hg3
        obtain ⟨a3, c3, rfl⟩ := hg3.slice
        have HG3 := mkW hg3
        obtain ⟨b3, hb3⟩ : ∃ x, b ++ [92, 34] = x := ⟨_, rfl⟩
        rw [hb3] at HG3 HB2 hb2 ⊢
        clear hg3 hb3 HB HG
        go_wp2
        go_roundw
        case rel => exact ⟨k + 1, b3, a3, c3, by omega, by go_num, rfl, HB2, hb2, HG3⟩
        case measure => (first | (simp [intOf]; omega) | omega | (show _ < _; simp only [intOf]; omega))
      · have h34 : ((c.toNat : Int) == 34) = false := byte_neN (n := 34) (by omega) c34
        by_cases c92 : c = 92
        · subst c92
          have he : esc 92 = [92, 92] := by decide
          rw [he] at HB2 hb2
          clear hel he
          go_wp2_with (at_builtin; refine wpList_append_gbs wr _ rfl _ _ rfl _ _ b [92, 92] rfl rfl HG.out ?hBel ?hSrc ?hLen ?_)
          case hBel => exact (Below.refl _ _).alloc (Nat.le_refl _) _
          case hSrc => exact src_bytes wr [92, 92] _ _ _ rfl rfl (by simp)
          case hLen => (first | omega | (show b.length + 2 ≤ _; omega) | (show b.length + 1 ≤ _; omega))
          intro v' w3 hg3
          obtain ⟨a3, c3, rfl⟩ := hg3.slice
          have HG3 := mkW hg3
          obtain ⟨b3, hb3⟩ : ∃ x, b ++ [92, 92] = x := ⟨_, rfl⟩
          rw [hb3] at HG3 HB2 hb2 ⊢
          clear hg3 hb3 HB HG
          go_wp2
          go_roundw
          case rel => exact ⟨k + 1, b3, a3, c3, by omega, by go_num, rfl, HB2, hb2, HG3⟩
          case measure => (first | (simp [intOf]; omega) | omega | (show _ < _; simp only [intOf]; omega))
        · have h92 : ((c.toNat : Int) == 92) = false := byte_neN (n := 92) (by omega) c92
          by_cases c32 : 32 ≤ c.toNat ∧ c.toNat ≤ 126
          · have he : esc c = [c] := by unfold esc; rw [if_neg c34, if_neg c92, if_pos c32]
            have l32 : (32 : Int) ≤ (c.toNat : Int) := by omega
            have l126 : (c.toNat : Int) ≤ 126 := by omega
            rw [he] at HB2 hb2
            clear hel he c34 c92 c32
            go_wp2_with (at_builtin; refine wpList_append_gbs wr _ rfl _ _ rfl _ _ b [c] rfl rfl HG.out ?hBel ?hSrc ?hLen ?_)
            case hBel => exact (Below.refl _ _).alloc (Nat.le_refl _) _
            case hSrc => exact src_bytes wr [c] _ _ _ rfl rfl (by simp)
            case hLen => (first | omega | (show b.length + 2 ≤ _; omega) | (show b.length + 1 ≤ _; omega))
            intro v' w3 hg3
            obtain ⟨a3, c3, rfl⟩ := hg3.slice
            have HG3 := mkW hg3
            obtain ⟨b3, hb3⟩ : ∃ x, b ++ [c] = x := ⟨_, rfl⟩
            rw [hb3] at HG3 HB2 hb2 ⊢
            clear hg3 hb3 HB HG
            go_wp2
            go_roundw
            case rel => exact ⟨k + 1, b3, a3, c3, by omega, by go_num, rfl, HB2, hb2, HG3⟩
            case measure => (first | (simp [intOf]; omega) | omega | (show _ < _; simp only [intOf]; omega))
          · have he : esc c = [92, 120] ++ hxB c := by unfold esc; rw [if_neg c34, if_neg c92, if_neg c32]; rfl
            have hl : (hxB c).length = 2 := rfl
            rw [he, ← List.append_assoc] at HB2 hb2
            clear hel he c34 c92
            rcases Nat.lt_or_ge c.toNat 32 with c32 | c32
            · have l32 : ¬ (32 : Int) ≤ (c.toNat : Int) := by omega
              go_wp2_with (at_builtin; refine wpList_append_gbs wr _ rfl _ _ rfl _ _ b [92, 120] rfl rfl HG.out ?hBel ?hSrc ?hLen ?_)
              case hBel => exact (Below.refl _ _).alloc (Nat.le_refl _) _
              case hSrc => exact src_bytes wr [92, 120] _ _ _ rfl rfl (by simp)
              case hLen => (first | omega | (show b.length + 2 ≤ _; omega) | (show b.length + 1 ≤ _; omega))
              intro v' w3 hg3
              obtain ⟨a3, c3, rfl⟩ := hg3.slice
              have HG3 := mkW hg3
              have hl3 : (b ++ [92, 120]).length ≤ 4 * k + 3 := by simp; omega
              obtain ⟨b3, hb3⟩ : ∃ x, b ++ [92, 120] = x := ⟨_, rfl⟩
              rw [hb3] at HG3 HB2 hb2 hl3 ⊢
              clear hg3 hb3 HB HG
              go_wp2_with (go_at_call 37; refine (appByteOf c w _ _ b3 HG3.out (by omega)).mono ?_; rintro e w4 ⟨v4, rfl, hg4⟩)
              obtain ⟨a4, c4, rfl⟩ := hg4.slice
              have HG4 := mkW hg4
              obtain ⟨b4, hb4⟩ : ∃ x, b3 ++ hxB c = x := ⟨_, rfl⟩
              rw [hb4] at HG4 HB2 hb2 ⊢
              clear hg4 hb4 HG3
              go_wp2
              go_roundw
              case rel => exact ⟨k + 1, b4, a4, c4, by omega, by go_num, rfl, HB2, hb2, HG4⟩
              case measure => (first | (simp [intOf]; omega) | omega | (show _ < _; simp only [intOf]; omega))
            · have l32 : (32 : Int) ≤ (c.toNat : Int) := by omega
              have l126 : ¬ (c.toNat : Int) ≤ 126 := by omega
              go_wp2_with (at_builtin; refine wpList_append_gbs wr _ rfl _ _ rfl _ _ b [92, 120] rfl rfl HG.out ?hBel ?hSrc ?hLen ?_)
              case hBel => exact (Below.refl _ _).alloc (Nat.le_refl _) _
              case hSrc => exact src_bytes wr [92, 120] _ _ _ rfl rfl (by simp)
              case hLen => (first | omega | (show b.length + 2 ≤ _; omega) | (show b.length + 1 ≤ _; omega))
              intro v' w3 hg3
              obtain ⟨a3, c3, rfl⟩ := hg3.slice
              have HG3 := mkW hg3
              have hl3 : (b ++ [92, 120]).length ≤ 4 * k + 3 := by simp; omega
              obtain ⟨b3, hb3⟩ : ∃ x, b ++ [92, 120] = x := ⟨_, rfl⟩
              rw [hb3] at HG3 HB2 hb2 hl3 ⊢
              clear hg3 hb3 HB HG
              go_wp2_with (go_at_call 37; refine (appByteOf c w _ _ b3 HG3.out (by omega)).mono ?_; rintro e w4 ⟨v4, rfl, hg4⟩)
              obtain ⟨a4, c4, rfl⟩ := hg4.slice
              have HG4 := mkW hg4
              obtain ⟨b4, hb4⟩ : ∃ x, b3 ++ hxB c = x := ⟨_, rfl⟩
              rw [hb4] at HG4 HB2 hb2 ⊢
              clear hg4 hb4 HG3
              go_wp2
              go_roundw
              case rel => exact ⟨k + 1, b4, a4, c4, by omega, by go_num, rfl, HB2, hb2, HG4⟩
              case measure => (first | (simp [intOf]; omega) | omega | (show _ < _; simp only [intOf]; omega))
    · have hki : ¬ (k : Int) < (s.length : Int) := by omega
      have hke : k = s.length := by omega
      subst hke
      have HB1 : Hid (b ++ [34] = 34 :: (s.flatMap esc ++ [34])) := by
        unfold Hid
        rw [HB.out, List.take_length]; rfl
      clear HB
      go_wp2_with (at_builtin; refine wpList_append_gbs wr _ rfl _ _ rfl _ _ b [34] rfl rfl HG.out ?hBel ?hSrc ?hLen ?_)
      case hBel => exact (Below.refl _ _).alloc (Nat.le_refl _) _
      case hSrc => exact src_bytes wr [34] _ _ _ rfl rfl (by simp)
      case hLen => (first | omega | (show b.length + 2 ≤ _; omega) | (show b.length + 1 ≤ _; omega))
      intro v' w3 hg3
      rw [HB1.out] at hg3
      have hcv := conv_gb hg3 w3 (Below.refl _ _)
      have HB3 : Hid (Below w.heap.size w w3) := hg3.below
      clear hg3 HB1 HG
      go_wp2
      go_ret
      exact ⟨rfl, HB3.out⟩
end Go.Proofs.YtlnppgjppfkocaaDoor.Xs
