import Derived.Test.YtlnppgjppfkocaaGreatDoorGp20
import Derived.Test.YtlnppgjppfkocaaGreatDoorGp08
import Derived.Test.YtlnppgjppfkocaaGreatDoorGp13
import Derived.Laws.EntriesVeiled
import Derived.Laws.ResultCell
/-! The program's writer: quoted. -/
namespace Go.Proofs.YtlnppgjppfkocaaGreatDoor.Xs
open Go.RowKit Plain
set_option linter.unusedVariables false
set_option linter.unusedSimpArgs false

theorem esc_len (c : UInt8) : (esc c).length ≤ 4 := by
  unfold esc
  split
  · simp
  · split
    · simp
    · split <;> simp [hxB]
theorem mkW {p : Prop} (h : p) : Hid p := h
theorem byte_neN {c : UInt8} {n : Nat} (hn : n < 256) (h : c ≠ UInt8.ofNat n) : ((c.toNat : Int) == (n : Int)) = false := by
  rw [beq_eq_false_iff_ne]
  intro e
  refine h (UInt8.toNat_inj.1 ?_)
  rw [UInt8.toNat_ofNat_of_lt' (by exact hn)]
  omega
set_option maxHeartbeats 8000000 in
set_option maxRecDepth 100000 in
theorem quotedOf (s : By) (hs : s.length ≤ 8796093022208) (w : World) :
    Calls Tryz.prog 60 #[.string (ba s)] w fun e w' => e = .returned (.string (ba (34 :: (s.flatMap esc ++ [34])))) ∧ Below w.heap.size w w' := by
  have hsz : (ba s).size = s.length := rfl
  have HG0 : Hid (Gb w (w.alloc (.cells #[.int .u8 34] 5)) (.slice (some ⟨w.heap.size, 0, none⟩) 1 1) [34]) := by
    refine ⟨some w.heap.size, Own.new w _ (nats [34]) 1 5 (nats_lt _) rfl (by simp [nats]) (by unfold maxLen; omega) (fun j hj => ?_), fun g e => by cases e; exact Nat.le_refl _, (Below.refl _ w).alloc (Nat.le_refl _) _⟩
    have : j = 0 := by simp [nats] at hj; omega
    subst this
    rfl
  go_enter Tryz.func60, Tryz.ntmps60
  go_wp2
  go_loopw [3, 9] (fun v i wl => ∃ (k : Nat) (b : By) (a : Option Addr) (cap : Nat), k ≤ s.length ∧ i = .int .i64 k ∧ v = .slice a b.length cap ∧ Hid (b = 34 :: (s.take k).flatMap esc) ∧ b.length ≤ 1 + 4 * k ∧ Hid (Gb w wl (.slice a b.length cap) b)) (fun _ i _ => s.length + 10 - (intOf i).toNat)
  case atStart => exact ⟨0, [34], _, _, Nat.zero_le _, rfl, rfl, rfl, by simp, HG0⟩
  case round =>
    clear HG0
    obtain ⟨k, b, a, cap, hk, rfl, rfl, HB, hbl, HG⟩ := hrel
    by_cases hp : k < s.length
    · have hki : (k : Int) < (s.length : Int) := by omega
      have hkb : k < (ba s).size := hp
      have hbg := ba_get hkb
      obtain ⟨c, hc⟩ : ∃ c, s.getD k 0 = c := ⟨_, rfl⟩
      rw [hc] at hbg
      have hz : (((ba s)[k]'hkb).toNat : Int) = (c.toNat : Int) := by rw [hbg]
      clear hbg
      have HB2 : Hid (b ++ esc c = 34 :: (s.take (k + 1)).flatMap esc) := by
        unfold Hid
        rw [HB.out, take_at hp, hc, List.flatMap_append]
        simp
      have hel := esc_len c
      have hb2 : (b ++ esc c).length ≤ 1 + 4 * (k + 1) := by rw [List.length_append]; omega
      clear hc
      by_cases c34 : c = 34
      · subst c34
        have he : esc 34 = [92, 34] := by decide
        rw [he] at HB2 hb2
        have HG3 : Hid True := trivial
        clear hel he HG3
        go_wp2_with (at_builtin; refine wpList_append_gbs wr _ rfl _ _ rfl _ _ b [92, 34] rfl rfl HG.out ?hBel ?hSrc ?hLen ?_)
        case hBel => exact (Below.refl _ _).alloc (Nat.le_refl _) _
        case hSrc => exact src_bytes wr [92, 34] _ _ _ rfl rfl (by simp)
        case hLen => (first | omega | (show b.length + 2 ≤ _; omega) | (show b.length + 1 ≤ _; omega))
        intro v' w3 hg3
        obtain ⟨a3, c3, rfl⟩ := hg3.slice
        have HG3 := mkW hg3
        obtain ⟨b3, hb3⟩ : ∃ x, b ++ [92, 34] = x := ⟨_, rfl⟩
        rw [hb3] at HG3 HB2 hb2 ⊢
        clear hg3 hb3 HB HG
        go_wp2
        go_roundw
        case rel => exact ⟨k + 1, b3, a3, c3, by omega, by go_num, rfl, HB2, hb2, HG3⟩
        case measure => (first | (simp [intOf]; omega) | omega | (show _ < _; simp only [intOf]; omega))
      · have h34 : ((c.toNat : Int) == 34) = false := byte_neN (n := 34) (by omega) c34
        by_cases c92 : c = 92
        · subst c92
          have he : esc 92 = [92, 92] := by decide
          rw [he] at HB2 hb2
          clear hel he
          go_wp2_with (at_builtin; refine wpList_append_gbs wr _ rfl _ _ rfl _ _ b [92, 92] rfl rfl HG.out ?hBel ?hSrc ?hLen ?_)
          case hBel => exact (Below.refl _ _).alloc (Nat.le_refl _) _
          case hSrc => exact src_bytes wr [92, 92] _ _ _ rfl rfl (by simp)
          case hLen => (first | omega | (show b.length + 2 ≤ _; omega) | (show b.length + 1 ≤ _; omega))
          intro v' w3 hg3
          obtain ⟨a3, c3, rfl⟩ := hg3.slice
          have HG3 := mkW hg3
          obtain ⟨b3, hb3⟩ : ∃ x, b ++ [92, 92] = x := ⟨_, rfl⟩
          rw [hb3] at HG3 HB2 hb2 ⊢
          clear hg3 hb3 HB HG
          go_wp2
          go_roundw
          case rel => exact ⟨k + 1, b3, a3, c3, by omega, by go_num, rfl, HB2, hb2, HG3⟩
          case measure => (first | (simp [intOf]; omega) | omega | (show _ < _; simp only [intOf]; omega))
        · have h92 : ((c.toNat : Int) == 92) = false := byte_neN (n := 92) (by omega) c92
          by_cases c32 : 32 ≤ c.toNat ∧ c.toNat ≤ 126
          · have he : esc c = [c] := by unfold esc; rw [if_neg c34, if_neg c92, if_pos c32]
            have l32 : (32 : Int) ≤ (c.toNat : Int) := by omega
            have l126 : (c.toNat : Int) ≤ 126 := by omega
            rw [he] at HB2 hb2
            clear hel he c34 c92 c32
            go_wp2_with (at_builtin; refine wpList_append_gbs wr _ rfl _ _ rfl _ _ b [c] rfl rfl HG.out ?hBel ?hSrc ?hLen ?_)
            case hBel => exact (Below.refl _ _).alloc (Nat.le_refl _) _
            case hSrc => exact src_bytes wr [c] _ _ _ rfl rfl (by simp)
            case hLen => (first | omega | (show b.length + 2 ≤ _; omega) | (show b.length + 1 ≤ _; omega))
            intro v' w3 hg3
            obtain ⟨a3, c3, rfl⟩ := hg3.slice
            have HG3 := mkW hg3
            obtain ⟨b3, hb3⟩ : ∃ x, b ++ [c] = x := ⟨_, rfl⟩
            rw [hb3] at HG3 HB2 hb2 ⊢
            clear hg3 hb3 HB HG
            go_wp2
            go_roundw
            case rel => exact ⟨k + 1, b3, a3, c3, by omega, by go_num, rfl, HB2, hb2, HG3⟩
            case measure => (first | (simp [intOf]; omega) | omega | (show _ < _; simp only [intOf]; omega))
          · have he : esc c = [92, 120] ++ hxB c := by unfold esc; rw [if_neg c34, if_neg c92, if_neg c32]; rfl
            have hl : (hxB c).length = 2 := rfl
            rw [he, ← List.append_assoc] at HB2 hb2
            clear hel he c34 c92
            rcases Nat.lt_or_ge c.toNat 32 with c32 | c32
            · have l32 : ¬ (32 : Int) ≤ (c.toNat : Int) := by omega
              go_wp2_with (at_builtin; refine wpList_append_gbs wr _ rfl _ _ rfl _ _ b [92, 120] rfl rfl HG.out ?hBel ?hSrc ?hLen ?_)
              case hBel => exact (Below.refl _ _).alloc (Nat.le_refl _) _
              case hSrc => exact src_bytes wr [92, 120] _ _ _ rfl rfl (by simp)
              case hLen => (first | omega | (show b.length + 2 ≤ _; omega) | (show b.length + 1 ≤ _; omega))
              intro v' w3 hg3
              obtain ⟨a3, c3, rfl⟩ := hg3.slice
              have HG3 := mkW hg3
              have hl3 : (b ++ [92, 120]).length ≤ 4 * k + 3 := by simp; omega
              obtain ⟨b3, hb3⟩ : ∃ x, b ++ [92, 120] = x := ⟨_, rfl⟩
              rw [hb3] at HG3 HB2 hb2 hl3 ⊢
              clear hg3 hb3 HB HG
              go_wp2_with (go_at_call 94; refine (appByteOf c w _ _ b3 HG3.out (by omega)).mono ?_; rintro e w4 ⟨v4, rfl, hg4⟩)
              obtain ⟨a4, c4, rfl⟩ := hg4.slice
              have HG4 := mkW hg4
              obtain ⟨b4, hb4⟩ : ∃ x, b3 ++ hxB c = x := ⟨_, rfl⟩
              rw [hb4] at HG4 HB2 hb2 ⊢
              clear hg4 hb4 HG3
              go_wp2
              go_roundw
              case rel => exact ⟨k + 1, b4, a4, c4, by omega, by go_num, rfl, HB2, hb2, HG4⟩
              case measure => (first | (simp [intOf]; omega) | omega | (show _ < _; simp only [intOf]; omega))
            · have l32 : (32 : Int) ≤ (c.toNat : Int) := by omega
              have l126 : ¬ (c.toNat : Int) ≤ 126 := by omega
              go_wp2_with (at_builtin; refine wpList_append_gbs wr _ rfl _ _ rfl _ _ b [92, 120] rfl rfl HG.out ?hBel ?hSrc ?hLen ?_)
              case hBel => exact (Below.refl _ _).alloc (Nat.le_refl _) _
              case hSrc => exact src_bytes wr [92, 120] _ _ _ rfl rfl (by simp)
              case hLen => (first | omega | (show b.length + 2 ≤ _; omega) | (show b.length + 1 ≤ _; omega))
              intro v' w3 hg3
              obtain ⟨a3, c3, rfl⟩ := hg3.slice
              have HG3 := mkW hg3
              have hl3 : (b ++ [92, 120]).length ≤ 4 * k + 3 := by simp; omega
              obtain ⟨b3, hb3⟩ : ∃ x, b ++ [92, 120] = x := ⟨_, rfl⟩
              rw [hb3] at HG3 HB2 hb2 hl3 ⊢
              clear hg3 hb3 HB HG
              go_wp2_with (go_at_call 94; refine (appByteOf c w _ _ b3 HG3.out (by omega)).mono ?_; rintro e w4 ⟨v4, rfl, hg4⟩)
              obtain ⟨a4, c4, rfl⟩ := hg4.slice
              have HG4 := mkW hg4
              obtain ⟨b4, hb4⟩ : ∃ x, b3 ++ hxB c = x := ⟨_, rfl⟩
              rw [hb4] at HG4 HB2 hb2 ⊢
              clear hg4 hb4 HG3
              go_wp2
              go_roundw
              case rel => exact ⟨k + 1, b4, a4, c4, by omega, by go_num, rfl, HB2, hb2, HG4⟩
              case measure => (first | (simp [intOf]; omega) | omega | (show _ < _; simp only [intOf]; omega))
    · have hki : ¬ (k : Int) < (s.length : Int) := by omega
      have hke : k = s.length := by omega
      subst hke
      have HB1 : Hid (b ++ [34] = 34 :: (s.flatMap esc ++ [34])) := by
        unfold Hid
        rw [HB.out, List.take_length]; rfl
      clear HB
      go_wp2_with (at_builtin; refine wpList_append_gbs wr _ rfl _ _ rfl _ _ b [34] rfl rfl HG.out ?hBel ?hSrc ?hLen ?_)
      case hBel => exact (Below.refl _ _).alloc (Nat.le_refl _) _
      case hSrc => exact src_bytes wr [34] _ _ _ rfl rfl (by simp)
      case hLen => (first | omega | (show b.length + 2 ≤ _; omega) | (show b.length + 1 ≤ _; omega))
      intro v' w3 hg3
      rw [HB1.out] at hg3
      have hcv := conv_gb hg3 w3 (Below.refl _ _)
      have HB3 : Hid (Below w.heap.size w w3) := hg3.below
      clear hg3 HB1 HG
      go_wp2
      go_ret
      exact ⟨rfl, HB3.out⟩
end Go.Proofs.YtlnppgjppfkocaaGreatDoor.Xs

/-! The program's writer: numbers, texts, the line. -/
namespace Go.Proofs.YtlnppgjppfkocaaGreatDoor.Xs
open Go.RowKit Plain
set_option linter.unusedVariables false
set_option linter.unusedSimpArgs false

theorem fmtOf (n : Int) (hn : I64 n) (w : World) (h : Tab w) :
    Calls Tryz.prog 57 #[.int .i64 n, .int .i64 10] w fun e w' => e = .returned (.string (ba (Lib.itoa n))) ∧ Below w.heap.size w w' := by
  refine (Any.strconv_FormatInt_10 Tryz.lFmt n hn.1 hn.2 w h).mono ?_
  rintro e w' ⟨rfl, k, os, rfl⟩
  exact ⟨rfl, Lib.below_grow _ _ (Nat.le_refl _) _ _⟩
theorem itoaQ (n : Int) (hn : I64 n) (w : World) (h : Tab w) :
    Calls Tryz.prog 58 #[.int .i64 n] w fun e w' => e = .returned (.string (ba (Lib.itoa n))) ∧ Below w.heap.size w w' := by
  refine (Any.strconv_Itoa Tryz.lItoa n hn.1 hn.2 w h).mono ?_
  rintro e w' ⟨rfl, k, os, rfl⟩
  exact ⟨rfl, Lib.below_grow _ _ (Nat.le_refl _) _ _⟩
theorem trimOf (s : By) (hs : s.length ≤ 9223372036854775807) (w : World) :
    Calls Tryz.prog 59 #[.string (ba s), .string (ba plainB)] w fun e w' => e = .returned (.string (ba (Lib.trimS s plainB))) ∧ Below w.heap.size w w' := by
  refine (Any.strings_Trim_laid Tryz.lTrim (by kernel_rfl) (ba s) (ba plainB) w hs (by decide) (ascii_of_all (by decide))).mono ?_
  rintro e w' ⟨rfl, hb⟩
  exact ⟨rfl, hb⟩
set_option maxHeartbeats 4000000 in
set_option maxRecDepth 100000 in
theorem numOf (n : Int) (hn : I64 n) (P : Nat → Prop) (W w : World) (g : Nat) (l : List By) (hT : Tab W) (h : Wr P W w g l) (hl : l.length ≤ 8796093022000) :
    Calls Tryz.prog 34 #[.pointer (some ⟨g, 0, none⟩), .int .i64 n] w fun e w' => e = .returned (.tuple #[]) ∧ Wr P W w' g (l ++ [Lib.itoa n]) ∧ Kp P w w' := by
  have hTw : Tab w := hT.later h.bel
  go_enter Tryz.func34, Tryz.ntmps34
  go_wp2_with (go_at_call 57; refine (fmtOf n hn _ hTw).mono ?_; rintro e w1 ⟨rfl, hb⟩)
  have HW := mkW (h.later hb)
  have HK := mkW (h.kp hb)
  clear hb h
  go_wp2_with (go_at_call 22; refine (wordOf (Lib.itoa n) P W _ g l HW.out hl).mono ?_; rintro e w2 ⟨rfl, hw2, hk2⟩)
  go_end0
  exact ⟨rfl, hw2, HK.out.trans hk2⟩
set_option maxHeartbeats 4000000 in
set_option maxRecDepth 100000 in
theorem textOf (s : By) (hs : s.length ≤ 8796093022208) (P : Nat → Prop) (W w : World) (g : Nat) (l : List By) (h : Wr P W w g l) (hl : l.length ≤ 8796093022000) :
    Calls Tryz.prog 39 #[.pointer (some ⟨g, 0, none⟩), .string (ba s)] w fun e w' => e = .returned (.tuple #[]) ∧ Wr P W w' g (l ++ [txt s]) ∧ Kp P w w' := by
  by_cases h0 : s = []
  · subst h0
    have ht : txt [] = 34 :: (([] : By).flatMap esc ++ [34]) := by decide
    rw [ht]
    go_enter Tryz.func39, Tryz.ntmps39
    go_wp2_with (go_at_call 60; refine (quotedOf [] (by simp) _).mono ?_; rintro e w1 ⟨rfl, hb⟩)
    have HW := mkW (h.later hb)
    have HK := mkW (h.kp hb)
    go_wp2_with (go_at_call 22; refine (wordOf _ P W _ g l HW.out hl).mono ?_; rintro e w2 ⟨rfl, hw2, hk2⟩)
    go_end0
    exact ⟨rfl, hw2, HK.out.trans hk2⟩
  · have hne : List.isEmpty s = false := by cases s <;> simp_all
    cases hA : s.all plB with
    | true =>
      have ht : txt s = s := by unfold txt; rw [if_pos ⟨h0, hA⟩]
      rw [ht]
      have hem : Lib.trimS s plainB = [] := (trim_nil s).2 hA
      have hT : ∀ u, Calls Tryz.prog 59 #[.string (ba s), .string (ba plainB)] u fun e w' => e = .returned (.string ⟨#[]⟩) ∧ Below u.heap.size u w' := fun u => by
        have := trimOf s (by omega) u
        rw [hem] at this
        exact this
      clear hem hA ht
      go_enter Tryz.func39, Tryz.ntmps39
      go_wp2_with (go_at_call 59; refine (hT _).mono ?_; rintro e w1 ⟨rfl, hb⟩)
      have HW := mkW (h.later hb)
      go_wp2_with (go_at_call 22; refine (wordOf s P W _ g l HW.out hl).mono ?_; rintro e w2 ⟨rfl, hw2, hk2⟩)
      have hkk := (h.kp hb).trans hk2
      first | go_end0 | refine bodyPost_ret (results_none rfl _ _ _) rfl ?_
      exact ⟨rfl, hw2, hkk⟩
    | false =>
      have ht : txt s = 34 :: (s.flatMap esc ++ [34]) := by unfold txt; rw [if_neg]; rintro ⟨_, h⟩; rw [hA] at h; cases h
      rw [ht]
      obtain ⟨t, htr⟩ : ∃ t, Lib.trimS s plainB = t := ⟨_, rfl⟩
      have hem : List.isEmpty t = false := by
        have : t ≠ [] := fun e => by rw [← htr] at e; have := (trim_nil s).1 e; rw [hA] at this; cases this
        cases t <;> simp_all
      have hT : ∀ u, Calls Tryz.prog 59 #[.string (ba s), .string (ba plainB)] u fun e w' => e = .returned (.string (ba t)) ∧ Below u.heap.size u w' := fun u => by
        have := trimOf s (by omega) u
        rw [htr] at this
        exact this
      clear htr hA ht
      go_enter Tryz.func39, Tryz.ntmps39
      go_wp2_with (go_at_call 59; refine (hT _).mono ?_; rintro e w1 ⟨rfl, hb⟩)
      have HW := mkW (h.later hb)
      go_wp2_with (go_at_call 60; refine (quotedOf s hs _).mono ?_; rintro e w2 ⟨rfl, hb2⟩)
      have HW2 := mkW (HW.out.later hb2)
      go_wp2_with (go_at_call 22; refine (wordOf _ P W _ g l HW2.out hl).mono ?_; rintro e w3 ⟨rfl, hw3, hk3⟩)
      have hkk := ((h.kp hb).trans (HW.out.kp hb2)).trans hk3
      go_end0
      exact ⟨rfl, hw3, hkk⟩
/-! ### The line -/
theorem nms_of {l : List By} : (l.map ba).map (·.data.toList) = l := by
  rw [List.map_map]
  conv => rhs; rw [← List.map_id l]
  refine List.map_congr_left fun x _ => ?_
  rfl
theorem joinQ (p : By) (ps : List By) (v : Value) (w : World) (r : Option Nat) (h : OwnV w v (strs (p :: ps)) r) (hN : (p :: ps).length ≤ 140737488355328) (hl : (joinL p ps).length ≤ 140737488355328) :
    Calls Tryz.prog 44 #[v, .string (ba [32])] w fun e w' => e = .returned (.string (ba (joinL p ps))) ∧ Below w.heap.size w w' := by
  rcases h with ⟨_, e, _⟩ | ⟨bk, cap, _, rfl, hg, h1, h2, h3, h4, h5⟩
  · simp [strs] at e
  · rw [strs_len] at h1 h5 ⊢
    have X : Builder.Extra Tryz.prog Tryz.lJoin_ren := {
      sizeBuilder := by kernel_rfl
      liesBuilder := by kernel_rfl
      t5 := Tryz.underlying5
      a5 := Tryz.isAgg5
      z5 := Tryz.sizeOf5
      v5 := Tryz.zeroValue5
      infoByte := by kernel_rfl
      cellsByte := by kernel_rfl
      sizeByte := by kernel_rfl
      neB5 := by decide }
    have hj : Lib.join (((p :: ps).map ba).map (·.data.toList)) (ba [32]).data.toList = joinL p ps := by
      rw [nms_of]; exact join_is p ps
    have hL : ((p :: ps).map ba).length = (p :: ps).length := List.length_map ..
    have := Any.strings_Join Tryz.lJoin X bk 0 cap ((p :: ps).map ba) (ba [32]) w (fun j x hx => by
      rw [List.getElem?_map, Option.map_eq_some_iff] at hx
      obtain ⟨y, hy, rfl⟩ := hx
      have hjl : j < (p :: ps).length := (List.getElem?_eq_some_iff.mp hy).1
      rw [Nat.zero_add, h5 j hjl, strs_get hjl, List.getD_eq_getElem?_getD, hy]; rfl) hg (by rw [hL]; exact hN) (by rw [hL]; exact h1) (by rw [hj]; exact hl)
    rw [hj, hL] at this
    exact this
set_option maxHeartbeats 4000000 in
set_option maxRecDepth 100000 in
theorem lineOf (p : By) (ps : List By) (P : Nat → Prop) (W w : World) (g : Nat) (h : Wr P W w g (p :: ps)) (hN : (p :: ps).length ≤ 140737488355328) (hl : (joinL p ps).length ≤ 140737488355328) :
    Calls Tryz.prog 23 #[.pointer (some ⟨g, 0, none⟩)] w fun e w' => e = .returned (.string (ba (joinL p ps))) ∧ Below w.heap.size w w' := by
  obtain ⟨v, r, h1, h2, h3, h4, h5⟩ := h.ex
  go_enter Tryz.func23, Tryz.ntmps23
  go_wp2_with (go_at_call 44; refine (joinQ p ps v _ r h3 hN hl).mono ?_; rintro e w1 ⟨rfl, hb⟩)
  go_ret
  exact ⟨rfl, hb⟩
end Go.Proofs.YtlnppgjppfkocaaGreatDoor.Xs

/-! The program's Show: words by number. -/
namespace Go.Proofs.YtlnppgjppfkocaaGreatDoor.Xs
open Go.RowKit Plain
set_option linter.unusedVariables false
set_option linter.unusedSimpArgs false

theorem nms_new (w : World) (l : List By) (C : Array Value) (t : TypeId) (n : Nat) (hC : C = (strs l).toArray) (hn : l.length = n) (hn2 : n ≤ 1000) (hx : (l.all fun x => decide (x.length ≤ 1000)) = true) : NmsAt (w.alloc (.cells C t)) (.slice (some ⟨w.heap.size, 0, none⟩) n n) l := by
  subst hn
  refine ⟨_, l.length, rfl, Nat.le_refl _, by omega, fun x hxl => ?_, fun _ => ⟨w.heap.size, 0, rfl, fun j hj => ?_⟩⟩
  · have := List.all_eq_true.1 hx x hxl
    simp at this; omega
  · rw [World.cell?_alloc_at _ _ _ _ rfl, hC, List.getElem?_toArray, Nat.zero_add, strs_get hj]
set_option maxHeartbeats 4000000 in
set_option maxRecDepth 100000 in
theorem opWordsOf (w : World) :
    Calls Tryz.prog 36 #[] w fun e w' => ∃ v, e = .returned v ∧ NmsAt w' v opsL ∧ Below w.heap.size w w' := by
  go_enter Tryz.func36, Tryz.ntmps36
  go_wp2
  go_ret
  refine ⟨_, rfl, nms_new w opsL _ _ 65 (by rfl) (by decide +kernel) (by decide) (by decide +kernel), (Below.refl _ w).alloc (Nat.le_refl _) _⟩
set_option maxHeartbeats 4000000 in
set_option maxRecDepth 100000 in
theorem codeWordsOf (w : World) :
    Calls Tryz.prog 37 #[] w fun e w' => ∃ v, e = .returned v ∧ NmsAt w' v cW ∧ Below w.heap.size w w' := by
  go_enter Tryz.func37, Tryz.ntmps37
  go_wp2
  go_ret
  refine ⟨_, rfl, nms_new w cW _ _ 12 (by rfl) (by decide +kernel) (by decide) (by decide +kernel), (Below.refl _ w).alloc (Nat.le_refl _) _⟩
set_option maxHeartbeats 4000000 in
set_option maxRecDepth 100000 in
theorem kindWordsOf (w : World) :
    Calls Tryz.prog 61 #[] w fun e w' => ∃ v, e = .returned v ∧ NmsAt w' v kindsL ∧ Below w.heap.size w w' := by
  go_enter Tryz.func61, Tryz.ntmps61
  go_wp2
  go_ret
  refine ⟨_, rfl, nms_new w kindsL _ _ 3 (by rfl) (by decide +kernel) (by decide) (by decide +kernel), (Below.refl _ w).alloc (Nat.le_refl _) _⟩
theorem extentOf (b : Bool) (w : World) : Calls Tryz.prog 38 #[.bool b] w fun e w' => e = .returned (.string (ba (if b = true then moreW else lastW))) ∧ Below w.heap.size w w' := by
  cases b with
  | true =>
    go_enter Tryz.func38, Tryz.ntmps38
    go_wp2
    go_ret
    exact ⟨rfl, Below.refl _ _⟩
  | false =>
    go_enter Tryz.func38, Tryz.ntmps38
    go_wp2
    go_ret
    exact ⟨rfl, Below.refl _ _⟩
set_option maxHeartbeats 4000000 in
set_option maxRecDepth 100000 in
theorem namedOf (ws : List By) (v : Value) (n : Int) (hn : I64 n) (p : By) (hp : p.length ≤ 100) (w : World) (h : NmsAt w v ws) (hT : Tab w) :
    Calls Tryz.prog 35 #[v, .int .i64 n, .string (ba p)] w fun e w' => e = .returned (.string (ba (namedL ws n p))) ∧ Below w.heap.size w w' := by
  obtain ⟨a, cap, rfl, h0, h1, h2, h3⟩ := h
  unfold namedL
  have hcat : ba p ++ ba (Lib.itoa n) = ba (p ++ Lib.itoa n) := ba_app _ _
  have hil := itoa_len hn.1 hn.2
  have hbd : ¬ 9223372036854775807 < p.length + (Lib.itoa n).length := by omega
  by_cases g1 : 0 ≤ n
  · by_cases g2 : n < (ws.length : Int)
    · obtain ⟨b, off, rfl, hc⟩ := h3 (fun e => by rw [e] at g2; simp at g2; omega)
      have hcn := hc n.toNat (by omega)
      obtain ⟨k, hk⟩ : ∃ k : Nat, n = (k : Int) := ⟨n.toNat, by omega⟩
      subst hk
      simp only [Int.toNat_natCast] at hcn ⊢
      obtain ⟨y, hy⟩ : ∃ y, ws.getD k [] = y := ⟨_, rfl⟩
      rw [hy] at hcn ⊢
      by_cases g3 : y = []
      · rw [if_neg (fun e => e.2.2 g3)]
        subst g3
        go_enter Tryz.func35, Tryz.ntmps35
        go_wp2_with (go_at_call 58; refine (itoaQ _ hn _ hT).mono ?_; rintro e w1 ⟨rfl, hb⟩)
        go_wp2
        go_ret
        exact ⟨rfl, hb⟩
      · rw [if_pos ⟨g1, g2, g3⟩]
        have hem : List.isEmpty y = false := by cases y <;> simp_all
        go_enter Tryz.func35, Tryz.ntmps35
        go_wp2
        go_ret
        exact ⟨rfl, Below.refl _ _⟩
    · rw [if_neg (fun e => g2 e.2.1)]
      go_enter Tryz.func35, Tryz.ntmps35
      go_wp2_with (go_at_call 58; refine (itoaQ _ hn _ hT).mono ?_; rintro e w1 ⟨rfl, hb⟩)
      go_wp2
      go_ret
      exact ⟨rfl, hb⟩
  · rw [if_neg (fun e => g1 e.1)]
    go_enter Tryz.func35, Tryz.ntmps35
    go_wp2_with (go_at_call 58; refine (itoaQ _ hn _ hT).mono ?_; rintro e w1 ⟨rfl, hb⟩)
    go_wp2
    go_ret
    exact ⟨rfl, hb⟩
end Go.Proofs.YtlnppgjppfkocaaGreatDoor.Xs

/-! The program's verbs. -/
namespace Go.Proofs.YtlnppgjppfkocaaGreatDoor.Xs
open Go.RowKit Plain
set_option linter.unusedVariables false
set_option linter.unusedSimpArgs false

/-- A verb's row. -/
structure Vr where
  word : By
  uses : Int
  least : Int
  most : Int
  wf : Nat
  rf : Nat
abbrev fnV (k : Nat) : Value := .func (.func k) #[] #[]
def Vr.zero : Vr := ⟨[], 0, 0, 0, 0, 0⟩
abbrev vrZ : Value := .agg #[.string ⟨#[]⟩, .int .i64 0, .int .i64 0, .int .i64 0, .nilFunc, .nilFunc]
def vrL : List Vr := [⟨vW.getD 0 [], 1, 0, 0, 62, 63⟩, ⟨vW.getD 1 [], 1, 0, 0, 62, 63⟩, ⟨vW.getD 2 [], 3, 0, 0, 64, 65⟩, ⟨vW.getD 3 [], 5, 0, 0, 66, 67⟩,
  ⟨vW.getD 4 [], 0, 0, 1125899906842624, 68, 69⟩, ⟨vW.getD 5 [], 8, 0, 0, 70, 71⟩, ⟨vW.getD 6 [], 1, 0, 1073741824, 72, 73⟩, ⟨vW.getD 7 [], 0, -1, 1073741824, 68, 69⟩,
  ⟨vW.getD 8 [], 8, 0, 0, 70, 71⟩, ⟨vW.getD 9 [], 0, 0, 0, 74, 75⟩, ⟨vW.getD 10 [], 0, 0, 0, 74, 75⟩]
def Vr.cells (v : Vr) : List Value := [.string (ba v.word), .int .i64 v.uses, .int .i64 v.least, .int .i64 v.most, fnV v.wf, fnV v.rf]
abbrev vrV (v : Vr) : Value := .agg #[.string (ba v.word), .int .i64 v.uses, .int .i64 v.least, .int .i64 v.most, fnV v.wf, fnV v.rf]
structure VrAt (w : World) (b o : Nat) (v : Vr) : Prop where
  c0 : w.cell? ⟨b, o, none⟩ = some (.string (ba v.word))
  c1 : w.cell? ⟨b, o + 1, none⟩ = some (.int .i64 v.uses)
  c2 : w.cell? ⟨b, o + 2, none⟩ = some (.int .i64 v.least)
  c3 : w.cell? ⟨b, o + 3, none⟩ = some (.int .i64 v.most)
  c4 : w.cell? ⟨b, o + 4, none⟩ = some (fnV v.wf)
  c5 : w.cell? ⟨b, o + 5, none⟩ = some (fnV v.rf)
theorem VrAt.later {w w' : World} {b o : Nat} {v : Vr} (h : VrAt w b o v) (hb : Below w.heap.size w w') : VrAt w' b o v :=
  ⟨(hb.cell (cell_lt h.c0)).trans h.c0, (hb.cell (cell_lt h.c1)).trans h.c1, (hb.cell (cell_lt h.c2)).trans h.c2, (hb.cell (cell_lt h.c3)).trans h.c3, (hb.cell (cell_lt h.c4)).trans h.c4, (hb.cell (cell_lt h.c5)).trans h.c5⟩
/-- At b lie all verbs. -/
def VbsAt (w : World) (b : Nat) : Prop := ∀ i, i < 11 → VrAt w b (i * 6) (vrL.getD i Vr.zero)
theorem VbsAt.later {w w' : World} {b : Nat} (h : VbsAt w b) (hb : Below w.heap.size w w') : VbsAt w' b := fun i hi => (h i hi).later hb
theorem vbs_new (w : World) (C : Array Value) (t : TypeId) (hC : C = (vrL.flatMap Vr.cells).toArray) : VbsAt (w.alloc (.cells C t)) w.heap.size := by
  subst hC
  intro i hi
  have k : ∀ (j : Nat) v, ((vrL.flatMap Vr.cells).toArray)[j]? = some v → (w.alloc (.cells (vrL.flatMap Vr.cells).toArray t)).cell? ⟨w.heap.size, j, none⟩ = some v := fun j v hv => by
    rw [World.cell?_alloc_at _ _ _ _ rfl]; exact hv
  rcases i with _ | _ | _ | _ | _ | _ | _ | _ | _ | _ | _ | i
  all_goals first | exact ⟨k _ _ rfl, k _ _ rfl, k _ _ rfl, k _ _ rfl, k _ _ rfl, k _ _ rfl⟩ | omega
set_option maxHeartbeats 4000000 in
set_option maxRecDepth 100000 in
theorem verbsOf (w : World) :
    Calls Tryz.prog 41 #[] w fun e w' => ∃ b, e = .returned (.slice (some ⟨b, 0, none⟩) 11 11) ∧ VbsAt w' b ∧ w.heap.size ≤ b ∧ Below w.heap.size w w' := by
  go_enter Tryz.func41, Tryz.ntmps41
  go_wp2
  go_ret
  exact ⟨_, rfl, vbs_new w _ _ rfl, Nat.le_refl _, (Below.refl _ w).alloc (Nat.le_refl _) _⟩
/-- The row of a verb. -/
def rowV (n : Int) : Vr := if 0 ≤ n ∧ n < 11 then vrL.getD n.toNat Vr.zero else Vr.zero
set_option maxHeartbeats 4000000 in
set_option maxRecDepth 100000 in
theorem verbOfOf (n : Int) (w : World) :
    Calls Tryz.prog 20 #[.int .i64 n] w fun e w' => e = .returned (.tuple #[if 0 ≤ n ∧ n < 11 then vrV (rowV n) else vrZ, .bool (decide (0 ≤ n ∧ n < 11))]) ∧ Below w.heap.size w w' := by
  by_cases h0 : 0 ≤ n
  · by_cases h1 : n < 11
    · obtain ⟨k, hk⟩ : ∃ k : Nat, n = (k : Int) := ⟨n.toNat, by omega⟩
      subst hk
      have hk : k < 11 := by omega
      have hrow : rowV (k : Int) = vrL.getD k Vr.zero := by unfold rowV; rw [if_pos ⟨h0, h1⟩, Int.toNat_natCast]
      rw [if_pos ⟨h0, h1⟩, hrow, show decide (0 ≤ (k : Int) ∧ (k : Int) < 11) = true from decide_eq_true ⟨h0, h1⟩]
      obtain ⟨v, hv⟩ : ∃ v, vrL.getD k Vr.zero = v := ⟨_, rfl⟩
      rw [hv]
      have hbA : Below w.heap.size w (w.alloc (.cells #[.string ⟨#[]⟩, .int .i64 0, .int .i64 0, .int .i64 0, .nilFunc, .nilFunc] 51)) := (Below.refl _ w).alloc (Nat.le_refl _) _
      go_enter Tryz.func20, Tryz.ntmps20
      go_wp2_with fail
      refine (verbsOf _).mono ?_
      rintro e w1 ⟨b, rfl, hvb, hb, hb1⟩
      have hx := hvb k hk
      rw [hv] at hx
      obtain ⟨c0, c1, c2, c3, c4, c5⟩ := hx
      have hb2 : w.heap.size + 1 ≤ b := by simpa using hb
      have hsz1 : w.heap.size < w1.heap.size := by have := hb1.size; simp at this; omega
      have HB1 := mkW (below_on hbA hb1)
      have z : ∀ (j : Nat) v, (#[.string ⟨#[]⟩, .int .i64 0, .int .i64 0, .int .i64 0, .nilFunc, .nilFunc] : Array Value)[j]? = some v → w1.cell? ⟨w.heap.size, j, none⟩ = some v := fun j v hj => by
        rw [hb1.cell (by simp), World.cell?_alloc_at _ _ _ _ rfl]; exact hj
      have zf : ∀ j, w1.frozen? ⟨w.heap.size, j, none⟩ = false := fun j => by
        rw [hb1.frozen (by simp)]; exact World.frozen?_alloc_at _ _ _ _ rfl
      have z0 := z 0 _ rfl
      have f0 := zf 0
      have z1 := z 1 _ rfl
      have f1 := zf 1
      have z2 := z 2 _ rfl
      have f2 := zf 2
      have z3 := z 3 _ rfl
      have f3 := zf 3
      have z4 := z 4 _ rfl
      have f4 := zf 4
      have z5 := z 5 _ rfl
      have f5 := zf 5
      clear z zf
      clear hvb hb1 hbA hb
      go_wp2_with fail
      refine bodyPost_ret (v := .tuple #[vrV v, .bool true]) ?hres rfl ?_
      case hres =>
        rw [results_cell_tmp rfl]
        go_simp
      exact ⟨rfl, (((((HB1.out.setCell (Nat.le_refl _) _).setCell (Nat.le_refl _) _).setCell (Nat.le_refl _) _).setCell (Nat.le_refl _) _).setCell (Nat.le_refl _) _).setCell (Nat.le_refl _) _⟩
    · have hd : ¬ (0 ≤ n ∧ n < 11) := by omega
      have h2 : 11 ≤ n := by omega
      rw [if_neg hd, show decide (0 ≤ n ∧ n < 11) = false from decide_eq_false hd]
      clear hd
      have hbA : Below w.heap.size w (w.alloc (.cells #[.string ⟨#[]⟩, .int .i64 0, .int .i64 0, .int .i64 0, .nilFunc, .nilFunc] 51)) := (Below.refl _ w).alloc (Nat.le_refl _) _
      go_enter Tryz.func20, Tryz.ntmps20
      go_wp2_with fail
      refine (verbsOf _).mono ?_
      rintro e w1 ⟨b, rfl, hvb, hb, hb1⟩
      have HB1 := mkW (below_on hbA hb1)
      have z : ∀ (j : Nat) v, (#[.string ⟨#[]⟩, .int .i64 0, .int .i64 0, .int .i64 0, .nilFunc, .nilFunc] : Array Value)[j]? = some v → w1.cell? ⟨w.heap.size, j, none⟩ = some v := fun j v hj => by
        rw [hb1.cell (by simp), World.cell?_alloc_at _ _ _ _ rfl]; exact hj
      have zf : ∀ j, w1.frozen? ⟨w.heap.size, j, none⟩ = false := fun j => by
        rw [hb1.frozen (by simp)]; exact World.frozen?_alloc_at _ _ _ _ rfl
      have z0 := z 0 _ rfl
      have f0 := zf 0
      have z1 := z 1 _ rfl
      have f1 := zf 1
      have z2 := z 2 _ rfl
      have f2 := zf 2
      have z3 := z 3 _ rfl
      have f3 := zf 3
      have z4 := z 4 _ rfl
      have f4 := zf 4
      have z5 := z 5 _ rfl
      have f5 := zf 5
      clear z zf
      clear hvb hb1 hbA hb
      go_wp2_with fail
      refine bodyPost_ret (v := .tuple #[vrZ, .bool false]) ?hres rfl ?_
      case hres =>
        rw [results_cell_tmp rfl]
        go_simp
      exact ⟨rfl, (((((HB1.out.setCell (Nat.le_refl _) _).setCell (Nat.le_refl _) _).setCell (Nat.le_refl _) _).setCell (Nat.le_refl _) _).setCell (Nat.le_refl _) _).setCell (Nat.le_refl _) _⟩
  · have hd : ¬ (0 ≤ n ∧ n < 11) := by omega
    have h2 : n < 0 := by omega
    rw [if_neg hd, show decide (0 ≤ n ∧ n < 11) = false from decide_eq_false hd]
    clear hd
    have hbA : Below w.heap.size w (w.alloc (.cells #[.string ⟨#[]⟩, .int .i64 0, .int .i64 0, .int .i64 0, .nilFunc, .nilFunc] 51)) := (Below.refl _ w).alloc (Nat.le_refl _) _
    go_enter Tryz.func20, Tryz.ntmps20
    go_wp2_with fail
    refine (verbsOf _).mono ?_
    rintro e w1 ⟨b, rfl, hvb, hb, hb1⟩
    have HB1 := mkW (below_on hbA hb1)
    have z : ∀ (j : Nat) v, (#[.string ⟨#[]⟩, .int .i64 0, .int .i64 0, .int .i64 0, .nilFunc, .nilFunc] : Array Value)[j]? = some v → w1.cell? ⟨w.heap.size, j, none⟩ = some v := fun j v hj => by
      rw [hb1.cell (by simp), World.cell?_alloc_at _ _ _ _ rfl]; exact hj
    have zf : ∀ j, w1.frozen? ⟨w.heap.size, j, none⟩ = false := fun j => by
      rw [hb1.frozen (by simp)]; exact World.frozen?_alloc_at _ _ _ _ rfl
    have z0 := z 0 _ rfl
    have f0 := zf 0
    have z1 := z 1 _ rfl
    have f1 := zf 1
    have z2 := z 2 _ rfl
    have f2 := zf 2
    have z3 := z 3 _ rfl
    have f3 := zf 3
    have z4 := z 4 _ rfl
    have f4 := zf 4
    have z5 := z 5 _ rfl
    have f5 := zf 5
    clear z zf
    clear hvb hb1 hbA hb
    go_wp2_with fail
    refine bodyPost_ret (v := .tuple #[vrZ, .bool false]) ?hres rfl ?_
    case hres =>
      rw [results_cell_tmp rfl]
      go_simp
    exact ⟨rfl, (((((HB1.out.setCell (Nat.le_refl _) _).setCell (Nat.le_refl _) _).setCell (Nat.le_refl _) _).setCell (Nat.le_refl _) _).setCell (Nat.le_refl _) _).setCell (Nat.le_refl _) _⟩
end Go.Proofs.YtlnppgjppfkocaaGreatDoor.Xs

/-! Which fields of a command are not zero. -/
namespace Go.Proofs.YtlnppgjppfkocaaGreatDoor.Xs
open Go.RowKit Plain
set_option linter.unusedVariables false
set_option linter.unusedSimpArgs false

def fillN (b1 b2 b3 b4 : Bool) : Int := (if b1 then 1 else 0) + (if b2 then 2 else 0) + (if b3 then 4 else 0) + (if b4 then 8 else 0)
set_option maxHeartbeats 8000000 in
set_option maxRecDepth 100000 in
theorem filledOf (c : Cm) (ar ap : Option Addr) (cr cp : Nat) (w : World) :
    Calls Tryz.prog 42 #[cmV c (.slice ar c.raw.length cr) (.slice ap c.picks.length cp)] w fun e w' => e = .returned (.int .i64 (fillN (c.conn != 0) (!rqEq c.req Rq.zero) (decide (0 < c.raw.length)) (decide (0 < c.picks.length)))) ∧ Below w.heap.size w w' := by
  have HNE : Hid (∀ u, (binOp .neq 24 (rqV c.req) (rqV Rq.zero)).run Tryz.prog u = .ok (.bool (!rqEq c.req Rq.zero)) u) := fun u => rq_neq c.req Rq.zero u
  generalize rqEq c.req Rq.zero = KZ at *
  obtain ⟨b1, hb1⟩ : ∃ b1, (c.conn != 0) = b1 := ⟨_, rfl⟩
  obtain ⟨b3, hb3⟩ : ∃ b3, decide (0 < c.raw.length) = b3 := ⟨_, rfl⟩
  obtain ⟨b4, hb4⟩ : ∃ b4, decide (0 < c.picks.length) = b4 := ⟨_, rfl⟩
  rw [hb1, hb3, hb4]
  have hx := cmBox w c (.slice ar c.raw.length cr) (.slice ap c.picks.length cp) 28
  obtain ⟨W1, hW1⟩ : ∃ W1, w.alloc (.cells (cmA c (.slice ar c.raw.length cr) (.slice ap c.picks.length cp)) 28) = W1 := ⟨_, rfl⟩
  rw [hW1] at hx
  obtain ⟨hbel, z0, z1, z2, z3, z4, z5, z6, z7, z8, z9, z10, z11, z12, z13⟩ := hx
  have HB := mkW hbel
  obtain ⟨vb, cn, ⟨id, op, tp, ky, vl, fo, nu, pi, sq⟩, rw', n, pk⟩ := c
  simp only at *
  have HQ := HNE.out
  simp only [Rq.zero] at HQ
  clear hbel HNE
  cases b1 <;> cases KZ <;> cases b3 <;> cases b4
  all_goals
    go_enter Tryz.func42, Tryz.ntmps42
    go_wp2
    go_ret
    exact ⟨by first | rfl | decide, HB.out⟩
end Go.Proofs.YtlnppgjppfkocaaGreatDoor.Xs
