import Derived.Test.YtlnppgjppfkocaaGreatDoorGq22
import Derived.Lib.ConvBytes
import Derived.Lib.Hide
import Derived.Laws.Strings3
import Derived.Laws.Closers25
import Derived.Laws.Closers25b
import Derived.Shelf.Strconv.ToError
import Derived.Shelf.Strconv.ToErrorRange
/-! strconv.ParseUint at base 16 of a byte: right wherever two small digits stand. -/
namespace Go.Proofs.YtlnppgjppfkocaaGreatDoor.Xs
open Go.RowKit Plain
set_option linter.unusedVariables false
set_option linter.unusedSimpArgs false

/-- A small digit of base 16. -/
def hxB? (c : UInt8) : Prop := (48 ≤ c.toNat ∧ c.toNat ≤ 57) ∨ (97 ≤ c.toNat ∧ c.toNat ≤ 102)
theorem low_hx (c : UInt8) (h1 : 97 ≤ c.toNat) (h2 : c.toNat ≤ 102) : bits .or .u8 (c.toNat : Int) 32 = (c.toNat : Int) := by
  have key : ∀ c : UInt8, (97 ≤ c.toNat ∧ c.toNat ≤ 102) → bits .or .u8 (c.toNat : Int) 32 = (c.toNat : Int) := all256 (by decide +kernel)
  exact key c ⟨h1, h2⟩
def hxsV (l : By) : Nat := l.foldl (fun a c => a * 16 + hxV c) 0
theorem hxs_snoc (l : By) (c : UInt8) : hxsV (l ++ [c]) = hxsV l * 16 + hxV c := by unfold hxsV; rw [List.foldl_append]; rfl
theorem hxV_le (c : UInt8) : hxV c ≤ 15 := by unfold hxV; split <;> (try split) <;> omega
theorem hxf_lt : ∀ (l : By) (a : Nat), l.foldl (fun a c => a * 16 + hxV c) a < (a + 1) * 16 ^ l.length
  | [], a => by simp
  | c :: l, a => by
    have h1 := hxf_lt l (a * 16 + hxV c)
    have h2 := hxV_le c
    rw [List.foldl_cons, List.length_cons, Nat.pow_succ]
    refine Nat.lt_of_lt_of_le h1 ?_
    calc (a * 16 + hxV c + 1) * 16 ^ l.length ≤ ((a + 1) * 16) * 16 ^ l.length := Nat.mul_le_mul_right _ (by omega)
      _ = (a + 1) * (16 ^ l.length * 16) := by rw [Nat.mul_assoc, Nat.mul_comm 16]
theorem hxs_lt (l : By) : hxsV l < 16 ^ l.length := by
  have := hxf_lt l 0
  simpa [hxsV] using this
theorem lowerOf (c : Int) (w : World) : Calls Tryz.prog 153 #[.int .u8 c] w fun e w' => e = .returned (.int .u8 (bits .or .u8 c 32)) ∧ w' = w := by
  go_enter Tryz.func153, Tryz.ntmps153
  go_wp2
  go_ret
  exact ⟨rfl, rfl⟩
/-- What ParseUint answers. -/
def PuP (T : TypeId) (t : By) (e : Ending) : Prop :=
  (∃ n : Int, e = .returned (.tuple #[.int .u64 n, .nilIface]) ∧ 0 ≤ n ∧ n ≤ 255 ∧ ((∀ c ∈ t, hxB? c) → n = hxsV t)) ∨ (¬ (∀ c ∈ t, hxB? c) ∧ ∃ n k : Int, (k = 1 ∨ k = 2) ∧ e = .returned (.tuple #[.int .u64 n, .iface T (.int .i64 k)]))
set_option maxHeartbeats 32000000 in
set_option maxRecDepth 100000 in
theorem iUintOf (t : By) (hl : t.length = 2) (w : World) :
    Calls Tryz.prog 137 #[.string (ba t), .int .i64 16, .int .i64 8] w fun e w' => PuP 173 t e ∧ Below w.heap.size w w' := by
  have hsz : (ba t).size = t.length := rfl
  have hemp : (ba t).toList.isEmpty = false := by
    rw [← decide_eq_emptyBytes]
    exact decide_eq_false (fun h => by
      have := congrArg ByteArray.size h
      rw [hsz, hl] at this
      cases this)
  have hemp2 : t.isEmpty = false := by cases t with
    | nil => cases hl
    | cons c t => rfl
  have hcv := Lib.run_convert_string_bytes (P := Tryz.prog) w 9 25 5 (ba t) (u := .string) Tryz.underlying9 Tryz.underlying25 Tryz.underlying5
  have hB : ∀ j, j < t.length → (Lib.bytesWorld w 5 (ba t)).cell? ⟨w.heap.size, j, none⟩ = some (.int .u8 (t.getD j 0).toNat) := fun j hj => by
    have := Lib.bytesWorld_cell w 5 (ba t) j hj
    rw [ba_list2] at this
    exact this
  have HBW := mkW (Lib.bytesWorld_below w 5 (ba t))
  obtain ⟨W1, hW1⟩ : ∃ W1, W1 = Lib.bytesWorld w 5 (ba t) := ⟨_, rfl⟩
  rw [← hW1] at hcv hB HBW
  clear hW1
  have hmv : IntKind.u64.wrap (IntKind.u64.wrap 256 - 1) = 255 := by
    rw [IntKind.wrap_u64, IntKind.wrap_u64]
    decide
  go_enter Tryz.func137, Tryz.ntmps137
  go_wp2
  go_loop [12, 13, 101] (fun vu vn vi => ∃ (k : Nat) (a : Int), vu = .bool false ∧ vn = .int .u64 a ∧ vi = .int .i64 k ∧ k ≤ t.length ∧ 0 ≤ a ∧ a ≤ 255 ∧ Hid ((∀ c ∈ t, hxB? c) → a = hxsV (t.take k)))
    (fun _ _ vi => t.length - (intOf vi).toNat)
  case atStart => exact ⟨0, 0, rfl, rfl, rfl, by omega, by omega, by omega, fun _ => by simp [hxsV]⟩
  case round =>
    obtain ⟨k, a, rfl, rfl, rfl, hk, a0, a1, hh⟩ := hrel
    by_cases hkn : k < t.length
    · have hc := hB k hkn
      have HT : Hid (t.take (k + 1) = t.take k ++ [t.getD k 0] ∧ t.getD k 0 ∈ t) := ⟨take_at hkn, by rw [List.getD_eq_getElem?_getD, List.getElem?_eq_getElem hkn]; exact List.getElem_mem hkn⟩
      have HA : Hid ((∀ c ∈ t, hxB? c) → a ≤ 15) := fun hx => by
        have h1 := hh.out hx
        have h2 := hxs_lt (t.take k)
        have h3 : 16 ^ (t.take k).length ≤ 16 ^ 1 := Nat.pow_le_pow_right (by decide) (by rw [List.length_take]; omega)
        rw [h1]; omega
      generalize t.getD k 0 = c at hc HT
      have hc256 : c.toNat < 256 := c.toNat_lt
      have HN : ∀ d : Int, (hxB? c → d = hxV c) → Hid ((∀ c ∈ t, hxB? c) → a * 16 + d = hxsV (t.take (k + 1))) := fun d hd hx => by
        rw [HT.out.1, hxs_snoc, hh.out hx, hd (hx c HT.out.2)]
        omega
      have HO : ∀ d : Int, (hxB? c → d = hxV c) → 255 < a * 16 + d → ¬ (∀ c ∈ t, hxB? c) := fun d hd ho hx => by
        have h1 := HA.out hx
        have h2 := hd (hx c HT.out.2)
        have h3 := hxV_le c
        omega
      have HS : ¬ hxB? c → ¬ (∀ c ∈ t, hxB? c) := fun hn hx => hn (hx c HT.out.2)
      clear hB
      by_cases hdig : 48 ≤ c.toNat ∧ c.toNat ≤ 57
      · obtain ⟨hd0, hd1⟩ := hdig
        have hdv : hxB? c → (c.toNat : Int) - 48 = hxV c := fun _ => by unfold hxV; rw [if_neg (by omega), if_pos ⟨hd0, hd1⟩]; omega
        have HN2 := HN _ hdv
        have HO2 : Hid (255 < a * 16 + ((c.toNat : Int) - 48) → ¬ (∀ c ∈ t, hxB? c)) := HO _ hdv
        clear HN HO HS hdv
        by_cases hov : 255 < a * 16 + ((c.toNat : Int) - 48)
        · clear hh HN2 HT HA
          go_wp2
          go_ret2
          exact ⟨Or.inr ⟨HO2.out hov, _, 1, .inl rfl, rfl⟩, HBW.out⟩
        · clear hh HO2 HT HA
          have iov : a * 16 + ((c.toNat : Int) - 48) ≤ 255 := by omega
          go_wp2
          refine ⟨⟨k + 1, a * 16 + ((c.toNat : Int) - 48), rfl, (by first | rfl | (congr 1; omega)), (by first | rfl | (congr 1; omega)), by omega, by omega, by omega, HN2⟩, by simp [intOf]; omega⟩
      · by_cases h95 : (c.toNat : Int) = 95
        · have hno : ¬ (∀ c ∈ t, hxB? c) := HS (fun hx => by rcases hx with hx | hx <;> omega)
          have h127 : bits .or .u8 95 32 = 127 := by decide
          have H95 : Hid (∀ u, Calls Tryz.prog 153 #[.int .u8 95] u fun e w' => e = .returned (.int .u8 127) ∧ w' = u) := fun u => by have := lowerOf 95 u; rwa [h127] at this
          rw [h95] at hc
          clear HN HO HS hh HT HA hdig hc256 h95 h127
          go_wp2_with (go_at_call 153; refine (H95.out _).mono ?_; rintro e w' ⟨rfl, rfl⟩)
          all_goals (go_ret2; exact ⟨Or.inr ⟨hno, _, 2, .inr rfl, rfl⟩, HBW.out⟩)
        have hc95 : ((c.toNat : Int) == 95) = false := by rw [beq_eq_false_iff_ne]; exact h95
        have hv0 := bits_lo_u8 .or (c.toNat : Int) 32
        have hv1 := bits_hi_u8 .or (c.toNat : Int) 32
        have hlow := low_hx c
        have HDV : Hid (hxB? c → bits .or .u8 (c.toNat : Int) 32 = c.toNat ∧ 97 ≤ c.toNat ∧ c.toNat ≤ 102 ∧ (hxV c : Int) = c.toNat - 87) := fun hx => by
          rcases hx with hx | hx
          · exact absurd hx hdig
          · refine ⟨hlow hx.1 hx.2, hx.1, hx.2, ?_⟩
            unfold hxV; rw [if_pos hx]; omega
        clear hlow
        have HL : Hid (∀ u, Calls Tryz.prog 153 #[.int .u8 (c.toNat : Int)] u fun e w' => e = .returned (.int .u8 (bits .or .u8 (c.toNat : Int) 32)) ∧ w' = u) := fun u => lowerOf _ u
        generalize bits .or .u8 (c.toNat : Int) 32 = v at *
        have HX1 : ¬ (97 ≤ v ∧ v ≤ 102) → ¬ (∀ c ∈ t, hxB? c) := fun hn => HS (fun hx => hn (by have := HDV.out hx; omega))
        have hdv : hxB? c → v - 87 = hxV c := fun hx => by have := HDV.out hx; omega
        have HN2 := HN _ hdv
        have HO2 : Hid (255 < a * 16 + (v - 87) → ¬ (∀ c ∈ t, hxB? c)) := HO _ hdv
        have HX := mkW HX1
        clear HN HO HS hdv HX1 HDV hh HT HA
        have hnd : ¬ ((48 : Int) ≤ (c.toNat : Int) ∧ (c.toNat : Int) ≤ 57) := by omega
        by_cases hA : 97 ≤ v ∧ v ≤ 122
        · obtain ⟨hA1, hA2⟩ := hA
          by_cases hB2 : v ≤ 102
          · by_cases hov : 255 < a * 16 + (v - 87)
            · go_wp2_with (go_at_call 153; refine (HL.out _).mono ?_; rintro e w' ⟨rfl, rfl⟩)
              all_goals (go_ret2; exact ⟨Or.inr ⟨HO2.out hov, _, 1, .inl rfl, rfl⟩, HBW.out⟩)
            · have iov : a * 16 + (v - 87) ≤ 255 := by omega
              go_wp2_with (go_at_call 153; refine (HL.out _).mono ?_; rintro e w' ⟨rfl, rfl⟩)
              all_goals (refine ⟨⟨k + 1, a * 16 + (v - 87), rfl, (by first | rfl | (congr 1; omega)), (by first | rfl | (congr 1; omega)), by omega, by omega, by omega, HN2⟩, by simp [intOf]; omega⟩)
          · have hno := HX.out (by omega)
            go_wp2_with (go_at_call 153; refine (HL.out _).mono ?_; rintro e w' ⟨rfl, rfl⟩)
            all_goals (go_ret2; exact ⟨Or.inr ⟨hno, _, 2, .inr rfl, rfl⟩, HBW.out⟩)
        · have hno := HX.out (by omega)
          go_wp2_with (go_at_call 153; refine (HL.out _).mono ?_; rintro e w' ⟨rfl, rfl⟩)
          all_goals (go_ret2; exact ⟨Or.inr ⟨hno, _, 2, .inr rfl, rfl⟩, HBW.out⟩)
    · have hkk : k = t.length := by omega
      subst hkk
      go_wp2
      go_ret2
      exact ⟨Or.inl ⟨a, rfl, a0, a1, fun hx => by rw [hh.out hx, List.take_length]⟩, HBW.out⟩
end Go.Proofs.YtlnppgjppfkocaaGreatDoor.Xs
