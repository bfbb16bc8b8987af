import Derived.Test.YtlnppgjppfkocaaDoorRows
import Derived.WalkKit
import Derived.ProofKit
import Derived.OpenShut
import Derived.Below
import Derived.Deep.QuietTactic
import Derived.BigQuiet
import Derived.Deep.RegionWith
import Derived.Laws.IdiomStrings
import Derived.Test.YtlnppgjppfkocaaDoorXsE
/-! Lines: the document's digits, number, hex, plain. -/
namespace Go.Proofs.YtlnppgjppfkocaaDoor.Xs
open Go.RowKit
set_option linter.unusedVariables false
set_option linter.unusedSimpArgs false

/-- A text as the machine has it. -/
abbrev ba (l : By) : ByteArray := ⟨l.toArray⟩
theorem ba_size (l : By) : (ba l).size = l.length := rfl
theorem ba_app (a b : By) : ba a ++ ba b = ba (a ++ b) := by
  apply ByteArray.ext; simp
theorem str_eq {a : ByteArray} {l : List UInt8} (h : a.data.toList = l) : Value.string a = .string ⟨l.toArray⟩ := by
  subst h
  cases a
  simp
theorem below_on {w w1 w2 : World} (h : Below w.heap.size w w1) (k : Below w1.heap.size w1 w2) : Below w.heap.size w w2 := h.trans (k.mono h.size)
theorem chr_of (m : Nat) (hm : m < 10) : (UInt8.ofNat (48 + m)).toNat = 48 + m := by
  rw [UInt8.toNat_ofNat_of_lt' (by show 48 + m < 256; omega)]
theorem dec_lt {n : Nat} (h : n < 10) : Lib.decDigits n = [UInt8.ofNat (48 + n)] := by rw [Lib.decDigits, dif_pos h]
theorem dec_ge {n : Nat} (h : ¬ n < 10) : Lib.decDigits n = Lib.decDigits (n / 10) ++ [UInt8.ofNat (48 + n % 10)] := by rw [Lib.decDigits, dif_neg h]
theorem dec_len {n : Nat} (h : n < 18446744073709551616) : (Lib.decDigits n).length ≤ 20 := by
  rw [Lib.decDigits_length]
  exact nDigits_le 19 n (by omega)
theorem conv_in (c : UInt8) (z : Int) (hc : (c.toNat : Int) = z) (W : World) (b : Nat) (h : W.cell? ⟨b, 0, none⟩ = some (.int .u8 z)) : (convert 59 9 (.slice (some ⟨b, 0, none⟩) 1 1)).run Tryd.prog W = .ok (.string ⟨#[c]⟩) W := by
  have := run_convert_bytes_back (P := Tryd.prog) W 59 9 5 ⟨b, 0, none⟩ 1 [c] Tryd.underlying59 Tryd.underlying5 Tryd.underlying9 (fun j hj => by
    simp at hj
    subst hj
    rw [WideShapes.add_plain, h]
    simp [hc])
  exact this
theorem conv_one (c : UInt8) (z : Int) (hc : (c.toNat : Int) = z) (W : World) (t : TypeId) : (convert 59 9 (.slice (some ⟨W.heap.size, 0, none⟩) 1 1)).run Tryd.prog (W.alloc (.cells #[.int .u8 z] t)) = .ok (.string ⟨#[c]⟩) (W.alloc (.cells #[.int .u8 z] t)) := by
  refine conv_in c z hc _ _ ?_
  rw [World.cell?_alloc_at _ _ _ _ rfl]
  simp
theorem conv_later (c : UInt8) (z : Int) (hc : (c.toNat : Int) = z) (W w1 : World) (t : TypeId) (h : Below (W.alloc (.cells #[.int .u8 z] t)).heap.size (W.alloc (.cells #[.int .u8 z] t)) w1) : (convert 59 9 (.slice (some ⟨W.heap.size, 0, none⟩) 1 1)).run Tryd.prog w1 = .ok (.string ⟨#[c]⟩) w1 := by
  refine conv_in c z hc w1 W.heap.size ?_
  have e : (W.alloc (.cells #[.int .u8 z] t)).cell? ⟨W.heap.size, 0, none⟩ = some (.int .u8 z) := by
    rw [World.cell?_alloc_at _ _ _ _ rfl]
    simp
  rw [h.cell (by simp)]
  exact e

set_option maxHeartbeats 2000000 in
set_option maxRecDepth 100000 in
theorem rdigitsOf : ∀ (f n : Nat), n < f → n < 18446744073709551616 → ∀ (w : World),
    Calls Tryd.prog 25 #[.int .u64 n] w fun e w' => e = .returned (.string (ba (Lib.decDigits n))) ∧ Below w.heap.size w w' := by
  intro f
  induction f with
  | zero => intro n h; omega
  | succ f ih =>
    intro n hf hn w
    by_cases hlt : n < 10
    · have hch := chr_of n hlt
      have HDL : Hid (Lib.decDigits n = [UInt8.ofNat (48 + n)]) := dec_lt hlt
      generalize UInt8.ofNat (48 + n) = c at hch HDL
      have hcv := conv_one c (48 + (n : Int)) (by omega) w 5
      clear hch
      go_enter Tryd.func25, Tryd.ntmps25
      go_wp2
      go_ret
      exact ⟨by rw [HDL.out]; rfl, (Below.refl _ _).alloc (Nat.le_refl _) _⟩
    · obtain ⟨m, hm⟩ : ∃ m, n % 10 = m := ⟨_, rfl⟩
      obtain ⟨q, hq⟩ : ∃ q, n / 10 = q := ⟨_, rfl⟩
      have hmi : (n : Int) % 10 = (m : Int) := by omega
      have hqi : (n : Int) / 10 = (q : Int) := by omega
      have hm10 : m < 10 := by omega
      have hq64 : q < 18446744073709551616 := by omega
      have IH : Hid (∀ (w : World), Calls Tryd.prog 25 #[.int .u64 q] w fun e w' => e = .returned (.string (ba (Lib.decDigits q))) ∧ Below w.heap.size w w') := ih q (by omega) (by omega)
      have HD : Hid (Lib.decDigits n = Lib.decDigits q ++ [UInt8.ofNat (48 + m)]) := by unfold Hid; rw [dec_ge hlt, hq, hm]
      have hl := dec_len hq64
      have hch := chr_of m hm10
      generalize UInt8.ofNat (48 + m) = c at hch HD
      have HCH : Hid ((c.toNat : Int) = 48 + (m : Int)) := by unfold Hid; omega
      clear hch
      have hs2 : (⟨#[c]⟩ : ByteArray).size = 1 := rfl
      clear hm hq ih
      generalize Lib.decDigits q = dq at *
      have hs1 : (⟨dq.toArray⟩ : ByteArray).size = dq.length := rfl
      go_enter Tryd.func25, Tryd.ntmps25
      have hwq : IntKind.u64.wrap (q : Int) = (q : Int) := by rw [IntKind.wrap_u64]; omega
      have htm : (n : Int).tmod 10 = (m : Int) := by rw [Int.tmod_eq_emod_of_nonneg (by omega)]; omega
      have htd : (n : Int).tdiv 10 = (q : Int) := by rw [Int.tdiv_eq_ediv_of_nonneg (by omega)]; omega
      have hw1 : IntKind.u64.wrap (48 + (m : Int)) = 48 + (m : Int) := by rw [IntKind.wrap_u64]; omega
      have hw2 : IntKind.u8.wrap (48 + (m : Int)) = 48 + (m : Int) := by rw [IntKind.wrap_u8]; omega
      have hcv0 : (convert 59 9 (.slice (some ⟨w.heap.size, 0, none⟩) 1 1)).run Tryd.prog (w.alloc (.cells #[.int .u8 (48 + (m : Int))] 5)).drew = .ok (.string ⟨#[c]⟩) (w.alloc (.cells #[.int .u8 (48 + (m : Int))] 5)).drew := conv_in c _ HCH.out _ _ (by
        show (w.alloc (.cells #[.int .u8 (48 + (m : Int))] 5)).cell? ⟨w.heap.size, 0, none⟩ = _
        rw [World.cell?_alloc_at _ _ _ _ rfl]
        simp)
      have hcv := conv_one c _ HCH.out
      go_wp2
      go_region_with (first
        | (go_at_call 25
           try rw [hwq]
           refine (IH.out _).mono ?_
           rintro e w1 ⟨rfl, hb⟩
           try have hcv1 : (convert 59 9 (.slice (some ⟨w.heap.size, 0, none⟩) 1 1)).run Tryd.prog w1 = .ok (.string ⟨#[c]⟩) w1 := conv_later c _ HCH.out w.drew w1 5 hb
           have HB : Hid (Below w.heap.size w w1) := by
             unfold Hid
             first
               | exact ((Below.refl _ w).drew).trans hb
               | exact (((Below.refl _ w).drew).alloc (Nat.le_refl _) _).trans (hb.mono (by simp))
           clear hb))
      all_goals
        go_wp2
        go_ret
        refine ⟨congrArg Ending.returned (str_eq ?_), ?_⟩
        · rw [HD.out]
          simp
        · first
            | exact HB.out
            | exact HB.out.alloc HB.out.size _

set_option maxHeartbeats 2000000 in
set_option maxRecDepth 100000 in
theorem rnumberOf (n : Int) (h1 : -9223372036854775808 ≤ n) (h2 : n ≤ 9223372036854775807) (w : World) :
    Calls Tryd.prog 15 #[.int .i64 n] w fun e w' => e = .returned (.string (ba (Lib.itoa n))) ∧ Below w.heap.size w w' := by
  by_cases hn : n < 0
  · obtain ⟨m, hm⟩ : ∃ m : Nat, -(n + 1) = (m : Int) := ⟨(-n - 1).toNat, by omega⟩
    have HI : Hid (Lib.itoa n = 45 :: Lib.decDigits (m + 1)) := by
      unfold Hid Lib.itoa
      rw [if_pos hn, show n.natAbs = m + 1 by omega]
    have HC : Hid (∀ u, Calls Tryd.prog 25 #[.int .u64 ((m : Int) + 1)] u fun e w' => e = .returned (.string (ba (Lib.decDigits (m + 1)))) ∧ Below u.heap.size u w') := rdigitsOf (m + 2) (m + 1) (by omega) (by omega)
    have hl := dec_len (n := m + 1) (by omega)
    generalize Lib.decDigits (m + 1) = d at *
    have hs1 : (⟨d.toArray⟩ : ByteArray).size = d.length := rfl
    have hm2 : m < 9223372036854775808 := by omega
    go_enter Tryd.func15, Tryd.ntmps15
    go_wp2_with fail
    refine (HC.out _).mono ?_
    rintro e w1 ⟨rfl, hb⟩
    go_wp2
    go_ret
    refine ⟨congrArg Ending.returned (str_eq ?_), hb⟩
    rw [HI.out]
    simp
  · obtain ⟨m, rfl⟩ : ∃ m : Nat, n = (m : Int) := ⟨n.toNat, by omega⟩
    have HI : Hid (Lib.itoa (m : Int) = Lib.decDigits m) := by
      unfold Hid Lib.itoa
      rw [if_neg hn]
      congr 1
    have HC : Hid (∀ u, Calls Tryd.prog 25 #[.int .u64 (m : Int)] u fun e w' => e = .returned (.string (ba (Lib.decDigits m))) ∧ Below u.heap.size u w') := rdigitsOf (m + 1) m (by omega) (by omega)
    have hl := dec_len (n := m) (by omega)
    generalize Lib.decDigits m = d at *
    go_enter Tryd.func15, Tryd.ntmps15
    go_wp2_with fail
    refine (HC.out _).mono ?_
    rintro e w1 ⟨rfl, hb⟩
    go_wp2
    go_ret
    refine ⟨?_, hb⟩
    rw [HI.out]
    rfl
end Go.Proofs.YtlnppgjppfkocaaDoor.Xs
