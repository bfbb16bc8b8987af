import Derived.Test.YtlnbaphkajpgoaaDoorRows
import Derived.WalkKit
import Derived.ProofKit
import Derived.OpenShut
import Derived.Below
import Derived.Lib.ItoaNum
import Derived.Lib.ItoaMem
import Derived.Lib.LaidTab
import Derived.Laws.Runes
import Derived.Laws.Cover4
/-! Names of segments: the document's decimal. -/
namespace Go.Proofs.YtlnbaphkajpgoaaDoor
open Go.RowKit
set_option linter.unusedVariables false
set_option linter.unusedSimpArgs false

theorem enc_digit {d : Nat} (h : d < 10) : Utf8.encode (48 + (d : Int)) = ⟨#[UInt8.ofNat (48 + d)]⟩ := by
  have : d = 0 ∨ d = 1 ∨ d = 2 ∨ d = 3 ∨ d = 4 ∨ d = 5 ∨ d = 6 ∨ d = 7 ∨ d = 8 ∨ d = 9 := by omega
  rcases this with rfl | rfl | rfl | rfl | rfl | rfl | rfl | rfl | rfl | rfl <;> rfl
theorem dec_step {k : Nat} (h : ¬ k < 10) (s : List UInt8) : Lib.decDigits k ++ s = Lib.decDigits (k / 10) ++ (UInt8.ofNat (48 + k % 10) :: s) := by
  rw [Lib.decDigits, dif_neg h]
  simp

theorem size_app (c : UInt8) (t : ByteArray) : ((⟨#[c]⟩ : ByteArray) ++ t).data.toList = c :: t.data.toList := by simp
theorem str_eq {a : ByteArray} {l : List UInt8} (h : a.data.toList = l) : Value.string a = .string ⟨l.toArray⟩ := by
  subst h
  cases a
  simp

theorem enc_size {m : Nat} (hm : m < 10) (t : ByteArray) : (Utf8.encode (48 + (m : Int)) ++ t).size = 1 + t.size := by
  rw [enc_digit hm]
  simp
  rfl
theorem enc_step {n k m : Nat} {t : ByteArray} (h : ¬ k < 10) (hm : k % 10 = m) (hd : Lib.decDigits n = Lib.decDigits k ++ t.data.toList) : Hid (Lib.decDigits n = Lib.decDigits (k / 10) ++ (Utf8.encode (48 + (m : Int)) ++ t).data.toList) := by
  unfold Hid
  rw [enc_digit (by omega), size_app, hd, dec_step h, hm]

set_option maxHeartbeats 400000 in
set_option maxRecDepth 100000 in
theorem decimalOf (n : Nat) (hn : n < 1073741824) (w : World) :
    Calls Tryd.prog 9 #[.int .i64 n] w fun e w' => e = .returned (.string ⟨(Lib.decDigits n).toArray⟩) ∧ w' = w := by
  go_enter Tryd.func9, Tryd.ntmps9
  go_wp2
  go_loop [0, 3] (fun x s => ∃ (k : Nat) (t : ByteArray), x = .int .i64 k ∧ k + t.size ≤ n ∧ s = .string t ∧ Hid (Lib.decDigits n = Lib.decDigits k ++ t.data.toList)) (fun x _ => (intOf x).toNat)
  case atStart => exact ⟨n, ⟨#[]⟩, rfl, Nat.le_refl _, rfl, by unfold Hid; simp⟩
  case round =>
    obtain ⟨k, t, rfl, hk, rfl, HD⟩ := hrel
    by_cases hlt : k < 10
    · have hz : ¬ 9223372036854775807 < (Utf8.encode (48 + (k : Int))).size + t.size := by have := Go.encode_size_le (48 + (k : Int)); omega
      go_wp2
      go_ret
      refine ⟨congrArg Ending.returned (str_eq ?_), rfl⟩
      rw [enc_digit hlt, size_app, HD.out, Lib.decDigits, dif_pos hlt]
      rfl
    · obtain ⟨m, hm⟩ : ∃ m, k % 10 = m := ⟨_, rfl⟩
      have hmi : (k : Int) % 10 = (m : Int) := by omega
      have HM : Hid (k % 10 = m) := hm
      clear hm
      go_wp2
      · rename_i hbad
        have := Go.encode_size_le (48 + (m : Int))
        omega
      · go_round
        case rel => exact ⟨k / 10, _, by go_num, by rw [enc_size (by have := HM.out; omega)]; omega, rfl, enc_step hlt HM.out HD.out⟩
        case measure => simp [intOf]; omega
end Go.Proofs.YtlnbaphkajpgoaaDoor
