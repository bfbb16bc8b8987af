import Derived.Test.YteekmmgopnnioaaDoorRows
import Derived.WalkKit
import Derived.ProofKit
import Derived.OpenShut
import Derived.Below
import Derived.Deep.QuietTactic
import Derived.BigQuiet
import Derived.Deep.RegionWith
import Derived.Lib.ItoaNum
import Derived.Lib.ItoaMem
import Derived.Lib.LaidTab
import Derived.Laws.Runes
import Derived.Laws.Cover4
import Derived.Test.YteekmmgopnnioaaDoorMnA
/-! Names of hints: the document's decimal. -/
namespace Go.Proofs.YteekmmgopnnioaaDoor.Mn
open Go.RowKit
set_option linter.unusedVariables false
set_option linter.unusedSimpArgs false

theorem enc_digit {d : Nat} (h : d < 10) : Utf8.encode (48 + (d : Int)) = ⟨#[UInt8.ofNat (48 + d)]⟩ := by
  have : d = 0 ∨ d = 1 ∨ d = 2 ∨ d = 3 ∨ d = 4 ∨ d = 5 ∨ d = 6 ∨ d = 7 ∨ d = 8 ∨ d = 9 := by omega
  rcases this with rfl | rfl | rfl | rfl | rfl | rfl | rfl | rfl | rfl | rfl <;> rfl
theorem dec_step {k : Nat} (h : ¬ k < 10) (s : List UInt8) : Lib.decDigits k ++ s = Lib.decDigits (k / 10) ++ (UInt8.ofNat (48 + k % 10) :: s) := by
  rw [Lib.decDigits, dif_neg h]
  simp

theorem size_app (c : UInt8) (t : ByteArray) : ((⟨#[c]⟩ : ByteArray) ++ t).data.toList = c :: t.data.toList := by simp
theorem str_eq {a : ByteArray} {l : List UInt8} (h : a.data.toList = l) : Value.string a = .string ⟨l.toArray⟩ := by
  subst h
  cases a
  simp

theorem conv_one (m : Nat) (c : UInt8) (hc : c.toNat = 48 + m) (W : World) : (convert 60 9 (.slice (some ⟨W.heap.size, 0, none⟩) 1 1)).run Tryd.prog (W.alloc (.cells #[.int .u8 (48 + (m : Int))] 5)) = .ok (.string ⟨#[c]⟩) (W.alloc (.cells #[.int .u8 (48 + (m : Int))] 5)) := by
  have := run_convert_bytes_back (P := Tryd.prog) (W.alloc (.cells #[.int .u8 (48 + (m : Int))] 5)) 60 9 5 ⟨W.heap.size, 0, none⟩ 1 [c] Tryd.underlying60 Tryd.underlying5 Tryd.underlying9 (fun j hj => by
    simp at hj
    subst hj
    rw [WideShapes.add_plain, World.cell?_alloc_at _ _ _ _ rfl]
    simp [hc])
  exact this
theorem conv_in (m : Nat) (c : UInt8) (hc : c.toNat = 48 + m) (W : World) (b : Nat) (h : W.cell? ⟨b, 0, none⟩ = some (.int .u8 (48 + (m : Int)))) : (convert 60 9 (.slice (some ⟨b, 0, none⟩) 1 1)).run Tryd.prog W = .ok (.string ⟨#[c]⟩) W := by
  have := run_convert_bytes_back (P := Tryd.prog) W 60 9 5 ⟨b, 0, none⟩ 1 [c] Tryd.underlying60 Tryd.underlying5 Tryd.underlying9 (fun j hj => by
    simp at hj
    subst hj
    rw [WideShapes.add_plain, h]
    simp [hc])
  exact this
theorem conv_later (m : Nat) (c : UInt8) (hc : c.toNat = 48 + m) (W w1 : World) (t : TypeId) (h : Below (W.alloc (.cells #[.int .u8 (48 + (m : Int))] t)).heap.size (W.alloc (.cells #[.int .u8 (48 + (m : Int))] t)) w1) : (convert 60 9 (.slice (some ⟨W.heap.size, 0, none⟩) 1 1)).run Tryd.prog w1 = .ok (.string ⟨#[c]⟩) w1 := by
  refine conv_in m c hc w1 W.heap.size ?_
  have e : (W.alloc (.cells #[.int .u8 (48 + (m : Int))] t)).cell? ⟨W.heap.size, 0, none⟩ = some (.int .u8 (48 + (m : Int))) := by
    rw [World.cell?_alloc_at _ _ _ _ rfl]
    simp
  rw [h.cell (by simp)]
  exact e



theorem cat_one (d : List UInt8) (c : UInt8) : (⟨d.toArray⟩ : ByteArray) ++ ⟨#[c]⟩ = ⟨(d ++ [c]).toArray⟩ := by
  apply ByteArray.ext
  simp
theorem dec_len0 : ∀ (f n : Nat), n < f → (Lib.decDigits n).length ≤ n + 1
  | 0, n, h => by omega
  | f + 1, n, h => by
    by_cases h1 : n < 10
    · rw [dec_lt h1]; simp
    · have := dec_len0 f (n / 10) (by omega)
      rw [dec_ge h1, List.length_append, List.length_singleton]
      omega

set_option maxHeartbeats 2000000 in
set_option maxRecDepth 100000 in
theorem decimalOf : ∀ (f n : Nat), n < f → n < 1073741824 → ∀ (w : World),
    Calls Tryd.prog 24 #[.int .i64 n] w fun e w' => e = .returned (.string ⟨(Lib.decDigits n).toArray⟩) ∧ Below w.heap.size w w' := by
  intro f
  induction f with
  | zero => intro n h; omega
  | succ f ih =>
    intro n hf hn w
    by_cases hlt : n < 10
    · have hch := chr_of n hlt
      have HDL : Hid (Lib.decDigits n = [UInt8.ofNat (48 + n)]) := dec_lt hlt
      generalize UInt8.ofNat (48 + n) = c at hch HDL
      have hcv := conv_one n c hch w
      clear hch
      go_enter Tryd.func24, Tryd.ntmps24
      go_wp2
      go_ret
      exact ⟨by rw [HDL.out]; rfl, (Below.refl _ _).alloc (Nat.le_refl _) _⟩
    · obtain ⟨m, hm⟩ : ∃ m, n % 10 = m := ⟨_, rfl⟩
      obtain ⟨q, hq⟩ : ∃ q, n / 10 = q := ⟨_, rfl⟩
      have hmi : (n : Int) % 10 = (m : Int) := by omega
      have hqi : (n : Int) / 10 = (q : Int) := by omega
      have hm10 : m < 10 := by omega
      have hwq : IntKind.i64.wrap (q : Int) = (q : Int) := by rw [IntKind.wrap_i64]; omega
      have htm : (n : Int).tmod 10 = (m : Int) := by rw [Int.tmod_eq_emod_of_nonneg (by omega)]; omega
      have hw1 : IntKind.i64.wrap (48 + (m : Int)) = 48 + (m : Int) := by rw [IntKind.wrap_i64]; omega
      have hw2 : IntKind.u8.wrap (48 + (m : Int)) = 48 + (m : Int) := by rw [IntKind.wrap_u8]; omega
      have IH : Hid (∀ (w : World), Calls Tryd.prog 24 #[.int .i64 q] w fun e w' => e = .returned (.string ⟨(Lib.decDigits q).toArray⟩) ∧ Below w.heap.size w w') := ih q (by omega) (by omega)
      have HD : Hid (Lib.decDigits n = Lib.decDigits q ++ [UInt8.ofNat (48 + m)]) := by unfold Hid; rw [dec_ge hlt, hq, hm]
      have hl := dec_len0 (q + 1) q (by omega)
      have hch := chr_of m hm10
      generalize UInt8.ofNat (48 + m) = c at hch HD
      have hcv := conv_one m c hch
      have HCH : Hid (c.toNat = 48 + m) := hch
      have hcv0 : (convert 60 9 (.slice (some ⟨w.heap.size, 0, none⟩) 1 1)).run Tryd.prog (w.alloc (.cells #[.int .u8 (48 + (m : Int))] 5)).drew = .ok (.string ⟨#[c]⟩) (w.alloc (.cells #[.int .u8 (48 + (m : Int))] 5)).drew := conv_in m c hch _ _ (by
        show (w.alloc (.cells #[.int .u8 (48 + (m : Int))] 5)).cell? ⟨w.heap.size, 0, none⟩ = _
        rw [World.cell?_alloc_at _ _ _ _ rfl]
        simp)
      clear hch
      have hs2 : (⟨#[c]⟩ : ByteArray).size = 1 := rfl
      clear hm hq ih
      generalize Lib.decDigits q = dq at *
      have hs1 : (⟨dq.toArray⟩ : ByteArray).size = dq.length := rfl
      go_enter Tryd.func24, Tryd.ntmps24
      go_wp2
      go_region_with (first
        | (go_at_call 24
           try rw [hwq]
           refine (IH.out _).mono ?_
           rintro e w1 ⟨rfl, hb⟩
           try have hcv1 : (convert 60 9 (.slice (some ⟨w.heap.size, 0, none⟩) 1 1)).run Tryd.prog w1 = .ok (.string ⟨#[c]⟩) w1 := conv_later m c HCH.out w.drew w1 5 hb
           have HB : Hid (Below w.heap.size w w1) := by
             unfold Hid
             first
               | exact ((Below.refl _ w).drew).trans hb
               | exact (((Below.refl _ w).drew).alloc (Nat.le_refl _) _).trans (hb.mono (by simp))
           clear hb))
      all_goals
        go_wp2
        go_ret
        refine ⟨congrArg Ending.returned (str_eq ?_), ?_⟩
        · rw [HD.out]
          simp
        · first
            | exact HB.out
            | exact HB.out.alloc HB.out.size _
end Go.Proofs.YteekmmgopnnioaaDoor.Mn
