import Derived.Test.YtklfmgkfcacfkaaSh3
import Derived.Test.YtklfmgkfcacfkaaRe1
/-! kept. -/
namespace Go.Proofs.Ytklfmgkfcacfkaa
open Go.RowKit Plain
set_option linter.unusedVariables false
set_option linter.unusedSimpArgs false

set_option maxHeartbeats 1000000 in
theorem keptAny (g n cap : Nat) (vb : Value) (l : List Nat) (w : World) (ho : Own w (.slice (some ⟨g, 0, none⟩) n cap) (l ++ tailM l.length) (some g)) (hn : n = l.length + 64) (hb : BytesAt w vb l) (hl : l.length ≤ 140737488351232) :
    Calls Try.prog 25 #[.slice (some ⟨g, 0, none⟩) n cap, vb] w fun e w' => e = .returned (.bool true) ∧ ∃ m, w' = w.drewN m := by
  obtain ⟨a, capb, rfl, hlc, hcm, hby, hcells⟩ := hb
  unfold maxLen at hcm
  have HC : Hid (l ≠ [] → ∃ b off, a = some ⟨b, off, none⟩ ∧ ∀ j, j < l.length → w.cell? ⟨b, off + j, none⟩ = some (.int .u8 ((l.getD j 0 : Nat) : Int))) := hcells
  have HR : Hid (∀ j, j < n → ∃ y : Nat, w.cell? ⟨g, j, none⟩ = some (.int .u8 (y : Int)) ∧ (j < l.length → y = l.getD j 0) ∧ (l.length ≤ j → y = 200 + j % 7)) := fun j hj => by
    obtain ⟨g', e1, _, hc⟩ := ho.get (j := j) (by simp [tailM_len]; omega)
    simp at e1; subst e1
    refine ⟨_, hc, fun h => ?_, fun h => ?_⟩
    · simp [List.getElem?_append_left h]
    · rw [List.getD_eq_getElem?_getD, List.getElem?_append_right h, ← List.getD_eq_getElem?_getD, tailM_get _ _ (by omega)]
      congr 2
      omega
  have HN : Hid (n = l.length + 64) := hn
  have hnb : n ≤ 140737488351296 := by omega
  clear hcells hby ho hn
  go_enter Try.func25, Try.ntmps25
  go_wp2
  go_loopw [5] (fun s w' => ∃ k m : Nat, w' = w.drewN m ∧ k ≤ n ∧ s = .int .i64 k) (fun s _ => n - (intOf s).toNat)
  case atStart => exact ⟨0, 0, rfl, by omega, rfl⟩
  case round =>
    obtain ⟨k, m, rfl, hk, rfl⟩ := hrel
    by_cases hlt : k < n
    · obtain ⟨y, hcy, hy1, hy2⟩ := HR.out k hlt
      by_cases hin : k < l.length
      · obtain ⟨b, off, rfl, hc⟩ := HC.out (by rintro rfl; simp at hin)
        have hck := hc k hin
        rw [← hy1 hin] at hck
        have g1 : decide ((k : Int) < (l.length : Int)) = true := by simp; omega
        have g2 : decide ((k : Int) ≥ (l.length : Int)) = false := by simp; omega
        clear hc hy1 hy2
        go_wp2
        go_quiet (fail)
        go_wp2
        go_roundw
        case rel => exact ⟨k + 1, _, rfl, by omega, by go_num⟩
        case measure => simp [intOf]; omega
      · have g1 : decide ((k : Int) < (l.length : Int)) = false := by simp; omega
        have g2 : decide ((k : Int) ≥ (l.length : Int)) = true := by simp; omega
        have hyv := hy2 (by omega)
        have e1 : 200 + (k : Int) % 7 = (y : Int) := by omega
        have hyb : y < 256 := by omega
        clear hy1 hy2 hyv
        go_wp2
        go_quiet (fail)
        go_wp2
        go_roundw
        case rel => exact ⟨k + 1, _, rfl, by omega, by go_num⟩
        case measure => simp [intOf]; omega
    · clear HC HR
      go_wp2
      go_ret
      exact ⟨rfl, _, rfl⟩
end Go.Proofs.Ytklfmgkfcacfkaa
