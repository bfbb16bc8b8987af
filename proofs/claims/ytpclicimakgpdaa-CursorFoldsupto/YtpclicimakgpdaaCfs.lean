import Derived.Test.YtpclicimakgpdaaCfi
import Derived.Test.YtpclicimakgpdaaCfd
/-! cursor: the law's spoiled. -/
namespace Go.Proofs.Ytpclicimakgpdaa
open Go.RowKit Go.Maps Plain
set_option linter.unusedVariables false
set_option linter.unusedSimpArgs false

/-- The pairs with which the law spoils. -/
def goneK : Pp := ⟨⟨#[103, 111, 110, 101]⟩, ⟨#[]⟩, 0, 0⟩
def moreK : Pp := ⟨⟨#[109, 111, 114, 101]⟩, ⟨#[]⟩, 0, 0⟩
set_option maxHeartbeats 4000000 in
theorem spoilOf (v : Value) (L : List Pp) (r : Option Nat) (w : World) (ho : OwnPp w v L r) (hl : L.length ≤ 4194304) : Calls Try.prog 8 #[v] w fun e w' => e = .returned (.bool true) ∧ Chg (fun k => r = some k) w w' := by
  obtain ⟨a, cap, rfl, -, -⟩ := ho.shape
  have HO : Hid (OwnPp w (.slice a L.length cap) L r) := ho
  generalize hn : L.length = n at *
  clear ho
  go_enter Try.func8, Try.ntmps8
  go_wp2
  go_loopw [3] (fun i wr => ∃ (k : Nat) (M : List Pp), k ≤ n ∧ i = .int .i64 k ∧ M.length = n ∧ Hid (OwnPp wr (.slice a n cap) M r) ∧ Hid (Chg (fun k => r = some k) w wr))
    (fun i _ => n - (intOf i).toNat)
  case atStart => exact ⟨0, L, Nat.zero_le _, rfl, hn, HO.out, Chg.refl _ _⟩
  case round =>
    obtain ⟨k, M, hk, rfl, hM, HOW, HCH⟩ := hrel
    by_cases hlt : k < n
    · obtain ⟨g, rfl, rfl⟩ := HOW.out.where (k := k) (by omega)
      obtain ⟨c0, c1, c2, c3⟩ := HOW.out.at (j := k) (by omega)
      have f0 := HOW.out.fz (j := k * 4) (by omega)
      have f1 := HOW.out.fz (j := k * 4 + 1) (by omega)
      have f2 := HOW.out.fz (j := k * 4 + 2) (by omega)
      have f3 := HOW.out.fz (j := k * 4 + 3) (by omega)
      have hki : (k : Int) < (n : Int) := by omega
      have HN : Hid (OwnPp ((((wr.setCell ⟨g, k * 4, none⟩ (.string ⟨#[103, 111, 110, 101]⟩)).setCell ⟨g, k * 4 + 1, none⟩ (.string ⟨#[]⟩)).setCell ⟨g, k * 4 + 2, none⟩ (.int .i64 0)).setCell ⟨g, k * 4 + 3, none⟩ (.int .i64 0)) (.slice (some ⟨g, 0, none⟩) n cap) (M.set k goneK) (some g) ∧ Chg (fun k => some g = some k) w ((((wr.setCell ⟨g, k * 4, none⟩ (.string ⟨#[103, 111, 110, 101]⟩)).setCell ⟨g, k * 4 + 1, none⟩ (.string ⟨#[]⟩)).setCell ⟨g, k * 4 + 2, none⟩ (.int .i64 0)).setCell ⟨g, k * 4 + 3, none⟩ (.int .i64 0))) := by
        have e := four_set wr g (k * 4) goneK
        simp only [goneK] at e
        rw [e]
        exact ⟨HOW.out.setP goneK (by omega), HCH.out.grown (grow_setCells _ _ _ _) (fun g' e => by cases e; exact .inl rfl)⟩
      go_wp2
      go_roundw
      case rel => exact ⟨k + 1, M.set k goneK, by omega, by go_num, by simpa using hM, HN.out.1, HN.out.2⟩
      case measure => simp [intOf]; omega
    · have hki : ¬ (k : Int) < (n : Int) := by omega
      go_wp2
      go_loopw [4, 5] (fun s4 i wx => ∃ (j : Nat) (N : List Pp) (x : Option Addr) (c : Nat) (q : Option Nat), j ≤ 64 ∧ i = .int .i64 j ∧ s4 = .slice x N.length c ∧ N.length = n + j ∧ Hid (OwnPp wx (.slice x N.length c) N q) ∧ Hid (∀ g, q = some g → r = some g ∨ w.heap.size ≤ g) ∧ Hid (Chg (fun k => r = some k) w wx))
        (fun _ i _ => 64 - (intOf i).toNat)
      case atStart => exact ⟨0, M, a, cap, r, by omega, rfl, by rw [hM], by omega, by rw [hM]; exact HOW.out, (fun g e => .inl e), HCH.out⟩
      case round =>
        obtain ⟨j, N, x, c, q, hj, rfl, rfl, hN, HO2, HQ, HC2⟩ := hrel
        by_cases hj64 : j < 64
        · have hji : (j : Int) < 64 := by omega
          have HSRC : Hid (Src Try.prog 4 22 (.slice (some ⟨wr.heap.size, 0, none⟩) 1 1) [moreK].length (ppcells [moreK]) (wr.alloc (.cells #[.string ⟨#[109, 111, 114, 101]⟩, .string ⟨#[]⟩, .int .i64 0, .int .i64 0] 29))) := src_pp wr moreK
          go_wp2_with (at_builtin; refine wpList_append_pp _ rfl _ _ rfl _ _ N [moreK] q rfl rfl ?hOwn ?hSrc ?hLen ?hR ?_)
          case hOwn => exact HO2.out.later (bel_al _ _)
          case hSrc => exact HSRC.out
          case hLen => simp; omega
          case hR => exact .inr (by simp)
          intro v8 w8 g8 ho8 hg8 hr8
          have hlen8 : (N ++ [moreK]).length = N.length + 1 := by simp
          obtain ⟨x8, c8, rfl, -, -⟩ := ho8.shape
          have HA : Hid (OwnPp w8 (.slice x8 (N ++ [moreK]).length c8) (N ++ [moreK]) (some g8) ∧ (∀ g, some g8 = some g → r = some g ∨ w.heap.size ≤ g) ∧ Chg (fun k => r = some k) w w8) := by
            refine ⟨ho8, fun g e => ?_, (HC2.out.more (bel_al _ _)).grown hg8 HQ.out⟩
            cases e
            have hsz := HC2.out.size
            rcases hr8 with h | h
            · exact HQ.out g8 h.symm
            · right; first | omega | (simp at h; omega)
          clear ho8 hg8 hr8 HSRC
          generalize hM8 : N ++ [moreK] = N8 at HA hlen8
          clear hM8
          go_wp2
          go_roundw
          case rel => exact ⟨j + 1, N8, x8, c8, some g8, by omega, by go_num, rfl, by omega, HA.out.1, HA.out.2.1, HA.out.2.2⟩
          case measure => simp [intOf]; omega
        · obtain rfl : j = 64 := by omega
          have hNi : (N.length : Int) = (n : Int) + 64 := by omega
          go_wp2
          go_ret
          exact ⟨by simp [hNi], HC2.out⟩
end Go.Proofs.Ytpclicimakgpdaa
