import Derived.Test.YtpdhkojiehifeaaHm
import Derived.Test.YtpdhkojiehifeaaCp
/-! The law's own helpers: spoilt, moved. -/
namespace Go.Proofs.Ytpdhkojiehifeaa
open Go.RowKit Plain
set_option linter.unusedVariables false

theorem src_mk (W : World) (z y : Int) : Src Try.prog 7 22 (.slice (some ⟨W.heap.size, 0, none⟩) 1 1) [mkR z y].length (rcells [mkR z y]) (W.alloc (.cells #[.int .i64 z, .int .i64 y, .int .i64 0, .int .i64 0, .int .i64 0, .string ⟨#[]⟩, .string ⟨#[]⟩] 32)) := src_rec W (mkR z y)

theorem ret_n {a b : Int} (h : a = b) : Ending.returned (.int .i64 a) = .returned (.int .i64 b) := by rw [h]

set_option maxHeartbeats 1000000 in
theorem spoiltAny (v : Value) (ts : List Rc) (r : Option Nat) (w : World) (ho : OwnR w v ts r) (hl : ts.length ≤ 2199023255000) :
    Calls Try.prog 8 #[v] w fun e w' => e = .returned (.int .i64 ((ts.length : Nat) + 64 : Int)) ∧ w.grownBy w' r := by
  obtain ⟨a, cap, rfl, hcap, hle⟩ := ho.shape
  unfold maxLen at hcap
  have HO : Hid (OwnR w (.slice a ts.length cap) ts r) := ho
  clear ho
  go_enter Try.func8, Try.ntmps8
  go_wp2
  go_loopw [3] (fun i wr => ∃ (k : Nat) (us : List Rc), k ≤ ts.length ∧ i = .int .i64 k ∧ us.length = ts.length ∧ OwnR wr (.slice a ts.length cap) us r ∧ w.grownBy wr r) (fun i _ => ts.length - (intOf i).toNat)
  case atStart => exact ⟨0, ts, by omega, rfl, rfl, HO.out, below_grow (Below.refl _ _) _⟩
  case round =>
    obtain ⟨k, us, hk, rfl, hus, hown, hgr⟩ := hrel
    have HU : Hid (us.length = ts.length) := hus
    have HOW : Hid (OwnR wr (.slice a ts.length cap) us r) := hown
    have HG : Hid (w.grownBy wr r) := hgr
    by_cases hlt : k < ts.length
    · obtain ⟨g, hrg, hag⟩ : ∃ g, r = some g ∧ a = some ⟨g, 0, none⟩ := by
        rcases hown with ⟨_, h0, _⟩ | ⟨g, cap', e, e2, _⟩
        · rw [h0] at hus; simp at hus; omega
        · injection e2 with e3 _ _; exact ⟨g, e, e3⟩
      subst hrg hag
      clear hus hown hgr
      obtain ⟨⟨y, hy⟩, f0, f1, f2, f3, f4, f5, f6⟩ := HOW.out.open (j := k) (by rw [HU.out]; exact hlt)
      have HN : Hid (OwnR (wr.setCells g (k * 7) (mkR (-1) (k : Int)).cells) (.slice (some ⟨g, 0, none⟩) ts.length cap) (us.set k (mkR (-1) (k : Int))) (some g)) := HOW.out.setR _ (by rw [HU.out]; exact hlt)
      have HG2 : Hid (w.grownBy (wr.setCells g (k * 7) (mkR (-1) (k : Int)).cells) (some g)) := grow_trans HG.out (grow_setCells wr g _ _) (.inl rfl)
      have HU2 : Hid ((us.set k (mkR (-1) (k : Int))).length = ts.length) := by unfold Hid; rw [List.length_set]; exact HU.out
      obtain ⟨yk, yo, yt, yp, yq, ykey, yval⟩ := y
      obtain ⟨d0, d1, d2, d3, d4, d5, d6⟩ := hy
      simp only at d0 d1 d2 d3 d4 d5 d6
      go_wp2
      go_roundw
      case rel => exact ⟨k + 1, _, by omega, by go_num, HU2.out, HN.out, HG2.out⟩
      case measure => simp [intOf]; omega
    · obtain rfl : k = ts.length := by omega
      clear hus hown hgr HO hlt hk
      go_wp2
      go_loopw [0, 4] (fun s0 s4 wx => ∃ (k : Nat) (a' : Option Addr) (n' c' : Nat) (us' : List Rc) (r' : Option Nat), k ≤ 64 ∧ s4 = .int .i64 k ∧ s0 = .slice a' n' c' ∧ n' = ts.length + k ∧ us'.length = n' ∧ OwnR wx (.slice a' n' c') us' r' ∧ (r' = r ∨ ∃ g, r' = some g ∧ w.heap.size ≤ g) ∧ w.grownBy wx r) (fun _ i _ => 64 - (intOf i).toNat)
      case atStart => exact ⟨0, a, ts.length, cap, us, r, by omega, rfl, rfl, rfl, HU.out, HOW.out, .inl rfl, HG.out⟩
      case round =>
        obtain ⟨k, a', n', c', us', r', hk, rfl, rfl, hn', hus', hown', hr', hgr'⟩ := hrel
        have HOW' : Hid (OwnR wr (.slice a' n' c') us' r') := hown'
        have HG' : Hid (w.grownBy wr r) := hgr'
        have HR' : Hid (r' = r ∨ ∃ g, r' = some g ∧ w.heap.size ≤ g) := hr'
        have HU' : Hid (us'.length = n') := hus'
        clear HOW HG HU hown' hgr' hr' hus'
        by_cases hlt : k < 64
        · go_wp2_with (at_builtin; refine wpList_append_recs _ rfl _ _ rfl _ _ us' [mkR (-2) 0] r' rfl rfl ?hOwn ?hSrc ?hLen ?hR ?_)
          case hOwn => exact HOW'.out.later ((Below.refl _ _).alloc (Nat.le_refl _) _)
          case hSrc => exact src_mk wr (-2) 0
          case hLen => have := HU'.out; simp; omega
          case hR => exact .inr (by simp)
          intro v' w3 g3 ho3 hg3 hr3
          obtain ⟨a3, c3', rfl, hm3, -⟩ := ho3.shape
          have hl3 : (us' ++ [mkR (-2) 0]).length = n' + 1 := by have := HU'.out; simp; omega
          rw [hl3] at ho3 ⊢
          have HO3 : Hid (OwnR w3 (.slice a3 (n' + 1) c3') (us' ++ [mkR (-2) 0]) (some g3)) := ho3
          have HL3 : Hid ((us' ++ [mkR (-2) 0]).length = n' + 1) := hl3
          have HR3 : Hid (some g3 = r ∨ ∃ g, some g3 = some g ∧ w.heap.size ≤ g) := by
            have hs := HG'.out.size
            rcases hr3 with e | rfl
            · rcases HR'.out with h | h
              · exact .inl (e.trans h)
              · obtain ⟨g, h1, h2⟩ := h
                exact .inr ⟨g, e.trans h1, h2⟩
            · exact .inr ⟨_, rfl, Nat.le_succ_of_le hs⟩
          have HG3 : Hid (w.grownBy w3 r) := by
            refine grow_trans (grow_trans HG'.out (World.grownBy_alloc wr _ none) (.inr (.inl rfl))) hg3 ?_
            rcases HR'.out with h | h
            · exact .inl h
            · exact .inr (.inr h)
          clear ho3 hg3 hr3 hl3 hm3
          go_wp2
          go_roundw
          case rel => exact ⟨k + 1, a3, n' + 1, c3', _, _, by omega, by go_num, rfl, by omega, HL3.out, HO3.out, HR3.out, HG3.out⟩
          case measure => simp [intOf]; omega
        · obtain rfl : k = 64 := by omega
          go_wp2
          go_ret
          exact ⟨ret_n (by omega), HG'.out⟩
end Go.Proofs.Ytpdhkojiehifeaa
