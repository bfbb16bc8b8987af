import Derived.Test.YtdcagkojfgcbkaaHkm
/-! hint: spoil. -/
namespace Go.Proofs.Ytdcagkojfgcbkaa
open Go.RowKit Plain Go.WideMaps Go.Maps
set_option linter.unusedVariables false
set_option linter.unusedSimpArgs false
def goneE : He := ⟨⟨#[103, 111, 110, 101]⟩, -9, 0, false, 0, 0⟩
def moreE : He := ⟨⟨#[109, 111, 114, 101]⟩, 0, 0, false, 0, 0⟩
theorem ret_n {a b : Int} (h : a = b) : Ending.returned (.int .i64 a) = .returned (.int .i64 b) := by rw [h]
set_option maxHeartbeats 2000000 in
theorem spoilOf (s z : Int) (v : Value) (es : List He) (r : Option Nat) (w : World) (ho : OwnHe w v es r) (hl : es.length ≤ 2199023255000) :
    Calls Try.prog 9 #[.agg #[.int .i64 s, .int .i64 z, v]] w fun e w' => e = .returned (.int .i64 ((es.length : Nat) + 64 : Int)) ∧ w.grownBy w' r := by
  obtain ⟨a, cap, rfl, hcap, hle⟩ := ho.shape
  unfold maxLen at hcap
  have hrw : ∀ g, r = some g → g < w.heap.size := fun g e => by rw [e] at ho; exact ho.lt
  obtain ⟨w1, hw1⟩ : ∃ w1, w.alloc (.cells #[.int .i64 s, .int .i64 z, .slice a es.length cap] 25) = w1 := ⟨_, rfl⟩
  have hb1 : Below w.heap.size w w1 := by rw [← hw1]; exact (Below.refl _ _).alloc (Nat.le_refl _) _
  have HB1 : Hid (Below w.heap.size w w1) := hb1
  have HH1 : Hid (Hb w1 w.heap.size s z (.slice a es.length cap)) := by rw [← hw1]; exact Hb.new _ _ _ _
  have HO : Hid (OwnHe w1 (.slice a es.length cap) es r) := ho.later hb1
  have HW1 : Hid (w.alloc (.cells #[.int .i64 s, .int .i64 z, .slice a es.length cap] 25) = w1) := hw1
  have HHX : Hid (∀ u, w1.grownBy u r → Hb u w.heap.size s z (.slice a es.length cap)) := fun u hu => HH1.out.block (hu.block _ HH1.out.lt (fun e => by have := hrw _ e.symm; omega))
  have HFin : Hid (∀ u, w1.grownBy u r → w.grownBy u r) := fun u hu => grow_trans (below_grow hb1 _) hu (.inl rfl)
  clear ho hb1 hw1
  go_enter Try.func9, Try.ntmps9
  go_wp2
  rw [HW1.out]
  clear HW1
  go_loopg [3] es.length (fun gk s3 wx => ∃ (k : Nat) (us : List He), k + gk = es.length ∧ s3 = .int .i64 k ∧ us.length = es.length ∧ Hid (OwnHe wx (.slice a es.length cap) us r) ∧ Hid (w1.grownBy wx r))
  case atStart => exact ⟨0, es, by omega, rfl, rfl, HO.out, below_grow (Below.refl _ _) _⟩
  case round =>
    obtain ⟨k, us, hkg, rfl, hus, HOW, HG⟩ := hrel
    have HU : Hid (us.length = es.length) := hus
    obtain ⟨x0, x1, x2, -⟩ := HHX.out wr HG.out
    cases gk with
    | succ gk1 =>
      have hlt : k < es.length := by omega
      obtain ⟨g, hrg, hag⟩ : ∃ g, r = some g ∧ a = some ⟨g, 0, none⟩ := by
        rcases HOW.out with ⟨_, h0, _⟩ | ⟨g, cap', e, e2, _⟩
        · rw [h0] at hus; simp at hus; omega
        · injection e2 with e3 _ _; exact ⟨g, e, e3⟩
      subst hrg hag
      clear hus
      obtain ⟨⟨y, hy⟩, f0, f1, f2, f3, f4, f5⟩ := HOW.out.open (j := k) (by rw [HU.out]; exact hlt)
      have HN : Hid (OwnHe (wr.setCells g (k * 6) goneE.cells) (.slice (some ⟨g, 0, none⟩) es.length cap) (us.set k goneE) (some g)) := HOW.out.set _ (by rw [HU.out]; exact hlt)
      have HG2 : Hid (w1.grownBy (wr.setCells g (k * 6) goneE.cells) (some g)) := grow_trans HG.out (grow_setCells wr g _ _) (.inl rfl)
      have HU2 : Hid ((us.set k goneE).length = es.length) := by unfold Hid; rw [List.length_set]; exact HU.out
      obtain ⟨ykey, yo, yt, yd, yp, yl⟩ := y
      obtain ⟨d0, d1, d2, d3, d4, d5⟩ := hy
      simp only at d0 d1 d2 d3 d4 d5
      have hki : (k : Int) < (es.length : Int) := by omega
      go_wp2
      go_roundg gk1
      case rel => exact ⟨k + 1, _, by omega, by go_num, HU2.out, HN.out, HG2.out⟩
      case measure => exact Nat.lt_succ_self _
    | zero =>
      obtain rfl : k = es.length := by omega
      clear hus HO
      go_wp2
      go_loopg [4, 5] 64 (fun gk s4 s5 wx => ∃ (k : Nat) (a' : Option Addr) (n' c' : Nat) (us' : List He) (r' : Option Nat), k + gk = 64 ∧ s5 = .int .i64 k ∧ s4 = .slice a' n' c' ∧ n' = es.length + k ∧ us'.length = n' ∧ Hid (OwnHe wx (.slice a' n' c') us' r') ∧ Hid (r' = r ∨ ∃ g, r' = some g ∧ w1.heap.size ≤ g) ∧ Hid (w1.grownBy wx r))
      case atStart => exact ⟨0, a, es.length, cap, us, r, by omega, rfl, rfl, rfl, HU.out, HOW.out, .inl rfl, HG.out⟩
      case round =>
        clear HOW HG HU x0 x1 x2
        obtain ⟨k, a', n', c', us', r', hkg, rfl, rfl, hn', hus', HOW', HR', HG'⟩ := hrel
        have HU' : Hid (us'.length = n') := hus'
        clear hus'
        cases gk with
        | succ gm1 =>
          have hlt : (k : Int) < 64 := by omega
          go_wp2_with (at_builtin; refine wpList_append_e _ rfl _ _ rfl _ _ us' [moreE] r' rfl rfl ?hOwn ?hSrc ?hLen ?hR ?_)
          case hOwn => exact HOW'.out.later ((Below.refl _ _).alloc (Nat.le_refl _) _)
          case hSrc => exact src_he wr _ rfl moreE
          case hLen => have := HU'.out; simp; omega
          case hR => exact .inr (by simp)
          intro v' w3 g3 ho3 hg3 hr3
          obtain ⟨a3, c3', rfl, hm3, -⟩ := ho3.shape
          have hl3 : (us' ++ [moreE]).length = n' + 1 := by have := HU'.out; simp; omega
          rw [hl3] at ho3 ⊢
          have HO3 : Hid (OwnHe w3 (.slice a3 (n' + 1) c3') (us' ++ [moreE]) (some g3)) := ho3
          have HL3 : Hid ((us' ++ [moreE]).length = n' + 1) := hl3
          have HR3 : Hid (some g3 = r ∨ ∃ g, some g3 = some g ∧ w1.heap.size ≤ g) := by
            have hs := HG'.out.size
            rcases hr3 with e | rfl
            · rcases HR'.out with h | h
              · exact .inl (e.trans h)
              · obtain ⟨g, h1, h2⟩ := h
                exact .inr ⟨g, e.trans h1, h2⟩
            · exact .inr ⟨_, rfl, Nat.le_succ_of_le hs⟩
          have HG3 : Hid (w1.grownBy w3 r) := by
            refine grow_trans (grow_trans HG'.out (World.grownBy_alloc wr _ none) (.inr (.inl rfl))) hg3 ?_
            rcases HR'.out with h | h
            · exact .inl h
            · exact .inr (.inr h)
          clear ho3 hg3 hr3 hl3 hm3
          go_wp2
          go_roundg gm1
          case rel => exact ⟨k + 1, a3, n' + 1, c3', _, _, by omega, by go_num, rfl, by omega, HL3.out, HO3.out, HR3.out, HG3.out⟩
          case measure => exact Nat.lt_succ_self _
        | zero =>
          obtain rfl : k = 64 := by omega
          go_wp2
          go_ret
          exact ⟨ret_n (by omega), HFin.out _ HG'.out⟩
end Go.Proofs.Ytdcagkojfgcbkaa
