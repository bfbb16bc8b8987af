import Derived.Test.YtjefbcphefckiacOf
/-! New readers. -/
namespace Go.Proofs.Ytjefbcphefckiac
open Go.RowKit Plain
set_option linter.unusedVariables false

theorem pNew (v : Value) (l : List Nat) (w : World) (h : BytesAt w v l) (hl : l.length ≤ 140737488351232) :
    Calls Try.prog 13 #[v] w fun e w' => ∃ b r, e = .returned (.pointer (some ⟨b, 0, none⟩)) ∧ PA w' b ⟨l, 0, 0⟩ r ∧ w.heap.size ≤ b ∧ (∀ q, r = some q → w.heap.size ≤ q ∧ q < w'.heap.size) ∧ Below w.heap.size w w' := by
  have HB : Hid (BytesAt w v l) := h
  clear h
  go_enter Try.func13, Try.ntmps13
  go_wp2_with fail
  refine (clone v l w HB.out (by omega)).mono ?_
  rintro x w1 ⟨v1, r1, rfl, ho1, hb1, hr1⟩
  have HO1 : Hid (Own w1 v1 l r1) := ho1
  have HB1 : Hid (Below w.heap.size w w1) := hb1
  have HR1 : Hid (∀ q, r1 = some q → w.heap.size ≤ q) := hr1
  obtain ⟨a1, cap1, hv1⟩ := ho1.isSlice
  subst hv1
  clear ho1 hb1 hr1
  go_wp2
  go_ret
  have hs := HB1.out.size
  have hlt : ∀ q, r1 = some q → q < w1.heap.size := fun q hq => by
    have := HO1.out
    rw [hq] at this
    exact this.lt
  refine ⟨w1.heap.size, r1, rfl, .inl ⟨rfl, _, ⟨by simp, by simp, by simp, by simp, by simp, by simp, by simp, by simp, HO1.out.later ((Below.refl _ _).alloc (Nat.le_refl _) _), fun e => ?_, by simp, hl⟩⟩, hs, fun q hq => ⟨HR1.out q hq, by have := hlt q hq; simp; omega⟩, HB1.out.alloc hs _⟩
  have := hlt _ e
  omega

theorem qNew (v : Value) (l : List Nat) (w : World) (h : BytesAt w v l) (hl : l.length ≤ 140737488351232) :
    Calls Try.prog 14 #[v] w fun e w' => ∃ c g, e = .returned (.pointer (some ⟨c, 0, none⟩)) ∧ QA w' c ⟨l, 0, 0⟩ (some g) ∧ w.heap.size ≤ c ∧ w.heap.size ≤ g ∧ Below w.heap.size w w' := by
  have HB : Hid (BytesAt w v l) := h
  clear h
  go_enter Try.func14, Try.ntmps14
  go_wp2_with (at_builtin; refine wpList_append_row _ rfl _ _ 24 24 rfl Try.underlying24 _ _ [] l (some w.heap.size) rfl rfl ?hOwn ?hByte ?hSrc ?hLen ?_)
  case hOwn => exact Own.empty w 5
  case hByte => exact HB.out.byte
  case hSrc => exact src_of Try.underlying24 (HB.out.later ((Below.refl _ _).alloc (Nat.le_refl _) _))
  case hLen => simp; omega
  intro v3 w3 r3 ho3 hg3 hr3 hn3
  have HB3 : Hid (Below w.heap.size w w3) := grow_below (grow_trans (World.grownBy_alloc w _ none) hg3 (.inr (.inr ⟨_, rfl, Nat.le_refl _⟩))) (Nat.le_refl _) (by simp)
  obtain ⟨q3, HO3, HQ3⟩ : ∃ q3, Hid (Own w3 v3 l (some q3)) ∧ Hid (w.heap.size ≤ q3) := by
    rcases hr3 with rfl | rfl
    · exact ⟨_, ho3, Nat.le_refl _⟩
    · exact ⟨_, ho3, by unfold Hid; simp⟩
  obtain ⟨cap3, hv3, -, -⟩ := HO3.out.shape
  subst hv3
  clear ho3 hg3 hr3 hn3
  go_wp2
  go_ret
  have hs := HB3.out.size
  have hlt := HO3.out.lt
  refine ⟨w3.heap.size, q3, rfl, .inl ⟨rfl, _, ⟨by simp, by simp, by simp, by simp, by simp, by simp, by simp, by simp, HO3.out.later ((Below.refl _ _).alloc (Nat.le_refl _) _), fun e => ?_, by simp, hl⟩⟩, hs, HQ3.out, HB3.out.alloc hs _⟩
  simp at e
  omega
end Go.Proofs.Ytjefbcphefckiac
