import Derived.Test.YtgffncbmchimdaaShC
import Derived.Test.YtgffncbmchimdaaSgA
/-! What a program sees, and what a loss of power leaves: the images. -/
namespace Go.Proofs.Ytgffncbmchimdaa
open Go.RowKit Go.Maps Plain
set_option linter.unusedVariables false
set_option linter.unusedSimpArgs false

theorem FileAt.vseen {w : World} {G : Nat} {f : Fl} {S : Nat → Prop} (h : FileAt w G f S) : ∃ a n c r, w.cell? ⟨G, 0, none⟩ = some (.slice a n c) ∧ Own w (.slice a n c) f.seen r := by
  obtain ⟨vs, vd, vc, rs, rd, rc, vals, blk, hf, _⟩ := h
  obtain ⟨c0, _⟩ := fcells hf.blkG
  have h1 := hf.seen
  obtain ⟨a, n, c, rfl⟩ := isSliceO h1
  exact ⟨a, n, c, rs, c0, h1⟩
theorem image1Of (w : World) (G : Nat) (f : Fl) (S : Nat → Prop) (h : FileAt w G f S) (hl : f.seen.length ≤ 140737488355328) :
    Calls Try.prog 36 #[.pointer (some ⟨G, 0, none⟩)] w fun e w' => ∃ a n c q, e = .returned (.slice a n c) ∧ Own w' (.slice a n c) f.seen q ∧ (∀ g, q = some g → w.heap.size ≤ g) ∧ Below w.heap.size w w' := by
  obtain ⟨a, n, c, r, c0, ho⟩ := h.vseen
  have HC : Hid (Calls Try.prog 37 #[.slice a n c] w fun e w' => ∃ v' r', e = .returned v' ∧ Own w' v' f.seen r' ∧ Below w.heap.size w w' ∧ (∀ g, r' = some g → w.heap.size ≤ g)) := cloneOf _ _ w ho.bytes hl
  clear h ho
  go_enter Try.func36, Try.ntmps36
  go_wp2_with fail
  refine HC.out.mono ?_
  rintro e w1 ⟨v1, r1, rfl, ho1, hb1, hr1⟩
  obtain ⟨a1, n1, c1, rfl⟩ := isSliceO ho1
  have HP : Hid (∃ a n c q, Ending.returned (.slice a1 n1 c1) = .returned (.slice a n c) ∧ Own w1 (.slice a n c) f.seen q ∧ (∀ g, q = some g → w.heap.size ≤ g) ∧ Below w.heap.size w w1) := ⟨_, _, _, r1, rfl, ho1, hr1, hb1⟩
  clear ho1 hb1 hr1
  go_wp2
  go_ret
  exact HP.out
theorem crash1Of (w : World) (G : Nat) (f : Fl) (S : Nat → Prop) (C P : Nat) (v : Value) (ps : List Int) (h : FileAt w G f S) (hf : f.Ok) (hc : ChoAt w C v ps) (hSC : ¬ S C) (hP : w.cell? ⟨P, 0, none⟩ = some (.pointer (some ⟨C, 0, none⟩))) :
    Calls Try.prog 42 #[.pointer (some ⟨G, 0, none⟩), .pointer (some ⟨P, 0, none⟩)] w (LvPost ps f C w) := by
  have HC : Hid (Calls Try.prog 43 #[.pointer (some ⟨G, 0, none⟩), .pointer (some ⟨C, 0, none⟩)] w (LvPost ps f C w)) := leavesOf w G f S C v ps h hf hc hSC
  clear h hf hc hSC
  go_enter Try.func42, Try.ntmps42
  go_wp2_with fail
  refine HC.out.mono ?_
  rintro e w1 ⟨a1, n1, c1, r1, rfl, h1⟩
  have HP : Hid (LvPost ps f C w (.returned (.slice a1 n1 c1)) w1) := ⟨a1, n1, c1, r1, rfl, h1⟩
  clear h1
  go_wp2
  go_ret
  exact HP.out

/-- What a program sees. -/
def imK (k : Dk) : List (Nm × List Nat) := imgL k.L (fun (_ : Unit) G => (k.file G).seen) (fun _ _ => ()) () (nms k.L)
theorem enter_image1 (a : Value) (W : World) : (callFunc 36 #[a]).run Try.prog W = .ok (.enter 36 #[a]) W := by kernel_rfl
theorem enter_crash1 (a b : Value) (W : World) : (callFunc 42 #[a, b]).run Try.prog W = .ok (.enter 42 #[a, b]) W := by kernel_rfl

set_option maxHeartbeats 1000000 in
theorem imageAll (w : World) (d : Nat) (k : Dk) (n : Nat) (S : Nat → Prop) (h : DiskAt w d k S) (hk : k.Dok n) :
    Calls Try.prog 10 #[.pointer (some ⟨d, 0, none⟩)] w fun e w' => ∃ a l c, e = .returned (.slice a l c) ∧ ImgAt w' (.slice a l c) (imK k) w.heap.size ∧ Below w.heap.size w w' := by
  obtain ⟨ms, md, vc, rc, Sf, hm, hS1, hS2, hS3⟩ := h
  have hc := hm.at0.1
  have HI : Hid (Calls Try.prog 35 #[.map ms, .func (.func 36) #[] #[]] w (ImgPost (fun (_ : Unit) w1 => Below w.heap.size w w1) (imK k) () none w)) := by
    refine imageOf0 w ms k.L 36 none (fun (_ : Unit) w1 => Below w.heap.size w w1) (fun _ G => (k.file G).seen) (fun _ _ => ()) () hm.seen (by have := hk.few; omega) (Below.refl _ _) (by simp) (fun _ w1 w2 h1 h2 => h1.trans h2) enter_image1 ?_
    intro s w1 nm G hb _ hG
    have hl : k.live G := hk.ok.refs _ (look_mem hG)
    refine (image1Of w1 G (k.file G) (Sf G) (((hm.later hb)).files G hl) (by have := (hk.ok.fok G hl).1.seenLen; omega)).mono ?_
    rintro e w2 ⟨a, l, c, q, rfl, ho, hq, hb2⟩
    exact ⟨a, l, c, q, rfl, ho, hq, hb.trans (hb2.mono hb.size), below_grow hb2 _⟩
  clear hm hS1 hS2 hS3 hk
  go_enter Try.func10, Try.ntmps10
  go_wp2_with fail
  refine HI.out.mono ?_
  rintro e w1 ⟨v, rfl, hi, hb, _⟩
  obtain ⟨a, l, c, rfl⟩ : ∃ a l c, v = .slice a l c := by
    obtain ⟨ts, r, blk, hm⟩ := hi
    obtain ⟨a, cap, e, _⟩ := hm.row.shape
    exact ⟨a, _, cap, e⟩
  have HP : Hid (∃ a' l' c', Ending.returned (.slice a l c) = .returned (.slice a' l' c') ∧ ImgAt w1 (.slice a' l' c') (imK k) w.heap.size ∧ Below w.heap.size w w1) := ⟨_, _, _, rfl, hi, hb⟩
  clear hi hb
  go_wp2
  go_ret
  exact HP.out
end Go.Proofs.Ytgffncbmchimdaa
