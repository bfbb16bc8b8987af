import Derived.Test.YthcnhjmkcekdaaaGreatQs09
namespace Go.Proofs.YthcnhjmkcekdaaaGreat
open Go.RowKit Go.Maps Plain
set_option linter.unusedVariables false
set_option linter.unusedSimpArgs false
theorem DOk.take {L : Dir} {cs : List DC} (h : DOk L cs) (n : Nat) : DOk L (cs.take n) := by
  refine ⟨fun k c hk => ?_, fun k => ?_, ?_⟩
  · have hkn : k < n := by
      have := (List.getElem?_eq_some_iff.mp hk).1
      simp at this; omega
    rw [List.getElem?_take_of_lt hkn] at hk
    rw [List.take_take, Nat.min_eq_left (by omega)]
    exact h.can k c hk
  · rw [List.take_take]
    exact h.len _
  · have := h.cnt
    simp; omega
def PastDPost (L : Dir) (w : World) (e : Ending) (w' : World) : Prop := ∃ m', e = .returned (.map m') ∧ MapO w' m' L ∧ Below w.heap.size w w' ∧ (∀ g, m' = some g → w.heap.size ≤ g)
set_option maxHeartbeats 2000000 in
set_option maxRecDepth 1000000 in
theorem pastDOf (w : World) (d : Nat) (k : Dk) (S : Nat → Prop) (h : DiskAt w d k S) (hk : DOk k.Ld k.chg) (n : Nat) (hn : n ≤ k.chg.length) :
    Calls Tryz.prog 66 #[.pointer (some ⟨d, 0, none⟩), .int .i64 (n : Int), .func (.func 68) #[] #[]] w (PastDPost (dst k.Ld (k.chg.take n)) w) := by
  obtain ⟨ms, md, vc, rc, Sf, hm, hS1, hS2, hS3⟩ := h
  obtain ⟨⟨c0, c1, c2, _, _, _, _, _, _⟩, _⟩ := dcells hm.cells
  obtain ⟨ac, nc, cc, rfl⟩ := isSliceV hm.chg
  have hnc : nc = k.chg.length := by
    obtain ⟨a, cap, e, _⟩ := hm.chg.shape
    injection e with _ e2 _
    rw [e2, List.length_map]
  obtain ⟨q1, q2⟩ : nc ≤ cc ∧ cc ≤ 2 ^ 63 - 1 := by
    obtain ⟨a, cap, e, h1, h2⟩ := hm.chg.shape
    injection e with _ e2 e3
    unfold maxLen at h1
    omega
  have hcnt := hk.cnt
  have HCL : Hid (Calls Tryz.prog 68 #[.map md] w.drew fun e w' => ∃ m', e = .returned (.map m') ∧ MapO w' m' k.Ld ∧ Below w.drew.heap.size w.drew w' ∧ (∀ g, m' = some g → w.drew.heap.size ≤ g)) := mcloneOf md k.Ld w.drew (hm.dur.of_block (fun _ _ => rfl))
  have HAF : Hid (∀ (w3 : World) (m3 : Option Nat), MapO w3 m3 k.Ld → Below w.heap.size w w3 → (∀ g, m3 = some g → w.heap.size ≤ g) → Calls Tryz.prog 76 #[.map m3, .slice ac n cc] w3 (PastDPost (dst k.Ld (k.chg.take n)) w)) := fun w3 m3 ho hb hr => by
    have hrow : OwnV w3 (.slice ac n cc) ((k.chg.take n).map DC.val) rc := by
      rw [List.map_take]
      exact (hm.chg.take n (by rw [List.length_map]; exact hn)).of_block hb.size (fun g e => hb.block g (hm.chg.rlt g e))
    refine (afterDOf m3 (.slice ac n cc) k.Ld (k.chg.take n) rc w3 ho hrow (fun g e e2 => by have := hr g e; have := hm.chg.rlt g e2; omega) (hk.take n)).mono ?_
    rintro e w4 ⟨m4, rfl, ho4, hg4, hr4⟩
    have hs := hb.size
    refine ⟨m4, rfl, ho4, hb.trans (grow_below hg4 hs hr), fun g e => ?_⟩
    rcases hr4 with h | ⟨g', h, h2⟩
    · exact hr g (h.symm.trans e)
    · rw [h] at e; simp at e; omega
  have HBD : Hid (Below w.heap.size w w.drew) := (Below.refl _ _).drew
  subst hnc
  clear hm hS1 hS2 hS3 hk
  go_enter Tryz.func66, Tryz.ntmps66
  go_wp2
  go_region_with (first
    | (go_at_call 68
       refine HCL.out.mono ?_
       rintro e w3 ⟨m3, rfl, ho3, hb3, hr3⟩
       have hbW : Below w.heap.size w w3 := HBD.out.trans hb3
       have HAF3 : Hid (Calls Tryz.prog 76 #[.map m3, .slice ac n cc] w3 (PastDPost (dst k.Ld (k.chg.take n)) w)) := HAF.out w3 m3 ho3 hbW hr3
       have k1 : w3.cell? ⟨d, 1, none⟩ = some (.map md) := by rw [hbW.cell (cell_lt c1)]; exact c1
       have k2 : w3.cell? ⟨d, 2, none⟩ = some (.slice ac k.chg.length cc) := by rw [hbW.cell (cell_lt c2)]; exact c2
       clear ho3 hb3 hr3 hbW)
    | (go_at_call 76
       refine HAF3.out.mono ?_
       rintro e w4 ⟨m4, rfl, h4⟩
       have HP : Hid (PastDPost (dst k.Ld (k.chg.take n)) w (.returned (.map m4)) w4) := ⟨m4, rfl, h4⟩
       clear h4))
  all_goals
    go_wp2
    go_ret
    exact HP.out
end Go.Proofs.YthcnhjmkcekdaaaGreat
