import Derived.Test.YthcnhjmkcekdaaaGreatQs07
namespace Go.Proofs.YthcnhjmkcekdaaaGreat
open Go.RowKit Go.Maps Plain
set_option linter.unusedVariables false
set_option linter.unusedSimpArgs false
theorem OwnV.take {w : World} {a : Option Addr} {len c : Nat} {vs : List Value} {r : Option Nat} (h : OwnV w (.slice a len c) vs r) (n : Nat) (hn : n ≤ vs.length) : OwnV w (.slice a n c) (vs.take n) r := by
  have hl : (vs.take n).length = n := by simp; omega
  rcases h with ⟨e, rfl, rfl⟩ | ⟨g, cap, rfl, e, hg, h1, h2, h3, h4, h5⟩
  · injection e with e1 e2 e3
    subst e1 e3
    simp at hn
    subst hn
    exact .inl ⟨rfl, by simp, rfl⟩
  · injection e with e1 e2 e3
    subst e1 e3
    refine .inr ⟨g, c, rfl, by rw [hl], hg, by omega, h2, h3, h4, fun j hj => ?_⟩
    rw [h5 j (by omega), List.getElem?_take_of_lt (by omega)]
theorem ChRow.take {w : World} {a : Option Addr} {len c : Nat} {cs : List FC} {rc : Option Nat} {vals : List Value} {blk : Nat → Option Nat} (h : ChRow w (.slice a len c) cs rc vals blk) (n : Nat) (hn : n ≤ cs.length) : ChRow w (.slice a n c) (cs.take n) rc (vals.take n) blk := by
  refine ⟨h.row.take n (by rw [h.len]; exact hn), by simp [h.len], fun j x hj => ?_, h.bl⟩
  have hjn : j < n := by
    have := (List.getElem?_eq_some_iff.mp hj).1
    simp at this; omega
  rw [List.getElem?_take_of_lt hjn] at hj ⊢
  exact h.one j x hj
def PastPost (l : List Nat) (w : World) (e : Ending) (w' : World) : Prop := ∃ a' n' c' r', e = .returned (.slice a' n' c') ∧ Own w' (.slice a' n' c') l r' ∧ Below w.heap.size w w' ∧ (∀ g, r' = some g → w.heap.size ≤ g)
set_option maxHeartbeats 2000000 in
set_option maxRecDepth 1000000 in
theorem pastFOf (w : World) (G : Nat) (f : Fl) (S : Nat → Prop) (h : FileAt w G f S) (hf : f.Ok) (n : Nat) (hn : n ≤ f.chg.length) :
    Calls Tryz.prog 85 #[.pointer (some ⟨G, 0, none⟩), .int .i64 (n : Int), .func (.func 74) #[] #[]] w (PastPost (fst f.dur (f.chg.take n)) w) := by
  obtain ⟨vs, vd, vc, rs, rd, rc, vals, blk, hm, hS, hlt⟩ := h
  obtain ⟨c0, c1, c2, z0, z1, z2⟩ := fcells hm.blkG
  obtain ⟨ad, nd, cd, rfl⟩ := isSliceO hm.dur
  obtain ⟨ac, nc, cc, rfl⟩ := isSliceV hm.chg.row
  have HM : Hid (FileM w G f vs (.slice ad nd cd) (.slice ac nc cc) rs rd rc vals blk) := hm
  have hnc : nc = f.chg.length := by
    obtain ⟨a, cap, e, _⟩ := hm.chg.row.shape
    injection e with _ e2 _
    rw [e2, hm.chg.len]
  have hncc : nc ≤ cc ∧ cc ≤ 2 ^ 63 - 1 := by
    obtain ⟨a, cap, e, h1, h2⟩ := hm.chg.row.shape
    injection e with _ e2 e3
    unfold maxLen at h1
    omega
  obtain ⟨q1, q2⟩ := hncc
  have hcnt := hf.cnt
  have hdl : f.dur.length ≤ 140737488355328 := by have := hf.len 0; simp [fst] at this; omega
  have HCL : Hid (Calls Tryz.prog 74 #[.slice ad nd cd] w.drew fun e w' => ∃ v' r', e = .returned v' ∧ Own w' v' f.dur r' ∧ Below w.drew.heap.size w.drew w' ∧ (∀ g, r' = some g → w.drew.heap.size ≤ g)) := cloneOf _ f.dur w.drew (hm.dur.bytes.later (Below.refl _ _).drew) hdl
  have HAF : Hid (∀ (w3 : World) (v3 : Value) (r3 : Option Nat), Own w3 v3 f.dur r3 → Below w.heap.size w w3 → (∀ g, r3 = some g → w.heap.size ≤ g) → Calls Tryz.prog 87 #[v3, .slice ac n cc] w3 (PastPost (fst f.dur (f.chg.take n)) w)) := fun w3 v3 r3 ho hb hr => by
    have hrow : ChRow w3 (.slice ac n cc) (f.chg.take n) rc (vals.take n) blk := (hm.chg.take n hn).of_block hb.size (fun g e => hb.block g (hm.chg.row.rlt g e)) (fun j g e => hb.block g (hm.chg.bl j g e))
    refine (afterFile v3 (.slice ac n cc) f.dur r3 rc (f.chg.take n) (vals.take n) blk w3 ho hrow (fun g e => ⟨fun e2 => ?_, fun j e2 => ?_⟩) (fun k x hk => ?_) (fun k => ?_) (by simp; omega)).mono ?_
    · have := hr g e; have := hm.chg.row.rlt g e2; omega
    · have := hr g e; have := hm.chg.bl j g e2; omega
    · have hkn : k < n := by
        have := (List.getElem?_eq_some_iff.mp hk).1
        simp at this; omega
      rw [List.getElem?_take_of_lt hkn] at hk
      rw [List.take_take, Nat.min_eq_left (by omega)]
      exact hf.cut k x hk
    · rw [List.take_take]
      exact hf.len _
    · rintro e w4 ⟨v4, r4, rfl, ho4, hg4, hr4⟩
      obtain ⟨a4, n4, c4, rfl⟩ := isSliceO ho4
      have hs := hb.size
      refine ⟨a4, n4, c4, r4, rfl, ho4, ?_, fun g e => ?_⟩
      · exact hb.trans (grow_below hg4 hs hr)
      · rcases hr4 with h | ⟨g', h, h2⟩
        · exact hr g (h.symm.trans e)
        · rw [h] at e; simp at e; omega
  have HBD : Hid (Below w.heap.size w w.drew) := (Below.refl _ _).drew
  subst hnc
  clear hm hS hlt hf
  go_enter Tryz.func85, Tryz.ntmps85
  go_wp2
  go_region_with (first
    | (go_at_call 74
       refine HCL.out.mono ?_
       rintro e w3 ⟨v3, r3, rfl, ho3, hb3, hr3⟩
       have hbW : Below w.heap.size w w3 := HBD.out.trans hb3
       have HAF3 : Hid (Calls Tryz.prog 87 #[v3, .slice ac n cc] w3 (PastPost (fst f.dur (f.chg.take n)) w)) := HAF.out w3 v3 r3 ho3 hbW hr3
       obtain ⟨a3, n3, c3', rfl⟩ := isSliceO ho3
       have k1 : w3.cell? ⟨G, 1, none⟩ = some (.slice ad nd cd) := by rw [hbW.cell (cell_lt c1)]; exact c1
       have k2 : w3.cell? ⟨G, 2, none⟩ = some (.slice ac f.chg.length cc) := by rw [hbW.cell (cell_lt c2)]; exact c2
       clear ho3 hb3 hr3 hbW)
    | (go_at_call 87
       refine HAF3.out.mono ?_
       rintro e w4 ⟨a4, n4, c4, r4, rfl, h4⟩
       have HP : Hid (PastPost (fst f.dur (f.chg.take n)) w (.returned (.slice a4 n4 c4)) w4) := ⟨a4, n4, c4, r4, rfl, h4⟩
       clear h4))
  all_goals
    go_wp2
    go_ret
    exact HP.out
end Go.Proofs.YthcnhjmkcekdaaaGreat
