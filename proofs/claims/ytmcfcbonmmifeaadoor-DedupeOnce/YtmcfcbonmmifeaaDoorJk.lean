import Derived.Test.YtmcfcbonmmifeaaDoorJg
import Derived.Test.YtmcfcbonmmifeaaDoorJj
/-! dedupe: Fold. -/
namespace Go.Proofs.YtmcfcbonmmifeaaDoor
open Go.RowKit Go.Maps Plain
set_option linter.unusedVariables false
set_option linter.unusedSimpArgs false

theorem foldE_snoc {ps : List Pr} {rs : List Rc} {k : Nat} (h : k < rs.length) (h0 : foldE ps (rs.take k) = 0) : foldE ps (rs.take (k + 1)) = passE (foldL ps (rs.take k)) (rs.getD k Rc.none) ∧ foldL ps (rs.take (k + 1)) = passL (foldL ps (rs.take k)) (rs.getD k Rc.none) := by
  have e : rs.take (k + 1) = rs.take k ++ [rs.getD k Rc.none] := by
    rw [List.take_add_one, List.getD_eq_getElem?_getD, List.getElem?_eq_getElem h]
    simp
  rw [e, foldE_app, foldL_app, if_neg (by simp [h0])]
  refine ⟨?_, rfl⟩
  simp only [foldE]
  split
  · rfl
  · rename_i h1; simpa using (by simpa using h1 : passE (foldL ps (rs.take k)) (rs.getD k Rc.none) = 0).symm
theorem foldE_pre {ps : List Pr} {rs : List Rc} {k : Nat} (h0 : foldE ps (rs.take k) ≠ 0) : foldE ps rs = foldE ps (rs.take k) := by
  have e : rs = rs.take k ++ rs.drop k := (List.take_append_drop k rs).symm
  conv => lhs; rw [e, foldE_app, if_pos h0]
/-- What Fold has answered. -/
structure FoldAt (w w' : World) (v : Value) (ps : List Pr) (rs : List Rc) (r : Option Nat) : Prop where
  row : OwnPr w' v (fL ps rs) r
  new : ∀ g, r = some g → w.heap.size ≤ g
  below : Below w.heap.size w w'
theorem fE_tab {ps : List Pr} {rs : List Rc} (h : TabL ps) : fE ps rs = foldE ps rs := by
  unfold fE
  rw [if_pos ((okL_iff ps).mpr h)]
set_option maxHeartbeats 4000000 in
theorem foldOf (v : Value) (ps : List Pr) (u : Value) (rs : List Rc) (w : World) (h : PrsAt w v ps) (hr : RecsAt w u rs) : Calls Tryd.prog 6 #[v, u] w fun e w' => ∃ z r, e = .returned (.tuple #[z, .int .i64 (fE ps rs)]) ∧ FoldAt w w' z ps rs r := by
  by_cases hT : TabL ps
  · have HN : Hid (Calls Tryd.prog 4 #[v] w fun e w' => ∃ t m, e = .returned (.tuple #[.pointer (some ⟨t, 0, none⟩), .int .i64 0]) ∧ NewAt w w' t m ps) := newOf v ps w h hT
    have HT : Hid (TabL ps) := hT
    have HFE : Hid (fE ps rs = foldE ps rs) := fE_tab hT
    have HFL : Hid (foldE ps rs = 0 → fL ps rs = foldL ps rs) := fun h0 => by unfold fL; rw [if_pos ⟨(okL_iff ps).mpr hT, h0⟩]
    have HFB : Hid (foldE ps rs ≠ 0 → fL ps rs = []) := fun h0 => fL_bad (by rw [fE_tab hT]; exact h0)
    obtain ⟨a, cap, rfl, hcl, hok, hcells⟩ := hr
    have HOK : Hid (∀ m, m < rs.length → (rs.getD m Rc.none).Ok) := fun m hm => hok _ (by simp [hm])
    have HC : Hid (∀ u m, Below w.heap.size w u → m < rs.length → ∃ b off, a = some ⟨b, off, none⟩ ∧ CellsAt u b (off + m * 7) (rs.getD m Rc.none)) := fun u m hu hm => by
      obtain ⟨b, off, e, hc⟩ := hcells (by intro e; rw [e] at hm; simp at hm)
      exact ⟨b, off, e, (hc m hm).block (hu.block _ (hc m hm).lt)⟩
    clear hcells hok hT h
    go_enter Tryd.func6, Tryd.ntmps6
    go_wp2_with fail
    refine HN.out.mono ?_
    rintro e w1 ⟨t, m0, rfl, hn⟩
    have HN1 : Hid (NewAt w w1 t m0 ps) := hn
    clear hn HN
    go_wp2
    go_loopw [21] (fun i wr => ∃ (k : Nat) (m : Option Nat), k ≤ rs.length ∧ i = .int .i64 k ∧ Hid (foldE ps (rs.take k) = 0) ∧ Hid (NewAt w wr t m (foldL ps (rs.take k))))
      (fun i _ => rs.length - (intOf i).toNat)
    case atStart => exact ⟨0, m0, Nat.zero_le _, rfl, rfl, HN1.out⟩
    case round =>
      obtain ⟨k, m, hk, rfl, HE, HW⟩ := hrel
      by_cases hlt : k < rs.length
      · obtain ⟨b, off, rfl, hc⟩ := HC.out wr k HW.out.below hlt
        have hs := foldE_snoc (ps := ps) hlt HE.out
        have hxo := HOK.out k hlt
        generalize rs.getD k Rc.none = x at hc hs hxo
        have HP : Hid (∀ o, Calls Tryd.prog 15 #[.pointer (some ⟨t, 0, none⟩), .agg #[.int .i64 x.k, .int .i64 x.o, .int .i64 x.t, .int .i64 x.p, .int .i64 x.q, .string x.key, .string x.val]] (wr.alloc o) fun e w' => e = .returned (.int .i64 (foldE ps (rs.take (k + 1)))) ∧ (foldE ps (rs.take (k + 1)) = 0 → ∃ m', NewAt w w' t m' (foldL ps (rs.take (k + 1)))) ∧ Below w.heap.size w w') := fun o => by
          have hb := (Below.refl _ wr).alloc (Nat.le_refl _) o
          rw [hs.1, hs.2]
          refine (passOf t m _ x _ (HW.out.tab.later hb) hxo).mono ?_
          rintro e w' ⟨rfl, h1, h2⟩
          have hbw : Below w.heap.size w w' := (below_step HW.out.below hb).trans (h2.below (by have := HW.out.below.size; simp; omega) (fun y hy => by
            rcases hy with rfl | e
            · exact HW.out.tb
            · exact HW.out.mb _ e))
          refine ⟨rfl, fun h0 => ?_, hbw⟩
          obtain ⟨m', h3, h4⟩ := h1 h0
          refine ⟨m', h3, HW.out.tb, ?_, hbw⟩
          rcases h4 with rfl | ⟨_, b, rfl, hbb⟩
          · exact HW.out.mb
          · intro b' e; cases e; have := HW.out.below.size; simp at hbb; omega
        obtain ⟨xk, xo, xt, xp, xq, xkey, xval⟩ := x
        obtain ⟨c0, c1, c2, c3, c4, c5, c6⟩ := hc
        simp only at c0 c1 c2 c3 c4 c5 c6 HP
        clear hs hxo
        have hki : (k : Int) < (rs.length : Int) := by omega
        have HPRE : Hid (foldE ps (rs.take (k + 1)) ≠ 0 → foldE ps rs = foldE ps (rs.take (k + 1))) := foldE_pre
        generalize hG : foldE ps (rs.take (k + 1)) = G at HP HPRE
        go_wp2_with fail
        refine (HP.out _).mono ?_
        rintro e w2 ⟨rfl, hp1, hp2⟩
        have HP1 : Hid (G = 0 → ∃ m', NewAt w w2 t m' (foldL ps (rs.take (k + 1)))) := hp1
        have HP2 : Hid (Below w.heap.size w w2) := hp2
        clear hp1 hp2 HP
        by_cases hg0 : G = 0
        · subst hg0
          obtain ⟨m', hn'⟩ := HP1.out rfl
          have HN2 : Hid (NewAt w w2 t m' (foldL ps (rs.take (k + 1)))) := hn'
          have HG : Hid (foldE ps (rs.take (k + 1)) = 0) := hG
          clear hn' HP1 hG
          go_wp2
          go_roundw
          case rel => exact ⟨k + 1, m', by omega, by go_num, HG.out, HN2.out⟩
          case measure => simp [intOf]; omega
        · have hg0' : (G == 0) = false := by simpa using hg0
          have HF : Hid (fE ps rs = G ∧ fL ps rs = []) := ⟨HFE.out.trans (HPRE.out hg0), HFB.out (by rw [HPRE.out hg0]; exact hg0)⟩
          clear HPRE hG
          go_wp2
          go_ret2
          exact ⟨.slice none 0 0, none, by rw [HF.out.1]; rfl, ⟨by rw [HF.out.2]; exact OwnPr.nil _, (fun g e => by cases e), HP2.out⟩⟩
      · obtain rfl : k = rs.length := by omega
        have HF : Hid (fE ps rs = 0 ∧ foldL ps (rs.take rs.length) = fL ps rs) := by
          have h1 := HE.out
          rw [List.take_length] at h1 ⊢
          exact ⟨HFE.out.trans h1, (HFL.out h1).symm⟩
        have HL : Hid (Calls Tryd.prog 7 #[.pointer (some ⟨t, 0, none⟩)] wr fun e w' => ∃ z r, e = .returned z ∧ FoldAt w w' z ps rs r) := by
          refine (listOf t m _ wr HW.out.tab).mono ?_
          rintro e w' ⟨z, r, rfl, h1⟩
          exact ⟨z, r, rfl, ⟨by rw [← HF.out.2]; exact h1.row, fun g e => by have := h1.new g e; have := HW.out.below.size; omega, below_step HW.out.below h1.below⟩⟩
        clear HE HC
        go_wp2_with fail
        refine HL.out.mono ?_
        rintro e w2 ⟨z, r, rfl, hf⟩
        have HFA : Hid (FoldAt w w2 z ps rs r) := hf
        clear hf HL
        go_wp2
        go_ret2
        exact ⟨z, r, by rw [HF.out.1]; rfl, HFA.out⟩
  · have HN : Hid (Calls Tryd.prog 4 #[v] w fun e w' => e = .returned (.tuple #[.pointer none, .int .i64 92]) ∧ Below w.heap.size w w') := newBad v ps w h hT
    have hko : okL ps ≠ true := fun e => hT ((okL_iff ps).mp e)
    have HF : Hid (fE ps rs = 92 ∧ fL ps rs = []) := by
      refine ⟨by unfold fE; rw [if_neg hko], by unfold fL; rw [if_neg (fun h => hko h.1)]⟩
    clear h hr hko
    go_enter Tryd.func6, Tryd.ntmps6
    go_wp2_with fail
    refine HN.out.mono ?_
    rintro e w1 ⟨rfl, hb⟩
    have HB : Hid (Below w.heap.size w w1) := hb
    clear hb HN
    go_wp2
    go_ret2
    exact ⟨.slice none 0 0, none, by rw [HF.out.1]; rfl, ⟨by rw [HF.out.2]; exact OwnPr.nil _, (fun g e => by cases e), HB.out⟩⟩
end Go.Proofs.YtmcfcbonmmifeaaDoor
