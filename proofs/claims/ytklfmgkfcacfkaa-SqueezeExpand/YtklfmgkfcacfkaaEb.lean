import Derived.Test.YtklfmgkfcacfkaaEa
import Derived.BigRegion
/-! twins. -/
namespace Go.Proofs.Ytklfmgkfcacfkaa
open Go.RowKit Plain
set_option linter.unusedVariables false
set_option linter.unusedSimpArgs false

theorem setCells3 (w : World) (g o : Nat) (t : Tg) : w.setCells g o t.cells = ((w.setCell ⟨g, o, none⟩ t.v).setCell ⟨g, o + 1, none⟩ (.int .i64 t.d)).setCell ⟨g, o + 2, none⟩ (.int .i64 t.n) := rfl
/-- The first i twins. -/
structure TwS (w wr : World) (gl : Nat) (tg tw : List Tg) (i : Nat) : Prop where
  c3 : tw.map Tg.c3 = (tg.take i).map Tg.c3
  lits : ∀ t ∈ tw, TwL w.heap.size gl wr t
  own : OwnG wr (.slice (some ⟨gl, 0, none⟩) (tg.length + 1) (tg.length + 1)) (tw ++ List.replicate (tg.length + 1 - i) zT) (some gl)
  gb : w.heap.size ≤ gl
  be : Below w.heap.size w wr
  il : i ≤ tg.length
theorem TwS.len {w wr : World} {gl : Nat} {tg tw : List Tg} {i : Nat} (h : TwS w wr gl tg tw i) : tw.length = i := by
  have := congrArg List.length h.c3
  have := h.il
  simp at *
  omega
theorem rep_set (tw : List Tg) (i n : Nat) (t : Tg) (h : tw.length = i) (hi : i < n) : (tw ++ List.replicate (n - i) zT).set i t = tw ++ [t] ++ List.replicate (n - (i + 1)) zT := by
  rw [List.set_append_right _ _ (by omega), h, Nat.sub_self, show n - i = (n - (i + 1)) + 1 by omega, List.replicate_succ, List.set_cons_zero, List.append_assoc]
  rfl
theorem TwS.step {w wr w2 : World} {gl : Nat} {tg tw : List Tg} {i : Nat} (h : TwS w wr gl tg tw i) (hi : i < tg.length) (t : Tg) (ht : tg[i]?.map Tg.c3 = some t.c3) (hb : Below wr.heap.size wr w2) (hl : TwL w.heap.size gl w2 t) :
    TwS w (w2.setCells gl (i * 3) t.cells) gl tg (tw ++ [t]) (i + 1) := by
  have hlen := h.len
  have hg := grow_setCells w2 gl (i * 3) t.cells
  have hbe := below_on h.be hb
  refine ⟨?_, fun x hx => ?_, ?_, h.gb, hbe.trans (grow_below hg hbe.size (fun x e => by simp at e; have := h.gb; omega)), by omega⟩
  · rw [List.map_append, h.c3, List.take_succ_eq_append_getElem hi, List.map_append]
    congr 1
    rw [List.getElem?_eq_getElem hi] at ht
    simp at ht
    simp [ht]
  · rcases List.mem_append.mp hx with hx | hx
    · exact ((h.lits x hx).kept (below_grow hb none) (by simp)).kept hg (fun y e => by simp at e; omega)
    · rw [List.mem_singleton] at hx
      subst hx
      exact hl.kept hg (fun y e => by simp at e; omega)
  · have := (h.own.later hb).set i (by simp; omega) t
    rwa [rep_set tw i (tg.length + 1) t hlen (by omega)] at this
theorem TwS.fin {w wr : World} {gl : Nat} {tg tw : List Tg} (h : TwS w wr gl tg tw tg.length) : TwAt w.heap.size (wr.setCells gl (tg.length * 3) mT.cells) gl tg tw ∧ Below w.heap.size w (wr.setCells gl (tg.length * 3) mT.cells) := by
  have hlen := h.len
  have hg := grow_setCells wr gl (tg.length * 3) mT.cells
  refine ⟨⟨?_, fun x hx => (h.lits x hx).kept hg (fun y e => by simp at e; omega), ?_, h.gb⟩, h.be.trans (grow_below hg h.be.size (fun x e => by simp at e; have := h.gb; omega))⟩
  · have := h.c3
    rwa [List.take_length] at this
  · have := h.own.set tg.length (by simp; omega) mT
    rw [rep_set tw tg.length (tg.length + 1) mT hlen (by omega)] at this
    simpa using this

theorem TwS.drew {w wr : World} {gl : Nat} {tg tw : List Tg} {i : Nat} (h : TwS w wr gl tg tw i) : TwS w wr.drew gl tg tw i :=
  ⟨h.c3, fun t ht => (h.lits t ht).kept (below_grow (Below.refl _ _).drew none) (by simp), h.own.later (Below.refl _ _).drew, h.gb, h.be.drew, h.il⟩

set_option maxHeartbeats 2000000 in
set_option maxRecDepth 100000 in
theorem twinsAny (sv : Value) (tg : List Tg) (w : World) (h : TRd w sv tg) (hn : ∀ t ∈ tg, t.nums) (hlen : tg.length ≤ 3518437208800) : Calls Try.prog 13 #[sv] w fun e w' => ∃ gl tw, e = .returned (.slice (some ⟨gl, 0, none⟩) (tg.length + 1) (tg.length + 1)) ∧ TwAt w.heap.size w' gl tg tw ∧ Below w.heap.size w w' := by
  obtain ⟨a, cap, rfl, hlc, hcm, hok, hcells⟩ := h
  unfold maxLen at hcm
  have HCS : Hid (tg ≠ [] → ∃ b off, a = some ⟨b, off, none⟩ ∧ ∀ k (hk : k < tg.length), w.cell? ⟨b, off + k * 3, none⟩ = some tg[k].v ∧ w.cell? ⟨b, off + k * 3 + 1, none⟩ = some (.int .i64 tg[k].d) ∧ w.cell? ⟨b, off + k * 3 + 2, none⟩ = some (.int .i64 tg[k].n)) := hcells
  have HOK : Hid (∀ t ∈ tg, t.ok w) := hok
  have HNU : Hid (∀ t ∈ tg, t.nums) := hn
  obtain ⟨i, hi, hz0, hz1, hz2⟩ := info_parts Try.info28
  have HI5 : Hid (Try.prog.info? 28 = some i ∧ i.zero = some (.agg #[.slice none 0 0, .int .i64 0, .int .i64 0]) ∧ i.size = 3 ∧ i.bytes = 40) := ⟨hi, hz0, hz1, hz2⟩
  obtain ⟨N, hN⟩ : ∃ N, tg.length + 1 = N := ⟨_, rfl⟩
  have eN : (tg.length : Int) + 1 = (N : Int) := by omega
  have HN : Hid (tg.length + 1 = N) := hN
  have hNb : N ≤ 3518437208801 := by omega
  have hNl : tg.length < N := by omega
  rw [hN]
  clear hok hcells hn hi hz0 hz1 hz2 hN
  go_enter Try.func13, Try.ntmps13
  go_wp2_with (at_make; refine wpList_make_full _ rfl _ _ 23 rfl w.heap.size 28 i _ 3 Try.underlying23 HI5.out.1 HI5.out.2.1 HI5.out.2.2.1 .i64 .i64 _ _ N rfl rfl rfl rfl (by rw [HI5.out.2.2.2]; omega) (by unfold maxLen; omega) (by simp) ?_)
  intro w2 ho2 hg2
  obtain ⟨gl, hgd⟩ : ∃ g, w.heap.size = g := ⟨_, rfl⟩
  have HI2 : Hid (TwS w w2 gl tg [] 0) := by
    refine ⟨by simp, by simp, ?_, by omega, grow_below hg2 (Nat.le_refl _) (by simp), by omega⟩
    rw [HN.out, ← hgd]
    simpa using (OwnG.made ho2).1
  rw [hgd]
  clear ho2 hg2 hgd
  go_wp2
  go_loopw [4] (fun s wr => ∃ (i : Nat) (tw : List Tg), s = .int .i64 i ∧ i ≤ tg.length ∧ TwS w wr gl tg tw i) (fun s _ => tg.length - (intOf s).toNat)
  case atStart => exact ⟨0, [], rfl, by omega, HI2.out⟩
  case round =>
    obtain ⟨i, tw, rfl, hil, hst⟩ := hrel
    have HS : Hid (TwS w wr gl tg tw i) := hst
    clear hst HI2
    by_cases hlt : i < tg.length
    · obtain ⟨b, off, rfl, HC⟩ := HCS.out (by rintro rfl; simp at hlt)
      have hck := HC i hlt
      obtain ⟨t, ht⟩ : ∃ t, tg[i] = t := ⟨_, rfl⟩
      have hokt : t.ok w := HOK.out t (by rw [← ht]; exact List.getElem_mem hlt)
      have hnut : t.nums := HNU.out t (by rw [← ht]; exact List.getElem_mem hlt)
      have HTI : Hid (tg[i]?.map Tg.c3 = some (t.l, t.d, t.n)) := by unfold Hid; rw [List.getElem?_eq_getElem hlt, ht]; rfl
      rw [ht] at hck
      clear HC ht
      obtain ⟨tv, tl, td, tn⟩ := t
      obtain ⟨c0, c1, c2⟩ := hck
      simp only at c0 c1 c2
      have hbl := cell_lt c0
      simp only at hbl
      have HCELL : Hid (∀ W, Below w.heap.size w W → W.cell? ⟨b, off + i * 3, none⟩ = some tv ∧ W.cell? ⟨b, off + i * 3 + 1, none⟩ = some (.int .i64 td) ∧ W.cell? ⟨b, off + i * 3 + 2, none⟩ = some (.int .i64 tn)) := fun W hW =>
        ⟨by rw [hW.cell (p := ⟨b, _, none⟩) hbl]; exact c0, by rw [hW.cell (p := ⟨b, _, none⟩) hbl]; exact c1, by rw [hW.cell (p := ⟨b, _, none⟩) hbl]; exact c2⟩
      have HLIT : Hid (BytesAt wr tv tl) := hokt.1.later HS.out.be
      obtain ⟨htb, htl, htd1, htd2, htn1, htn2⟩ := hokt
      change BytesAt w tv tl at htb
      obtain ⟨a6, c6, rfl, hlc6, hcm6, -, -⟩ := htb
      have htl2 : tl.length ≤ 140737488351232 := hnut.1
      simp only at htl htd1 htd2 htn1 htn2
      unfold maxLen at hcm6
      obtain ⟨d0, d1, d2⟩ := HCELL.out wr HS.out.be
      clear c0 c1 c2 hnut
      go_wp2_with fail
      refine (spareAny _ tl wr HLIT.out htl2).mono ?_
      rintro e w3 ⟨g, rfl, ho3, hg3, hb3⟩
      have hbe3 := below_on HS.out.be hb3
      obtain ⟨d0, d1, d2⟩ := HCELL.out w3 hbe3
      have HTW : Hid (TwL w.heap.size gl w3 ⟨.slice (some ⟨g, 0, none⟩) tl.length (tl.length + 64), tl, td, tn⟩) := ⟨g, rfl, by have := HS.out.be.size; omega, by have := HS.out.own.lt; omega, ho3⟩
      have HNX : Hid (TwS w (((w3.setCell ⟨gl, i * 3, none⟩ (.slice (some ⟨g, 0, none⟩) tl.length (tl.length + 64))).setCell ⟨gl, i * 3 + 1, none⟩ (.int .i64 td)).setCell ⟨gl, i * 3 + 2, none⟩ (.int .i64 tn)) gl tg (tw ++ [⟨.slice (some ⟨g, 0, none⟩) tl.length (tl.length + 64), tl, td, tn⟩]) (i + 1)) := by
        have h9 := HS.out.step hlt ⟨.slice (some ⟨g, 0, none⟩) tl.length (tl.length + 64), tl, td, tn⟩ HTI.out hb3 HTW.out
        rw [setCells3] at h9
        exact h9
      obtain ⟨e0, e1, e2, f0, f1, f2⟩ := (HS.out.own.later hb3).cells3 (k := i) (t := zT) (by
        have := HS.out.len
        rw [List.getElem?_append_right (by omega), this, Nat.sub_self, List.getElem?_replicate]
        simp; omega)
      simp only [zT] at e0 e1 e2
      have hiN : i < N := by omega
      clear ho3 hg3 hb3 hbe3
      go_wp2
      go_region
      all_goals go_wp2
      exact ⟨⟨i + 1, _, by go_num, by omega, HNX.out.drew⟩, by simp [intOf]; omega⟩

    · obtain rfl : i = tg.length := by omega
      have HF : Hid (TwAt w.heap.size (((wr.setCell ⟨gl, tg.length * 3, none⟩ (.slice none 0 0)).setCell ⟨gl, tg.length * 3 + 1, none⟩ (.int .i64 77)).setCell ⟨gl, tg.length * 3 + 2, none⟩ (.int .i64 (-5))) gl tg tw ∧ Below w.heap.size w (((wr.setCell ⟨gl, tg.length * 3, none⟩ (.slice none 0 0)).setCell ⟨gl, tg.length * 3 + 1, none⟩ (.int .i64 77)).setCell ⟨gl, tg.length * 3 + 2, none⟩ (.int .i64 (-5)))) := by
        have h9 := HS.out.fin
        rw [setCells3] at h9
        exact h9
      obtain ⟨e0, e1, e2, f0, f1, f2⟩ := HS.out.own.cells3 (k := tg.length) (t := zT) (by
        have := HS.out.len
        rw [List.getElem?_append_right (by omega), this, Nat.sub_self, List.getElem?_replicate]
        simp)
      simp only [zT] at e0 e1 e2
      clear HCS hlt
      go_wp2
      go_ret
      exact ⟨gl, tw, rfl, HF.out⟩
end Go.Proofs.Ytklfmgkfcacfkaa
