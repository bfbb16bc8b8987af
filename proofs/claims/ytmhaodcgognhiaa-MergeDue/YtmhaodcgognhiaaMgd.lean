import Derived.Test.YtmhaodcgognhiaaMgc
import Derived.Deep.CutRange
import Derived.BigRegion
/-! merge: Due of lists that are written over. -/
namespace Go.Proofs.Ytmhaodcgognhiaa
open Go.RowKit Plain
set_option linter.unusedVariables false
set_option linter.unusedSimpArgs false

def m77 : Ss := ⟨-77, 0, 0, 0, 0⟩
def mixS (st : List Ss) (i : Nat) : Ss := ⟨(st.getD (st.length - 1 - i) Ss.zero).num, (st.getD (st.length - 1 - i) Ss.zero).cnt, (st.getD (st.length - 1 - i) Ss.zero).liv, (st.getD i Ss.zero).lby, (st.getD i Ss.zero).byt⟩
def mixL (st : List Ss) (k : Nat) : List Ss := (List.range k).map (mixS st)
theorem mixL_len (st : List Ss) (k : Nat) : (mixL st k).length = k := by simp [mixL]
theorem mixL_succ (st : List Ss) (k : Nat) : mixL st (k + 1) = mixL st k ++ [mixS st k] := by simp [mixL, List.range_succ]
def rowK (st : List Ss) (k m : Nat) : List Ss := mixL st k ++ List.replicate (m - k) Ss.zero
theorem rowK_len (st : List Ss) (k m : Nat) (h : k ≤ m) : (rowK st k m).length = m := by simp [rowK, mixL_len]; omega
theorem rowK_set (st : List Ss) (k m : Nat) (h : k < m) (x : Ss) (hx : x = mixS st k) : (rowK st k m).set k x = rowK st (k + 1) m := by
  subst hx
  unfold rowK
  obtain ⟨d, hd⟩ : ∃ d, m - k = d + 1 := ⟨m - k - 1, by omega⟩
  rw [List.set_append_right _ _ (by rw [mixL_len]; exact Nat.le_refl _), mixL_len, Nat.sub_self, hd, List.replicate_succ, List.set_cons_zero, mixL_succ, List.append_assoc, show m - (k + 1) = d by omega]
  rfl
theorem mixL_ok {st : List Ss} (h : ∀ x ∈ st, x.Ok) : ∀ x ∈ mixL st st.length, x.Ok := by
  intro x hx
  obtain ⟨i, hi, rfl⟩ := List.mem_map.mp hx
  have hi' := List.mem_range.mp hi
  have a := ssOk h (k := st.length - 1 - i) (by omega)
  have b := ssOk h hi'
  exact ⟨a.num, a.cnt, a.liv, b.lby, b.byt⟩

theorem OwnSs.put3 {w : World} {v : Value} {g j : Nat} {ts : List Ss} (h : OwnSs w v ts (some g)) (hj : j < ts.length) (x : Ss) (hx : ts.getD j Ss.zero = x) (z : Int) : OwnSs (w.setCell ⟨g, j * 5 + 3, none⟩ (.int .i64 z)) v (ts.set j ⟨x.num, x.cnt, x.liv, z, x.lby⟩) (some g) := by
  refine h.sets (o := j * 5 + 3) [.int .i64 z] (by simp) (by simp; omega) fun m hm => ?_
  rw [zcells_put ts j _ hj m hm]
  by_cases h1 : j * 5 ≤ m ∧ m < j * 5 + 5
  · rw [if_pos h1]
    have e := zcells_get ts j (m - j * 5) hj (by omega)
    rw [show j * 5 + (m - j * 5) = m by omega, hx] at e
    rcases (by omega : m - j * 5 = 0 ∨ m - j * 5 = 1 ∨ m - j * 5 = 2 ∨ m - j * 5 = 3 ∨ m - j * 5 = 4) with e1 | e1 | e1 | e1 | e1
    · rw [if_neg (by simp; omega), e, e1]; rfl
    · rw [if_neg (by simp; omega), e, e1]; rfl
    · rw [if_neg (by simp; omega), e, e1]; rfl
    · rw [if_pos (by simp; omega), e1, show m - (j * 5 + 3) = 0 by omega]; rfl
    · rw [if_neg (by simp; omega), e, e1]; rfl
  · rw [if_neg h1, if_neg (by simp; omega)]
theorem OwnSs.put4 {w : World} {v : Value} {g j : Nat} {ts : List Ss} (h : OwnSs w v ts (some g)) (hj : j < ts.length) (x : Ss) (hx : ts.getD j Ss.zero = x) (z : Int) : OwnSs (w.setCell ⟨g, j * 5 + 4, none⟩ (.int .i64 z)) v (ts.set j ⟨x.num, x.cnt, x.liv, x.byt, z⟩) (some g) := by
  refine h.sets (o := j * 5 + 4) [.int .i64 z] (by simp) (by simp; omega) fun m hm => ?_
  rw [zcells_put ts j _ hj m hm]
  by_cases h1 : j * 5 ≤ m ∧ m < j * 5 + 5
  · rw [if_pos h1]
    have e := zcells_get ts j (m - j * 5) hj (by omega)
    rw [show j * 5 + (m - j * 5) = m by omega, hx] at e
    rcases (by omega : m - j * 5 = 0 ∨ m - j * 5 = 1 ∨ m - j * 5 = 2 ∨ m - j * 5 = 3 ∨ m - j * 5 = 4) with e1 | e1 | e1 | e1 | e1
    · rw [if_neg (by simp; omega), e, e1]; rfl
    · rw [if_neg (by simp; omega), e, e1]; rfl
    · rw [if_neg (by simp; omega), e, e1]; rfl
    · rw [if_neg (by simp; omega), e, e1]; rfl
    · rw [if_pos (by simp; omega), e1, show m - (j * 5 + 4) = 0 by omega]; rfl
  · rw [if_neg h1, if_neg (by simp; omega)]
/-- The cells of a row at a place, and that they may be written. -/
structure OpenS (w : World) (g o : Nat) (y : Ss) : Prop where
  c : Ss.CellsAt w g o y
  f0 : w.frozen? ⟨g, o, none⟩ = false
  f1 : w.frozen? ⟨g, o + 1, none⟩ = false
  f2 : w.frozen? ⟨g, o + 2, none⟩ = false
  f3 : w.frozen? ⟨g, o + 3, none⟩ = false
  f4 : w.frozen? ⟨g, o + 4, none⟩ = false
theorem OwnSs.openS {w : World} {v : Value} {g : Nat} {ts : List Ss} (h : OwnSs w v ts (some g)) {j : Nat} (hj : j < ts.length) : OpenS w g (j * 5) (ts.getD j Ss.zero) :=
  ⟨h.at hj, h.fz (by omega), h.fz (by omega), h.fz (by omega), h.fz (by omega), h.fz (by omega)⟩
theorem set5z (w : World) (g o : Nat) (x : Ss) : ((((w.setCell ⟨g, o, none⟩ (.int .i64 x.num)).setCell ⟨g, o + 1, none⟩ (.int .i64 x.cnt)).setCell ⟨g, o + 2, none⟩ (.int .i64 x.liv)).setCell ⟨g, o + 3, none⟩ (.int .i64 x.byt)).setCell ⟨g, o + 4, none⟩ (.int .i64 x.lby) = w.setCells g o x.cells := rfl
theorem getD_set_self (ts : List Ss) (j : Nat) (x : Ss) (h : j < ts.length) : (ts.set j x).getD j Ss.zero = x := by simp [h]

/-- Two rows of the call's own, behind the world w. -/
structure Duo (w u : World) (gg gt n : Nat) (G T : List Ss) : Prop where
  g : OwnSs u (.slice (some ⟨gg, 0, none⟩) (n + 1) (n + 1)) G (some gg)
  t : OwnSs u (.slice (some ⟨gt, 0, none⟩) n n) T (some gt)
  bel : Below w.heap.size w u
  ne : gg ≠ gt
  hg : w.heap.size ≤ gg
  ht : w.heap.size ≤ gt
theorem setC_grow (w : World) (g o : Nat) (u : Value) : w.grownBy (w.setCell ⟨g, o, none⟩ u) (some g) := grow_setCells w g o [u]
theorem Duo.onT {w u u' : World} {gg gt n : Nat} {G T T' : List Ss} (h : Duo w u gg gt n G T) (hg : u.grownBy u' (some gt)) (ht : OwnSs u' (.slice (some ⟨gt, 0, none⟩) n n) T' (some gt)) : Duo w u' gg gt n G T' :=
  ⟨h.g.kept hg (.inr (by simp; exact h.ne)), ht, h.bel.trans (grow_below hg h.bel.size (fun g e => by simp at e; have := h.ht; omega)), h.ne, h.hg, h.ht⟩
theorem Duo.onG {w u u' : World} {gg gt n : Nat} {G G' T : List Ss} (h : Duo w u gg gt n G T) (hg : u.grownBy u' (some gg)) (ht : OwnSs u' (.slice (some ⟨gg, 0, none⟩) (n + 1) (n + 1)) G' (some gg)) : Duo w u' gg gt n G' T :=
  ⟨ht, h.t.kept hg (.inr (by simp; exact Ne.symm h.ne)), h.bel.trans (grow_below hg h.bel.size (fun g e => by simp at e; have := h.hg; omega)), h.ne, h.hg, h.ht⟩
theorem Duo.later {w u u' : World} {gg gt n : Nat} {G T : List Ss} (h : Duo w u gg gt n G T) (hb : Below u.heap.size u u') : Duo w u' gg gt n G T :=
  ⟨h.g.later hb, h.t.later hb, below_on h.bel hb, h.ne, h.hg, h.ht⟩

theorem below_dn {B : Nat} {w u : World} (h : Below B w u) (n : Nat) : Below B w (u.drewN n) := ⟨h.os, h.tape, h.output, h.size, h.block⟩
theorem Duo.read {w u : World} {gg gt n : Nat} {X T : List Ss} {m : Ss} (h : Duo w u gg gt n (X ++ [m]) T) (hX : X.length = n) (hn : n ≤ 4398046511000) (hok : ∀ x ∈ X ++ [m], x.Ok) : SssAt u (.slice (some ⟨gg, 0, none⟩) n (n + 1)) X := by
  refine ⟨_, n + 1, by rw [hX], by rw [hX]; exact hn, fun x hx => hok x (List.mem_append_left _ hx), fun _ => ⟨gg, 0, rfl, fun j hj => ?_⟩⟩
  have := h.g.at (j := j) (by rw [List.length_append]; omega)
  rw [show (X ++ [m]).getD j Ss.zero = X.getD j Ss.zero by simp [List.getElem?_append_left hj]] at this
  rw [Nat.zero_add]
  exact this
theorem zback_step (st ts : List Ss) (k : Nat) (h1 : k < st.length) (h2 : st.length ≤ ts.length) : (st.take k ++ ts.drop k).set k (st.getD k Ss.zero) = st.take (k + 1) ++ ts.drop (k + 1) := by
  have hk : (st.take k).length = k := by simp; omega
  rw [List.set_append_right _ _ (by omega), hk, Nat.sub_self, List.drop_eq_getElem_cons (by omega), List.set_cons_zero, List.take_succ_eq_append_getElem h1, List.append_assoc]
  congr 1
  simp [h1]

set_option maxHeartbeats 4000000 in
theorem duePlacedOf (v : Value) (st : List Ss) (s : Int) (hs : I64 s) (w : World) (h : SssAt w v st) :
    Calls Try.prog 10 #[v, .int .i64 s] w fun e w' => e = .returned (.bool true) ∧ Below w.heap.size w w' := by
  have HV : Hid (SssAt w v st) := h
  obtain ⟨a, cap, rfl, hcl, hok, hcells⟩ := h
  have HC : Hid (st ≠ [] → ∃ b off, a = some ⟨b, off, none⟩ ∧ ∀ j, j < st.length → Ss.CellsAt w b (off + j * 5) (st.getD j Ss.zero)) := hcells
  have HOK : Hid (∀ x ∈ st, x.Ok) := hok
  have HS : Hid (I64 s) := hs
  obtain ⟨i, hi, hz0, hz1, hz2⟩ := info_parts Try.info36
  have HI5 : Hid (Try.prog.info? 36 = some i ∧ i.zero = some Ss.zero.agg ∧ i.size = 5 ∧ i.bytes = 40) := ⟨hi, hz0, hz1, hz2⟩
  obtain ⟨N, hN⟩ : ∃ N, st.length + 1 = N := ⟨_, rfl⟩
  have eN : (st.length : Int) + 1 = (N : Int) := by omega
  have HN : Hid (st.length + 1 = N) := hN
  have hNb : N ≤ 4398046511001 := by omega
  clear hcells hok hs hi hz0 hz1 hz2 hN
  go_enter Try.func10, Try.ntmps10
  go_wp2_with (at_make; refine wpList_make_full _ rfl _ _ 24 rfl w.heap.size 36 i _ 5 Try.underlying24 HI5.out.1 HI5.out.2.1 HI5.out.2.2.1 .i64 .i64 _ _ N rfl rfl rfl rfl (by rw [HI5.out.2.2.2]; omega) (by unfold maxLen; omega) (by simp) ?_)
  intro w1 ho1 hg1
  have HG1 : Hid (OwnSs w1 (.slice (some ⟨w.heap.size, 0, none⟩) N N) (List.replicate N Ss.zero) (some w.heap.size)) := (OwnSs.made ho1).1
  have HB1 : Hid (Below w.heap.size w w1) := grow_below hg1 (Nat.le_refl _) (by simp)
  have hlt1 : w.heap.size < w1.heap.size := HG1.out.lt
  clear ho1 hg1
  go_wp2_with (at_make; refine wpList_make_full _ rfl _ _ 24 rfl w1.heap.size 36 i _ 5 Try.underlying24 HI5.out.1 HI5.out.2.1 HI5.out.2.2.1 .i64 .i64 _ _ st.length rfl rfl rfl rfl (by rw [HI5.out.2.2.2]; omega) (by unfold maxLen; omega) (by simp) ?_)
  intro w2 ho2 hg2
  obtain ⟨gg, hgg⟩ : ∃ g, w.heap.size = g := ⟨_, rfl⟩
  obtain ⟨gt, hgt⟩ : ∃ g, w1.heap.size = g := ⟨_, rfl⟩
  have HD : Hid (Duo w w2 gg gt st.length (rowK st 0 (st.length + 1)) (rowK st 0 st.length)) := by
    have h1 := (OwnSs.made ho2).1
    have h2 : OwnSs w2 (.slice (some ⟨w.heap.size, 0, none⟩) N N) (List.replicate N Ss.zero) (some w.heap.size) := HG1.out.kept hg2 (.inr (by simp))
    rw [hgg, ← HN.out] at h2
    rw [hgt] at h1
    exact ⟨by simpa [rowK, mixL] using h2, by simpa [rowK, mixL] using h1, below_on HB1.out (grow_below hg2 (Nat.le_refl _) (by simp)), by omega, by omega, by omega⟩
  have hblk : w.heap.size ≤ gg ∧ w.heap.size ≤ gt ∧ gg ≠ gt := by omega
  have HLT : Hid (gg < gt) := by unfold Hid; omega
  have HNN : Hid (N = st.length + 1) := HN.out.symm
  rw [hgg, hgt]
  clear ho2 hg2 HG1 HB1 hlt1
  go_wp2
  go_loopw [8] (fun s8 wr => ∃ k : Nat, k ≤ st.length ∧ s8 = .int .i64 k ∧ Duo w wr gg gt st.length (rowK st k (st.length + 1)) (rowK st k st.length)) (fun i _ => st.length - (intOf i).toNat)
  case atStart => exact ⟨0, by omega, rfl, HD.out⟩
  case round =>
    obtain ⟨k, hk, rfl, hduo⟩ := hrel
    have HD1 : Hid (Duo w wr gg gt st.length (rowK st k (st.length + 1)) (rowK st k st.length)) := hduo
    clear hduo HD
    by_cases hlt : k < st.length
    · obtain ⟨P, hP⟩ : ∃ P, st.length - 1 - k = P := ⟨_, rfl⟩
      have hP2 : P < st.length := by omega
      have hw1 : wrap64 ((st.length : Int) - 1) = (st.length : Int) - 1 := by unfold wrap64; omega
      have hw2 : wrap64 ((st.length : Int) - 1 - (k : Int)) = (P : Int) := by unfold wrap64; omega
      have hne : st ≠ [] := by rintro rfl; simp at hlt
      obtain ⟨b, off, rfl, hc⟩ := HC.out hne
      have hbl := (hc k hlt).lt
      have hck := (hc P hP2).block (HD1.out.bel.block b (hc P hP2).lt)
      have HCX : Hid (∀ u : World, Below w.heap.size w u → Ss.CellsAt u b (off + k * 5) (st.getD k Ss.zero)) := fun u hu => (hc k hlt).block (hu.block b hbl)
      have hop := HD1.out.t.openS (j := k) (by rw [rowK_len _ _ _ hk]; exact hlt)
      have HMX : Hid (mixS st k = ⟨(st.getD P Ss.zero).num, (st.getD P Ss.zero).cnt, (st.getD P Ss.zero).liv, (st.getD k Ss.zero).lby, (st.getD k Ss.zero).byt⟩) := by unfold Hid mixS; rw [hP]
      have HD2 : Hid (Duo w (wr.setCells gt (k * 5) (st.getD P Ss.zero).cells) gg gt st.length (rowK st k (st.length + 1)) ((rowK st k st.length).set k (st.getD P Ss.zero))) :=
        HD1.out.onT (grow_setCells wr gt _ _) (HD1.out.t.putAll (by rw [rowK_len _ _ _ hk]; exact hlt) _)
      generalize st.getD P Ss.zero = y at hck HMX HD2
      generalize (rowK st k st.length).getD k Ss.zero = z at hop
      obtain ⟨y0, y1, y2, y3, y4⟩ := y
      obtain ⟨z0, z1, z2, z3, z4⟩ := z
      obtain ⟨c0, c1, c2, c3, c4⟩ := hck
      obtain ⟨⟨d0, d1, d2, d3, d4⟩, f0, f1, f2, f3, f4⟩ := hop
      simp only at c0 c1 c2 c3 c4 d0 d1 d2 d3 d4 HMX
      clear hc hne
      go_upto_region 8 with fail
      have HD2' : Hid (Duo w (((((wr.setCell ⟨gt, k * 5, none⟩ (.int .i64 y0)).setCell ⟨gt, k * 5 + 1, none⟩ (.int .i64 y1)).setCell ⟨gt, k * 5 + 2, none⟩ (.int .i64 y2)).setCell ⟨gt, k * 5 + 3, none⟩ (.int .i64 y3)).setCell ⟨gt, k * 5 + 4, none⟩ (.int .i64 y4)) gg gt st.length (rowK st k (st.length + 1)) ((rowK st k st.length).set k ⟨y0, y1, y2, y3, y4⟩)) := HD2.out
      generalize (((((wr.setCell ⟨gt, k * 5, none⟩ (.int .i64 y0)).setCell ⟨gt, k * 5 + 1, none⟩ (.int .i64 y1)).setCell ⟨gt, k * 5 + 2, none⟩ (.int .i64 y2)).setCell ⟨gt, k * 5 + 3, none⟩ (.int .i64 y3)).setCell ⟨gt, k * 5 + 4, none⟩ (.int .i64 y4)) = u2 at HD2' ⊢
      have hrl : k < (rowK st k st.length).length := by rw [rowK_len _ _ _ hk]; exact hlt
      clear HD2 HD1 c0 c1 c2 c3 c4 d0 d1 d2 d3 d4 f0 f1 f2 f3 f4
      have hcx := HCX.out u2 HD2'.out.bel
      have hop := HD2'.out.t.openS (j := k) (by rw [List.length_set]; exact hrl)
      rw [getD_set_self _ _ _ hrl] at hop
      generalize hX : st.getD k Ss.zero = x at hcx HCX HMX
      obtain ⟨x0, x1, x2, x3, x4⟩ := x
      obtain ⟨c0, c1, c2, c3, c4⟩ := hcx
      obtain ⟨⟨d0, d1, d2, d3, d4⟩, f0, f1, f2, f3, f4⟩ := hop
      simp only at c0 c1 c2 c3 c4 d0 d1 d2 d3 d4 HMX
      go_upto_region 9 with fail
      have HD3 : Hid (Duo w (u2.setCell ⟨gt, k * 5 + 3, none⟩ (.int .i64 x4)) gg gt st.length (rowK st k (st.length + 1)) ((rowK st k st.length).set k ⟨y0, y1, y2, x4, y4⟩)) := by
        have h1 := HD2'.out.t.put3 (j := k) (by rw [List.length_set]; exact hrl) _ (getD_set_self _ _ _ hrl) x4
        rw [List.set_set] at h1
        exact HD2'.out.onT (setC_grow _ _ _ _) h1
      generalize u2.setCell ⟨gt, k * 5 + 3, none⟩ (.int .i64 x4) = u3 at HD3 ⊢
      clear HD2' c0 c1 c2 c3 c4 d0 d1 d2 d3 d4 f0 f1 f2 f3 f4
      obtain ⟨c0, c1, c2, c3, c4⟩ := HCX.out u3 HD3.out.bel
      have hop := HD3.out.t.openS (j := k) (by rw [List.length_set]; exact hrl)
      rw [getD_set_self _ _ _ hrl] at hop
      obtain ⟨⟨d0, d1, d2, d3, d4⟩, f0, f1, f2, f3, f4⟩ := hop
      simp only at c0 c1 c2 c3 c4 d0 d1 d2 d3 d4
      go_upto_region 10 with fail
      have HD4 : Hid (Duo w (u3.setCell ⟨gt, k * 5 + 4, none⟩ (.int .i64 x3)) gg gt st.length (rowK st k (st.length + 1)) (rowK st (k + 1) st.length)) := by
        have h1 := HD3.out.t.put4 (j := k) (by rw [List.length_set]; exact hrl) _ (getD_set_self _ _ _ hrl) x3
        rw [List.set_set, rowK_set st k st.length hlt _ HMX.out.symm] at h1
        exact HD3.out.onT (setC_grow _ _ _ _) h1
      generalize u3.setCell ⟨gt, k * 5 + 4, none⟩ (.int .i64 x3) = u4 at HD4 ⊢
      clear HD3 c0 c1 c2 c3 c4 d0 d1 d2 d3 d4 f0 f1 f2 f3 f4
      have hop := HD4.out.t.openS (j := k) (by rw [rowK_len _ _ _ hlt]; exact hlt)
      rw [show (rowK st (k + 1) st.length).getD k Ss.zero = mixS st k by unfold rowK; rw [mixL_succ]; simp [mixL_len], HMX.out] at hop
      have hoq := HD4.out.g.openS (j := k) (by rw [rowK_len _ _ _ (by omega)]; omega)
      generalize (rowK st k (st.length + 1)).getD k Ss.zero = z at hoq
      obtain ⟨z0, z1, z2, z3, z4⟩ := z
      obtain ⟨⟨d0, d1, d2, d3, d4⟩, -, -, -, -, -⟩ := hop
      obtain ⟨⟨e0, e1, e2, e3, e4⟩, f0, f1, f2, f3, f4⟩ := hoq
      simp only at d0 d1 d2 d3 d4 e0 e1 e2 e3 e4
      have HD5 : Hid (Duo w (u4.setCells gg (k * 5) (Ss.cells ⟨y0, y1, y2, x4, x3⟩)) gg gt st.length (rowK st (k + 1) (st.length + 1)) (rowK st (k + 1) st.length)) := by
        have h1 := HD4.out.g.putAll (j := k) (by rw [rowK_len _ _ _ (by omega)]; omega) ⟨y0, y1, y2, x4, x3⟩
        rw [rowK_set st k (st.length + 1) (by omega) _ HMX.out.symm] at h1
        exact HD4.out.onG (grow_setCells _ _ _ _) h1
      go_wp2
      go_roundw
      case rel => exact ⟨k + 1, by omega, by go_num, HD5.out⟩
      case measure => simp [intOf]; omega
    · obtain rfl : k = st.length := by omega
      have HT0 : Hid (rowK st st.length st.length = mixL st st.length) := by unfold Hid rowK; simp
      have HG0 : Hid (rowK st st.length (st.length + 1) = mixL st st.length ++ [Ss.zero]) := by unfold Hid rowK; simp
      have HD1' : Hid (Duo w wr gg gt st.length (mixL st st.length ++ [Ss.zero]) (mixL st st.length)) := by have := HD1.out; rwa [HT0.out, HG0.out] at this
      have hop := HD1'.out.g.openS (j := st.length) (by simp [mixL_len])
      generalize (mixL st st.length ++ [Ss.zero]).getD st.length Ss.zero = z at hop
      have HD2 : Hid (Duo w (wr.setCells gg (st.length * 5) m77.cells) gg gt st.length (mixL st st.length ++ [m77]) (mixL st st.length)) := by
        have h1 := HD1'.out.g.putAll (j := st.length) (by simp [mixL_len]) m77
        rw [List.set_append_right _ _ (by rw [mixL_len]; exact Nat.le_refl _), mixL_len, Nat.sub_self, List.set_cons_zero] at h1
        exact HD1'.out.onG (grow_setCells _ _ _ _) h1
      obtain ⟨z0, z1, z2, z3, z4⟩ := z
      obtain ⟨⟨d0, d1, d2, d3, d4⟩, f0, f1, f2, f3, f4⟩ := hop
      simp only at d0 d1 d2 d3 d4
      go_wp2_with fail
      have HD2' : Hid (Duo w (((((wr.setCell ⟨gg, st.length * 5, none⟩ (.int .i64 (-77))).setCell ⟨gg, st.length * 5 + 1, none⟩ (.int .i64 0)).setCell ⟨gg, st.length * 5 + 2, none⟩ (.int .i64 0)).setCell ⟨gg, st.length * 5 + 3, none⟩ (.int .i64 0)).setCell ⟨gg, st.length * 5 + 4, none⟩ (.int .i64 0)) gg gt st.length (mixL st st.length ++ [m77]) (mixL st st.length)) := HD2.out
      generalize (((((wr.setCell ⟨gg, st.length * 5, none⟩ (.int .i64 (-77))).setCell ⟨gg, st.length * 5 + 1, none⟩ (.int .i64 0)).setCell ⟨gg, st.length * 5 + 2, none⟩ (.int .i64 0)).setCell ⟨gg, st.length * 5 + 3, none⟩ (.int .i64 0)).setCell ⟨gg, st.length * 5 + 4, none⟩ (.int .i64 0)) = u2 at HD2' ⊢
      have HMO : Hid (∀ x ∈ mixL st st.length ++ [m77], x.Ok) := by
        intro x hx
        rcases List.mem_append.mp hx with h | h
        · exact mixL_ok HOK.out x h
        · simp at h; subst h; exact ⟨by unfold m77 I64; simp, by unfold m77 I64; simp, by unfold m77 I64; simp, by unfold m77 I64; simp, by unfold m77 I64; simp⟩
      have HR1 : Hid (SssAt u2 (.slice (some ⟨gg, 0, none⟩) st.length N) (mixL st st.length)) := by
        have h1 := HD2'.out.read (mixL_len _ _) hcl HMO.out
        rw [HN.out] at h1
        exact h1
      clear HD2 HD1 HD1' d0 d1 d2 d3 d4 f0 f1 f2 f3 f4 HT0 HG0
      refine (dueOf _ (mixL st st.length) s HS.out u2 HR1.out).mono ?_
      rintro e u3 ⟨rfl, hb3⟩
      have HD3 : Hid (Duo w u3 gg gt st.length (mixL st st.length ++ [m77]) (mixL st st.length)) := HD2'.out.later hb3
      clear hb3 HD2' HR1
      go_wp2
      go_loopw [10] (fun s10 wx => ∃ k : Nat, k ≤ st.length ∧ s10 = .int .i64 k ∧ Duo w wx gg gt st.length (st.take k ++ (mixL st st.length ++ [m77]).drop k) (mixL st st.length)) (fun i _ => st.length - (intOf i).toNat)
      case atStart => exact ⟨0, by omega, rfl, by simpa using HD3.out⟩
      case round =>
        obtain ⟨k, hk, rfl, hduo⟩ := hrel
        have HD4 : Hid (Duo w wr gg gt st.length (st.take k ++ (mixL st st.length ++ [m77]).drop k) (mixL st st.length)) := hduo
        have HLN : Hid ((st.take k ++ (mixL st st.length ++ [m77]).drop k).length = st.length + 1) := by unfold Hid; simp [mixL_len]; omega
        clear hduo HD3
        by_cases hlt : k < st.length
        · have hne : st ≠ [] := by rintro rfl; simp at hlt
          obtain ⟨b, off, rfl, hc⟩ := HC.out hne
          have hbl := (hc k hlt).lt
          have hck := (hc k hlt).block (HD4.out.bel.block b hbl)
          have hop := HD4.out.g.openS (j := k) (by rw [HLN.out]; omega)
          have HD5 : Hid (Duo w (wr.setCells gg (k * 5) (st.getD k Ss.zero).cells) gg gt st.length (st.take (k + 1) ++ (mixL st st.length ++ [m77]).drop (k + 1)) (mixL st st.length)) := by
            have h1 := HD4.out.g.putAll (j := k) (by rw [HLN.out]; omega) (st.getD k Ss.zero)
            rw [zback_step st _ k hlt (by simp [mixL_len])] at h1
            exact HD4.out.onG (grow_setCells _ _ _ _) h1
          generalize st.getD k Ss.zero = x at hck HD5
          generalize (st.take k ++ (mixL st st.length ++ [m77]).drop k).getD k Ss.zero = z at hop
          obtain ⟨x0, x1, x2, x3, x4⟩ := x
          obtain ⟨z0, z1, z2, z3, z4⟩ := z
          obtain ⟨c0, c1, c2, c3, c4⟩ := hck
          obtain ⟨⟨d0, d1, d2, d3, d4⟩, f0, f1, f2, f3, f4⟩ := hop
          simp only at c0 c1 c2 c3 c4 d0 d1 d2 d3 d4
          clear hc hne
          go_wp2
          go_roundw
          case rel => exact ⟨k + 1, by omega, by go_num, HD5.out⟩
          case measure => simp [intOf]; omega
        · obtain rfl : k = st.length := by omega
          have HD5 : Hid (Duo w wr gg gt st.length (st ++ [m77]) (mixL st st.length)) := by
            have := HD4.out
            rw [List.take_length, List.drop_left' (mixL_len _ _)] at this
            exact this
          have HMO2 : Hid (∀ x ∈ st ++ [m77], x.Ok) := by
            intro x hx
            rcases List.mem_append.mp hx with h | h
            · exact HOK.out x h
            · exact HMO.out x (List.mem_append_right _ h)
          have HR2 : Hid (SssAt wr (.slice (some ⟨gg, 0, none⟩) st.length N) st) := by
            have h1 := HD5.out.read rfl hcl HMO2.out
            rw [HN.out] at h1
            exact h1
          clear HD4 HLN
          go_wp2_with fail
          refine (dueOf _ st s HS.out wr HR2.out).mono ?_
          rintro e W4 ⟨rfl, hb4⟩
          have HD6 : Hid (Duo w W4 gg gt st.length (st ++ [m77]) (mixL st st.length)) := HD5.out.later hb4
          clear hb4 HD5 HR2
          go_wp2
          go_loopw [12] (fun s12 wx => ∃ k n : Nat, wx = W4.drewN n ∧ k ≤ st.length ∧ s12 = .int .i64 k) (fun i _ => st.length - (intOf i).toNat)
          case atStart => exact ⟨0, 0, rfl, by omega, rfl⟩
          case round =>
            obtain ⟨k, n, rfl, hk, rfl⟩ := hrel
            by_cases hlt : k < st.length
            · have hne : st ≠ [] := by rintro rfl; simp at hlt
              obtain ⟨b, off, rfl, hc⟩ := HC.out hne
              have hbl := (hc k hlt).lt
              have hck := (hc k hlt).block (HD6.out.bel.block b hbl)
              have hop := HD6.out.g.at (j := k) (by rw [List.length_append]; omega)
              rw [show (st ++ [m77]).getD k Ss.zero = st.getD k Ss.zero by simp [List.getElem?_append_left hlt]] at hop
              generalize st.getD k Ss.zero = x at hck hop
              obtain ⟨x0, x1, x2, x3, x4⟩ := x
              obtain ⟨c0, c1, c2, c3, c4⟩ := hck
              obtain ⟨d0, d1, d2, d3, d4⟩ := hop
              simp only at c0 c1 c2 c3 c4 d0 d1 d2 d3 d4
              clear hc hne
              go_wp2
              go_quiet (fail)
              go_wp2
              go_roundw
              case rel => exact ⟨k + 1, _, rfl, by omega, by go_num⟩
              case measure => simp [intOf]; omega
            · have HD7 : Hid (Duo w (W4.drewN n) gg gt st.length (st ++ [m77]) (mixL st st.length)) := HD6.out.later (below_dn (Below.refl _ _) n)
              clear HD6
              have HT1 : Hid (SssAt (W4.drewN n) (.slice (some ⟨gt, 0, none⟩) st.length st.length) (mixL st st.length)) := by
                have h1 := (HD7.out.t.recs (by rw [mixL_len]; exact hcl) (mixL_ok HOK.out))
                exact h1
              have HV1 : Hid (SssAt (W4.drewN n) (.slice a st.length cap) st) := HV.out.later HD7.out.bel
              have hop := HD7.out.g.at (j := st.length) (by simp)
              rw [show (st ++ [m77]).getD st.length Ss.zero = m77 by simp] at hop
              have HBB : Hid (Below w.heap.size w (W4.drewN n)) := HD7.out.bel
              have HOC : Hid (Ss.CellsAt (W4.drewN n) gg (st.length * 5) m77) := hop
              have HLW : Hid (gg < (W4.drewN n).heap.size) := HD7.out.g.lt
              generalize W4.drewN n = W5 at HT1 HV1 HBB HOC HLW ⊢
              have HOP : Hid (∀ u : World, Below w.heap.size w u → Below W5.heap.size W5 u → Ss.CellsAt u gg (st.length * 5) m77) := fun u h1 h2 => (HOC.out.block (h2.block gg (HLW.out)))
              clear HOC HLW HD7 hop
              have hb0 : (dueB (mixL st st.length) s == dueB (mixL st st.length) s) = true := by simp
              have hb1 : (dueB st s == dueB st s) = true := by simp
              go_wp2_with fail
              refine (rdueOf _ (mixL st st.length) s HS.out W5 HT1.out).mono ?_
              rintro e W6 ⟨rfl, hb6⟩
              have HB6 : Hid (Below W5.heap.size W5 W6) := hb6
              clear hb6
              generalize dueB (mixL st st.length) s = X1 at hb0 ⊢
              go_wp2_with fail
              refine (rdueOf _ st s HS.out W6 (HV1.out.later HB6.out)).mono ?_
              rintro e W7 ⟨rfl, hb7⟩
              have HB7 : Hid (Below W5.heap.size W5 W7) := below_on HB6.out hb7
              have HF : Hid (Below w.heap.size w W7) := below_on HBB.out HB7.out
              clear hb7
              generalize dueB st s = X2 at hb1 ⊢
              obtain ⟨d0, d1, d2, d3, d4⟩ := HOP.out W7 HF.out HB7.out
              simp only [m77] at d0 d1 d2 d3 d4
              go_wp2
              go_ret
              exact ⟨by simp, HF.out⟩

theorem dueWalk (v : Value) (st : List Ss) (s : Int) (w : World) (h : SssAt w v st) (hs : I64 s) :
    Calls Try.prog 4 #[v, .int .i64 s] w fun e w' => e = .returned (.bool true) ∧ Below w.heap.size w w' := by
  have HV : Hid (SssAt w v st) := h
  have HS : Hid (I64 s) := hs
  obtain ⟨a, cap, rfl, -⟩ := h
  have hb0 : (dueB st s == dueB st s) = true := by simp
  clear hs
  go_enter Try.func4, Try.ntmps4
  go_wp2_with fail
  refine (dueOf _ st s HS.out w HV.out).mono ?_
  rintro e w1 ⟨rfl, hb1⟩
  have HB1 : Hid (Below w.heap.size w w1) := hb1
  clear hb1
  go_wp2_with fail
  refine (rdueOf _ st s HS.out w1 (HV.out.later HB1.out)).mono ?_
  rintro e w2 ⟨rfl, hb2⟩
  have HB2 : Hid (Below w.heap.size w w2) := below_on HB1.out hb2
  clear hb2
  generalize dueB st s = X at hb0 ⊢
  go_wp2_with fail
  refine (duePlacedOf _ st s HS.out w2 (HV.out.later HB2.out)).mono ?_
  rintro e w3 ⟨rfl, hb3⟩
  have HB3 : Hid (Below w.heap.size w w3) := below_on HB2.out hb3
  clear hb3
  go_wp2
  go_ret
  exact ⟨by simp, HB3.out⟩
end Go.Proofs.Ytmhaodcgognhiaa
