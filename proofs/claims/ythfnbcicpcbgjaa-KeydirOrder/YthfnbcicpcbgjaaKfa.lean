import Derived.Test.YthfnbcicpcbgjaaKmd
import Derived.Test.YthfnbcicpcbgjaaKhd
/-! keydir: Point, Freeze, and lists held against one another. -/
namespace Go.Proofs.Ythfnbcicpcbgjaa
open Go.RowKit Plain
set_option linter.unusedVariables false
set_option linter.unusedSimpArgs false

theorem DirAt.other {D : Nat → Prop} {w w' : World} {gd g' : Nat} {l : List Ke} (h : DirAt D w gd l) (hg : w.grownBy w' (some g')) (hD : D g') (hne : gd ≠ g') : DirAt D w' gd l :=
  h.kept (hg.block gd h.lt (fun e => hne (by cases e; rfl))) fun j hj hd => hg.block j hj (fun e => hd (by cases e; exact hD))
theorem TreeAt.short {P : Nat → Prop} {w : World} : ∀ {n : Nat} {p : Option Addr} {l : List Ke}, TreeAt P w n p l → ∀ k ∈ l, k.key.size ≤ 64
  | 0, p, l, h, k, hk => by rw [h.2] at hk; simp at hk
  | n + 1, p, l, h, k, hk => by
    rcases h with ⟨_, h⟩ | ⟨g, k0, pl, pr, ll, lr, e, hp, hk0, hn, hl, h1, h2⟩
    · rw [h] at hk; simp at hk
    · rw [hl] at hk
      simp at hk
      rcases hk with hk | hk | hk
      · exact h1.short k hk
      · rw [hk]; exact hk0
      · exact h2.short k hk
def pointL (key : ByteArray) (off seg pos : Int) (l : List Ke) : List Ke := match findL key l with
  | some k => if k.e.off = off then insL key ⟨seg, pos, k.e.size, k.e.off, k.e.time, k.e.tomb⟩ l else l
  | none => l
theorem rootEnd0 {D : Nat → Prop} {gd n : Nat} {p : Option Addr} {l' : List Ke} {w w3 : World} (hdg : D gd) (hsr : Srt l') (hb : Below w.heap.size w w3) (hc : (w3.cell? ⟨gd, 0, none⟩).isSome = true) (hf : w3.frozen? ⟨gd, 0, none⟩ = false) (ht : TreeAt (fun g => ¬ D g) w3 n p l') :
    w.grownBy (w3.setCell ⟨gd, 0, none⟩ (.pointer p)) (some gd) ∧ DirAt D (w3.setCell ⟨gd, 0, none⟩ (.pointer p)) gd l' := by
  have g1 := grow_setC w3 gd 0 (.pointer p)
  refine ⟨grow_trans (below_grow hb _) g1 (.inl rfl), hdg, hsr, ?_, n, p, World.cell?_setCell_same' _ _ _ hc, ht.grown g1 (fun j hj e => hj (by rw [e]; exact hdg))⟩
  rw [World.frozen?_setCell]
  exact hf

set_option maxHeartbeats 4000000 in
theorem pointOf {D : Nat → Prop} {gd : Nat} {l : List Ke} (key : ByteArray) (off seg pos : Int) (w : World) (hD : ∀ g, w.heap.size ≤ g → ¬ D g) (h : DirAt D w gd l) (hk : key.size ≤ maxLen) (hl : l.length ≤ 1125899906842600) : Calls Try.prog 28 #[.pointer (some ⟨gd, 0, none⟩), .string key, .int .i64 off, .int .i64 seg, .int .i64 pos] w fun e w' => (∃ b, e = .returned (.bool b)) ∧ w.grownBy w' (some gd) ∧ DirAt D w' gd (pointL key off seg pos l) := by
  have HGE : Hid (Calls Try.prog 14 #[.pointer (some ⟨gd, 0, none⟩), .string key] w fun e w' => e = .returned (.tuple #[(gotE (findL key l)).v, .bool (findL key l).isSome]) ∧ Below w.heap.size w w') := getOf key w h hk
  have hgl := h.lt
  have HDA : Hid (∀ u, Below w.heap.size w u → DirAt D u gd l) := fun u hu => h.later hu
  obtain ⟨hdg, hsr, hfz', n, p, hcd', ht'⟩ := h
  have HTA : Hid (∀ u, Below w.heap.size w u → TreeAt (fun g => ¬ D g) u n p l) := fun u hu => ht'.later hu
  have HDG : Hid (D gd) := hdg
  have HSR : Hid (Srt l) := hsr
  have HSH : Hid (∀ k ∈ l, k.key.size ≤ 64) := ht'.short
  cases hfd : findL key l with
  | none =>
    have HPL : Hid (pointL key off seg pos l = l) := by unfold Hid pointL; rw [hfd]
    rw [hfd] at HGE
    obtain ⟨z, hz⟩ : ∃ z, gotE none = z := ⟨_, rfl⟩
    rw [hz] at HGE
    have HGE2 : Hid (Calls Try.prog 14 #[.pointer (some ⟨gd, 0, none⟩), .string key] w fun e w' => e = .returned (.tuple #[z.v, .bool false]) ∧ Below w.heap.size w w') := HGE
    clear HGE hfd hz ht' hcd' hfz' hdg hsr
    go_enter Try.func28, Try.ntmps28
    go_wp2_with fail
    refine HGE2.out.mono ?_
    rintro e w1 ⟨rfl, hb1⟩
    have HF : Hid (∀ w2, Below w1.heap.size w1 w2 → w.grownBy w2 (some gd) ∧ DirAt D w2 gd (pointL key off seg pos l)) := fun w2 h2 => by
      rw [HPL.out]
      exact ⟨below_grow (below_step' hb1 h2) _, HDA.out w2 (below_step' hb1 h2)⟩
    clear hb1
    go_wp2
    go_ret
    exact ⟨⟨_, rfl⟩, HF.out _ ((Below.refl _ _).alloc (Nat.le_refl _) _)⟩
  | some k =>
    have hmem := findL_is hfd
    have hks : key.size ≤ 64 := by rw [← hmem.2]; exact HSH.out k hmem.1
    have HPL : Hid (pointL key off seg pos l = if k.e.off = off then insL key ⟨seg, pos, k.e.size, k.e.off, k.e.time, k.e.tomb⟩ l else l) := by unfold Hid pointL; rw [hfd]
    rw [hfd] at HGE
    have HGE2 : Hid (Calls Try.prog 14 #[.pointer (some ⟨gd, 0, none⟩), .string key] w fun e w' => e = .returned (.tuple #[k.e.v, .bool true]) ∧ Below w.heap.size w w') := HGE
    clear HGE hfd hmem
    obtain ⟨kk, old⟩ := k
    obtain ⟨oa, ob, oc, od, ot, om⟩ := old
    simp only at HGE2 HPL
    have hcdw : Hid (∀ u, Below w.heap.size w u → u.cell? ⟨gd, 0, none⟩ = some (.pointer p) ∧ u.frozen? ⟨gd, 0, none⟩ = false) := fun u hu => ⟨(hu.cell (p := ⟨gd, 0, none⟩) hgl).trans hcd', (hu.frozen (p := ⟨gd, 0, none⟩) hgl).trans hfz'⟩
    clear ht' hcd' hfz' hdg hsr
    go_enter Try.func28, Try.ntmps28
    go_wp2_with fail
    refine HGE2.out.mono ?_
    rintro e w1 ⟨rfl, hb1⟩
    have HB1 : Hid (Below w.heap.size w w1) := hb1
    have hs1 := hb1.size
    clear hb1 HGE2
    by_cases hoff : od = off
    · subst hoff
      have HPL2 : Hid (pointL key od seg pos l = insL key ⟨seg, pos, oc, od, ot, om⟩ l) := by unfold Hid; rw [HPL.out, if_pos rfl]
      obtain ⟨w2, hw2⟩ : ∃ w2, w1.alloc (.cells #[.int .i64 seg, .int .i64 pos, .int .i64 oc, .int .i64 od, .int .i64 ot, .bool om] 26) = w2 := ⟨_, rfl⟩
      have hb12 : Below w1.heap.size w1 w2 := by rw [← hw2]; exact (Below.refl _ _).alloc (Nat.le_refl _) _
      have hb2 : Below w.heap.size w w2 := below_step' HB1.out hb12
      have HB2 : Hid (Below w.heap.size w w2) := hb2
      obtain ⟨d0, d1, d2, d3, d4, d5⟩ : EnAt w2 w1.heap.size ⟨seg, pos, oc, od, ot, om⟩ := by rw [← hw2]; exact EnAt.new w1 ⟨seg, pos, oc, od, ot, om⟩
      simp only at d0 d1 d2 d3 d4 d5
      have HW : Hid (∀ u, Below w2.heap.size w2 u → Calls Try.prog 45 #[.pointer p, .string key, En.v ⟨seg, pos, oc, od, ot, om⟩] u (TreeRet (fun g => ¬ D g) u (insL key ⟨seg, pos, oc, od, ot, om⟩ l))) := fun u hu => withOf _ key ⟨seg, pos, oc, od, ot, om⟩ hks n u p l (fun g hg => hD g (by have := hu.size; have := hb2.size; omega)) (HTA.out u (below_step' hb2 hu)) HSR.out (by omega)
      obtain ⟨hcd, hfz⟩ := hcdw.out w2 hb2
      clear hb12 hb2
      go_wp2
      go_region_with (first
        | (go_at_call 45
           refine (HW.out _ (by first | exact Below.refl _ _ | exact Below.drew (Below.refl _ _))).mono ?_
           rintro e w3 ⟨n3, p3, rfl, ht3, hb3⟩
           have hb23 : Below w2.heap.size w2 w3 := (by first | exact hb3 | exact (Below.drew (Below.refl _ w2)).trans hb3)
           have hcd3 := (hb23.cell (p := ⟨gd, 0, none⟩) (cell_lt hcd)).trans hcd
           have hfz3 := (hb23.frozen (p := ⟨gd, 0, none⟩) (cell_lt hcd)).trans hfz
           have HF : Hid (w.grownBy (w3.setCell ⟨gd, 0, none⟩ (.pointer p3)) (some gd) ∧ DirAt D (w3.setCell ⟨gd, 0, none⟩ (.pointer p3)) gd (insL key ⟨seg, pos, oc, od, ot, om⟩ l)) := rootEnd0 HDG.out (HSR.out.ins key _) (below_step' HB2.out hb23) (by rw [hcd3]; rfl) hfz3 ht3
           clear ht3 hb3 hb23 HW))
      all_goals
        go_wp2
        go_ret
        exact ⟨⟨_, rfl⟩, by rw [HPL2.out]; exact HF.out⟩
    · have HPL2 : Hid (pointL key off seg pos l = l) := by unfold Hid; rw [HPL.out, if_neg hoff]
      have HF : Hid (∀ w2, Below w1.heap.size w1 w2 → w.grownBy w2 (some gd) ∧ DirAt D w2 gd (pointL key off seg pos l)) := fun w2 h2 => by
        rw [HPL2.out]
        exact ⟨below_grow (below_step' HB1.out h2) _, HDA.out w2 (below_step' HB1.out h2)⟩
      go_wp2
      go_ret
      exact ⟨⟨_, rfl⟩, HF.out _ ((Below.refl _ _).alloc (Nat.le_refl _) _)⟩

theorem freezeOf {D : Nat → Prop} {gd : Nat} {l : List Ke} (w : World) (h : DirAt D w gd l) (hD : D w.heap.size) : Calls Try.prog 26 #[.pointer (some ⟨gd, 0, none⟩)] w fun e w' => e = .returned (.pointer (some ⟨w.heap.size, 0, none⟩)) ∧ Below w.heap.size w w' ∧ DirAt D w' w.heap.size l := by
  obtain ⟨hdg, hsr, hfz', n, p, hcd', ht'⟩ := h
  have HF : Hid (DirAt D (w.alloc (.cells #[.pointer p] 63)) w.heap.size l) := ⟨hD, hsr, World.frozen?_alloc_at _ _ _ _ rfl, n, p, World.cell?_alloc_at _ _ _ _ rfl, ht'.later ((Below.refl _ _).alloc (Nat.le_refl _) _)⟩
  clear ht' hfz'
  go_enter Try.func26, Try.ntmps26
  go_wp2
  go_ret
  exact ⟨rfl, (Below.refl _ _).alloc (Nat.le_refl _) _, HF.out⟩

theorem sameOf (va vb : Value) (st : List Kr) (w : World) (ha : KrsAt w va st) (hb : KrsAt w vb st) :
    Calls Try.prog 15 #[va, vb] w fun e w' => e = .returned (.bool true) ∧ ∃ n, w' = w.drewN n := by
  obtain ⟨a, cap, rfl, hcl, -, hcells⟩ := ha
  obtain ⟨a', cap', rfl, -, -, hcells'⟩ := hb
  by_cases hnil : st = []
  · subst hnil
    clear hcells hcells'
    go_enter Try.func15, Try.ntmps15
    go_wp2
    refine wp_loop_rounds 1 ?_
    rw [rounds_succ]
    go_wp2
    go_ret
    exact ⟨rfl, 0, rfl⟩
  · obtain ⟨b, off, rfl, hc⟩ := hcells hnil
    obtain ⟨b', off', rfl, hc'⟩ := hcells' hnil
    have HC : Hid (∀ j, j < st.length → Kr.CellsAt w b (off + j * 7) (st.getD j Kr.zero)) := hc
    have HC' : Hid (∀ j, j < st.length → Kr.CellsAt w b' (off' + j * 7) (st.getD j Kr.zero)) := hc'
    clear hcells hcells' hc hc' hnil
    go_enter Try.func15, Try.ntmps15
    go_wp2
    go_loopw [5] (fun i w' => ∃ k n : Nat, w' = w.drewN n ∧ k ≤ st.length ∧ i = .int .i64 k) (fun i _ => st.length - (intOf i).toNat)
    case atStart => exact ⟨0, 0, rfl, by omega, rfl⟩
    case round =>
      obtain ⟨k, n, rfl, hk, rfl⟩ := hrel
      by_cases hlt : k < st.length
      · have hx := HC.out k hlt
        have hy := HC'.out k hlt
        generalize st.getD k Kr.zero = x at hx hy
        obtain ⟨xkey, xa, xb, xc, xd, xt, xm⟩ := x
        obtain ⟨c0, c1, c2, c3, c4, c5, c6⟩ := hx
        obtain ⟨d0, d1, d2, d3, d4, d5, d6⟩ := hy
        simp only at c0 c1 c2 c3 c4 c5 c6 d0 d1 d2 d3 d4 d5 d6
        go_wp2
        go_quiet (fail)
        go_wp2
        go_roundw
        case rel => exact ⟨k + 1, _, rfl, by omega, by go_num⟩
        case measure => simp [intOf]; omega
      · go_wp2
        go_ret
        exact ⟨rfl, _, rfl⟩
end Go.Proofs.Ythfnbcicpcbgjaa
