import Derived.Test.YthcnhjmkcekdaaaGreatQs29
import Derived.Test.YthcnhjmkcekdaaaGreatQs44
namespace Go.Proofs.YthcnhjmkcekdaaaGreat
open Go.RowKit Go.Maps Plain
set_option linter.unusedVariables false
set_option linter.unusedSimpArgs false
theorem Own.setG {w : World} {g m cap : Nat} {l : List Nat} (h : Own w (.slice (some ⟨g, 0, none⟩) m cap) l (some g)) (k c : Nat) (hk : k < l.length) (hc : c < 256) : Own (w.setCell ⟨g, k, none⟩ (.int .u8 (c : Int))) (.slice (some ⟨g, 0, none⟩) m cap) (l.set k c) (some g) := by
  obtain ⟨hb, h0 | ⟨g', cap', e1, e2, hg, h1, h2, h3, h4, h5⟩⟩ := h
  · obtain ⟨_, _, h⟩ := h0; simp at h
  simp only [Option.some.injEq] at e1
  subst e1
  simp only [Value.slice.injEq] at e2
  obtain ⟨_, rfl, rfl⟩ := e2
  refine ⟨fun x hx => ?_, .inr ⟨g, cap, rfl, by rw [List.length_set], by simpa using hg, by rw [List.length_set]; exact h1, h2, fun j hj => ?_, fun j hj => ?_, fun j hj => ?_⟩⟩
  · rcases List.mem_or_eq_of_mem_set hx with h | h
    · exact hb x h
    · omega
  · rw [World.frozen?_setCell]; exact h3 j hj
  · obtain ⟨u, hu⟩ := Option.isSome_iff_exists.mp (h4 j hj)
    obtain ⟨u', hu'⟩ := cell?_setCell_some (p := ⟨g, k, none⟩) (x := .int .u8 (c : Int)) hu
    rw [hu']; rfl
  · rw [List.length_set] at hj
    by_cases e : j = k
    · subst e
      rw [World.cell?_setCell_same _ _ _ (h5 j hj)]
      simp [List.getD_eq_getElem?_getD, hj]
    · rw [World.cell?_setCell_other _ _ _ _ (by simp only [ne_eq, Addr.mk.injEq]; omega), h5 j hj]
      congr 2
      simp [List.getD_eq_getElem?_getD, Ne.symm e]
theorem OwnI.setName {w : World} {v : Value} {ts : List Fi} {g : Nat} (h : OwnI w v ts (some g)) {i : Nat} (hi : i < ts.length) (s : ByteArray) : OwnI (w.setCell ⟨g, i * 2, none⟩ (.string s)) v (ts.set i ⟨s, (ts.getD i Fi.none).data⟩) (some g) := by
  obtain h0 | ⟨g', cap, e1, e2, hg, h1, h2, h3, h4, h5⟩ := h
  · obtain ⟨_, _, h⟩ := h0; simp at h
  simp only [Option.some.injEq] at e1
  subst e1
  refine .inr ⟨g, cap, rfl, by rw [List.length_set]; exact e2, by simpa using hg, by rw [List.length_set]; exact h1, h2, fun j hj => ?_, fun j hj => ?_, fun j hj => ?_⟩
  · rw [World.frozen?_setCell]; exact h3 j hj
  · obtain ⟨u, hu⟩ := Option.isSome_iff_exists.mp (h4 j hj)
    obtain ⟨u', hu'⟩ := cell?_setCell_some (p := ⟨g, i * 2, none⟩) (x := .string s) hu
    rw [hu']; rfl
  · rw [List.length_set] at hj
    have hj2 : j / 2 < ts.length := by omega
    have hjm : j % 2 < 2 := by omega
    have hje : j / 2 * 2 + j % 2 = j := by omega
    have q1 := icells_get ts (j / 2) (j % 2) hj2 hjm
    have q2 := icells_get (ts.set i ⟨s, (ts.getD i Fi.none).data⟩) (j / 2) (j % 2) (by rw [List.length_set]; exact hj2) hjm
    rw [hje] at q1 q2
    rw [q2]
    by_cases e : j = i * 2
    · have hd : j / 2 = i := by omega
      have hm : j % 2 = 0 := by omega
      obtain ⟨u, hu⟩ := Option.isSome_iff_exists.mp (h4 j (by omega))
      rw [hd, hm]
      rw [e] at hu ⊢
      rw [World.cell?_setCell_same _ _ _ hu]
      simp [List.getD_eq_getElem?_getD, hi, Fi.cells]
    · rw [World.cell?_setCell_other _ _ _ _ (by simp only [ne_eq, Addr.mk.injEq]; omega), h5 j hj, q1]
      by_cases e2 : j / 2 = i
      · have hm : j % 2 = 1 := by omega
        rw [e2, hm]
        simp [List.getD_eq_getElem?_getD, hi, Fi.cells]
      · simp [List.getD_eq_getElem?_getD, Ne.symm e2]
/-- The image while it is written over: from o on its files lie in rows of their own still. -/
structure Gn (W wx : World) (v : Value) (ts : List Fi) (r : Option Nat) (blk : Nat → Option Nat) (P : Nat → Prop) (o : Nat) : Prop where
  row : OwnI wx v ts r
  rb : ∀ g, r = some g → P g ∨ W.heap.size ≤ g
  chg : Chg P W wx
  own : ∀ j, o ≤ j → j < ts.length → ∃ ad nd cd l, (ts.getD j Fi.none).data = .slice ad nd cd ∧ Own wx (.slice ad nd cd) l (blk j) ∧ l.length = nd ∧ nd ≤ 1073741824
  bb : ∀ j g, blk j = some g → (P g ∨ W.heap.size ≤ g) ∧ r ≠ some g
  apart : ∀ i j g, blk i = some g → blk j = some g → i = j
theorem Own.len2 {w : World} {a : Option Addr} {n c : Nat} {l : List Nat} {r : Option Nat} (h : Own w (.slice a n c) l r) : l.length = n ∧ n ≤ c ∧ c ≤ maxLen := by
  obtain ⟨hb, h0 | ⟨g', cap, e1, e2, hg, h1, h2, h3, h4, h5⟩⟩ := h
  · obtain ⟨e, rfl, _⟩ := h0
    simp only [Value.slice.injEq] at e
    obtain ⟨_, rfl, rfl⟩ := e
    simp
  · simp only [Value.slice.injEq] at e2
    obtain ⟨_, rfl, rfl⟩ := e2
    exact ⟨rfl, h1, h2⟩
theorem ImgM.hold {u w : World} {v : Value} {im : List (Nm × List Nat)} {lo : Nat} {ts : List Fi} {r : Option Nat} {blk : Nat → Option Nat} (hm : ImgM u v im lo ts r blk) (hs : u.heap.size ≤ w.heap.size) (hb : ∀ x, lo ≤ x → x < u.heap.size → w.heap[x]? = u.heap[x]?) : ImgM w v im lo ts r blk := by
  have hrow : OwnI w v ts r := by
    rcases hm.row with h0 | ⟨g, cap, rfl, rfl, hg, h1, h2, h3, h4, h5⟩
    · exact .inl h0
    · have e := hb g (hm.rbase g rfl) hg
      refine .inr ⟨g, cap, rfl, rfl, Nat.lt_of_lt_of_le hg hs, h1, h2, fun j hj => ?_, fun j hj => ?_, fun j hj => ?_⟩
      · rw [World.frozen?_of_block (w := u) (a := ⟨g, j, none⟩) e]; exact h3 j hj
      · rw [World.cell?_of_block (w := u) (a := ⟨g, j, none⟩) e]; exact h4 j hj
      · rw [World.cell?_of_block (w := u) (a := ⟨g, j, none⟩) e]; exact h5 j hj
  exact ⟨hrow, hm.len, fun j p hp => by
    obtain ⟨dv, e1, ho⟩ := hm.one j p hp
    exact ⟨dv, e1, ho.of_block hs (fun g e => hb g (hm.bbase j g e).1 (hm.live e))⟩, hm.rbase, hm.bbase, hm.out, hm.apart⟩
theorem ImgAt.gn {w0 w : World} {v : Value} {im : List (Nm × List Nat)} {base : Nat} (h : ImgAt w0 v im base) (hs : w0.heap.size ≤ w.heap.size) (hb : ∀ x, base ≤ x → x < w0.heap.size → w.heap[x]? = w0.heap[x]?) (hsz : ∀ p ∈ im, p.2.length ≤ 1073741824) : ∃ ts r blk, Gn w w v ts r blk (fun g => base ≤ g ∧ g < w0.heap.size) 0 ∧ ts.length = im.length := by
  obtain ⟨ts, r, blk, hm⟩ := h
  have hm2 := hm.hold hs hb
  refine ⟨ts, r, blk, ⟨hm2.row, fun g e => .inl ⟨hm.rbase g e, ?_⟩, Chg.refl _ _, fun j _ hj => ?_, fun j g e => ⟨.inl ⟨(hm.bbase j g e).1, hm.live e⟩, (hm.bbase j g e).2⟩, hm.apart⟩, hm.len⟩
  · have := hm.row
    rw [e] at this
    exact this.lt
  have hj' : j < im.length := by rw [← hm.len]; exact hj
  obtain ⟨dv, e1, ho⟩ := hm2.one j _ (List.getElem?_eq_getElem hj')
  obtain ⟨x, y, z, rfl⟩ := isSliceO ho
  refine ⟨x, y, z, _, by simp [List.getD_eq_getElem?_getD, e1], ho, ho.len2.1, ?_⟩
  rw [← ho.len2.1]
  exact hsz _ (List.getElem_mem hj')
theorem Gn.off {W wx : World} {v : Value} {ts : List Fi} {r : Option Nat} {blk : Nat → Option Nat} {P : Nat → Prop} {o o' : Nat} (h : Gn W wx v ts r blk P o) (ho : o ≤ o') : Gn W wx v ts r blk P o' := ⟨h.row, h.rb, h.chg, fun j hj => h.own j (by omega), h.bb, h.apart⟩
theorem Gn.grown {W wx wy : World} {v : Value} {ts : List Fi} {r r7 : Option Nat} {blk : Nat → Option Nat} {P : Nat → Prop} {o : Nat} (h : Gn W wx v ts r blk P o) (hg : wx.grownBy wy r7) (hr : ∀ g, r7 = some g → (P g ∨ W.heap.size ≤ g) ∧ r ≠ some g ∧ ∀ j, o ≤ j → j < ts.length → blk j ≠ some g) : Gn W wy v ts r blk P o := by
  refine ⟨h.row.kept hg ?_, h.rb, h.chg.grown hg (fun g e => (hr g e).1), fun j hj hjm => ?_, h.bb, h.apart⟩
  · cases e : r with
    | none => exact .inl rfl
    | some g => exact .inr (fun e2 => (hr g e2.symm).2.1 e)
  · obtain ⟨ad, nd, cd, l, e1, e2, e3, e4⟩ := h.own j hj hjm
    refine ⟨ad, nd, cd, l, e1, e2.kept hg ?_, e3, e4⟩
    cases e : blk j with
    | none => exact .inl rfl
    | some g => exact .inr (fun e2 => (hr g e2.symm).2.2 j hj hjm e)
theorem Gn.later {W wx wy : World} {v : Value} {ts : List Fi} {r : Option Nat} {blk : Nat → Option Nat} {P : Nat → Prop} {o : Nat} (h : Gn W wx v ts r blk P o) (hb : Below wx.heap.size wx wy) : Gn W wy v ts r blk P o := h.grown (below_grow hb none) (by simp)
theorem Gn.at {W wx : World} {a : Option Addr} {m c : Nat} {ts : List Fi} {r : Option Nat} {blk : Nat → Option Nat} {P : Nat → Prop} {o i : Nat} (h : Gn W wx (.slice a m c) ts r blk P o) (hi : i < ts.length) : ∃ b, a = some ⟨b, 0, none⟩ ∧ r = some b ∧ wx.cell? ⟨b, i * 2, none⟩ = some (.string (ts.getD i Fi.none).name) ∧ wx.cell? ⟨b, i * 2 + 1, none⟩ = some (ts.getD i Fi.none).data ∧ wx.frozen? ⟨b, i * 2, none⟩ = false := by
  have hrow := h.row
  obtain ⟨e1, e2, e3⟩ | ⟨g, cap, e1, e2, hg, h1, h2, h3, h4, h5⟩ := hrow
  · rw [e2] at hi; simp at hi
  · simp only [Value.slice.injEq] at e2
    have hr := h.row
    rw [e1] at hr
    exact ⟨g, e2.1, e1, (hr.at hi).1, (hr.at hi).2, h3 _ (by omega)⟩
theorem Gn.len {W wx : World} {a : Option Addr} {m c : Nat} {ts : List Fi} {r : Option Nat} {blk : Nat → Option Nat} {P : Nat → Prop} {o : Nat} (h : Gn W wx (.slice a m c) ts r blk P o) : m = ts.length ∧ m ≤ c ∧ c ≤ maxLen := by
  obtain ⟨a', c', e, h1, h2⟩ := h.row.shape
  simp only [Value.slice.injEq] at e
  obtain ⟨_, rfl, rfl⟩ := e
  exact ⟨rfl, h2, h1⟩
theorem Gn.write {W wx : World} {v : Value} {ts : List Fi} {r : Option Nat} {blk : Nat → Option Nat} {P : Nat → Prop} {o i k c : Nat} {ad : Option Addr} {nd cd : Nat} (h : Gn W wx v ts r blk P o) (hi : i < ts.length) (ho : o ≤ i) (hd : (ts.getD i Fi.none).data = .slice ad nd cd) (hk : k < nd) (hc : c < 256) :
    ∃ g, ad = some ⟨g, 0, none⟩ ∧ wx.frozen? ⟨g, k, none⟩ = false ∧ (∃ u, wx.cell? ⟨g, k, none⟩ = some u) ∧ Gn W (wx.setCell ⟨g, k, none⟩ (.int .u8 (c : Int))) v ts r blk P o := by
  obtain ⟨ad', nd', cd', l, e1, ow, e3, e4⟩ := h.own i ho hi
  rw [hd] at e1
  simp only [Value.slice.injEq] at e1
  obtain ⟨rfl, rfl, rfl⟩ := e1
  have ow' := ow
  obtain ⟨hb, h0 | ⟨g, cap, q1, q2, hg, h1, h2, h3, h4, h5⟩⟩ := ow
  · rw [h0.2.1] at e3; simp at e3; omega
  simp only [Value.slice.injEq] at q2
  obtain ⟨rfl, _, rfl⟩ := q2
  obtain ⟨b1, b2⟩ := h.bb i g q1
  have hgr := grow_set wx g k (.int .u8 (c : Int))
  refine ⟨g, rfl, h3 k (by omega), Option.isSome_iff_exists.mp (h4 k (by omega)), ⟨h.row.kept hgr ?_, h.rb, h.chg.grown hgr (fun g' e => by simp at e; subst e; exact b1), fun j hj hjm => ?_, h.bb, h.apart⟩⟩
  · cases e : r with
    | none => exact .inl rfl
    | some g' => exact .inr (fun e2 => b2 (by rw [e, e2]))
  · by_cases e : j = i
    · subst e
      rw [q1] at ow'
      exact ⟨_, nd, cd, l.set k c, hd, by rw [q1]; exact ow'.setG k c (by omega) hc, by rw [List.length_set]; exact e3, e4⟩
    · obtain ⟨ad2, nd2, cd2, l2, f1, f2, f3, f4⟩ := h.own j hj hjm
      refine ⟨ad2, nd2, cd2, l2, f1, f2.kept hgr ?_, f3, f4⟩
      cases e3 : blk j with
      | none => exact .inl rfl
      | some g' => exact .inr (fun e4 => e (h.apart j i g' e3 (by rw [q1, e4])))
theorem Gn.name {W wx : World} {v : Value} {ts : List Fi} {b : Nat} {blk : Nat → Option Nat} {P : Nat → Prop} {o i : Nat} (h : Gn W wx v ts (some b) blk P o) (hi : i < ts.length) (s : ByteArray) : Gn W (wx.setCell ⟨b, i * 2, none⟩ (.string s)) v (ts.set i ⟨s, (ts.getD i Fi.none).data⟩) (some b) blk P o := by
  have hgr := grow_set wx b (i * 2) (.string s)
  refine ⟨h.row.setName hi s, h.rb, h.chg.grown hgr (fun g' e => by simp at e; subst e; exact h.rb b rfl), fun j hj hjm => ?_, h.bb, h.apart⟩
  rw [List.length_set] at hjm
  obtain ⟨ad2, nd2, cd2, l2, f1, f2, f3, f4⟩ := h.own j hj hjm
  refine ⟨ad2, nd2, cd2, l2, ?_, f2.kept hgr ?_, f3, f4⟩
  · by_cases e : i = j
    · subst e
      rw [← f1]
      simp [List.getD_eq_getElem?_getD, hi]
    · rw [← f1]
      simp [List.getD_eq_getElem?_getD, e]
  · cases e3 : blk j with
    | none => exact .inl rfl
    | some g' => exact .inr (fun e4 => (h.bb j g' e3).2 (by rw [e4]))
end Go.Proofs.YthcnhjmkcekdaaaGreat

namespace Go.Proofs.YthcnhjmkcekdaaaGreat
open Go.RowKit Go.Maps Plain
set_option linter.unusedVariables false
set_option linter.unusedSimpArgs false
set_option maxHeartbeats 8000000 in
set_option maxRecDepth 1000000 in
theorem asked9 {W w : World} {gb d gp n : Nat} {k : Dk} {r : Rk} (h : BoAt W gb d gp k r w) (hi : BInv k r n) (hn : n ≤ 2000000000000) (nm to : ByteArray) (at' m : Int) (vb vp : Value) (hs : nm.size ≤ maxLen) :
    Calls Tryz.prog 15 #[.pointer (some ⟨gb, 0, none⟩), stepV 9 nm to at' m vb vp] w fun e w' => e = .returned (.bool true) ∧ Below w.heap.size w w' := by
  obtain ⟨w0, hw0⟩ : ∃ w0, w.alloc (.cells #[.int .i64 9, .string nm, .string to, .int .i64 at', .int .i64 m, vb, vp] 37) = w0 := ⟨_, rfl⟩
  have hb0 : Below w.heap.size w w0 := by rw [← hw0]; exact (Below.refl _ _).alloc (Nat.le_refl _) _
  have hs0 : w0.heap.size = w.heap.size + 1 := by rw [← hw0]; simp
  have hx0 : w0.heap[w.heap.size]? = some (.cells #[.int .i64 9, .string nm, .string to, .int .i64 at', .int .i64 m, vb, vp] 37) := by rw [← hw0]; show (w.heap.push _)[w.heap.size]? = _; simp
  have z0 : w0.cell? ⟨w.heap.size, 0, none⟩ = some (.int .i64 9) := by simp [World.cell?, hx0]
  have z1 : w0.cell? ⟨w.heap.size, 1, none⟩ = some (.string nm) := by simp [World.cell?, hx0]
  have z3 : w0.cell? ⟨w.heap.size, 3, none⟩ = some (.int .i64 at') := by simp [World.cell?, hx0]
  have z4 : w0.cell? ⟨w.heap.size, 4, none⟩ = some (.int .i64 m) := by simp [World.cell?, hx0]
  have z6 : w0.cell? ⟨w.heap.size, 6, none⟩ = some (vp) := by simp [World.cell?, hx0]
  have hbd : Below w0.heap.size w0 w0.drew := ⟨rfl, rfl, rfl, Nat.le_refl _, fun _ _ => rfl⟩
  have HB0 := Hid.mkR hb0
  have HA : Hid (∀ u, Below w0.heap.size w0 u → BoAt W gb d gp k r u ∧ u.cell? ⟨gb, 0, none⟩ = some (.pointer (some ⟨d, 0, none⟩)) ∧ u.cell? ⟨gb, 1, none⟩ = some (.pointer (some ⟨gp, 0, none⟩)) ∧ u.cell? ⟨w.heap.size, 1, none⟩ = some (.string nm) ∧ u.cell? ⟨w.heap.size, 3, none⟩ = some (.int .i64 at') ∧ u.cell? ⟨w.heap.size, 4, none⟩ = some (.int .i64 m) ∧ u.cell? ⟨w.heap.size, 6, none⟩ = some (vp)) := fun u hu => by
    have h1 := (h.later hb0).later hu
    exact ⟨h1, h1.box.1, h1.box.2.1, (hu.cell (cell_lt z1)).trans z1, (hu.cell (cell_lt z3)).trans z3, (hu.cell (cell_lt z4)).trans z4, (hu.cell (cell_lt z6)).trans z6⟩
  obtain ⟨c0, c1, -, -⟩ := (h.later hb0).box
  have hbd' := hi.bd hn
  have HC : Hid (∀ u, Below w0.heap.size w0 u → Calls Tryz.prog 60 #[.pointer (some ⟨d, 0, none⟩), .string nm] u fun e w' => e = .returned (.tuple #[.int .i64 (rszN r nm : Int), .int .i64 (rszE r nm)]) ∧ Below u.heap.size u w') := fun u hu => (HA.out u hu).1.size hi nm hs
  have HRC : Hid (∀ u, Below w0.heap.size w0 u → Calls Tryz.prog 61 #[.pointer (some ⟨gp, 0, none⟩), .string nm] u fun e w' => e = .returned (.tuple #[.int .i64 (rszN r nm : Int), .int .i64 (rszE r nm)]) ∧ Below u.heap.size u w') := fun u hu => (HA.out u hu).1.rsize (n := n) hbd' nm hs
  clear h hi hbd' hs hx0
  generalize rszN r nm = N at *
  generalize rszE r nm = E at *
  go_enter Tryz.func15, Tryz.ntmps15
  go_wp2_with fail
  refine wp_region_noPanic ?_
  refine Till.start 11 (S := fun u => u.cell? ⟨gb, 0, none⟩ = some (.pointer (some ⟨d, 0, none⟩)) ∧ u.cell? ⟨w.heap.size, 1, none⟩ = some (.string nm)) (by kernel_rfl) ⟨c0, z1⟩ (fun hHeld => ?_)
  refine' Till.take 0 rfl (by kernel_rfl) (by kernel_rfl) (by kernel_rfl) (by kernel_rfl) (fun _ _ _ h => h) (Or.inl ⟨by rfl, ?_⟩) (by assumption) ?_
  rotate_left
  · (intro w hSw; (try dsimp only at hSw); go_simp <;> with_reducible rfl)
  try simp only [Act.put, List.setIfInBounds_toArray, List.set_cons_zero, List.set_cons_succ]
  refine' Till.take 1 rfl (by kernel_rfl) (by kernel_rfl) (by kernel_rfl) (by kernel_rfl) (fun _ _ _ h => h) (Or.inl ⟨by rfl, ?_⟩) (by assumption) ?_
  rotate_left
  · (intro w hSw; (try dsimp only at hSw); go_simp <;> with_reducible rfl)
  try simp only [Act.put, List.setIfInBounds_toArray, List.set_cons_zero, List.set_cons_succ]
  refine' Till.take 2 rfl (by kernel_rfl) (by kernel_rfl) (by kernel_rfl) (by kernel_rfl) (fun _ _ _ h => h) (Or.inl ⟨by rfl, ?_⟩) (by assumption) ?_
  rotate_left
  · (intro w hSw; (try dsimp only at hSw); go_simp <;> with_reducible rfl)
  try simp only [Act.put, List.setIfInBounds_toArray, List.set_cons_zero, List.set_cons_succ]
  refine' Till.take 3 rfl (by kernel_rfl) (by kernel_rfl) (by kernel_rfl) (by kernel_rfl) (fun _ _ _ h => h) (Or.inl ⟨by rfl, ?_⟩) (by assumption) ?_
  rotate_left
  · (intro w hSw; (try dsimp only at hSw); go_simp <;> with_reducible rfl)
  try simp only [Act.put, List.setIfInBounds_toArray, List.set_cons_zero, List.set_cons_succ]
  refine' Till.take 4 rfl (by kernel_rfl) (by kernel_rfl) (by kernel_rfl) (by kernel_rfl) (fun _ _ _ h => h) (Or.inl ⟨by rfl, ?_⟩) (by assumption) ?_
  rotate_left
  · (intro w hSw; (try dsimp only at hSw); go_simp <;> with_reducible rfl)
  try simp only [Act.put, List.setIfInBounds_toArray, List.set_cons_zero, List.set_cons_succ]
  refine' Till.take 5 rfl (by kernel_rfl) (by kernel_rfl) (by kernel_rfl) (by kernel_rfl) (fun _ _ _ h => h) (Or.inl ⟨by rfl, ?_⟩) (by assumption) ?_
  rotate_left
  · (intro w hSw; (try dsimp only at hSw); go_simp <;> with_reducible rfl)
  try simp only [Act.put, List.setIfInBounds_toArray, List.set_cons_zero, List.set_cons_succ]
  refine Till.one 6 (by kernel_rfl) rfl (fun K hK => ?_)
  go_simp
  go_at_call 60
  refine (HC.out _ hbd).mono ?_
  rintro e w2 ⟨rfl, hb2⟩
  have hbw2 : Below w0.heap.size w0 w2 := hbd.trans (hb2.mono hbd.size)
  obtain ⟨-, y0, y1, y2, -⟩ := HA.out _ hbw2
  refine hK.out _ _ ⟨y0, y2⟩ (fun hHeld => ?_)
  clear hK K
  try simp only [Act.put, List.setIfInBounds_toArray, List.set_cons_zero, List.set_cons_succ]
  refine Till.one 7 (by kernel_rfl) rfl (fun K hK => ?_)
  go_simp
  refine hK.out _ _ hHeld (fun hHeld => ?_)
  clear hK K
  try simp only [Act.put, List.setIfInBounds_toArray, List.set_cons_zero, List.set_cons_succ]
  refine' Till.take 8 rfl (by kernel_rfl) (by kernel_rfl) (by kernel_rfl) (by kernel_rfl) (fun _ _ _ h => h) (Or.inl ⟨by rfl, ?_⟩) (by assumption) ?_
  rotate_left
  · (intro w hSw; (try dsimp only at hSw); go_simp <;> with_reducible rfl)
  try simp only [Act.put, List.setIfInBounds_toArray, List.set_cons_zero, List.set_cons_succ]
  refine' Till.take 9 rfl (by kernel_rfl) (by kernel_rfl) (by kernel_rfl) (by kernel_rfl) (fun _ _ _ h => h) (Or.inl ⟨by rfl, ?_⟩) (by assumption) ?_
  rotate_left
  · (intro w hSw; (try dsimp only at hSw); go_simp <;> with_reducible rfl)
  try simp only [Act.put, List.setIfInBounds_toArray, List.set_cons_zero, List.set_cons_succ]
  refine Till.one 10 (by kernel_rfl) rfl (fun K hK => ?_)
  go_simp
  refine hK.out _ _ hHeld (fun hHeld => ?_)
  clear hK K
  try simp only [Act.put, List.setIfInBounds_toArray, List.set_cons_zero, List.set_cons_succ]
  refine Till.last (by kernel_rfl) (by kernel_rfl) rfl (fun K hK => ?_)
  go_simp
  refine hK.out _ _ ?_
  clear hK K
  try simp only [Act.put, List.setIfInBounds_toArray, List.set_cons_zero, List.set_cons_succ]
  refine NoPanic.normal ?_
  clear hHeld
  clear hHeld
  clear hHeld
  clear hHeld
  clear HC z0 z1 z3 z4 z6 c0 c1
  have hbd2 : Below w0.heap.size w0 w2.drew := ⟨hbw2.os, hbw2.tape, hbw2.output, hbw2.size, hbw2.block⟩
  go_wp2_with fail
  refine wp_region_noPanic ?_
  refine Till.start 11 (S := fun u => u.cell? ⟨gb, 1, none⟩ = some (.pointer (some ⟨gp, 0, none⟩)) ∧ u.cell? ⟨w.heap.size, 1, none⟩ = some (.string nm)) (by kernel_rfl) ⟨y1, y2⟩ (fun hHeld => ?_)
  refine' Till.take 0 rfl (by kernel_rfl) (by kernel_rfl) (by kernel_rfl) (by kernel_rfl) (fun _ _ _ h => h) (Or.inl ⟨by rfl, ?_⟩) (by assumption) ?_
  rotate_left
  · (intro w hSw; (try dsimp only at hSw); go_simp <;> with_reducible rfl)
  try simp only [Act.put, List.setIfInBounds_toArray, List.set_cons_zero, List.set_cons_succ]
  refine' Till.take 1 rfl (by kernel_rfl) (by kernel_rfl) (by kernel_rfl) (by kernel_rfl) (fun _ _ _ h => h) (Or.inl ⟨by rfl, ?_⟩) (by assumption) ?_
  rotate_left
  · (intro w hSw; (try dsimp only at hSw); go_simp <;> with_reducible rfl)
  try simp only [Act.put, List.setIfInBounds_toArray, List.set_cons_zero, List.set_cons_succ]
  refine' Till.take 2 rfl (by kernel_rfl) (by kernel_rfl) (by kernel_rfl) (by kernel_rfl) (fun _ _ _ h => h) (Or.inl ⟨by rfl, ?_⟩) (by assumption) ?_
  rotate_left
  · (intro w hSw; (try dsimp only at hSw); go_simp <;> with_reducible rfl)
  try simp only [Act.put, List.setIfInBounds_toArray, List.set_cons_zero, List.set_cons_succ]
  refine' Till.take 3 rfl (by kernel_rfl) (by kernel_rfl) (by kernel_rfl) (by kernel_rfl) (fun _ _ _ h => h) (Or.inl ⟨by rfl, ?_⟩) (by assumption) ?_
  rotate_left
  · (intro w hSw; (try dsimp only at hSw); go_simp <;> with_reducible rfl)
  try simp only [Act.put, List.setIfInBounds_toArray, List.set_cons_zero, List.set_cons_succ]
  refine' Till.take 4 rfl (by kernel_rfl) (by kernel_rfl) (by kernel_rfl) (by kernel_rfl) (fun _ _ _ h => h) (Or.inl ⟨by rfl, ?_⟩) (by assumption) ?_
  rotate_left
  · (intro w hSw; (try dsimp only at hSw); go_simp <;> with_reducible rfl)
  try simp only [Act.put, List.setIfInBounds_toArray, List.set_cons_zero, List.set_cons_succ]
  refine' Till.take 5 rfl (by kernel_rfl) (by kernel_rfl) (by kernel_rfl) (by kernel_rfl) (fun _ _ _ h => h) (Or.inl ⟨by rfl, ?_⟩) (by assumption) ?_
  rotate_left
  · (intro w hSw; (try dsimp only at hSw); go_simp <;> with_reducible rfl)
  try simp only [Act.put, List.setIfInBounds_toArray, List.set_cons_zero, List.set_cons_succ]
  refine Till.one 6 (by kernel_rfl) rfl (fun K hK => ?_)
  go_simp
  go_at_call 61
  refine (HRC.out _ hbd2).mono ?_
  rintro e w3 ⟨rfl, hb3⟩
  have hbw3 : Below w0.heap.size w0 w3 := hbd2.trans (hb3.mono hbd2.size)
  obtain ⟨-, x0, x1, x2, -⟩ := HA.out _ hbw3
  refine hK.out _ _ ⟨x1, x2⟩ (fun hHeld => ?_)
  clear hK K
  try simp only [Act.put, List.setIfInBounds_toArray, List.set_cons_zero, List.set_cons_succ]
  refine Till.one 7 (by kernel_rfl) rfl (fun K hK => ?_)
  go_simp
  refine hK.out _ _ hHeld (fun hHeld => ?_)
  clear hK K
  try simp only [Act.put, List.setIfInBounds_toArray, List.set_cons_zero, List.set_cons_succ]
  refine' Till.take 8 rfl (by kernel_rfl) (by kernel_rfl) (by kernel_rfl) (by kernel_rfl) (fun _ _ _ h => h) (Or.inl ⟨by rfl, ?_⟩) (by assumption) ?_
  rotate_left
  · (intro w hSw; (try dsimp only at hSw); go_simp <;> with_reducible rfl)
  try simp only [Act.put, List.setIfInBounds_toArray, List.set_cons_zero, List.set_cons_succ]
  refine' Till.take 9 rfl (by kernel_rfl) (by kernel_rfl) (by kernel_rfl) (by kernel_rfl) (fun _ _ _ h => h) (Or.inl ⟨by rfl, ?_⟩) (by assumption) ?_
  rotate_left
  · (intro w hSw; (try dsimp only at hSw); go_simp <;> with_reducible rfl)
  try simp only [Act.put, List.setIfInBounds_toArray, List.set_cons_zero, List.set_cons_succ]
  refine Till.one 10 (by kernel_rfl) rfl (fun K hK => ?_)
  go_simp
  refine hK.out _ _ hHeld (fun hHeld => ?_)
  clear hK K
  try simp only [Act.put, List.setIfInBounds_toArray, List.set_cons_zero, List.set_cons_succ]
  refine Till.last (by kernel_rfl) (by kernel_rfl) rfl (fun K hK => ?_)
  go_simp
  refine hK.out _ _ ?_
  clear hK K
  try simp only [Act.put, List.setIfInBounds_toArray, List.set_cons_zero, List.set_cons_succ]
  refine NoPanic.normal ?_
  clear hHeld
  clear hHeld
  clear hHeld
  clear hHeld
  have HF : Hid (Below w.heap.size w w3) := HB0.out.trans (hbw3.mono HB0.out.size)
  clear HRC HA y0 y1 y2 x0 x1 x2 hbw2 hbw3 hbd2 hb2 hb3
  have hzz : decide (E = E) = true := by simp
  have hnn : decide ((N : Int) = (N : Int)) = true := by simp
  go_wp2
  go_ret
  exact ⟨by first | rfl | simp, HF.out⟩
end Go.Proofs.YthcnhjmkcekdaaaGreat
