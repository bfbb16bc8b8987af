import Derived.Test.YtjhbaplnkigifaaQk24
/-! keydir: the law's world, one list more. -/
namespace Go.Proofs.Ytjhbaplnkigifaa
open Go.RowKit Plain
set_option linter.unusedVariables false
set_option linter.unusedSimpArgs false

theorem DW.freeW {D D' S : Nat → Prop} {w w' : World} {ps : List Dp} (h : DW D w ps) (hc : Chg S w w') (hS : ∀ g, S g → D g) (hn : ∀ g, S g → ∀ i, i < ps.length → ¬ (ps.getD i Dp.zero).own g) (h1 : ∀ g, D g → D' g) (h2 : ∀ g, D' g → D g ∨ (w.heap.size ≤ g ∧ g < w'.heap.size)) : DW D' w' ps := by
  refine ⟨fun g hg => ?_, fun i hi => ?_, h.ap⟩
  · rcases h2 g hg with e | e
    · exact Nat.lt_of_lt_of_le (h.bnd g e) hc.size
    · exact e.2
  · have hw := (h.pr i hi).widen h1 (fun g hg => (h2 g hg).imp id (fun e => e.1))
    exact hw.kept hc.size (fun g hg => hc.block g (hw.lt g hg) (fun hs => hn g hs i hi hg)) (fun g hg hd => hc.block g hg (fun hs => hd (h1 g (hS g hs))))
theorem WdAt.more {D D' : Nat → Prop} {w w' : World} {gw : Nat} {vd vx vl : Value} {rd rx rl : Option Nat} {ps : List Dp} {hs : List Ho} (h : WdAt D w gw vd vx vl rd rx rl ps hs) (hb : Below w.heap.size w w') (h1 : ∀ g, D g → D' g) (h2 : ∀ g, D' g → D g ∨ (w.heap.size ≤ g ∧ g < w'.heap.size)) : WdAt D' w' gw vd vx vl rd rx rl ps hs :=
  h.kept hb.size (fun g hg => hb.block g (h.lt g hg)) (h.dw.more hb h1 h2) h1 rfl rfl h.notp
theorem ho_lt {hs : List Ho} {k : Nat} (x : Ho) (h : k < hs.length) : (hs ++ [x]).getD k Ho.zero = hs.getD k Ho.zero := by
  rw [List.getD_eq_getElem?_getD, List.getD_eq_getElem?_getD, List.getElem?_append_left h]
theorem ho_eq {hs : List Ho} (x : Ho) : (hs ++ [x]).getD hs.length Ho.zero = x := by
  rw [List.getD_eq_getElem?_getD, List.getElem?_append_right (Nat.le_refl _)]
  simp
/-- A list more, which came behind w. -/
theorem WdAt.keep {D : Nat → Prop} {w u w' : World} {gw : Nat} {vd vx vl vl' v : Value} {rd rx rl rl' r : Option Nat} {ps : List Dp} {hs : List Ho} {n : Nat} (h : WdAt D w gw vd vx vl rd rx rl ps hs) (hb : Below w.heap.size w u) (hr : ∀ g, r = some g → w.heap.size ≤ g ∧ g < u.heap.size)
    (hcell : w'.cell? ⟨gw, 2, none⟩ = some vl' ∧ w'.frozen? ⟨gw, 2, none⟩ = false ∧ (∀ j, j ≠ 2 → w'.cell? ⟨gw, j, none⟩ = u.cell? ⟨gw, j, none⟩ ∧ w'.frozen? ⟨gw, j, none⟩ = u.frozen? ⟨gw, j, none⟩)) (hl : LsAt w' vl' (hs ++ [⟨v, n, r⟩]) rl') (hc : Chg (keepS gw rl r) u w') (hn : rl' = rl ∨ ∀ g, rl' = some g → u.heap.size ≤ g) :
    ∃ D', Fr3 D D' (WOwn gw rd rx rl ps hs) (WOwn gw rd rx rl' ps (hs ++ [⟨v, n, r⟩])) w w' ∧ WdAt D' w' gw vd vx vl' rd rx rl' ps (hs ++ [⟨v, n, r⟩]) := by
  have hlt : ∀ g, LawB gw rd rx rl hs g → g < w.heap.size := h.lt
  have h1 : WdAt (fun g => D g ∨ r = some g) u gw vd vx vl rd rx rl ps hs := h.more hb (fun g hg => .inl hg) (fun g hg => hg.imp id (fun e => hr g e))
  have hsz := hb.size
  have hrl' : ∀ g, rl' = some g → rl = some g ∨ (u.heap.size ≤ g ∧ g < w'.heap.size) := fun g e => hn.imp (fun e2 => by rw [← e2]; exact e) (fun hh => ⟨hh g e, by subst e; exact hl.row.lt⟩)
  have hS : ∀ g, keepS gw rl r g → D g ∨ r = some g := fun g hg => by
    rcases hg with e | e | e
    · exact .inl (h.inD g (.inl e))
    · exact .inl (h.inD g (.inr (.inr (.inr (.inl e)))))
    · exact .inr e
  have hSn : ∀ g, keepS gw rl r g → ∀ i, i < ps.length → ¬ (ps.getD i Dp.zero).own g := fun g hg i hi ho => by
    rcases hg with e | e | e
    · exact h.notp g (.inl e) i hi ho
    · exact h.notp g (.inr (.inr (.inr (.inl e)))) i hi ho
    · have := (h.dw.pr i hi).lt g ho; have := (hr g e).1; omega
  have hdw : DW (fun g => (D g ∨ r = some g) ∨ rl' = some g) w' ps := h1.dw.freeW hc hS hSn (fun g hg => .inl hg) (fun g hg => hg.elim .inl (fun e => by
    rcases hrl' g e with e2 | e2
    · exact .inl (.inl (h.inD g (.inr (.inr (.inr (.inl e2))))))
    · exact .inr e2))
  have hkd : ∀ g, rd = some g → w'.heap[g]? = u.heap[g]? := fun g e => hc.block g (by have := hlt g (.inr (.inl e)); omega) (fun hs' => by
    rcases hs' with q | q | q
    · exact h.sep.d (by rw [e, q])
    · exact (h.sep.dl g q).1 e
    · have := (hr g q).1; have := hlt g (.inr (.inl e)); omega)
  have hkx : ∀ g, rx = some g → w'.heap[g]? = u.heap[g]? := fun g e => hc.block g (by have := hlt g (.inr (.inr (.inl e))); omega) (fun hs' => by
    rcases hs' with q | q | q
    · exact h.sep.x (by rw [e, q])
    · exact (h.sep.dl g q).2.1 e
    · have := (hr g q).1; have := hlt g (.inr (.inr (.inl e))); omega)
  have hsp : ∀ k, k < (hs ++ [(⟨v, n, r⟩ : Ho)]).length → k < hs.length ∨ k = hs.length := fun k hk => by simp at hk; omega
  have hlaw : ∀ g, LawB gw rd rx rl' (hs ++ [⟨v, n, r⟩]) g → LawB gw rd rx rl hs g ∨ r = some g ∨ (rl' = some g ∧ u.heap.size ≤ g) := fun g hg => by
    rcases hg with e | e | e | e | ⟨k, hk, e⟩
    · exact .inl (.inl e)
    · exact .inl (.inr (.inl e))
    · exact .inl (.inr (.inr (.inl e)))
    · rcases hrl' g e with e2 | e2
      · exact .inl (.inr (.inr (.inr (.inl e2))))
      · exact .inr (.inr ⟨e, e2.1⟩)
    · rcases hsp k hk with q | q
      · rw [ho_lt _ q] at e
        exact .inl (.inr (.inr (.inr (.inr ⟨k, q, e⟩))))
      · rw [q, ho_eq] at e
        exact .inr (.inl e)
  have hfr : Fr3 D (fun g => (D g ∨ r = some g) ∨ rl' = some g) (WOwn gw rd rx rl ps hs) (WOwn gw rd rx rl' ps (hs ++ [⟨v, n, r⟩])) w w' := ⟨(Chg.ofBelow hb).trans' hc (fun x hs' => by
    rcases hs' with e | e | e
    · exact .inl (.inl (.inl e))
    · exact .inl (.inl (.inr (.inr (.inr (.inl e)))))
    · exact .inr (hr x e).1), fun g hg => by
    rcases hg with e | e
    · rcases hlaw g e with q | q | q
      · exact .inl (.inl q)
      · exact .inr (hr g q).1
      · exact .inr (by have := q.2; omega)
    · exact .inl (.inr e), fun g hg => by
    rcases hg with (e | e) | e
    · exact .inl e
    · exact .inr (hr g e).1
    · rcases hrl' g e with e2 | e2
      · exact .inl (h.inD g (.inr (.inr (.inr (.inl e2)))))
      · exact .inr (by omega), fun g hg => .inl (.inl hg)⟩
  refine ⟨_, hfr, (hcell.2.2 0 (by omega)).1.trans h1.c0, (hcell.2.2 1 (by omega)).1.trans h1.c1, hcell.1, fun j => ?_, h1.rowd.of_block hc.size hkd, h1.rowx.of_block hc.size hkx, hl, hdw, fun g hg => ?_, fun g hg i hi ho => ?_, h.some2, ?_⟩
  · by_cases e : j = 2
    · rw [e]; exact hcell.2.1
    · exact (hcell.2.2 j e).2.trans (h1.fz j)
  · rcases hlaw g hg with e | e | e
    · exact .inl (.inl (h.inD g e))
    · exact .inl (.inr e)
    · exact .inr e.1
  · have hol := (h.dw.pr i hi).lt g ho
    rcases hlaw g hg with e | e | e
    · exact h.notp g e i hi ho
    · have := (hr g e).1; omega
    · have := e.2; omega
  · have hrn : ∀ g, r = some g → w.heap.size ≤ g := fun g e => (hr g e).1
    have hgwl := hlt gw (.inl rfl)
    refine ⟨h.sep.d, h.sep.x, fun e => ?_, fun k hk e => ?_, h.sep.dx, fun g e => ?_, fun k hk g e => ?_⟩
    · rcases hrl' gw e with e2 | e2
      · exact h.sep.l e2
      · omega
    · rcases hsp k hk with q | q
      · rw [ho_lt _ q] at e; exact h.sep.h k q e
      · rw [q, ho_eq] at e; have := hrn gw e; omega
    · rcases hrl' g e with e2 | e2
      · have hgl := hlt g (.inr (.inr (.inr (.inl e2))))
        refine ⟨(h.sep.dl g e2).1, (h.sep.dl g e2).2.1, fun k hk e3 => ?_⟩
        rcases hsp k hk with q | q
        · rw [ho_lt _ q] at e3; exact (h.sep.dl g e2).2.2 k q e3
        · rw [q, ho_eq] at e3; have := hrn g e3; omega
      · refine ⟨fun e3 => by have := hlt g (.inr (.inl e3)); omega, fun e3 => by have := hlt g (.inr (.inr (.inl e3))); omega, fun k hk e3 => ?_⟩
        rcases hsp k hk with q | q
        · rw [ho_lt _ q] at e3; have := hlt g (.inr (.inr (.inr (.inr ⟨k, q, e3⟩)))); omega
        · rw [q, ho_eq] at e3; have := (hr g e3).2; omega
    · rcases hsp k hk with q | q
      · rw [ho_lt _ q] at e; exact h.sep.hd k q g e
      · rw [q, ho_eq] at e
        have hgn := hrn g e
        exact ⟨fun e3 => by have := hlt g (.inr (.inl e3)); omega, fun e3 => by have := hlt g (.inr (.inr (.inl e3))); omega⟩
end Go.Proofs.Ytjhbaplnkigifaa

/-! keydir: told: Range. -/
namespace Go.Proofs.Ytjhbaplnkigifaa
open Go.RowKit Plain
set_option linter.unusedVariables false
set_option linter.unusedSimpArgs false

set_option maxHeartbeats 16000000 in
set_option maxRecDepth 100000 in
theorem toldRange {D : Nat → Prop} {w : World} {gw : Nat} {vd vx vl : Value} {rd rx rl : Option Nat} {ps : List Dp} {hs : List Ho} (m : Mv) (h : WdAt D w gw vd vx vl rd rx rl ps hs) (hk : m.kind = 7) (hkey : m.key.size ≤ maxLen) (hdir : I64 m.dir) (hhi : m.hi.size ≤ maxLen) (hhs : hs.length < 2199023255000) (hok2 : ∀ i, i < ps.length → (ps.getD i Dp.zero).l.length ≤ 2199023254000) (hok : ∀ i, i < ps.length → (ps.getD i Dp.zero).l.length < 2199023255000) (hE : (Ke.r ⟨⟨#[]⟩, m.e⟩).Ok) :
    Calls Try.prog 6 #[.pointer (some ⟨gw, 0, none⟩), m.v] w fun e w' => e = .returned (.bool true) ∧ ∃ D' vl' rl' x, Fr3 D D' (WOwn gw rd rx rl ps hs) (WOwn gw rd rx rl' ps (hs ++ [x])) w w' ∧ WdAt D' w' gw vd vx vl' rd rx rl' ps (hs ++ [x]) := by
  obtain ⟨mdir, mkind, key, hi, me, lim⟩ := m
  simp only at hk hkey hdir hE hhi
  subst hk
  obtain ⟨ad, capd, e, hd1, hd2⟩ := h.rowd.shape
  obtain ⟨ax, capx, e2, hx1, hx2⟩ := h.rowx.shape
  rw [List.length_map] at e e2 hd2 hx2
  subst e e2
  obtain ⟨w0, hw0⟩ : ∃ w0, w.alloc (.cells #[.int .i64 mdir, .int .i64 7, .string key, .string hi, .int .i64 me.seg, .int .i64 me.pos, .int .i64 me.size, .int .i64 me.off, .int .i64 me.time, .bool me.tomb, .int .i64 lim] 40) = w0 := ⟨_, rfl⟩
  have hb0 : Below w.heap.size w w0 := by rw [← hw0]; exact (Below.refl _ _).alloc (Nat.le_refl _) _
  have HM0 : Hid (MvAt w0 w.heap.size ⟨mdir, 7, key, hi, me, lim⟩) := by unfold Hid; rw [← hw0]; exact MvAt.new w ⟨mdir, 7, key, hi, me, lim⟩
  have HW0 : Hid (WdAt D w0 gw (.slice ad ps.length capd) (.slice ax ps.length capx) vl rd rx rl ps hs) := h.later hb0
  have HB00 : Hid (Below w.heap.size w w0) := hb0
  have c0 := HW0.out.c0
  have c1 := HW0.out.c1
  obtain ⟨hp1, hp8⟩ := h.some2
  have HMO : Hid (∀ u, Calls Try.prog 10 #[.int .i64 mdir, .int .i64 ps.length] u fun e w' => (∃ k : Nat, k < ps.length ∧ e = .returned (.int .i64 k)) ∧ w' = u) := fun u => modOf mdir ps.length u hp1 (by omega) hdir
  have m0 := HM0.out.c 0 _ rfl
  have m1 := HM0.out.c 1 _ rfl
  have m2 := HM0.out.c 2 _ rfl
  have m4 := HM0.out.c 4 _ rfl
  have m5 := HM0.out.c 5 _ rfl
  have m6 := HM0.out.c 6 _ rfl
  have m7 := HM0.out.c 7 _ rfl
  have m8 := HM0.out.c 8 _ rfl
  have m9 := HM0.out.c 9 _ rfl
  have HDB : Hid (∀ g, D g → g < w.heap.size) := h.dw.bnd
  clear h hb0
  go_enter Try.func6, Try.ntmps6
  go_wp2
  go_region_held3 (fun w' => w'.cell? ⟨gw, 0, none⟩ = some (.slice ad ps.length capd) ∧ w'.cell? ⟨w.heap.size, 0, none⟩ = some (.int .i64 mdir)) (go_keep) (first
    | (go_at_call 10
       refine (HMO.out _).mono ?_
       rintro e w' ⟨⟨k, hkl, rfl⟩, hw'⟩
       rcases hw' with rfl))
  have hbd : Below w0.heap.size w0 w0.drew := Below.drew (Below.refl _ _)
  have HW1 : Hid (WdAt D w0.drew gw (.slice ad ps.length capd) (.slice ax ps.length capx) vl rd rx rl ps hs) := HW0.out.later hbd
  have HB01 : Hid (Below w.heap.size w w0.drew) := Below.drew HB00.out
  have HM1 : Hid (MvAt w0.drew w.heap.size ⟨mdir, 7, key, hi, me, lim⟩) := HM0.out.later hbd
  clear hbd c0 c1 m0 m1 m2 m4 m5 m6 m7 m8 m9 HW0 HM0 HMO
  generalize w0.drew = w1 at HW1 HM1 HB01 ⊢
  have c0 := HW1.out.c0
  have c1 := HW1.out.c1
  have m1 := HM1.out.c 1 _ rfl
  have m2 := HM1.out.c 2 _ rfl
  have m4 := HM1.out.c 4 _ rfl
  have m5 := HM1.out.c 5 _ rfl
  have m6 := HM1.out.c 6 _ rfl
  have m7 := HM1.out.c 7 _ rfl
  have m8 := HM1.out.c 8 _ rfl
  have m9 := HM1.out.c 9 _ rfl
  simp only at m1 m2 m4 m5 m6 m7 m8 m9
  obtain ⟨g1, g2, rfl, rfl, q1, q2⟩ := HW1.out.pick hkl
  have hki : (k : Int) < (ps.length : Int) := by omega
  have HPA : Hid (PairAt D w1 (ps.getD k Dp.zero)) := HW1.out.dw.pr k hkl
  have hll := hok k hkl
  have hll3 := hok2 k hkl
  obtain ⟨p, hp⟩ : ∃ p, ps.getD k Dp.zero = p := ⟨_, rfl⟩
  rw [hp] at q1 q2 HPA hll hll3
  have hlk : ∀ x ∈ rowK ((rngL key hi p.l).take lim.toNat), x.Ok := fun x hx => by
    obtain ⟨z, hz, rfl⟩ := List.mem_map.mp hx
    exact HPA.out.ok z (List.mem_filter.mp (List.mem_of_mem_take hz)).1
  have hll2 : (rowK ((rngL key hi p.l).take lim.toNat)).length ≤ p.l.length := by
    have : (rngL key hi p.l).length ≤ p.l.length := List.length_filter_le ..
    simp only [List.length_map, List.length_take]; omega
  obtain ⟨ST, hST⟩ : ∃ ST, rowK ((rngL key hi p.l).take lim.toNat) = ST := ⟨_, rfl⟩
  rw [hST] at hlk hll2
  have HOKS : Hid ((∀ x ∈ ST, x.Ok) ∧ ST.length ≤ 2199023254000) := ⟨hlk, by omega⟩
  have HRG : Hid (∀ u, Below w1.heap.size w1 u → Calls Try.prog 27 #[.pointer (some ⟨p.gd, 0, none⟩), .string key, .string hi, .int .i64 lim] u fun e w' => ∃ a c r, e = .returned (.slice a ST.length c) ∧ OwnKr w' (.slice a ST.length c) ST r ∧ (∀ g, r = some g → w1.heap.size ≤ g) ∧ Below w1.heap.size w1 w') := fun u hu => (rangeOf key hi lim u (HPA.out.dir.later hu) hkey hhi (by omega)).mono fun e w' ⟨v, r, a1, a2, a3, a4⟩ => by
    rw [show List.map Ke.r ((rngL key hi p.l).take lim.toNat) = ST from hST] at a2
    obtain ⟨a, c, e1, e2, e3⟩ := a2.shape
    subst e1
    exact ⟨a, c, r, a1, a2, fun g e => Nat.le_trans hu.size (a3 g e), hu.trans (a4.mono hu.size)⟩
  have HXR : Hid (∀ u, Below w1.heap.size w1 u → Calls Try.prog 29 #[.pointer (some ⟨p.gx, 0, none⟩), .string key, .string hi, .int .i64 lim] u fun e w' => ∃ v, e = .returned v ∧ KrsAt w' v ST ∧ Below w1.heap.size w1 w' ∧ Below u.heap.size u w') := fun u hu => (xrangeOf p.gx p.v p.l p.r key hi lim u (HPA.out.xd.later hu) hkey hhi).mono fun e w' ⟨v, r, a1, a2⟩ => ⟨v, a1, by
    have := a2.row
    rw [hST] at this
    exact this.recs (by have := HOKS.out.2; omega) HOKS.out.1, hu.trans (a2.below.mono hu.size), a2.below⟩
  have HSM : Hid (∀ u va vb, KrsAt u va ST → KrsAt u vb ST → Below w1.heap.size w1 u → Calls Try.prog 28 #[va, vb] u fun e w' => e = .returned (.bool true) ∧ Below w1.heap.size w1 w' ∧ Below u.heap.size u w') := fun u va vb h1 h2 hu => (sameOf va vb ST u h1 h2).mono fun e w' ⟨a1, n, a2⟩ => ⟨a1, by rw [a2]; exact below_drewN hu n, by rw [a2]; exact below_drewN (Below.refl _ _) n⟩
  have HKP : Hid (∀ u a c r, OwnKr u (.slice a ST.length c) ST r → (∀ g, r = some g → w1.heap.size ≤ g) → Below w1.heap.size w1 u → Calls Try.prog 30 #[.pointer (some ⟨gw, 0, none⟩), .slice a ST.length c] u fun e w' => (∃ x, e = .returned x) ∧ ∃ D' vl' rl' x, Fr3 D D' (WOwn gw rd rx rl ps hs) (WOwn gw rd rx rl' ps (hs ++ [x])) w w' ∧ WdAt D' w' gw (.slice (some ⟨g1, 0, none⟩) ps.length capd) (.slice (some ⟨g2, 0, none⟩) ps.length capx) vl' rd rx rl' ps (hs ++ [x])) := fun u a c r ho hrn hu => by
    have hW := HW1.out.later hu
    have hlt := HW1.out.lt
    refine (keepOf gw vl hs rl (.slice a ST.length c) ST r u hW.c2 (hW.fz 2) hW.lists ho HOKS.out.2 (fun e => by have := hrn gw e; have := hlt gw (.inl rfl); omega) hW.sep.l ?_ (fun k hk => ⟨hW.sep.h k hk, ?_, ?_⟩) hhs).mono ?_
    · cases r with
      | none => exact .inl rfl
      | some g => exact .inr (fun e => by have := hrn g rfl; have := hlt g (.inr (.inr (.inr (.inl e.symm)))); omega)
    · cases r with
      | none => exact .inl rfl
      | some g => exact .inr (fun e => by have := hrn g rfl; have := hlt g (.inr (.inr (.inr (.inr ⟨k, hk, e⟩)))); omega)
    · rcases hrl : rl with _ | g
      · exact .inl rfl
      · exact .inr (fun e => (hW.sep.dl g hrl).2.2 k hk e)
    · rintro e w' ⟨hx, vl', rl', q1, q2, q3, q4⟩
      obtain ⟨D', hfr, hD'⟩ := HW1.out.keep hu (fun g e => ⟨hrn g e, ho.lt' g e⟩) q1 q2 q3 q4
      exact ⟨hx, D', vl', rl', _, (Fr3.below HB01.out).trans hfr, hD'⟩
  have m3 := HM1.out.c 3 _ rfl
  have m10 := HM1.out.c 10 _ rfl
  simp only at m3 m10
  have HMA : Hid (∀ u, Below w1.heap.size w1 u → u.cell? ⟨w.heap.size, 2, none⟩ = some (.string key) ∧ u.cell? ⟨w.heap.size, 3, none⟩ = some (.string hi) ∧ u.cell? ⟨w.heap.size, 10, none⟩ = some (.int .i64 lim)) := fun u hu => ⟨(HM1.out.later hu).c 2 _ rfl, (HM1.out.later hu).c 3 _ rfl, (HM1.out.later hu).c 10 _ rfl⟩
  clear hp hlk hll2 hST
  go_wp2_with fail
  refine (HRG.out _ (Below.refl _ _)).mono ?_
  rintro e w3 ⟨a3, c3, r3, rfl, ho3, hr3, hb3⟩
  have hk3 : KrsAt w3 (.slice a3 ST.length c3) ST := ho3.recs (by have := HOKS.out.2; omega) HOKS.out.1
  have HO3 : Hid (OwnKr w3 (.slice a3 ST.length c3) ST r3) := ho3
  obtain ⟨e2, e3, e10⟩ := HMA.out w3 hb3
  clear ho3
  go_wp2_with fail
  refine (HXR.out _ hb3).mono ?_
  rintro e w4 ⟨v4, rfl, hk4, hb4, hb34⟩
  have hk34 := KrsAt.later hk3 hb34
  have HO4 : Hid (OwnKr w4 (.slice a3 ST.length c3) ST r3) := HO3.out.later hb34
  clear hb34 hk3 hb3
  go_wp2_with fail
  refine (HSM.out _ _ _ hk34 hk4 hb4).mono ?_
  rintro e w5 ⟨rfl, hb5, hb45⟩
  have HK5 := HKP.out w5 a3 c3 r3 (HO4.out.later hb45) hr3 hb5
  have HK6 : Hid (Calls Try.prog 30 #[.pointer (some ⟨gw, 0, none⟩), .slice a3 ST.length c3] w5 fun e w' => (∃ x, e = .returned x) ∧ ∃ D' vl' rl' x, Fr3 D D' (WOwn gw rd rx rl ps hs) (WOwn gw rd rx rl' ps (hs ++ [x])) w w' ∧ WdAt D' w' gw (.slice (some ⟨g1, 0, none⟩) ps.length capd) (.slice (some ⟨g2, 0, none⟩) ps.length capx) vl' rd rx rl' ps (hs ++ [x])) := HK5
  clear HK5 hb45 hk34 hk4 hb4
  go_wp2_with fail
  refine HK6.out.mono ?_
  rintro e w6 ⟨⟨x6, rfl⟩, hw6⟩
  have HW6 : Hid (∃ D' vl' rl' x, Fr3 D D' (WOwn gw rd rx rl ps hs) (WOwn gw rd rx rl' ps (hs ++ [x])) w w6 ∧ WdAt D' w6 gw (.slice (some ⟨g1, 0, none⟩) ps.length capd) (.slice (some ⟨g2, 0, none⟩) ps.length capx) vl' rd rx rl' ps (hs ++ [x])) := hw6
  clear hw6
  go_wp2
  go_ret
  exact ⟨by first | rfl | simp, HW6.out⟩
end Go.Proofs.Ytjhbaplnkigifaa

/-! keydir: told: a kind that is none. -/
namespace Go.Proofs.Ytjhbaplnkigifaa
open Go.RowKit Plain
set_option linter.unusedVariables false
set_option linter.unusedSimpArgs false

set_option maxHeartbeats 16000000 in
set_option maxRecDepth 100000 in
theorem toldNone {D : Nat → Prop} {w : World} {gw : Nat} {vd vx vl : Value} {rd rx rl : Option Nat} {ps : List Dp} {hs : List Ho} (m : Mv) (h : WdAt D w gw vd vx vl rd rx rl ps hs) (hk : ∀ j : Int, 0 ≤ j → j < 12 → ¬ m.kind = j) (hkey : m.key.size ≤ maxLen) (hdir : I64 m.dir) (hok : ∀ i, i < ps.length → (ps.getD i Dp.zero).l.length < 2199023255000) (hE : (Ke.r ⟨⟨#[]⟩, m.e⟩).Ok) :
    Calls Try.prog 6 #[.pointer (some ⟨gw, 0, none⟩), m.v] w fun e w' => e = .returned (.bool true) ∧ ∃ D' ps', Grew ps ps' ∧ Fr3 D D' (WOwn gw rd rx rl ps hs) (WOwn gw rd rx rl ps' hs) w w' ∧ WdAt D' w' gw vd vx vl rd rx rl ps' hs := by
  obtain ⟨mdir, mkind, key, hi, me, lim⟩ := m
  simp only at hk hkey hdir hE
  obtain ⟨ad, capd, e, hd1, hd2⟩ := h.rowd.shape
  obtain ⟨ax, capx, e2, hx1, hx2⟩ := h.rowx.shape
  rw [List.length_map] at e e2 hd2 hx2
  subst e e2
  obtain ⟨w0, hw0⟩ : ∃ w0, w.alloc (.cells #[.int .i64 mdir, .int .i64 mkind, .string key, .string hi, .int .i64 me.seg, .int .i64 me.pos, .int .i64 me.size, .int .i64 me.off, .int .i64 me.time, .bool me.tomb, .int .i64 lim] 40) = w0 := ⟨_, rfl⟩
  have hb0 : Below w.heap.size w w0 := by rw [← hw0]; exact (Below.refl _ _).alloc (Nat.le_refl _) _
  have HM0 : Hid (MvAt w0 w.heap.size ⟨mdir, mkind, key, hi, me, lim⟩) := by unfold Hid; rw [← hw0]; exact MvAt.new w ⟨mdir, mkind, key, hi, me, lim⟩
  have HW0 : Hid (WdAt D w0 gw (.slice ad ps.length capd) (.slice ax ps.length capx) vl rd rx rl ps hs) := h.later hb0
  have HB00 : Hid (Below w.heap.size w w0) := hb0
  have c0 := HW0.out.c0
  have c1 := HW0.out.c1
  obtain ⟨hp1, hp8⟩ := h.some2
  have HMO : Hid (∀ u, Calls Try.prog 10 #[.int .i64 mdir, .int .i64 ps.length] u fun e w' => (∃ k : Nat, k < ps.length ∧ e = .returned (.int .i64 k)) ∧ w' = u) := fun u => modOf mdir ps.length u hp1 (by omega) hdir
  have m0 := HM0.out.c 0 _ rfl
  have m1 := HM0.out.c 1 _ rfl
  have m2 := HM0.out.c 2 _ rfl
  have m4 := HM0.out.c 4 _ rfl
  have m5 := HM0.out.c 5 _ rfl
  have m6 := HM0.out.c 6 _ rfl
  have m7 := HM0.out.c 7 _ rfl
  have m8 := HM0.out.c 8 _ rfl
  have m9 := HM0.out.c 9 _ rfl
  have HDB : Hid (∀ g, D g → g < w.heap.size) := h.dw.bnd
  clear h hb0
  go_enter Try.func6, Try.ntmps6
  go_wp2
  go_region_held3 (fun w' => w'.cell? ⟨gw, 0, none⟩ = some (.slice ad ps.length capd) ∧ w'.cell? ⟨w.heap.size, 0, none⟩ = some (.int .i64 mdir)) (go_keep) (first
    | (go_at_call 10
       refine (HMO.out _).mono ?_
       rintro e w' ⟨⟨k, hkl, rfl⟩, hw'⟩
       rcases hw' with rfl))
  have hbd : Below w0.heap.size w0 w0.drew := Below.drew (Below.refl _ _)
  have HW1 : Hid (WdAt D w0.drew gw (.slice ad ps.length capd) (.slice ax ps.length capx) vl rd rx rl ps hs) := HW0.out.later hbd
  have HB01 : Hid (Below w.heap.size w w0.drew) := Below.drew HB00.out
  have HM1 : Hid (MvAt w0.drew w.heap.size ⟨mdir, mkind, key, hi, me, lim⟩) := HM0.out.later hbd
  clear hbd c0 c1 m0 m1 m2 m4 m5 m6 m7 m8 m9 HW0 HM0 HMO
  generalize w0.drew = w1 at HW1 HM1 HB01 ⊢
  have c0 := HW1.out.c0
  have c1 := HW1.out.c1
  have m1 := HM1.out.c 1 _ rfl
  have m2 := HM1.out.c 2 _ rfl
  have m4 := HM1.out.c 4 _ rfl
  have m5 := HM1.out.c 5 _ rfl
  have m6 := HM1.out.c 6 _ rfl
  have m7 := HM1.out.c 7 _ rfl
  have m8 := HM1.out.c 8 _ rfl
  have m9 := HM1.out.c 9 _ rfl
  simp only at m1 m2 m4 m5 m6 m7 m8 m9
  obtain ⟨g1, g2, rfl, rfl, q1, q2⟩ := HW1.out.pick hkl
  have hki : (k : Int) < (ps.length : Int) := by omega
  have HPA : Hid (PairAt D w1 (ps.getD k Dp.zero)) := HW1.out.dw.pr k hkl
  have hll := hok k hkl
  have HFI : Hid (∀ w7, Below w1.heap.size w1 w7 → ∃ D' ps', Grew ps ps' ∧ Fr3 D D' (WOwn gw rd rx rl ps hs) (WOwn gw rd rx rl ps' hs) w w7 ∧ WdAt D' w7 gw (.slice (some ⟨g1, 0, none⟩) ps.length capd) (.slice (some ⟨g2, 0, none⟩) ps.length capx) vl rd rx rl ps' hs) := fun w7 hw7 => ⟨D, ps, Grew.refl ps, Fr3.below (HB01.out.trans (hw7.mono HB01.out.size)), HW1.out.later hw7⟩
  obtain ⟨p, hp⟩ : ∃ p, ps.getD k Dp.zero = p := ⟨_, rfl⟩
  rw [hp] at q1 q2 HPA hll
  have hb0 : (mkind == 0) = false := by have := hk 0 (by omega) (by omega); simpa using this
  have hb1 : (mkind == 1) = false := by have := hk 1 (by omega) (by omega); simpa using this
  have hb2 : (mkind == 2) = false := by have := hk 2 (by omega) (by omega); simpa using this
  have hb3 : (mkind == 3) = false := by have := hk 3 (by omega) (by omega); simpa using this
  have hb4 : (mkind == 4) = false := by have := hk 4 (by omega) (by omega); simpa using this
  have hb5 : (mkind == 5) = false := by have := hk 5 (by omega) (by omega); simpa using this
  have hb6 : (mkind == 6) = false := by have := hk 6 (by omega) (by omega); simpa using this
  have hb7 : (mkind == 7) = false := by have := hk 7 (by omega) (by omega); simpa using this
  have hb8 : (mkind == 8) = false := by have := hk 8 (by omega) (by omega); simpa using this
  have hb9 : (mkind == 9) = false := by have := hk 9 (by omega) (by omega); simpa using this
  have hb10 : (mkind == 10) = false := by have := hk 10 (by omega) (by omega); simpa using this
  have hb11 : (mkind == 11) = false := by have := hk 11 (by omega) (by omega); simpa using this
  clear hp
  go_wp2
  go_ret
  exact ⟨by first | rfl | simp, HFI.out _ (Below.refl _ _)⟩
end Go.Proofs.Ytjhbaplnkigifaa

/-! keydir: the law's world, one pair of dirs more. -/
namespace Go.Proofs.Ytjhbaplnkigifaa
open Go.RowKit Plain
set_option linter.unusedVariables false
set_option linter.unusedSimpArgs false

def pushS (gw : Nat) (rd rx : Option Nat) (g : Nat) : Prop := g = gw ∨ rd = some g ∨ rx = some g
theorem WdAt.push {D : Nat → Prop} {w w3 w' : World} {gw : Nat} {vd vx vl vd' vx' v' : Value} {rd rx rl rd' rx' r' : Option Nat} {ps : List Dp} {hs : List Ho} {gd' gx' : Nat} {l : List Ke} (h : WdAt D w gw vd vx vl rd rx rl ps hs) (hb3 : Below w.heap.size w w3) (hgd : w.heap.size ≤ gd' ∧ gd' < w3.heap.size)
    (hd : DirAt (fun g => D g ∨ g = gd') w3 gd' l) (hc : Chg (pushS gw rd rx) w3 w') (hx : XDirAt w' gx' v' l r') (hgx : w3.heap.size ≤ gx') (hr : ∀ g, r' = some g → w3.heap.size ≤ g) (ha : AllK l) (hok : ∀ k ∈ l, k.r.Ok)
    (c0 : w'.cell? ⟨gw, 0, none⟩ = some vd') (c1 : w'.cell? ⟨gw, 1, none⟩ = some vx') (c2 : w'.cell? ⟨gw, 2, none⟩ = some vl) (fz : ∀ j, w'.frozen? ⟨gw, j, none⟩ = false)
    (hrd : OwnV w' vd' (ps.map ptrD ++ [.pointer (some ⟨gd', 0, none⟩)]) rd') (hrx : OwnV w' vx' (ps.map ptrX ++ [.pointer (some ⟨gx', 0, none⟩)]) rx')
    (hnd : ∀ g, rd' = some g → rd = some g ∨ (w3.heap.size ≤ g ∧ g < w'.heap.size ∧ g ≠ gx' ∧ r' ≠ some g)) (hnx : ∀ g, rx' = some g → rx = some g ∨ (w3.heap.size ≤ g ∧ g < w'.heap.size ∧ g ≠ gx' ∧ r' ≠ some g)) (hdx : ∀ g, rd' = some g → rx' ≠ some g) (hn : ps.length < 8) :
    ∃ D', Fr3 D D' (WOwn gw rd rx rl ps hs) (WOwn gw rd' rx' rl (ps ++ [⟨gd', gx', v', r', l⟩]) hs) w w' ∧ WdAt D' w' gw vd' vx' vl rd' rx' rl (ps ++ [⟨gd', gx', v', r', l⟩]) hs := by
  have hsz := hb3.size
  have hsz2 := hc.size
  have hlt := h.lt
  have hgxl := hx.lt
  have hrlt : ∀ g, r' = some g → g < w'.heap.size := hx.row.lt'
  obtain ⟨D', hD'⟩ : ∃ D' : Nat → Prop, D' = fun g => D g ∨ g = gd' ∨ g = gx' ∨ r' = some g ∨ rd' = some g ∨ rx' = some g := ⟨_, rfl⟩
  have hin : ∀ g, D g → D' g := fun g hg => by rw [hD']; exact .inl hg
  have hout : ∀ g, D' g → D g ∨ (w.heap.size ≤ g ∧ g < w'.heap.size) := fun g hg => by
    rw [hD'] at hg
    rcases hg with e | e | e | e | e | e
    · exact .inl e
    · exact .inr (by omega)
    · exact .inr (by omega)
    · exact .inr (by have := hr g e; have := hrlt g e; omega)
    · rcases hnd g e with q | q
      · exact .inl (h.inD g (.inr (.inl q)))
      · exact .inr (by omega)
    · rcases hnx g e with q | q
      · exact .inl (h.inD g (.inr (.inr (.inl q))))
      · exact .inr (by omega)
  have hS : ∀ g, pushS gw rd rx g → LawB gw rd rx rl hs g := fun g hg => by
    rcases hg with e | e | e
    · exact .inl e
    · exact .inr (.inl e)
    · exact .inr (.inr (.inl e))
  have hblk : ∀ g, g < w.heap.size → ¬ pushS gw rd rx g → w'.heap[g]? = w.heap[g]? := fun g hl hs' => (hc.block g (by omega) hs').trans (hb3.block g hl)
  have hcw : Chg (pushS gw rd rx) w w' := (Chg.ofBelow hb3).trans hc
  have hdw0 : DW D' w' ps := h.dw.freeW hcw (fun g hg => h.inD g (hS g hg)) (fun g hg i hi => h.notp g (hS g hg) i hi) hin hout
  have hgdS : ¬ pushS gw rd rx gd' := fun hs' => by have := hlt gd' (hS gd' hs'); omega
  have hpair : PairAt D' w' ⟨gd', gx', v', r', l⟩ := by
    have hw3 : DirAt D' w3 gd' l := hd.widen (fun g hg => by rw [hD']; exact hg.elim .inl (fun e => .inr (.inl e))) (fun g hg => by
      rw [hD'] at hg
      rcases hg with e | e | e | e | e | e
      · exact .inl (.inl e)
      · exact .inl (.inr e)
      · exact .inr (by omega)
      · exact .inr (hr g e)
      · rcases hnd g e with q | q
        · exact .inl (.inl (h.inD g (.inr (.inl q))))
        · exact .inr q.1
      · rcases hnx g e with q | q
        · exact .inl (.inl (h.inD g (.inr (.inr (.inl q)))))
        · exact .inr q.1)
    refine ⟨hw3.kept (hc.block gd' hgd.2 hgdS) (fun g hl hnd' => hc.block g hl (fun hs' => hnd' (hin g (h.inD g (hS g hs'))))), hx, fun g hg => ?_, ⟨fun e => ?_, fun e => ?_⟩, ha, hok⟩
    · rw [hD']
      rcases hg with e | e | e
      · exact .inr (.inl e)
      · exact .inr (.inr (.inl e))
      · exact .inr (.inr (.inr (.inl e)))
    · have e' : gd' = gx' := e
      omega
    · have := hr gd' e; omega
  have hold : ∀ i, i < ps.length → ∀ g, (ps.getD i Dp.zero).own g → g < w.heap.size := fun i hi => (h.dw.pr i hi).lt
  have hnew : ∀ g, (⟨gd', gx', v', r', l⟩ : Dp).own g → w.heap.size ≤ g := fun g hg => by
    rcases hg with e | e | e
    · have e' : g = gd' := e; omega
    · have e' : g = gx' := e; omega
    · have := hr g e; omega
  have hdw : DW D' w' (ps ++ [⟨gd', gx', v', r', l⟩]) := hdw0.push hpair (fun i hi g hg hg2 => by have := hold i hi g hg; have := hnew g hg2; omega)
  have hlaw : ∀ g, LawB gw rd' rx' rl hs g → LawB gw rd rx rl hs g ∨ (w3.heap.size ≤ g ∧ g < w'.heap.size ∧ g ≠ gx' ∧ r' ≠ some g ∧ (rd' = some g ∨ rx' = some g)) := fun g hg => by
    rcases hg with e | e | e | e | e
    · exact .inl (.inl e)
    · rcases hnd g e with q | q
      · exact .inl (.inr (.inl q))
      · exact .inr ⟨q.1, q.2.1, q.2.2.1, q.2.2.2, .inl e⟩
    · rcases hnx g e with q | q
      · exact .inl (.inr (.inr (.inl q)))
      · exact .inr ⟨q.1, q.2.1, q.2.2.1, q.2.2.2, .inr e⟩
    · exact .inl (.inr (.inr (.inr (.inl e))))
    · exact .inl (.inr (.inr (.inr (.inr e))))
  have hsplit : ∀ i, i < (ps ++ [(⟨gd', gx', v', r', l⟩ : Dp)]).length → i < ps.length ∨ i = ps.length := fun i hi => by simp at hi; omega
  have hlist : LsAt w' vl hs rl := h.lists.of_block (by omega) (fun g hg => hblk g (hlt g (hg.elim (fun e => .inr (.inr (.inr (.inl e)))) (fun e => .inr (.inr (.inr (.inr e)))))) (fun hs' => by
    rcases hs' with q | q | q
    · rcases hg with e | ⟨k, hk, e⟩
      · exact h.sep.l (by rw [e, q])
      · exact h.sep.h k hk (by rw [e, q])
    · rcases hg with e | ⟨k, hk, e⟩
      · exact (h.sep.dl g e).1 q
      · exact (h.sep.hd k hk g e).1 q
    · rcases hg with e | ⟨k, hk, e⟩
      · exact (h.sep.dl g e).2.1 q
      · exact (h.sep.hd k hk g e).2 q))
  have hgwl := hlt gw (.inl rfl)
  have hfr : Fr3 D D' (WOwn gw rd rx rl ps hs) (WOwn gw rd' rx' rl (ps ++ [⟨gd', gx', v', r', l⟩]) hs) w w' := ⟨hcw.mono (fun g hg => .inl (hS g hg)), fun g hg => by
    rcases hg with e | ⟨i, hi, ho⟩
    · rcases hlaw g e with q | q
      · exact .inl (.inl q)
      · exact .inr (by omega)
    · rcases hsplit i hi with e | e
      · rw [getD_app_lt _ e] at ho
        exact .inl (.inr ⟨i, e, ho⟩)
      · rw [e, getD_app_eq] at ho
        exact .inr (hnew g ho), fun g hg => (hout g hg).imp id (fun e => e.1), hin⟩
  refine ⟨D', hfr, c0, c1, c2, fz, by rw [List.map_append]; exact hrd, by rw [List.map_append]; exact hrx, hlist, hdw, fun g hg => ?_, fun g hg i hi ho => ?_, by have := h.some2; simp; omega, ?_⟩
  · rcases hlaw g hg with e | e
    · exact hin g (h.inD g e)
    · rw [hD']
      exact e.2.2.2.2.elim (fun q => .inr (.inr (.inr (.inr (.inl q))))) (fun q => .inr (.inr (.inr (.inr (.inr q)))))
  · rcases hsplit i hi with e | e
    · rw [getD_app_lt _ e] at ho
      have := hold i e g ho
      rcases hlaw g hg with q | q
      · exact h.notp g q i e ho
      · omega
    · rw [e, getD_app_eq] at ho
      have hge := hnew g ho
      rcases hlaw g hg with q | q
      · have := hlt g q; omega
      · rcases ho with e2 | e2 | e2
        · have e' : g = gd' := e2; omega
        · exact q.2.2.1 e2
        · exact q.2.2.2.1 e2
  · have hl0 : ∀ g, rl = some g → g < w.heap.size := fun g e => hlt g (.inr (.inr (.inr (.inl e))))
    have hh0 : ∀ k, k < hs.length → ∀ g, (hs.getD k Ho.zero).r = some g → g < w.heap.size := fun k hk g e => hlt g (.inr (.inr (.inr (.inr ⟨k, hk, e⟩))))
    refine ⟨fun e => ?_, fun e => ?_, h.sep.l, h.sep.h, hdx, fun g e => ⟨fun e2 => ?_, fun e2 => ?_, (h.sep.dl g e).2.2⟩, fun k hk g e => ⟨fun e2 => ?_, fun e2 => ?_⟩⟩
    · rcases hnd gw e with q | q
      · exact h.sep.d q
      · omega
    · rcases hnx gw e with q | q
      · exact h.sep.x q
      · omega
    · have := hl0 g e
      rcases hnd g e2 with q | q
      · exact (h.sep.dl g e).1 q
      · omega
    · have := hl0 g e
      rcases hnx g e2 with q | q
      · exact (h.sep.dl g e).2.1 q
      · omega
    · have := hh0 k hk g e
      rcases hnd g e2 with q | q
      · exact (h.sep.hd k hk g e).1 q
      · omega
    · have := hh0 k hk g e
      rcases hnx g e2 with q | q
      · exact (h.sep.hd k hk g e).2 q
      · omega
end Go.Proofs.Ytjhbaplnkigifaa
