import Derived.Test.YtjhbaplnkigifaaQk22
/-! keydir: told: Note, Remove. -/
namespace Go.Proofs.Ytjhbaplnkigifaa
open Go.RowKit Plain
set_option linter.unusedVariables false
set_option linter.unusedSimpArgs false

theorem noteP_put (key : ByteArray) (en : En) (l : List Ke) : noteP key en l = putL key en l ∨ noteP key en l = l := by
  unfold noteP
  split
  · rename_i h
    unfold putL
    rw [if_pos (by unfold noteR at h; simp at h; exact h.1)]
    exact .inl rfl
  · exact .inr rfl
theorem noteP_ok {key : ByteArray} {en : En} {l : List Ke} (h : ∀ k ∈ l, k.r.Ok) (hk : key.size ≤ maxLen) (he : (Ke.r ⟨⟨#[]⟩, en⟩).Ok) : ∀ k ∈ noteP key en l, k.r.Ok := by
  rcases noteP_put key en l with e | e
  · rw [e]; exact putL_ok h hk he
  · rw [e]; exact h
theorem AllK.note {l : List Ke} (h : AllK l) (key : ByteArray) (en : En) : AllK (noteP key en l) := by
  rcases noteP_put key en l with e | e
  · rw [e]; exact h.put key en
  · rw [e]; exact h
set_option maxHeartbeats 16000000 in
set_option maxRecDepth 100000 in
theorem toldNote {D : Nat → Prop} {w : World} {gw : Nat} {vd vx vl : Value} {rd rx rl : Option Nat} {ps : List Dp} {hs : List Ho} (m : Mv) (h : WdAt D w gw vd vx vl rd rx rl ps hs) (hk : m.kind = 1) (hkey : m.key.size ≤ maxLen) (hdir : I64 m.dir) (hok : ∀ i, i < ps.length → (ps.getD i Dp.zero).l.length < 2199023255000) (hE : (Ke.r ⟨⟨#[]⟩, m.e⟩).Ok) :
    Calls Try.prog 6 #[.pointer (some ⟨gw, 0, none⟩), m.v] w fun e w' => e = .returned (.bool true) ∧ ∃ D' ps', Grew ps ps' ∧ Fr3 D D' (WOwn gw rd rx rl ps hs) (WOwn gw rd rx rl ps' hs) w w' ∧ WdAt D' w' gw vd vx vl rd rx rl ps' hs := by
  obtain ⟨mdir, mkind, key, hi, me, lim⟩ := m
  simp only at hk hkey hdir hE
  subst hk
  obtain ⟨ad, capd, e, hd1, hd2⟩ := h.rowd.shape
  obtain ⟨ax, capx, e2, hx1, hx2⟩ := h.rowx.shape
  rw [List.length_map] at e e2 hd2 hx2
  subst e e2
  obtain ⟨w0, hw0⟩ : ∃ w0, w.alloc (.cells #[.int .i64 mdir, .int .i64 1, .string key, .string hi, .int .i64 me.seg, .int .i64 me.pos, .int .i64 me.size, .int .i64 me.off, .int .i64 me.time, .bool me.tomb, .int .i64 lim] 40) = w0 := ⟨_, rfl⟩
  have hb0 : Below w.heap.size w w0 := by rw [← hw0]; exact (Below.refl _ _).alloc (Nat.le_refl _) _
  have HM0 : Hid (MvAt w0 w.heap.size ⟨mdir, 1, key, hi, me, lim⟩) := by unfold Hid; rw [← hw0]; exact MvAt.new w ⟨mdir, 1, key, hi, me, lim⟩
  have HW0 : Hid (WdAt D w0 gw (.slice ad ps.length capd) (.slice ax ps.length capx) vl rd rx rl ps hs) := h.later hb0
  have HB00 : Hid (Below w.heap.size w w0) := hb0
  have c0 := HW0.out.c0
  have c1 := HW0.out.c1
  obtain ⟨hp1, hp8⟩ := h.some2
  have HMO : Hid (∀ u, Calls Try.prog 10 #[.int .i64 mdir, .int .i64 ps.length] u fun e w' => (∃ k : Nat, k < ps.length ∧ e = .returned (.int .i64 k)) ∧ w' = u) := fun u => modOf mdir ps.length u hp1 (by omega) hdir
  have m0 := HM0.out.c 0 _ rfl
  have m1 := HM0.out.c 1 _ rfl
  have m2 := HM0.out.c 2 _ rfl
  have m4 := HM0.out.c 4 _ rfl
  have m5 := HM0.out.c 5 _ rfl
  have m6 := HM0.out.c 6 _ rfl
  have m7 := HM0.out.c 7 _ rfl
  have m8 := HM0.out.c 8 _ rfl
  have m9 := HM0.out.c 9 _ rfl
  have HDB : Hid (∀ g, D g → g < w.heap.size) := h.dw.bnd
  clear h hb0
  go_enter Try.func6, Try.ntmps6
  go_wp2
  go_region_held3 (fun w' => w'.cell? ⟨gw, 0, none⟩ = some (.slice ad ps.length capd) ∧ w'.cell? ⟨w.heap.size, 0, none⟩ = some (.int .i64 mdir)) (go_keep) (first
    | (go_at_call 10
       refine (HMO.out _).mono ?_
       rintro e w' ⟨⟨k, hkl, rfl⟩, hw'⟩
       rcases hw' with rfl))
  have hbd : Below w0.heap.size w0 w0.drew := Below.drew (Below.refl _ _)
  have HW1 : Hid (WdAt D w0.drew gw (.slice ad ps.length capd) (.slice ax ps.length capx) vl rd rx rl ps hs) := HW0.out.later hbd
  have HB01 : Hid (Below w.heap.size w w0.drew) := Below.drew HB00.out
  have HM1 : Hid (MvAt w0.drew w.heap.size ⟨mdir, 1, key, hi, me, lim⟩) := HM0.out.later hbd
  clear hbd c0 c1 m0 m1 m2 m4 m5 m6 m7 m8 m9 HW0 HM0 HMO
  generalize w0.drew = w1 at HW1 HM1 HB01 ⊢
  have c0 := HW1.out.c0
  have c1 := HW1.out.c1
  have m1 := HM1.out.c 1 _ rfl
  have m2 := HM1.out.c 2 _ rfl
  have m4 := HM1.out.c 4 _ rfl
  have m5 := HM1.out.c 5 _ rfl
  have m6 := HM1.out.c 6 _ rfl
  have m7 := HM1.out.c 7 _ rfl
  have m8 := HM1.out.c 8 _ rfl
  have m9 := HM1.out.c 9 _ rfl
  simp only at m1 m2 m4 m5 m6 m7 m8 m9
  obtain ⟨g1, g2, rfl, rfl, q1, q2⟩ := HW1.out.pick hkl
  have hki : (k : Int) < (ps.length : Int) := by omega
  have HPA : Hid (PairAt D w1 (ps.getD k Dp.zero)) := HW1.out.dw.pr k hkl
  have hll := hok k hkl
  have HST : Hid (∀ w3 w4 v' r', w1.grownBy w3 (some (ps.getD k Dp.zero).gd) → DirAt D w3 (ps.getD k Dp.zero).gd (noteP key me (ps.getD k Dp.zero).l) → XPut w3 w4 (ps.getD k Dp.zero).gx (ps.getD k Dp.zero).r (noteP key me (ps.getD k Dp.zero).l) v' r' → ∀ w5, Below w4.heap.size w4 w5 → ∃ D' ps', Grew ps ps' ∧ Fr3 D D' (WOwn gw rd rx rl ps hs) (WOwn gw rd rx rl ps' hs) w w5 ∧ WdAt D' w5 gw (.slice (some ⟨g1, 0, none⟩) ps.length capd) (.slice (some ⟨g2, 0, none⟩) ps.length capx) vl rd rx rl ps' hs) := fun w3 w4 v' r' a1 a2 a3 w5 a4 => by
    obtain ⟨D', hfr, hw⟩ := HW1.out.step hkl a1 a2 a3 (HPA.out.all.note key me) (noteP_ok HPA.out.ok hkey hE)
    exact ⟨D', _, Grew.set hkl (noteP_len key me _), (Fr3.below HB01.out).trans (hfr.trans (Fr3.below a4)), hw.later a4⟩
  have HDB1 : Hid (∀ g, D g → g < w1.heap.size) := HW1.out.dw.bnd
  obtain ⟨p, hp⟩ : ∃ p, ps.getD k Dp.zero = p := ⟨_, rfl⟩
  rw [hp] at q1 q2 HPA hll HST
  have hgdD : D p.gd := HPA.out.own _ (.inl rfl)
  have hgdl := HDB.out p.gd hgdD
  have HPU : Hid (Calls Try.prog 13 #[.pointer (some ⟨p.gd, 0, none⟩), .string key, me.v] w1 fun e w' => e = .returned (.tuple #[.bool (noteR key me p.l), .int .i64 (errK key)]) ∧ w1.grownBy w' (some p.gd) ∧ DirAt D w' p.gd (noteP key me p.l)) := noteWhat key me w1 (fun g hg hd => by have := HDB1.out g hd; omega) HPA.out.dir HPA.out.all hkey (by omega)
  clear hp
  go_wp2_with fail
  refine HPU.out.mono ?_
  rintro e w3 ⟨rfl, hg3, hd3⟩
  obtain ⟨had, hhad⟩ : ∃ had, noteR key me p.l = had := ⟨_, rfl⟩
  obtain ⟨er, her⟩ : ∃ er, errK key = er := ⟨_, rfl⟩
  have hs13 := hg3.size
  have hmb : w3.heap[w.heap.size]? = w1.heap[w.heap.size]? := hg3.block _ (cell_lt m1) (fun e => by have := Option.some.inj e; omega)
  have HM4 : Hid (MvAt w3 w.heap.size ⟨mdir, 1, key, hi, me, lim⟩) := HM1.out.of_block hmb
  have HXP : Hid (Calls Try.prog 14 #[.pointer (some ⟨p.gx, 0, none⟩), .string key, me.v] w3 fun e w' => e = .returned (.tuple #[.bool had, .int .i64 er]) ∧ ∃ v' r', XPut w3 w' p.gx p.r (noteP key me p.l) v' r') := by
    have := xnoteOf p.gx p.v p.l p.r key me w3 (HPA.out.xd1 hg3) HPA.out.all hkey (by omega)
    rw [hhad, her] at this
    exact this
  have HG3 : Hid (w1.grownBy w3 (some p.gd) ∧ DirAt D w3 p.gd (noteP key me p.l)) := ⟨hg3, hd3⟩
  rw [hhad, her]
  have m2 := HM4.out.c 2 _ rfl
  have m4 := HM4.out.c 4 _ rfl
  have m5 := HM4.out.c 5 _ rfl
  have m6 := HM4.out.c 6 _ rfl
  have m7 := HM4.out.c 7 _ rfl
  have m8 := HM4.out.c 8 _ rfl
  have m9 := HM4.out.c 9 _ rfl
  simp only at m2 m4 m5 m6 m7 m8 m9
  clear hg3 hd3 hhad her hmb
  go_wp2_with fail
  refine HXP.out.mono ?_
  rintro e w5 ⟨rfl, v', r', hx5⟩
  have HFI : Hid (∀ w7, Below w5.heap.size w5 w7 → ∃ D' ps', Grew ps ps' ∧ Fr3 D D' (WOwn gw rd rx rl ps hs) (WOwn gw rd rx rl ps' hs) w w7 ∧ WdAt D' w7 gw (.slice (some ⟨g1, 0, none⟩) ps.length capd) (.slice (some ⟨g2, 0, none⟩) ps.length capx) vl rd rx rl ps' hs) := fun w7 hw7 => HST.out w3 w5 v' r' HG3.out.1 HG3.out.2 hx5 w7 hw7
  clear hx5 HG3 HST HXP HPU
  go_wp2
  go_ret
  exact ⟨by simp, HFI.out w5 (Below.refl _ _)⟩
set_option maxHeartbeats 16000000 in
set_option maxRecDepth 100000 in
theorem toldRemove {D : Nat → Prop} {w : World} {gw : Nat} {vd vx vl : Value} {rd rx rl : Option Nat} {ps : List Dp} {hs : List Ho} (m : Mv) (h : WdAt D w gw vd vx vl rd rx rl ps hs) (hk : m.kind = 4) (hkey : m.key.size ≤ maxLen) (hdir : I64 m.dir) (hok : ∀ i, i < ps.length → (ps.getD i Dp.zero).l.length < 2199023255000) (hE : (Ke.r ⟨⟨#[]⟩, m.e⟩).Ok) :
    Calls Try.prog 6 #[.pointer (some ⟨gw, 0, none⟩), m.v] w fun e w' => e = .returned (.bool true) ∧ ∃ D' ps', Grew ps ps' ∧ Fr3 D D' (WOwn gw rd rx rl ps hs) (WOwn gw rd rx rl ps' hs) w w' ∧ WdAt D' w' gw vd vx vl rd rx rl ps' hs := by
  obtain ⟨mdir, mkind, key, hi, me, lim⟩ := m
  simp only at hk hkey hdir hE
  subst hk
  obtain ⟨ad, capd, e, hd1, hd2⟩ := h.rowd.shape
  obtain ⟨ax, capx, e2, hx1, hx2⟩ := h.rowx.shape
  rw [List.length_map] at e e2 hd2 hx2
  subst e e2
  obtain ⟨w0, hw0⟩ : ∃ w0, w.alloc (.cells #[.int .i64 mdir, .int .i64 4, .string key, .string hi, .int .i64 me.seg, .int .i64 me.pos, .int .i64 me.size, .int .i64 me.off, .int .i64 me.time, .bool me.tomb, .int .i64 lim] 40) = w0 := ⟨_, rfl⟩
  have hb0 : Below w.heap.size w w0 := by rw [← hw0]; exact (Below.refl _ _).alloc (Nat.le_refl _) _
  have HM0 : Hid (MvAt w0 w.heap.size ⟨mdir, 4, key, hi, me, lim⟩) := by unfold Hid; rw [← hw0]; exact MvAt.new w ⟨mdir, 4, key, hi, me, lim⟩
  have HW0 : Hid (WdAt D w0 gw (.slice ad ps.length capd) (.slice ax ps.length capx) vl rd rx rl ps hs) := h.later hb0
  have HB00 : Hid (Below w.heap.size w w0) := hb0
  have c0 := HW0.out.c0
  have c1 := HW0.out.c1
  obtain ⟨hp1, hp8⟩ := h.some2
  have HMO : Hid (∀ u, Calls Try.prog 10 #[.int .i64 mdir, .int .i64 ps.length] u fun e w' => (∃ k : Nat, k < ps.length ∧ e = .returned (.int .i64 k)) ∧ w' = u) := fun u => modOf mdir ps.length u hp1 (by omega) hdir
  have m0 := HM0.out.c 0 _ rfl
  have m1 := HM0.out.c 1 _ rfl
  have m2 := HM0.out.c 2 _ rfl
  have m4 := HM0.out.c 4 _ rfl
  have m5 := HM0.out.c 5 _ rfl
  have m6 := HM0.out.c 6 _ rfl
  have m7 := HM0.out.c 7 _ rfl
  have m8 := HM0.out.c 8 _ rfl
  have m9 := HM0.out.c 9 _ rfl
  have HDB : Hid (∀ g, D g → g < w.heap.size) := h.dw.bnd
  clear h hb0
  go_enter Try.func6, Try.ntmps6
  go_wp2
  go_region_held3 (fun w' => w'.cell? ⟨gw, 0, none⟩ = some (.slice ad ps.length capd) ∧ w'.cell? ⟨w.heap.size, 0, none⟩ = some (.int .i64 mdir)) (go_keep) (first
    | (go_at_call 10
       refine (HMO.out _).mono ?_
       rintro e w' ⟨⟨k, hkl, rfl⟩, hw'⟩
       rcases hw' with rfl))
  have hbd : Below w0.heap.size w0 w0.drew := Below.drew (Below.refl _ _)
  have HW1 : Hid (WdAt D w0.drew gw (.slice ad ps.length capd) (.slice ax ps.length capx) vl rd rx rl ps hs) := HW0.out.later hbd
  have HB01 : Hid (Below w.heap.size w w0.drew) := Below.drew HB00.out
  have HM1 : Hid (MvAt w0.drew w.heap.size ⟨mdir, 4, key, hi, me, lim⟩) := HM0.out.later hbd
  clear hbd c0 c1 m0 m1 m2 m4 m5 m6 m7 m8 m9 HW0 HM0 HMO
  generalize w0.drew = w1 at HW1 HM1 HB01 ⊢
  have c0 := HW1.out.c0
  have c1 := HW1.out.c1
  have m1 := HM1.out.c 1 _ rfl
  have m2 := HM1.out.c 2 _ rfl
  have m4 := HM1.out.c 4 _ rfl
  have m5 := HM1.out.c 5 _ rfl
  have m6 := HM1.out.c 6 _ rfl
  have m7 := HM1.out.c 7 _ rfl
  have m8 := HM1.out.c 8 _ rfl
  have m9 := HM1.out.c 9 _ rfl
  simp only at m1 m2 m4 m5 m6 m7 m8 m9
  obtain ⟨g1, g2, rfl, rfl, q1, q2⟩ := HW1.out.pick hkl
  have hki : (k : Int) < (ps.length : Int) := by omega
  have HPA : Hid (PairAt D w1 (ps.getD k Dp.zero)) := HW1.out.dw.pr k hkl
  have hll := hok k hkl
  have HST : Hid (∀ w3 w4 v' r', w1.grownBy w3 (some (ps.getD k Dp.zero).gd) → DirAt D w3 (ps.getD k Dp.zero).gd (delL key (ps.getD k Dp.zero).l) → XPut w3 w4 (ps.getD k Dp.zero).gx (ps.getD k Dp.zero).r (delL key (ps.getD k Dp.zero).l) v' r' → ∀ w5, Below w4.heap.size w4 w5 → ∃ D' ps', Grew ps ps' ∧ Fr3 D D' (WOwn gw rd rx rl ps hs) (WOwn gw rd rx rl ps' hs) w w5 ∧ WdAt D' w5 gw (.slice (some ⟨g1, 0, none⟩) ps.length capd) (.slice (some ⟨g2, 0, none⟩) ps.length capx) vl rd rx rl ps' hs) := fun w3 w4 v' r' a1 a2 a3 w5 a4 => by
    obtain ⟨D', hfr, hw⟩ := HW1.out.step hkl a1 a2 a3 (fun k hm => HPA.out.all k (List.mem_filter.mp hm).1) (fun k hm => HPA.out.ok k (List.mem_filter.mp hm).1)
    exact ⟨D', _, Grew.set hkl (Nat.le_succ_of_le (delL_len key _)), (Fr3.below HB01.out).trans (hfr.trans (Fr3.below a4)), hw.later a4⟩
  have HDB1 : Hid (∀ g, D g → g < w1.heap.size) := HW1.out.dw.bnd
  obtain ⟨p, hp⟩ : ∃ p, ps.getD k Dp.zero = p := ⟨_, rfl⟩
  rw [hp] at q1 q2 HPA hll HST
  have hgdD : D p.gd := HPA.out.own _ (.inl rfl)
  have hgdl := HDB.out p.gd hgdD
  have HPU : Hid (Calls Try.prog 19 #[.pointer (some ⟨p.gd, 0, none⟩), .string key] w1 fun e w' => e = .returned (.tuple #[(gotE (findL key p.l)).v, .bool (findL key p.l).isSome]) ∧ w1.grownBy w' (some p.gd) ∧ DirAt D w' p.gd (delL key p.l)) := removeOf key w1 (fun g hg hd => by have := HDB1.out g hd; omega) HPA.out.dir hkey (by omega)
  clear hp
  go_wp2_with fail
  refine HPU.out.mono ?_
  rintro e w3 ⟨rfl, hg3, hd3⟩
  obtain ⟨old, hold⟩ : ∃ old, gotE (findL key p.l) = old := ⟨_, rfl⟩
  obtain ⟨had, hhad⟩ : ∃ had, (findL key p.l).isSome = had := ⟨_, rfl⟩
  obtain ⟨w4, hw4⟩ : ∃ w4, w3.alloc (.cells #[.int .i64 old.seg, .int .i64 old.pos, .int .i64 old.size, .int .i64 old.off, .int .i64 old.time, .bool old.tomb] 38) = w4 := ⟨_, rfl⟩
  have hb34 : Below w3.heap.size w3 w4 := by rw [← hw4]; exact (Below.refl _ _).alloc (Nat.le_refl _) _
  have hs34 : w4.heap.size = w3.heap.size + 1 := by rw [← hw4]; simp
  have hs13 := hg3.size
  have hmb : w4.heap[w.heap.size]? = w1.heap[w.heap.size]? := (hb34.block _ (by have := cell_lt m1; simp at this; omega)).trans (hg3.block _ (cell_lt m1) (fun e => by have := Option.some.inj e; omega))
  have HM4 : Hid (MvAt w4 w.heap.size ⟨mdir, 4, key, hi, me, lim⟩) := HM1.out.of_block hmb
  have HXP : Hid (Calls Try.prog 20 #[.pointer (some ⟨p.gx, 0, none⟩), .string key] w4 fun e w' => e = .returned (.tuple #[old.v, .bool had]) ∧ ∃ v' r', XPut w4 w' p.gx p.r (delL key p.l) v' r') := by
    have := xremoveOf p.gx p.v p.l p.r key w4 ((HPA.out.xd1 hg3).later hb34) hkey
    rw [hold, hhad] at this
    exact this
  have HG3 : Hid (w1.grownBy w3 (some p.gd) ∧ DirAt D w3 p.gd (delL key p.l) ∧ Below w3.heap.size w3 w4) := ⟨hg3, hd3, hb34⟩
  have HOL : Hid (EnAt w4 w3.heap.size old) := by unfold Hid; rw [← hw4]; exact EnAt.new w3 old
  have hgx3 : ¬ p.gx = w3.heap.size := by have := HPA.out.xd.lt; omega
  have hr3 : ∀ g, p.r = some g → ¬ g = w3.heap.size := fun g e => by have := HPA.out.xd.row.lt' g e; omega
  have HGX : Hid (p.gx < w3.heap.size) := by unfold Hid; have := HPA.out.xd.lt; omega
  rw [hold, hhad]
  have m2 := HM4.out.c 2 _ rfl
  have m4 := HM4.out.c 4 _ rfl
  have m5 := HM4.out.c 5 _ rfl
  have m6 := HM4.out.c 6 _ rfl
  have m7 := HM4.out.c 7 _ rfl
  have m8 := HM4.out.c 8 _ rfl
  have m9 := HM4.out.c 9 _ rfl
  simp only at m2 m4 m5 m6 m7 m8 m9
  clear hg3 hd3 hb34 hold hhad hmb
  go_wp2_with fail
  refine HXP.out.mono ?_
  rintro e w5 ⟨rfl, v', r', hx5⟩
  obtain ⟨w6, hw6⟩ : ∃ w6, w5.alloc (.cells #[.int .i64 old.seg, .int .i64 old.pos, .int .i64 old.size, .int .i64 old.off, .int .i64 old.time, .bool old.tomb] 38) = w6 := ⟨_, rfl⟩
  have hb56 : Below w5.heap.size w5 w6 := by rw [← hw6]; exact (Below.refl _ _).alloc (Nat.le_refl _) _
  have hbo : w6.heap[w3.heap.size]? = w4.heap[w3.heap.size]? := (hb56.block _ (by have := hx5.chg.size; omega)).trans (hx5.chg.block _ (by omega) (fun hs => hs.elim (fun e => hgx3 e.symm) (fun e => hr3 _ e rfl)))
  obtain ⟨o0, o1, o2, o3, o4, o5⟩ := HOL.out.block hbo
  obtain ⟨y0, y1, y2, y3, y4, y5⟩ : EnAt w6 w5.heap.size old := by rw [← hw6]; exact EnAt.new w5 old
  have HFI : Hid (∀ w7, Below w6.heap.size w6 w7 → ∃ D' ps', Grew ps ps' ∧ Fr3 D D' (WOwn gw rd rx rl ps hs) (WOwn gw rd rx rl ps' hs) w w7 ∧ WdAt D' w7 gw (.slice (some ⟨g1, 0, none⟩) ps.length capd) (.slice (some ⟨g2, 0, none⟩) ps.length capx) vl rd rx rl ps' hs) := fun w7 hw7 => HST.out w3 w5 v' r' HG3.out.1 HG3.out.2.1 (hx5.grow HG3.out.2.2 HGX.out) w7 (hb56.trans (hw7.mono hb56.size))
  clear hx5 hb56 hbo HG3 HST HXP HPU
  go_wp2
  go_ret
  exact ⟨rfl, HFI.out w6 (Below.refl _ _)⟩
end Go.Proofs.Ytjhbaplnkigifaa

/-! keydir: told: Get, Nth. -/
namespace Go.Proofs.Ytjhbaplnkigifaa
open Go.RowKit Plain
set_option linter.unusedVariables false
set_option linter.unusedSimpArgs false

set_option maxHeartbeats 16000000 in
set_option maxRecDepth 100000 in
theorem toldGet {D : Nat → Prop} {w : World} {gw : Nat} {vd vx vl : Value} {rd rx rl : Option Nat} {ps : List Dp} {hs : List Ho} (m : Mv) (h : WdAt D w gw vd vx vl rd rx rl ps hs) (hk : m.kind = 3) (hkey : m.key.size ≤ maxLen) (hdir : I64 m.dir) (hok : ∀ i, i < ps.length → (ps.getD i Dp.zero).l.length < 2199023255000) (hE : (Ke.r ⟨⟨#[]⟩, m.e⟩).Ok) :
    Calls Try.prog 6 #[.pointer (some ⟨gw, 0, none⟩), m.v] w fun e w' => e = .returned (.bool true) ∧ ∃ D' ps', Grew ps ps' ∧ Fr3 D D' (WOwn gw rd rx rl ps hs) (WOwn gw rd rx rl ps' hs) w w' ∧ WdAt D' w' gw vd vx vl rd rx rl ps' hs := by
  obtain ⟨mdir, mkind, key, hi, me, lim⟩ := m
  simp only at hk hkey hdir hE
  subst hk
  obtain ⟨ad, capd, e, hd1, hd2⟩ := h.rowd.shape
  obtain ⟨ax, capx, e2, hx1, hx2⟩ := h.rowx.shape
  rw [List.length_map] at e e2 hd2 hx2
  subst e e2
  obtain ⟨w0, hw0⟩ : ∃ w0, w.alloc (.cells #[.int .i64 mdir, .int .i64 3, .string key, .string hi, .int .i64 me.seg, .int .i64 me.pos, .int .i64 me.size, .int .i64 me.off, .int .i64 me.time, .bool me.tomb, .int .i64 lim] 40) = w0 := ⟨_, rfl⟩
  have hb0 : Below w.heap.size w w0 := by rw [← hw0]; exact (Below.refl _ _).alloc (Nat.le_refl _) _
  have HM0 : Hid (MvAt w0 w.heap.size ⟨mdir, 3, key, hi, me, lim⟩) := by unfold Hid; rw [← hw0]; exact MvAt.new w ⟨mdir, 3, key, hi, me, lim⟩
  have HW0 : Hid (WdAt D w0 gw (.slice ad ps.length capd) (.slice ax ps.length capx) vl rd rx rl ps hs) := h.later hb0
  have HB00 : Hid (Below w.heap.size w w0) := hb0
  have c0 := HW0.out.c0
  have c1 := HW0.out.c1
  obtain ⟨hp1, hp8⟩ := h.some2
  have HMO : Hid (∀ u, Calls Try.prog 10 #[.int .i64 mdir, .int .i64 ps.length] u fun e w' => (∃ k : Nat, k < ps.length ∧ e = .returned (.int .i64 k)) ∧ w' = u) := fun u => modOf mdir ps.length u hp1 (by omega) hdir
  have m0 := HM0.out.c 0 _ rfl
  have m1 := HM0.out.c 1 _ rfl
  have m2 := HM0.out.c 2 _ rfl
  have m4 := HM0.out.c 4 _ rfl
  have m5 := HM0.out.c 5 _ rfl
  have m6 := HM0.out.c 6 _ rfl
  have m7 := HM0.out.c 7 _ rfl
  have m8 := HM0.out.c 8 _ rfl
  have m9 := HM0.out.c 9 _ rfl
  have HDB : Hid (∀ g, D g → g < w.heap.size) := h.dw.bnd
  clear h hb0
  go_enter Try.func6, Try.ntmps6
  go_wp2
  go_region_held3 (fun w' => w'.cell? ⟨gw, 0, none⟩ = some (.slice ad ps.length capd) ∧ w'.cell? ⟨w.heap.size, 0, none⟩ = some (.int .i64 mdir)) (go_keep) (first
    | (go_at_call 10
       refine (HMO.out _).mono ?_
       rintro e w' ⟨⟨k, hkl, rfl⟩, hw'⟩
       rcases hw' with rfl))
  have hbd : Below w0.heap.size w0 w0.drew := Below.drew (Below.refl _ _)
  have HW1 : Hid (WdAt D w0.drew gw (.slice ad ps.length capd) (.slice ax ps.length capx) vl rd rx rl ps hs) := HW0.out.later hbd
  have HB01 : Hid (Below w.heap.size w w0.drew) := Below.drew HB00.out
  have HM1 : Hid (MvAt w0.drew w.heap.size ⟨mdir, 3, key, hi, me, lim⟩) := HM0.out.later hbd
  clear hbd c0 c1 m0 m1 m2 m4 m5 m6 m7 m8 m9 HW0 HM0 HMO
  generalize w0.drew = w1 at HW1 HM1 HB01 ⊢
  have c0 := HW1.out.c0
  have c1 := HW1.out.c1
  have m1 := HM1.out.c 1 _ rfl
  have m2 := HM1.out.c 2 _ rfl
  have m4 := HM1.out.c 4 _ rfl
  have m5 := HM1.out.c 5 _ rfl
  have m6 := HM1.out.c 6 _ rfl
  have m7 := HM1.out.c 7 _ rfl
  have m8 := HM1.out.c 8 _ rfl
  have m9 := HM1.out.c 9 _ rfl
  simp only at m1 m2 m4 m5 m6 m7 m8 m9
  obtain ⟨g1, g2, rfl, rfl, q1, q2⟩ := HW1.out.pick hkl
  have hki : (k : Int) < (ps.length : Int) := by omega
  have HPA : Hid (PairAt D w1 (ps.getD k Dp.zero)) := HW1.out.dw.pr k hkl
  have hll := hok k hkl
  have HFI : Hid (∀ w7, Below w1.heap.size w1 w7 → ∃ D' ps', Grew ps ps' ∧ Fr3 D D' (WOwn gw rd rx rl ps hs) (WOwn gw rd rx rl ps' hs) w w7 ∧ WdAt D' w7 gw (.slice (some ⟨g1, 0, none⟩) ps.length capd) (.slice (some ⟨g2, 0, none⟩) ps.length capx) vl rd rx rl ps' hs) := fun w7 hw7 => ⟨D, ps, Grew.refl ps, Fr3.below (HB01.out.trans (hw7.mono HB01.out.size)), HW1.out.later hw7⟩
  obtain ⟨p, hp⟩ : ∃ p, ps.getD k Dp.zero = p := ⟨_, rfl⟩
  rw [hp] at q1 q2 HPA hll
  have HPU : Hid (Calls Try.prog 17 #[.pointer (some ⟨p.gd, 0, none⟩), .string key] w1 fun e w' => e = .returned (.tuple #[(gotE (findL key p.l)).v, .bool (findL key p.l).isSome]) ∧ Below w1.heap.size w1 w') := getOf key w1 HPA.out.dir hkey
  clear hp
  go_wp2_with fail
  refine HPU.out.mono ?_
  rintro e w3 ⟨rfl, hb3⟩
  obtain ⟨old, hold⟩ : ∃ old, gotE (findL key p.l) = old := ⟨_, rfl⟩
  obtain ⟨had, hhad⟩ : ∃ had, (findL key p.l).isSome = had := ⟨_, rfl⟩
  obtain ⟨w4, hw4⟩ : ∃ w4, w3.alloc (.cells #[.int .i64 old.seg, .int .i64 old.pos, .int .i64 old.size, .int .i64 old.off, .int .i64 old.time, .bool old.tomb] 38) = w4 := ⟨_, rfl⟩
  have hb34 : Below w3.heap.size w3 w4 := by rw [← hw4]; exact (Below.refl _ _).alloc (Nat.le_refl _) _
  have hb14 : Below w1.heap.size w1 w4 := hb3.trans (hb34.mono hb3.size)
  have HXP : Hid (Calls Try.prog 18 #[.pointer (some ⟨p.gx, 0, none⟩), .string key] w4 fun e w' => e = .returned (.tuple #[old.v, .bool had]) ∧ Below w4.heap.size w4 w') := by
    have := xgetOf p.gx p.v p.l p.r key w4 (HPA.out.xd.later hb14) hkey
    rw [hold, hhad] at this
    exact this
  have HOL : Hid (EnAt w4 w3.heap.size old) := by unfold Hid; rw [← hw4]; exact EnAt.new w3 old
  have HB14 : Hid (Below w1.heap.size w1 w4) := hb14
  rw [hold, hhad]
  have m2 := (HM1.out.later hb14).c 2 _ rfl
  simp only at m2
  clear hb3 hb34 hb14 hold hhad
  go_wp2_with fail
  refine HXP.out.mono ?_
  rintro e w5 ⟨rfl, hb5⟩
  obtain ⟨w6, hw6⟩ : ∃ w6, w5.alloc (.cells #[.int .i64 old.seg, .int .i64 old.pos, .int .i64 old.size, .int .i64 old.off, .int .i64 old.time, .bool old.tomb] 38) = w6 := ⟨_, rfl⟩
  have hb56 : Below w5.heap.size w5 w6 := by rw [← hw6]; exact (Below.refl _ _).alloc (Nat.le_refl _) _
  have hb46 : Below w4.heap.size w4 w6 := hb5.trans (hb56.mono hb5.size)
  obtain ⟨o0, o1, o2, o3, o4, o5⟩ := HOL.out.block (hb46.block _ HOL.out.lt)
  obtain ⟨y0, y1, y2, y3, y4, y5⟩ : EnAt w6 w5.heap.size old := by rw [← hw6]; exact EnAt.new w5 old
  have HB6 : Hid (Below w1.heap.size w1 w6) := HB14.out.trans (hb46.mono HB14.out.size)
  clear hb5 hb56 hb46 HXP HPU
  go_wp2
  go_ret
  exact ⟨by first | rfl | simp, HFI.out w6 HB6.out⟩
set_option maxHeartbeats 16000000 in
set_option maxRecDepth 100000 in
theorem toldNth {D : Nat → Prop} {w : World} {gw : Nat} {vd vx vl : Value} {rd rx rl : Option Nat} {ps : List Dp} {hs : List Ho} (m : Mv) (h : WdAt D w gw vd vx vl rd rx rl ps hs) (hk : m.kind = 6) (hkey : m.key.size ≤ maxLen) (hdir : I64 m.dir) (hlim : I64 m.n) (hok : ∀ i, i < ps.length → (ps.getD i Dp.zero).l.length < 2199023255000) (hE : (Ke.r ⟨⟨#[]⟩, m.e⟩).Ok) :
    Calls Try.prog 6 #[.pointer (some ⟨gw, 0, none⟩), m.v] w fun e w' => e = .returned (.bool true) ∧ ∃ D' ps', Grew ps ps' ∧ Fr3 D D' (WOwn gw rd rx rl ps hs) (WOwn gw rd rx rl ps' hs) w w' ∧ WdAt D' w' gw vd vx vl rd rx rl ps' hs := by
  obtain ⟨mdir, mkind, key, hi, me, lim⟩ := m
  simp only at hk hkey hdir hE hlim
  subst hk
  obtain ⟨ad, capd, e, hd1, hd2⟩ := h.rowd.shape
  obtain ⟨ax, capx, e2, hx1, hx2⟩ := h.rowx.shape
  rw [List.length_map] at e e2 hd2 hx2
  subst e e2
  obtain ⟨w0, hw0⟩ : ∃ w0, w.alloc (.cells #[.int .i64 mdir, .int .i64 6, .string key, .string hi, .int .i64 me.seg, .int .i64 me.pos, .int .i64 me.size, .int .i64 me.off, .int .i64 me.time, .bool me.tomb, .int .i64 lim] 40) = w0 := ⟨_, rfl⟩
  have hb0 : Below w.heap.size w w0 := by rw [← hw0]; exact (Below.refl _ _).alloc (Nat.le_refl _) _
  have HM0 : Hid (MvAt w0 w.heap.size ⟨mdir, 6, key, hi, me, lim⟩) := by unfold Hid; rw [← hw0]; exact MvAt.new w ⟨mdir, 6, key, hi, me, lim⟩
  have HW0 : Hid (WdAt D w0 gw (.slice ad ps.length capd) (.slice ax ps.length capx) vl rd rx rl ps hs) := h.later hb0
  have HB00 : Hid (Below w.heap.size w w0) := hb0
  have c0 := HW0.out.c0
  have c1 := HW0.out.c1
  obtain ⟨hp1, hp8⟩ := h.some2
  have HMO : Hid (∀ u, Calls Try.prog 10 #[.int .i64 mdir, .int .i64 ps.length] u fun e w' => (∃ k : Nat, k < ps.length ∧ e = .returned (.int .i64 k)) ∧ w' = u) := fun u => modOf mdir ps.length u hp1 (by omega) hdir
  have m0 := HM0.out.c 0 _ rfl
  have m1 := HM0.out.c 1 _ rfl
  have m2 := HM0.out.c 2 _ rfl
  have m4 := HM0.out.c 4 _ rfl
  have m5 := HM0.out.c 5 _ rfl
  have m6 := HM0.out.c 6 _ rfl
  have m7 := HM0.out.c 7 _ rfl
  have m8 := HM0.out.c 8 _ rfl
  have m9 := HM0.out.c 9 _ rfl
  have HDB : Hid (∀ g, D g → g < w.heap.size) := h.dw.bnd
  clear h hb0
  go_enter Try.func6, Try.ntmps6
  go_wp2
  go_region_held3 (fun w' => w'.cell? ⟨gw, 0, none⟩ = some (.slice ad ps.length capd) ∧ w'.cell? ⟨w.heap.size, 0, none⟩ = some (.int .i64 mdir)) (go_keep) (first
    | (go_at_call 10
       refine (HMO.out _).mono ?_
       rintro e w' ⟨⟨k, hkl, rfl⟩, hw'⟩
       rcases hw' with rfl))
  have hbd : Below w0.heap.size w0 w0.drew := Below.drew (Below.refl _ _)
  have HW1 : Hid (WdAt D w0.drew gw (.slice ad ps.length capd) (.slice ax ps.length capx) vl rd rx rl ps hs) := HW0.out.later hbd
  have HB01 : Hid (Below w.heap.size w w0.drew) := Below.drew HB00.out
  have HM1 : Hid (MvAt w0.drew w.heap.size ⟨mdir, 6, key, hi, me, lim⟩) := HM0.out.later hbd
  clear hbd c0 c1 m0 m1 m2 m4 m5 m6 m7 m8 m9 HW0 HM0 HMO
  generalize w0.drew = w1 at HW1 HM1 HB01 ⊢
  have c0 := HW1.out.c0
  have c1 := HW1.out.c1
  have m1 := HM1.out.c 1 _ rfl
  have m2 := HM1.out.c 2 _ rfl
  have m10 := HM1.out.c 10 _ rfl
  have m4 := HM1.out.c 4 _ rfl
  have m5 := HM1.out.c 5 _ rfl
  have m6 := HM1.out.c 6 _ rfl
  have m7 := HM1.out.c 7 _ rfl
  have m8 := HM1.out.c 8 _ rfl
  have m9 := HM1.out.c 9 _ rfl
  simp only at m10 m1 m2 m4 m5 m6 m7 m8 m9
  obtain ⟨g1, g2, rfl, rfl, q1, q2⟩ := HW1.out.pick hkl
  have hki : (k : Int) < (ps.length : Int) := by omega
  have HPA : Hid (PairAt D w1 (ps.getD k Dp.zero)) := HW1.out.dw.pr k hkl
  have hll := hok k hkl
  have HFI : Hid (∀ w7, Below w1.heap.size w1 w7 → ∃ D' ps', Grew ps ps' ∧ Fr3 D D' (WOwn gw rd rx rl ps hs) (WOwn gw rd rx rl ps' hs) w w7 ∧ WdAt D' w7 gw (.slice (some ⟨g1, 0, none⟩) ps.length capd) (.slice (some ⟨g2, 0, none⟩) ps.length capx) vl rd rx rl ps' hs) := fun w7 hw7 => ⟨D, ps, Grew.refl ps, Fr3.below (HB01.out.trans (hw7.mono HB01.out.size)), HW1.out.later hw7⟩
  obtain ⟨p, hp⟩ : ∃ p, ps.getD k Dp.zero = p := ⟨_, rfl⟩
  rw [hp] at q1 q2 HPA hll
  have HPU : Hid (Calls Try.prog 25 #[.pointer (some ⟨p.gd, 0, none⟩), .int .i64 lim] w1 fun e w' => e = .returned (.tuple #[((nthL p.l lim).getD Ke.zero).v, .bool (nthL p.l lim).isSome]) ∧ Below w1.heap.size w1 w') := nthOf lim w1 HPA.out.dir hlim (by omega)
  clear hp
  go_wp2_with fail
  refine HPU.out.mono ?_
  rintro e w3 ⟨rfl, hb3⟩
  obtain ⟨old, hold⟩ : ∃ old, (nthL p.l lim).getD Ke.zero = old := ⟨_, rfl⟩
  obtain ⟨had, hhad⟩ : ∃ had, (nthL p.l lim).isSome = had := ⟨_, rfl⟩
  obtain ⟨w4, hw4⟩ : ∃ w4, w3.alloc (.cells #[.string old.key, .int .i64 old.e.seg, .int .i64 old.e.pos, .int .i64 old.e.size, .int .i64 old.e.off, .int .i64 old.e.time, .bool old.e.tomb] 58) = w4 := ⟨_, rfl⟩
  have hb34 : Below w3.heap.size w3 w4 := by rw [← hw4]; exact (Below.refl _ _).alloc (Nat.le_refl _) _
  have hb14 : Below w1.heap.size w1 w4 := hb3.trans (hb34.mono hb3.size)
  have HXP : Hid (Calls Try.prog 26 #[.pointer (some ⟨p.gx, 0, none⟩), .int .i64 lim] w4 fun e w' => e = .returned (.tuple #[old.v, .bool had]) ∧ Below w4.heap.size w4 w') := by
    have := xnthOf p.gx p.v p.l p.r lim w4 (HPA.out.xd.later hb14) hlim
    rw [hold, hhad] at this
    exact this
  have HOL : Hid (KeAt w4 w3.heap.size old) := by unfold Hid; rw [← hw4]; exact KeAt.new w3 old
  have HB14 : Hid (Below w1.heap.size w1 w4) := hb14
  rw [hold, hhad]
  have m2 := (HM1.out.later hb14).c 10 _ rfl
  simp only at m2
  clear hb3 hb34 hb14 hold hhad
  go_wp2_with fail
  refine HXP.out.mono ?_
  rintro e w5 ⟨rfl, hb5⟩
  obtain ⟨w6, hw6⟩ : ∃ w6, w5.alloc (.cells #[.string old.key, .int .i64 old.e.seg, .int .i64 old.e.pos, .int .i64 old.e.size, .int .i64 old.e.off, .int .i64 old.e.time, .bool old.e.tomb] 58) = w6 := ⟨_, rfl⟩
  have hb56 : Below w5.heap.size w5 w6 := by rw [← hw6]; exact (Below.refl _ _).alloc (Nat.le_refl _) _
  have hb46 : Below w4.heap.size w4 w6 := hb5.trans (hb56.mono hb5.size)
  obtain ⟨o0, o1, o2, o3, o4, o5, o6⟩ := HOL.out.block (hb46.block _ HOL.out.lt)
  obtain ⟨y0, y1, y2, y3, y4, y5, y6⟩ : KeAt w6 w5.heap.size old := by rw [← hw6]; exact KeAt.new w5 old
  have HB6 : Hid (Below w1.heap.size w1 w6) := HB14.out.trans (hb46.mono HB14.out.size)
  clear hb5 hb56 hb46 HXP HPU
  go_wp2
  go_ret
  exact ⟨by first | rfl | simp, HFI.out w6 HB6.out⟩
end Go.Proofs.Ytjhbaplnkigifaa
