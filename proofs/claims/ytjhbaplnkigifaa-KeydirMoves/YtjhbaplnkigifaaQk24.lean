import Derived.Test.YtjhbaplnkigifaaQk23
import Derived.Deep.RegionHeld3
/-! keydir: told: Rank, Point. -/
namespace Go.Proofs.Ytjhbaplnkigifaa
open Go.RowKit Plain
set_option linter.unusedVariables false
set_option linter.unusedSimpArgs false

set_option maxHeartbeats 4000000 in
theorem xpointK (gx : Nat) (v : Value) (l : List Ke) (r : Option Nat) (key : ByteArray) (off seg pos : Int) (w : World) (h : XDirAt w gx v l r) (hk : key.size ≤ maxLen) :
    Calls Try.prog 16 #[.pointer (some ⟨gx, 0, none⟩), .string key, .int .i64 off, .int .i64 seg, .int .i64 pos] w fun e w' => e = .returned (.bool (pointB key off l)) ∧ XDirAt w' gx v (pointL key off seg pos l) r ∧ Chg (XB gx r) w w' ∧ KeepsOthers w w' := by
  obtain ⟨a, cap, rfl, hc1, hc2⟩ := h.shape
  have HAT : Hid (Calls Try.prog 42 #[.pointer (some ⟨gx, 0, none⟩), .string key] w fun e w' => e = .returned (.int .i64 (atL key l)) ∧ ∃ n, w' = w.drewN n) := xatOf gx _ l r key w h hk
  have HX : Hid (∀ n, XDirAt (w.drewN n) gx (.slice a l.length cap) l r) := fun n => h.later (below_drewN (Below.refl _ _) n)
  have HCH : Hid (∀ n, Chg (XB gx r) w (w.drewN n)) := fun n => Chg.ofBelow (below_drewN (Below.refl _ _) n)
  have c0 := h.cell
  have hll := h.len
  cases hf : findL key l with
  | none =>
    have HP : Hid (pointL key off seg pos l = l) := by unfold Hid pointL; rw [hf]
    have HPB : Hid (pointB key off l = false) := by unfold Hid pointB; rw [hf]
    rw [at_none hf] at HAT
    clear h hf hk
    go_enter Try.func16, Try.ntmps16
    go_wp2_with fail
    refine HAT.out.mono ?_
    rintro e w' ⟨rfl, nq, rfl⟩
    go_wp2
    go_ret
    exact ⟨by rw [HPB.out]; simp, by rw [HP.out]; exact HX.out nq, HCH.out nq, keeps_below (below_drewN (Below.refl _ _) nq)⟩
  | some x =>
    obtain ⟨e1, h1, h2⟩ := at_found h.srt hf
    obtain ⟨g, rfl, rfl, hc⟩ := h.at h1
    have HPB : Hid (pointB key off l = decide (x.e.off = off)) := by unfold Hid pointB; rw [hf]
    have HPL : Hid (pointL key off seg pos l = if x.e.off = off then insL key ⟨seg, pos, x.e.size, x.e.off, x.e.time, x.e.tomb⟩ l else l) := by unfold Hid pointL; rw [hf]
    have HSE : Hid (∀ n, XDirAt ((w.drewN n).setCells g (rankL key l * 7 + 1) [.int .i64 seg, .int .i64 pos]) gx (.slice (some ⟨g, 0, none⟩) l.length cap) (insL key ⟨seg, pos, x.e.size, x.e.off, x.e.time, x.e.tomb⟩ l) (some g) ∧ (w.drewN n).grownBy ((w.drewN n).setCells g (rankL key l * 7 + 1) [.int .i64 seg, .int .i64 pos]) (some g)) := fun n => (HX.out n).setP seg pos hf
    have f1 : w.frozen? ⟨g, rankL key l * 7 + 1, none⟩ = false := h.row.fz (by simp; omega)
    have f2 : w.frozen? ⟨g, rankL key l * 7 + 2, none⟩ = false := h.row.fz (by simp; omega)
    have hng : ¬ gx = g := fun e => h.ne (by rw [e])
    rw [h2] at hc
    rw [e1] at HAT
    obtain ⟨xkey, xe⟩ := x
    obtain ⟨x1, x2, x3, x4, x5, x6⟩ := xe
    obtain ⟨d0, d1, d2, d3, d4, d5, d6⟩ := hc
    simp only [Ke.r] at d0 d1 d2 d3 d4 d5 d6
    simp only at HPB HPL HSE
    have hki : (rankL key l : Int) < (l.length : Int) := by omega
    clear h hk h2 hf e1
    generalize rankL key l = k at *
    by_cases ho : x4 = off
    · have HPB2 : Hid (pointB key off l = true) := by unfold Hid; rw [HPB.out]; simp [ho]
      have HPL2 : Hid (pointL key off seg pos l = insL key ⟨seg, pos, x3, x4, x5, x6⟩ l) := by unfold Hid; rw [HPL.out, if_pos ho]
      clear HPB HPL
      go_enter Try.func16, Try.ntmps16
      go_wp2_with fail
      refine HAT.out.mono ?_
      rintro e w' ⟨rfl, nq, rfl⟩
      go_wp2
      go_ret
      obtain ⟨q1, q2⟩ := HSE.out nq
      exact ⟨by rw [HPB2.out]; rfl, by rw [HPL2.out]; exact q1, (HCH.out nq).grown q2 (fun j e => .inl (.inr e)), (keeps_below (below_drewN (Below.refl _ _) nq)).trans ((KeepsOthers.setCell _ _ _).trans (KeepsOthers.setCell _ _ _))⟩
    · have HPB2 : Hid (pointB key off l = false) := by unfold Hid; rw [HPB.out]; simp [ho]
      have HPL2 : Hid (pointL key off seg pos l = l) := by unfold Hid; rw [HPL.out, if_neg ho]
      have hB : (x4 != off) = true := by simpa using ho
      clear HPB HPL
      go_enter Try.func16, Try.ntmps16
      go_wp2_with fail
      refine HAT.out.mono ?_
      rintro e w' ⟨rfl, nq, rfl⟩
      go_wp2
      go_ret
      exact ⟨by rw [HPB2.out]; simp, by rw [HPL2.out]; exact HX.out nq, HCH.out nq, keeps_below (below_drewN (Below.refl _ _) nq)⟩
theorem pointL_put {key : ByteArray} {off seg pos : Int} {l : List Ke} (h : AllK l) : pointL key off seg pos l = l ∨ ∃ k ∈ l, pointL key off seg pos l = putL key ⟨seg, pos, k.e.size, k.e.off, k.e.time, k.e.tomb⟩ l ∧ k.key = key := by
  unfold pointL
  cases hf : findL key l with
  | none => exact .inl rfl
  | some k =>
    obtain ⟨hm, e⟩ := findL_is hf
    simp only
    split
    · refine .inr ⟨k, hm, ?_, e⟩
      unfold putL
      rw [if_pos (by rw [← e]; exact h k hm)]
    · exact .inl rfl
theorem AllK.point {key : ByteArray} {off seg pos : Int} {l : List Ke} (h : AllK l) : AllK (pointL key off seg pos l) := by
  rcases pointL_put (key := key) (off := off) (seg := seg) (pos := pos) h with e | ⟨k, _, e, _⟩
  · rw [e]; exact h
  · rw [e]; exact h.put _ _
theorem pointL_ok {key : ByteArray} {off : Int} {en : En} {l : List Ke} (h : ∀ k ∈ l, k.r.Ok) (ha : AllK l) (he : (Ke.r ⟨⟨#[]⟩, en⟩).Ok) : ∀ k ∈ pointL key off en.seg en.pos l, k.r.Ok := by
  rcases pointL_put (key := key) (off := off) (seg := en.seg) (pos := en.pos) ha with e | ⟨k, hm, e, hk⟩
  · rw [e]; exact h
  · rw [e]
    have hko := h k hm
    exact putL_ok h (by rw [← hk]; exact hko.key) ⟨Nat.zero_le _, he.seg, he.pos, hko.size, hko.off, hko.time, trivial⟩
set_option maxHeartbeats 16000000 in
set_option maxRecDepth 100000 in
theorem toldRank {D : Nat → Prop} {w : World} {gw : Nat} {vd vx vl : Value} {rd rx rl : Option Nat} {ps : List Dp} {hs : List Ho} (m : Mv) (h : WdAt D w gw vd vx vl rd rx rl ps hs) (hk : m.kind = 5) (hkey : m.key.size ≤ maxLen) (hdir : I64 m.dir) (hok : ∀ i, i < ps.length → (ps.getD i Dp.zero).l.length < 2199023255000) (hE : (Ke.r ⟨⟨#[]⟩, m.e⟩).Ok) :
    Calls Try.prog 6 #[.pointer (some ⟨gw, 0, none⟩), m.v] w fun e w' => e = .returned (.bool true) ∧ ∃ D' ps', Grew ps ps' ∧ Fr3 D D' (WOwn gw rd rx rl ps hs) (WOwn gw rd rx rl ps' hs) w w' ∧ WdAt D' w' gw vd vx vl rd rx rl ps' hs := by
  obtain ⟨mdir, mkind, key, hi, me, lim⟩ := m
  simp only at hk hkey hdir hE
  subst hk
  obtain ⟨ad, capd, e, hd1, hd2⟩ := h.rowd.shape
  obtain ⟨ax, capx, e2, hx1, hx2⟩ := h.rowx.shape
  rw [List.length_map] at e e2 hd2 hx2
  subst e e2
  obtain ⟨w0, hw0⟩ : ∃ w0, w.alloc (.cells #[.int .i64 mdir, .int .i64 5, .string key, .string hi, .int .i64 me.seg, .int .i64 me.pos, .int .i64 me.size, .int .i64 me.off, .int .i64 me.time, .bool me.tomb, .int .i64 lim] 40) = w0 := ⟨_, rfl⟩
  have hb0 : Below w.heap.size w w0 := by rw [← hw0]; exact (Below.refl _ _).alloc (Nat.le_refl _) _
  have HM0 : Hid (MvAt w0 w.heap.size ⟨mdir, 5, key, hi, me, lim⟩) := by unfold Hid; rw [← hw0]; exact MvAt.new w ⟨mdir, 5, key, hi, me, lim⟩
  have HW0 : Hid (WdAt D w0 gw (.slice ad ps.length capd) (.slice ax ps.length capx) vl rd rx rl ps hs) := h.later hb0
  have HB00 : Hid (Below w.heap.size w w0) := hb0
  have c0 := HW0.out.c0
  have c1 := HW0.out.c1
  obtain ⟨hp1, hp8⟩ := h.some2
  have HMO : Hid (∀ u, Calls Try.prog 10 #[.int .i64 mdir, .int .i64 ps.length] u fun e w' => (∃ k : Nat, k < ps.length ∧ e = .returned (.int .i64 k)) ∧ w' = u) := fun u => modOf mdir ps.length u hp1 (by omega) hdir
  have m0 := HM0.out.c 0 _ rfl
  have m1 := HM0.out.c 1 _ rfl
  have m2 := HM0.out.c 2 _ rfl
  have m4 := HM0.out.c 4 _ rfl
  have m5 := HM0.out.c 5 _ rfl
  have m6 := HM0.out.c 6 _ rfl
  have m7 := HM0.out.c 7 _ rfl
  have m8 := HM0.out.c 8 _ rfl
  have m9 := HM0.out.c 9 _ rfl
  have HDB : Hid (∀ g, D g → g < w.heap.size) := h.dw.bnd
  clear h hb0
  go_enter Try.func6, Try.ntmps6
  go_wp2
  go_region_held3 (fun w' => w'.cell? ⟨gw, 0, none⟩ = some (.slice ad ps.length capd) ∧ w'.cell? ⟨w.heap.size, 0, none⟩ = some (.int .i64 mdir)) (go_keep) (first
    | (go_at_call 10
       refine (HMO.out _).mono ?_
       rintro e w' ⟨⟨k, hkl, rfl⟩, hw'⟩
       rcases hw' with rfl))
  have hbd : Below w0.heap.size w0 w0.drew := Below.drew (Below.refl _ _)
  have HW1 : Hid (WdAt D w0.drew gw (.slice ad ps.length capd) (.slice ax ps.length capx) vl rd rx rl ps hs) := HW0.out.later hbd
  have HB01 : Hid (Below w.heap.size w w0.drew) := Below.drew HB00.out
  have HM1 : Hid (MvAt w0.drew w.heap.size ⟨mdir, 5, key, hi, me, lim⟩) := HM0.out.later hbd
  clear hbd c0 c1 m0 m1 m2 m4 m5 m6 m7 m8 m9 HW0 HM0 HMO
  generalize w0.drew = w1 at HW1 HM1 HB01 ⊢
  have c0 := HW1.out.c0
  have c1 := HW1.out.c1
  have m1 := HM1.out.c 1 _ rfl
  have m2 := HM1.out.c 2 _ rfl
  have m4 := HM1.out.c 4 _ rfl
  have m5 := HM1.out.c 5 _ rfl
  have m6 := HM1.out.c 6 _ rfl
  have m7 := HM1.out.c 7 _ rfl
  have m8 := HM1.out.c 8 _ rfl
  have m9 := HM1.out.c 9 _ rfl
  simp only at m1 m2 m4 m5 m6 m7 m8 m9
  obtain ⟨g1, g2, rfl, rfl, q1, q2⟩ := HW1.out.pick hkl
  have hki : (k : Int) < (ps.length : Int) := by omega
  have HPA : Hid (PairAt D w1 (ps.getD k Dp.zero)) := HW1.out.dw.pr k hkl
  have hll := hok k hkl
  have HFI : Hid (∀ w7, Below w1.heap.size w1 w7 → ∃ D' ps', Grew ps ps' ∧ Fr3 D D' (WOwn gw rd rx rl ps hs) (WOwn gw rd rx rl ps' hs) w w7 ∧ WdAt D' w7 gw (.slice (some ⟨g1, 0, none⟩) ps.length capd) (.slice (some ⟨g2, 0, none⟩) ps.length capx) vl rd rx rl ps' hs) := fun w7 hw7 => ⟨D, ps, Grew.refl ps, Fr3.below (HB01.out.trans (hw7.mono HB01.out.size)), HW1.out.later hw7⟩
  obtain ⟨p, hp⟩ : ∃ p, ps.getD k Dp.zero = p := ⟨_, rfl⟩
  rw [hp] at q1 q2 HPA hll
  have HR1 : Hid (∀ u, Below w1.heap.size w1 u → Calls Try.prog 21 #[.pointer (some ⟨p.gd, 0, none⟩), .string key] u fun e w' => e = .returned (.int .i64 (rankL key p.l : Nat)) ∧ Below w1.heap.size w1 w') := fun u hu => (rankOf key u (HPA.out.dir.later hu) hkey (by omega)).mono fun e w' ⟨a1, a2⟩ => ⟨a1, hu.trans (a2.mono hu.size)⟩
  have HR2 : Hid (∀ u, Below w1.heap.size w1 u → Calls Try.prog 22 #[.pointer (some ⟨p.gx, 0, none⟩), .string key] u fun e w' => e = .returned (.int .i64 (rankL key p.l : Nat)) ∧ Below w1.heap.size w1 w') := fun u hu => (xrankOf p.gx p.v p.l p.r key u (HPA.out.xd.later hu) hkey).mono fun e w' ⟨a1, n, a2⟩ => ⟨a1, by rw [a2]; exact below_drewN hu n⟩
  have HR3 : Hid (∀ u, Below w1.heap.size w1 u → Calls Try.prog 23 #[.pointer (some ⟨p.gd, 0, none⟩)] u fun e w' => e = .returned (.int .i64 p.l.length) ∧ w' = u) := fun u hu => lenOf u (HPA.out.dir.later hu)
  have HR4 : Hid (∀ u, Below w1.heap.size w1 u → Calls Try.prog 24 #[.pointer (some ⟨p.gx, 0, none⟩)] u fun e w' => e = .returned (.int .i64 p.l.length) ∧ w' = u) := fun u hu => xlenOf p.gx p.v p.l p.r u (HPA.out.xd.later hu)
  have HMA : Hid (∀ u, Below w1.heap.size w1 u → u.cell? ⟨w.heap.size, 2, none⟩ = some (.string key)) := fun u hu => (HM1.out.later hu).c 2 _ rfl
  clear hp
  go_wp2
  go_region_held3 (fun w' => w'.cell? ⟨w.heap.size, 2, none⟩ = some (.string key)) (go_keep) (first
    | (go_at_call 21
       refine (HR1.out _ (by first | exact Below.refl _ _ | exact Below.drew (Below.refl _ _) | assumption)).mono ?_
       rintro e w3 ⟨rfl, hb3⟩
       have e3 := HMA.out w3 hb3)
    | (go_at_call 22
       refine (HR2.out _ (by first | exact Below.refl _ _ | exact Below.drew (Below.refl _ _) | assumption)).mono ?_
       rintro e w4 ⟨rfl, hb4⟩
       have e4 := HMA.out w4 hb4)
    | (go_at_call 23
       refine (HR3.out _ (by first | assumption)).mono ?_
       rintro e w5 ⟨rfl, hw5⟩
       rcases hw5 with rfl)
    | (go_at_call 24
       refine (HR4.out _ (by first | assumption)).mono ?_
       rintro e w6 ⟨rfl, hw6⟩
       rcases hw6 with rfl))
  all_goals
    go_wp2
    go_ret
    exact ⟨by first | rfl | simp, HFI.out _ (by assumption)⟩
set_option maxHeartbeats 16000000 in
set_option maxRecDepth 100000 in
theorem toldPoint {D : Nat → Prop} {w : World} {gw : Nat} {vd vx vl : Value} {rd rx rl : Option Nat} {ps : List Dp} {hs : List Ho} (m : Mv) (h : WdAt D w gw vd vx vl rd rx rl ps hs) (hk : m.kind = 2) (hkey : m.key.size ≤ maxLen) (hdir : I64 m.dir) (hok : ∀ i, i < ps.length → (ps.getD i Dp.zero).l.length < 2199023255000) (hE : (Ke.r ⟨⟨#[]⟩, m.e⟩).Ok) :
    Calls Try.prog 6 #[.pointer (some ⟨gw, 0, none⟩), m.v] w fun e w' => e = .returned (.bool true) ∧ ∃ D' ps', Grew ps ps' ∧ Fr3 D D' (WOwn gw rd rx rl ps hs) (WOwn gw rd rx rl ps' hs) w w' ∧ WdAt D' w' gw vd vx vl rd rx rl ps' hs := by
  obtain ⟨mdir, mkind, key, hi, me, lim⟩ := m
  simp only at hk hkey hdir hE
  subst hk
  obtain ⟨ad, capd, e, hd1, hd2⟩ := h.rowd.shape
  obtain ⟨ax, capx, e2, hx1, hx2⟩ := h.rowx.shape
  rw [List.length_map] at e e2 hd2 hx2
  subst e e2
  obtain ⟨w0, hw0⟩ : ∃ w0, w.alloc (.cells #[.int .i64 mdir, .int .i64 2, .string key, .string hi, .int .i64 me.seg, .int .i64 me.pos, .int .i64 me.size, .int .i64 me.off, .int .i64 me.time, .bool me.tomb, .int .i64 lim] 40) = w0 := ⟨_, rfl⟩
  have hb0 : Below w.heap.size w w0 := by rw [← hw0]; exact (Below.refl _ _).alloc (Nat.le_refl _) _
  have HM0 : Hid (MvAt w0 w.heap.size ⟨mdir, 2, key, hi, me, lim⟩) := by unfold Hid; rw [← hw0]; exact MvAt.new w ⟨mdir, 2, key, hi, me, lim⟩
  have HW0 : Hid (WdAt D w0 gw (.slice ad ps.length capd) (.slice ax ps.length capx) vl rd rx rl ps hs) := h.later hb0
  have HB00 : Hid (Below w.heap.size w w0) := hb0
  have c0 := HW0.out.c0
  have c1 := HW0.out.c1
  obtain ⟨hp1, hp8⟩ := h.some2
  have HMO : Hid (∀ u, Calls Try.prog 10 #[.int .i64 mdir, .int .i64 ps.length] u fun e w' => (∃ k : Nat, k < ps.length ∧ e = .returned (.int .i64 k)) ∧ w' = u) := fun u => modOf mdir ps.length u hp1 (by omega) hdir
  have m0 := HM0.out.c 0 _ rfl
  have m1 := HM0.out.c 1 _ rfl
  have m2 := HM0.out.c 2 _ rfl
  have m4 := HM0.out.c 4 _ rfl
  have m5 := HM0.out.c 5 _ rfl
  have m6 := HM0.out.c 6 _ rfl
  have m7 := HM0.out.c 7 _ rfl
  have m8 := HM0.out.c 8 _ rfl
  have m9 := HM0.out.c 9 _ rfl
  have HDB : Hid (∀ g, D g → g < w.heap.size) := h.dw.bnd
  clear h hb0
  go_enter Try.func6, Try.ntmps6
  go_wp2
  go_region_held3 (fun w' => w'.cell? ⟨gw, 0, none⟩ = some (.slice ad ps.length capd) ∧ w'.cell? ⟨w.heap.size, 0, none⟩ = some (.int .i64 mdir)) (go_keep) (first
    | (go_at_call 10
       refine (HMO.out _).mono ?_
       rintro e w' ⟨⟨k, hkl, rfl⟩, hw'⟩
       rcases hw' with rfl))
  have hbd : Below w0.heap.size w0 w0.drew := Below.drew (Below.refl _ _)
  have HW1 : Hid (WdAt D w0.drew gw (.slice ad ps.length capd) (.slice ax ps.length capx) vl rd rx rl ps hs) := HW0.out.later hbd
  have HB01 : Hid (Below w.heap.size w w0.drew) := Below.drew HB00.out
  have HM1 : Hid (MvAt w0.drew w.heap.size ⟨mdir, 2, key, hi, me, lim⟩) := HM0.out.later hbd
  clear hbd c0 c1 m0 m1 m2 m4 m5 m6 m7 m8 m9 HW0 HM0 HMO
  generalize w0.drew = w1 at HW1 HM1 HB01 ⊢
  have c0 := HW1.out.c0
  have c1 := HW1.out.c1
  have m1 := HM1.out.c 1 _ rfl
  have m2 := HM1.out.c 2 _ rfl
  have m4 := HM1.out.c 4 _ rfl
  have m5 := HM1.out.c 5 _ rfl
  have m6 := HM1.out.c 6 _ rfl
  have m7 := HM1.out.c 7 _ rfl
  have m8 := HM1.out.c 8 _ rfl
  have m9 := HM1.out.c 9 _ rfl
  simp only at m1 m2 m4 m5 m6 m7 m8 m9
  obtain ⟨g1, g2, rfl, rfl, q1, q2⟩ := HW1.out.pick hkl
  have hki : (k : Int) < (ps.length : Int) := by omega
  have HPA : Hid (PairAt D w1 (ps.getD k Dp.zero)) := HW1.out.dw.pr k hkl
  have hll := hok k hkl
  have HST : Hid (∀ w3 w4 v' r', w1.grownBy w3 (some (ps.getD k Dp.zero).gd) → DirAt D w3 (ps.getD k Dp.zero).gd (pointL key me.off me.seg me.pos (ps.getD k Dp.zero).l) → XPut w3 w4 (ps.getD k Dp.zero).gx (ps.getD k Dp.zero).r (pointL key me.off me.seg me.pos (ps.getD k Dp.zero).l) v' r' → ∀ w5, Below w4.heap.size w4 w5 → ∃ D' ps', Grew ps ps' ∧ Fr3 D D' (WOwn gw rd rx rl ps hs) (WOwn gw rd rx rl ps' hs) w w5 ∧ WdAt D' w5 gw (.slice (some ⟨g1, 0, none⟩) ps.length capd) (.slice (some ⟨g2, 0, none⟩) ps.length capx) vl rd rx rl ps' hs) := fun w3 w4 v' r' a1 a2 a3 w5 a4 => by
    obtain ⟨D', hfr, hw⟩ := HW1.out.step hkl a1 a2 a3 (HPA.out.all.point) (pointL_ok HPA.out.ok HPA.out.all hE)
    exact ⟨D', _, Grew.set hkl (Nat.le_succ_of_le (pointL_len key _ _ _ _ HPA.out.xd.srt)), (Fr3.below HB01.out).trans (hfr.trans (Fr3.below a4)), hw.later a4⟩
  have HDB1 : Hid (∀ g, D g → g < w1.heap.size) := HW1.out.dw.bnd
  obtain ⟨p, hp⟩ : ∃ p, ps.getD k Dp.zero = p := ⟨_, rfl⟩
  rw [hp] at q1 q2 HPA hll HST
  have hgdD : D p.gd := HPA.out.own _ (.inl rfl)
  have hgdl := HDB.out p.gd hgdD
  have HPU : Hid (Calls Try.prog 15 #[.pointer (some ⟨p.gd, 0, none⟩), .string key, .int .i64 me.off, .int .i64 me.seg, .int .i64 me.pos] w1 fun e w' => e = .returned (.bool (pointB key me.off p.l)) ∧ w1.grownBy w' (some p.gd) ∧ DirAt D w' p.gd (pointL key me.off me.seg me.pos p.l)) := pointAns key me.off me.seg me.pos w1 (fun g hg hd => by have := HDB1.out g hd; omega) HPA.out.dir hkey (by omega)
  clear hp
  go_wp2_with fail
  refine HPU.out.mono ?_
  rintro e w3 ⟨rfl, hg3, hd3⟩
  obtain ⟨had, hhad⟩ : ∃ had, pointB key me.off p.l = had := ⟨_, rfl⟩
  have hs13 := hg3.size
  have hmb : w3.heap[w.heap.size]? = w1.heap[w.heap.size]? := hg3.block _ (cell_lt m1) (fun e => by have := Option.some.inj e; omega)
  have HM4 : Hid (MvAt w3 w.heap.size ⟨mdir, 2, key, hi, me, lim⟩) := HM1.out.of_block hmb
  have HXP : Hid (Calls Try.prog 16 #[.pointer (some ⟨p.gx, 0, none⟩), .string key, .int .i64 me.off, .int .i64 me.seg, .int .i64 me.pos] w3 fun e w' => e = .returned (.bool had) ∧ ∃ v' r', XPut w3 w' p.gx p.r (pointL key me.off me.seg me.pos p.l) v' r') := by
    have := xpointK p.gx p.v p.l p.r key me.off me.seg me.pos w3 (HPA.out.xd1 hg3) hkey
    rw [hhad] at this
    exact this.mono fun e w' ⟨b1, b2, b3, b4⟩ => ⟨b1, _, _, b2, b3, .inl rfl, b4⟩
  have HG3 : Hid (w1.grownBy w3 (some p.gd) ∧ DirAt D w3 p.gd (pointL key me.off me.seg me.pos p.l)) := ⟨hg3, hd3⟩
  rw [hhad]
  have m2 := HM4.out.c 2 _ rfl
  have m4 := HM4.out.c 4 _ rfl
  have m5 := HM4.out.c 5 _ rfl
  have m6 := HM4.out.c 6 _ rfl
  have m7 := HM4.out.c 7 _ rfl
  have m8 := HM4.out.c 8 _ rfl
  have m9 := HM4.out.c 9 _ rfl
  simp only at m2 m4 m5 m6 m7 m8 m9
  clear hg3 hd3 hhad hmb
  go_wp2_with fail
  refine HXP.out.mono ?_
  rintro e w5 ⟨rfl, v', r', hx5⟩
  have HFI : Hid (∀ w7, Below w5.heap.size w5 w7 → ∃ D' ps', Grew ps ps' ∧ Fr3 D D' (WOwn gw rd rx rl ps hs) (WOwn gw rd rx rl ps' hs) w w7 ∧ WdAt D' w7 gw (.slice (some ⟨g1, 0, none⟩) ps.length capd) (.slice (some ⟨g2, 0, none⟩) ps.length capx) vl rd rx rl ps' hs) := fun w7 hw7 => HST.out w3 w5 v' r' HG3.out.1 HG3.out.2 hx5 w7 hw7
  clear hx5 HG3 HST HXP HPU
  go_wp2
  go_ret
  exact ⟨by first | rfl | simp, HFI.out w5 (Below.refl _ _)⟩
end Go.Proofs.Ytjhbaplnkigifaa

/-! keydir: told: All, Prefix. -/
namespace Go.Proofs.Ytjhbaplnkigifaa
open Go.RowKit Plain
set_option linter.unusedVariables false
set_option linter.unusedSimpArgs false

set_option maxHeartbeats 16000000 in
set_option maxRecDepth 100000 in
theorem toldAll {D : Nat → Prop} {w : World} {gw : Nat} {vd vx vl : Value} {rd rx rl : Option Nat} {ps : List Dp} {hs : List Ho} (m : Mv) (h : WdAt D w gw vd vx vl rd rx rl ps hs) (hk : m.kind = 8) (hkey : m.key.size ≤ maxLen) (hdir : I64 m.dir) (hlim : I64 m.n) (hhi : m.hi.size ≤ maxLen) (hok : ∀ i, i < ps.length → (ps.getD i Dp.zero).l.length < 2199023255000) (hE : (Ke.r ⟨⟨#[]⟩, m.e⟩).Ok) :
    Calls Try.prog 6 #[.pointer (some ⟨gw, 0, none⟩), m.v] w fun e w' => e = .returned (.bool true) ∧ ∃ D' ps', Grew ps ps' ∧ Fr3 D D' (WOwn gw rd rx rl ps hs) (WOwn gw rd rx rl ps' hs) w w' ∧ WdAt D' w' gw vd vx vl rd rx rl ps' hs := by
  obtain ⟨mdir, mkind, key, hi, me, lim⟩ := m
  simp only at hk hkey hdir hE hlim hhi
  subst hk
  obtain ⟨ad, capd, e, hd1, hd2⟩ := h.rowd.shape
  obtain ⟨ax, capx, e2, hx1, hx2⟩ := h.rowx.shape
  rw [List.length_map] at e e2 hd2 hx2
  subst e e2
  obtain ⟨w0, hw0⟩ : ∃ w0, w.alloc (.cells #[.int .i64 mdir, .int .i64 8, .string key, .string hi, .int .i64 me.seg, .int .i64 me.pos, .int .i64 me.size, .int .i64 me.off, .int .i64 me.time, .bool me.tomb, .int .i64 lim] 40) = w0 := ⟨_, rfl⟩
  have hb0 : Below w.heap.size w w0 := by rw [← hw0]; exact (Below.refl _ _).alloc (Nat.le_refl _) _
  have HM0 : Hid (MvAt w0 w.heap.size ⟨mdir, 8, key, hi, me, lim⟩) := by unfold Hid; rw [← hw0]; exact MvAt.new w ⟨mdir, 8, key, hi, me, lim⟩
  have HW0 : Hid (WdAt D w0 gw (.slice ad ps.length capd) (.slice ax ps.length capx) vl rd rx rl ps hs) := h.later hb0
  have HB00 : Hid (Below w.heap.size w w0) := hb0
  have c0 := HW0.out.c0
  have c1 := HW0.out.c1
  obtain ⟨hp1, hp8⟩ := h.some2
  have HMO : Hid (∀ u, Calls Try.prog 10 #[.int .i64 mdir, .int .i64 ps.length] u fun e w' => (∃ k : Nat, k < ps.length ∧ e = .returned (.int .i64 k)) ∧ w' = u) := fun u => modOf mdir ps.length u hp1 (by omega) hdir
  have m0 := HM0.out.c 0 _ rfl
  have m1 := HM0.out.c 1 _ rfl
  have m2 := HM0.out.c 2 _ rfl
  have m4 := HM0.out.c 4 _ rfl
  have m5 := HM0.out.c 5 _ rfl
  have m6 := HM0.out.c 6 _ rfl
  have m7 := HM0.out.c 7 _ rfl
  have m8 := HM0.out.c 8 _ rfl
  have m9 := HM0.out.c 9 _ rfl
  have HDB : Hid (∀ g, D g → g < w.heap.size) := h.dw.bnd
  clear h hb0
  go_enter Try.func6, Try.ntmps6
  go_wp2
  go_region_held3 (fun w' => w'.cell? ⟨gw, 0, none⟩ = some (.slice ad ps.length capd) ∧ w'.cell? ⟨w.heap.size, 0, none⟩ = some (.int .i64 mdir)) (go_keep) (first
    | (go_at_call 10
       refine (HMO.out _).mono ?_
       rintro e w' ⟨⟨k, hkl, rfl⟩, hw'⟩
       rcases hw' with rfl))
  have hbd : Below w0.heap.size w0 w0.drew := Below.drew (Below.refl _ _)
  have HW1 : Hid (WdAt D w0.drew gw (.slice ad ps.length capd) (.slice ax ps.length capx) vl rd rx rl ps hs) := HW0.out.later hbd
  have HB01 : Hid (Below w.heap.size w w0.drew) := Below.drew HB00.out
  have HM1 : Hid (MvAt w0.drew w.heap.size ⟨mdir, 8, key, hi, me, lim⟩) := HM0.out.later hbd
  clear hbd c0 c1 m0 m1 m2 m4 m5 m6 m7 m8 m9 HW0 HM0 HMO
  generalize w0.drew = w1 at HW1 HM1 HB01 ⊢
  have c0 := HW1.out.c0
  have c1 := HW1.out.c1
  have m1 := HM1.out.c 1 _ rfl
  have m2 := HM1.out.c 2 _ rfl
  have m4 := HM1.out.c 4 _ rfl
  have m5 := HM1.out.c 5 _ rfl
  have m6 := HM1.out.c 6 _ rfl
  have m7 := HM1.out.c 7 _ rfl
  have m8 := HM1.out.c 8 _ rfl
  have m9 := HM1.out.c 9 _ rfl
  simp only at m1 m2 m4 m5 m6 m7 m8 m9
  obtain ⟨g1, g2, rfl, rfl, q1, q2⟩ := HW1.out.pick hkl
  have hki : (k : Int) < (ps.length : Int) := by omega
  have HPA : Hid (PairAt D w1 (ps.getD k Dp.zero)) := HW1.out.dw.pr k hkl
  have hll := hok k hkl
  have HFI : Hid (∀ w7, Below w1.heap.size w1 w7 → ∃ D' ps', Grew ps ps' ∧ Fr3 D D' (WOwn gw rd rx rl ps hs) (WOwn gw rd rx rl ps' hs) w w7 ∧ WdAt D' w7 gw (.slice (some ⟨g1, 0, none⟩) ps.length capd) (.slice (some ⟨g2, 0, none⟩) ps.length capx) vl rd rx rl ps' hs) := fun w7 hw7 => ⟨D, ps, Grew.refl ps, Fr3.below (HB01.out.trans (hw7.mono HB01.out.size)), HW1.out.later hw7⟩
  obtain ⟨p, hp⟩ : ∃ p, ps.getD k Dp.zero = p := ⟨_, rfl⟩
  rw [hp] at q1 q2 HPA hll
  have hlk : ∀ x ∈ rowK (rngL key hi p.l), x.Ok := fun x hx => by
    obtain ⟨z, hz, rfl⟩ := List.mem_map.mp hx
    exact HPA.out.ok z (List.mem_filter.mp hz).1
  have hll2 : (rowK (rngL key hi p.l)).length ≤ 2199023255500 := by
    have : (rngL key hi p.l).length ≤ p.l.length := List.length_filter_le ..
    simp only [List.length_map]; omega
  obtain ⟨LI, hLI⟩ : ∃ LI, rowK (rngL key hi p.l) = LI := ⟨_, rfl⟩
  have hgv : givenL ⟨mdir, 8, key, hi, me, lim⟩ p.l = rngL key hi p.l := rfl
  have hfo : ∀ x ∈ firstL LI lim, x.Ok := fun x hx => by
    unfold firstL at hx
    split at hx
    · exact hlk x (by rw [hLI]; exact List.mem_of_mem_take hx)
    · exact hlk x (by rw [hLI]; exact hx)
  have hfl : (firstL LI lim).length ≤ 2199023255500 := by
    unfold firstL
    split
    · rw [List.length_take]; rw [hLI] at hll2; omega
    · rw [← hLI]; exact hll2
  obtain ⟨ST, hST⟩ : ∃ ST, firstL LI lim = ST := ⟨_, rfl⟩
  have HTK : Hid (∀ u, Below w1.heap.size w1 u → Calls Try.prog 31 #[.pointer (some ⟨p.gd, 0, none⟩), Mv.v ⟨mdir, 8, key, hi, me, lim⟩] u fun e w' => ∃ v, e = .returned v ∧ KrsAt w' v ST ∧ Below w1.heap.size w1 w') := fun u hu => (takenOf ⟨mdir, 8, key, hi, me, lim⟩ u (HPA.out.dir.later hu) hkey hhi (by omega)).mono fun e w' ⟨v, r, a1, a2⟩ => ⟨v, a1, by
    have := a2.row
    rw [hgv, hLI, hST] at this
    exact this.recs (by rw [← hST]; exact hfl) (by rw [← hST]; exact hfo), hu.trans (a2.below.mono hu.size)⟩
  have HLI : Hid (∀ u, Below w1.heap.size w1 u → Calls Try.prog 33 #[.pointer (some ⟨p.gx, 0, none⟩), .string key, .string hi] u fun e w' => ∃ a n c, e = .returned (.slice a n c) ∧ (KrsAt w' (.slice a n c) LI ∧ n ≤ c ∧ c ≤ maxLen) ∧ Below w1.heap.size w1 w' ∧ Below u.heap.size u w') := fun u hu => (xlistOf p.gx p.v p.l p.r key hi u (HPA.out.xd.later hu) hkey hhi).mono fun e w' ⟨v, r, a1, a2⟩ => by
    obtain ⟨a, c, e1, e2, e3⟩ := a2.row.shape
    subst e1
    refine ⟨a, _, c, a1, ⟨?_, e3, e2⟩, hu.trans (a2.below.mono hu.size), a2.below⟩
    rw [← hLI]
    exact a2.row.recs hll2 hlk
  have HFS : Hid (∀ u a n c, (KrsAt u (.slice a n c) LI ∧ n ≤ c ∧ c ≤ maxLen) → Calls Try.prog 32 #[.slice a n c, .int .i64 lim] u fun e w' => ∃ v', e = .returned v' ∧ KrsAt w' v' ST ∧ w' = u) := fun u a n c hh => by
    have := firstOf (.slice a n c) LI lim u hh.1 (fun a' m' c' e => by injection e with _ e2 e3; subst e2 e3; exact hh.2) hlim
    rw [hST] at this
    exact this
  have HSM : Hid (∀ u va vb, KrsAt u va ST → KrsAt u vb ST → Below w1.heap.size w1 u → Calls Try.prog 28 #[va, vb] u fun e w' => e = .returned (.bool true) ∧ Below w1.heap.size w1 w') := fun u va vb h1 h2 hu => (sameOf va vb ST u h1 h2).mono fun e w' ⟨a1, n, a2⟩ => ⟨a1, by rw [a2]; exact below_drewN hu n⟩
  have m0 := HM1.out.c 0 _ rfl
  have m3 := HM1.out.c 3 _ rfl
  have m10 := HM1.out.c 10 _ rfl
  simp only at m0 m3 m10
  have HMA : Hid (∀ u, Below w1.heap.size w1 u → u.cell? ⟨w.heap.size, 0, none⟩ = some (.int .i64 mdir) ∧ u.cell? ⟨w.heap.size, 1, none⟩ = some (.int .i64 8) ∧ u.cell? ⟨w.heap.size, 2, none⟩ = some (.string key) ∧ u.cell? ⟨w.heap.size, 3, none⟩ = some (.string hi) ∧ u.cell? ⟨w.heap.size, 4, none⟩ = some (.int .i64 me.seg) ∧ u.cell? ⟨w.heap.size, 5, none⟩ = some (.int .i64 me.pos) ∧ u.cell? ⟨w.heap.size, 6, none⟩ = some (.int .i64 me.size) ∧ u.cell? ⟨w.heap.size, 7, none⟩ = some (.int .i64 me.off) ∧ u.cell? ⟨w.heap.size, 8, none⟩ = some (.int .i64 me.time) ∧ u.cell? ⟨w.heap.size, 9, none⟩ = some (.bool me.tomb) ∧ u.cell? ⟨w.heap.size, 10, none⟩ = some (.int .i64 lim)) := fun u hu => ⟨(HM1.out.later hu).c 0 _ rfl, (HM1.out.later hu).c 1 _ rfl, (HM1.out.later hu).c 2 _ rfl, (HM1.out.later hu).c 3 _ rfl, (HM1.out.later hu).c 4 _ rfl, (HM1.out.later hu).c 5 _ rfl, (HM1.out.later hu).c 6 _ rfl, (HM1.out.later hu).c 7 _ rfl, (HM1.out.later hu).c 8 _ rfl, (HM1.out.later hu).c 9 _ rfl, (HM1.out.later hu).c 10 _ rfl⟩
  clear hp hlk hll2 hLI hgv hfo hfl hST
  go_wp2
  go_region_held3 (fun w' => w'.cell? ⟨w.heap.size, 0, none⟩ = some (.int .i64 mdir) ∧ w'.cell? ⟨w.heap.size, 1, none⟩ = some (.int .i64 8) ∧ w'.cell? ⟨w.heap.size, 2, none⟩ = some (.string key) ∧ w'.cell? ⟨w.heap.size, 3, none⟩ = some (.string hi) ∧ w'.cell? ⟨w.heap.size, 4, none⟩ = some (.int .i64 me.seg) ∧ w'.cell? ⟨w.heap.size, 5, none⟩ = some (.int .i64 me.pos) ∧ w'.cell? ⟨w.heap.size, 6, none⟩ = some (.int .i64 me.size) ∧ w'.cell? ⟨w.heap.size, 7, none⟩ = some (.int .i64 me.off) ∧ w'.cell? ⟨w.heap.size, 8, none⟩ = some (.int .i64 me.time) ∧ w'.cell? ⟨w.heap.size, 9, none⟩ = some (.bool me.tomb) ∧ w'.cell? ⟨w.heap.size, 10, none⟩ = some (.int .i64 lim)) (go_keep) (first
    | (go_at_call 31
       refine (HTK.out _ (by first | exact Below.refl _ _ | exact Below.drew (Below.refl _ _) | assumption)).mono ?_
       rintro e w3 ⟨v3, rfl, hk3, hb3⟩
       have hm3 := HMA.out w3 hb3
       rcases hm3 with ⟨e0, e1, e2, e3, e4, e5, e6, e7, e8, e9, e10⟩)
    | (go_at_call 33
       refine (HLI.out _ (by first | assumption)).mono ?_
       rintro e w4 ⟨a4, n4, c4, rfl, hk4, hb4, hb34⟩
       have hk34 := KrsAt.later hk3 hb34
       have hm4 := HMA.out w4 hb4
       rcases hm4 with ⟨f0, f1, f2, f3, f4, f5, f6, f7, f8, f9, f10⟩)
    | (go_at_call 32
       refine (HFS.out _ _ _ _ hk4).mono ?_
       rintro e w5 ⟨v5, rfl, hk5, hw5⟩
       rcases hw5 with rfl)
    | (go_at_call 28
       refine (HSM.out _ _ _ hk34 hk5 hb4).mono ?_
       rintro e w6 ⟨rfl, hb6⟩
       have hm6 := HMA.out w6 hb6
       rcases hm6 with ⟨i0, i1, i2, i3, i4, i5, i6, i7, i8, i9, i10⟩))
  all_goals
    go_wp2
    go_ret
    exact ⟨rfl, HFI.out _ hb6⟩
set_option maxHeartbeats 16000000 in
set_option maxRecDepth 100000 in
theorem toldPrefix {D : Nat → Prop} {w : World} {gw : Nat} {vd vx vl : Value} {rd rx rl : Option Nat} {ps : List Dp} {hs : List Ho} (m : Mv) (h : WdAt D w gw vd vx vl rd rx rl ps hs) (hk : m.kind = 9) (hkey : m.key.size ≤ maxLen) (hdir : I64 m.dir) (hlim : I64 m.n) (hhi : m.hi.size ≤ maxLen) (hok : ∀ i, i < ps.length → (ps.getD i Dp.zero).l.length < 2199023255000) (hE : (Ke.r ⟨⟨#[]⟩, m.e⟩).Ok) :
    Calls Try.prog 6 #[.pointer (some ⟨gw, 0, none⟩), m.v] w fun e w' => e = .returned (.bool true) ∧ ∃ D' ps', Grew ps ps' ∧ Fr3 D D' (WOwn gw rd rx rl ps hs) (WOwn gw rd rx rl ps' hs) w w' ∧ WdAt D' w' gw vd vx vl rd rx rl ps' hs := by
  obtain ⟨mdir, mkind, key, hi, me, lim⟩ := m
  simp only at hk hkey hdir hE hlim hhi
  subst hk
  obtain ⟨ad, capd, e, hd1, hd2⟩ := h.rowd.shape
  obtain ⟨ax, capx, e2, hx1, hx2⟩ := h.rowx.shape
  rw [List.length_map] at e e2 hd2 hx2
  subst e e2
  obtain ⟨w0, hw0⟩ : ∃ w0, w.alloc (.cells #[.int .i64 mdir, .int .i64 9, .string key, .string hi, .int .i64 me.seg, .int .i64 me.pos, .int .i64 me.size, .int .i64 me.off, .int .i64 me.time, .bool me.tomb, .int .i64 lim] 40) = w0 := ⟨_, rfl⟩
  have hb0 : Below w.heap.size w w0 := by rw [← hw0]; exact (Below.refl _ _).alloc (Nat.le_refl _) _
  have HM0 : Hid (MvAt w0 w.heap.size ⟨mdir, 9, key, hi, me, lim⟩) := by unfold Hid; rw [← hw0]; exact MvAt.new w ⟨mdir, 9, key, hi, me, lim⟩
  have HW0 : Hid (WdAt D w0 gw (.slice ad ps.length capd) (.slice ax ps.length capx) vl rd rx rl ps hs) := h.later hb0
  have HB00 : Hid (Below w.heap.size w w0) := hb0
  have c0 := HW0.out.c0
  have c1 := HW0.out.c1
  obtain ⟨hp1, hp8⟩ := h.some2
  have HMO : Hid (∀ u, Calls Try.prog 10 #[.int .i64 mdir, .int .i64 ps.length] u fun e w' => (∃ k : Nat, k < ps.length ∧ e = .returned (.int .i64 k)) ∧ w' = u) := fun u => modOf mdir ps.length u hp1 (by omega) hdir
  have m0 := HM0.out.c 0 _ rfl
  have m1 := HM0.out.c 1 _ rfl
  have m2 := HM0.out.c 2 _ rfl
  have m4 := HM0.out.c 4 _ rfl
  have m5 := HM0.out.c 5 _ rfl
  have m6 := HM0.out.c 6 _ rfl
  have m7 := HM0.out.c 7 _ rfl
  have m8 := HM0.out.c 8 _ rfl
  have m9 := HM0.out.c 9 _ rfl
  have HDB : Hid (∀ g, D g → g < w.heap.size) := h.dw.bnd
  clear h hb0
  go_enter Try.func6, Try.ntmps6
  go_wp2
  go_region_held3 (fun w' => w'.cell? ⟨gw, 0, none⟩ = some (.slice ad ps.length capd) ∧ w'.cell? ⟨w.heap.size, 0, none⟩ = some (.int .i64 mdir)) (go_keep) (first
    | (go_at_call 10
       refine (HMO.out _).mono ?_
       rintro e w' ⟨⟨k, hkl, rfl⟩, hw'⟩
       rcases hw' with rfl))
  have hbd : Below w0.heap.size w0 w0.drew := Below.drew (Below.refl _ _)
  have HW1 : Hid (WdAt D w0.drew gw (.slice ad ps.length capd) (.slice ax ps.length capx) vl rd rx rl ps hs) := HW0.out.later hbd
  have HB01 : Hid (Below w.heap.size w w0.drew) := Below.drew HB00.out
  have HM1 : Hid (MvAt w0.drew w.heap.size ⟨mdir, 9, key, hi, me, lim⟩) := HM0.out.later hbd
  clear hbd c0 c1 m0 m1 m2 m4 m5 m6 m7 m8 m9 HW0 HM0 HMO
  generalize w0.drew = w1 at HW1 HM1 HB01 ⊢
  have c0 := HW1.out.c0
  have c1 := HW1.out.c1
  have m1 := HM1.out.c 1 _ rfl
  have m2 := HM1.out.c 2 _ rfl
  have m4 := HM1.out.c 4 _ rfl
  have m5 := HM1.out.c 5 _ rfl
  have m6 := HM1.out.c 6 _ rfl
  have m7 := HM1.out.c 7 _ rfl
  have m8 := HM1.out.c 8 _ rfl
  have m9 := HM1.out.c 9 _ rfl
  simp only at m1 m2 m4 m5 m6 m7 m8 m9
  obtain ⟨g1, g2, rfl, rfl, q1, q2⟩ := HW1.out.pick hkl
  have hki : (k : Int) < (ps.length : Int) := by omega
  have HPA : Hid (PairAt D w1 (ps.getD k Dp.zero)) := HW1.out.dw.pr k hkl
  have hll := hok k hkl
  have HFI : Hid (∀ w7, Below w1.heap.size w1 w7 → ∃ D' ps', Grew ps ps' ∧ Fr3 D D' (WOwn gw rd rx rl ps hs) (WOwn gw rd rx rl ps' hs) w w7 ∧ WdAt D' w7 gw (.slice (some ⟨g1, 0, none⟩) ps.length capd) (.slice (some ⟨g2, 0, none⟩) ps.length capx) vl rd rx rl ps' hs) := fun w7 hw7 => ⟨D, ps, Grew.refl ps, Fr3.below (HB01.out.trans (hw7.mono HB01.out.size)), HW1.out.later hw7⟩
  obtain ⟨p, hp⟩ : ∃ p, ps.getD k Dp.zero = p := ⟨_, rfl⟩
  rw [hp] at q1 q2 HPA hll
  have hlk : ∀ x ∈ rowK (p.l.filter (begB key)), x.Ok := fun x hx => by
    obtain ⟨z, hz, rfl⟩ := List.mem_map.mp hx
    exact HPA.out.ok z (List.mem_filter.mp hz).1
  have hll2 : (rowK (p.l.filter (begB key))).length ≤ 2199023255500 := by
    have : (p.l.filter (begB key)).length ≤ p.l.length := List.length_filter_le ..
    simp only [List.length_map]; omega
  obtain ⟨LI, hLI⟩ : ∃ LI, rowK (p.l.filter (begB key)) = LI := ⟨_, rfl⟩
  have hgv : givenL ⟨mdir, 9, key, hi, me, lim⟩ p.l = p.l.filter (begB key) := rfl
  have hfo : ∀ x ∈ firstL LI lim, x.Ok := fun x hx => by
    unfold firstL at hx
    split at hx
    · exact hlk x (by rw [hLI]; exact List.mem_of_mem_take hx)
    · exact hlk x (by rw [hLI]; exact hx)
  have hfl : (firstL LI lim).length ≤ 2199023255500 := by
    unfold firstL
    split
    · rw [List.length_take]; rw [hLI] at hll2; omega
    · rw [← hLI]; exact hll2
  obtain ⟨ST, hST⟩ : ∃ ST, firstL LI lim = ST := ⟨_, rfl⟩
  have HTK : Hid (∀ u, Below w1.heap.size w1 u → Calls Try.prog 31 #[.pointer (some ⟨p.gd, 0, none⟩), Mv.v ⟨mdir, 9, key, hi, me, lim⟩] u fun e w' => ∃ v, e = .returned v ∧ KrsAt w' v ST ∧ Below w1.heap.size w1 w') := fun u hu => (takenOf ⟨mdir, 9, key, hi, me, lim⟩ u (HPA.out.dir.later hu) hkey hhi (by omega)).mono fun e w' ⟨v, r, a1, a2⟩ => ⟨v, a1, by
    have := a2.row
    rw [hgv, hLI, hST] at this
    exact this.recs (by rw [← hST]; exact hfl) (by rw [← hST]; exact hfo), hu.trans (a2.below.mono hu.size)⟩
  have HLI : Hid (∀ u, Below w1.heap.size w1 u → Calls Try.prog 34 #[.pointer (some ⟨p.gx, 0, none⟩), .string key] u fun e w' => ∃ a n c, e = .returned (.slice a n c) ∧ (KrsAt w' (.slice a n c) LI ∧ n ≤ c ∧ c ≤ maxLen) ∧ Below w1.heap.size w1 w' ∧ Below u.heap.size u w') := fun u hu => (xbeginOf p.gx p.v p.l p.r key u (HPA.out.xd.later hu) hkey).mono fun e w' ⟨v, r, a1, a2⟩ => by
    obtain ⟨a, c, e1, e2, e3⟩ := a2.row.shape
    subst e1
    refine ⟨a, _, c, a1, ⟨?_, e3, e2⟩, hu.trans (a2.below.mono hu.size), a2.below⟩
    rw [← hLI]
    exact a2.row.recs hll2 hlk
  have HFS : Hid (∀ u a n c, (KrsAt u (.slice a n c) LI ∧ n ≤ c ∧ c ≤ maxLen) → Calls Try.prog 32 #[.slice a n c, .int .i64 lim] u fun e w' => ∃ v', e = .returned v' ∧ KrsAt w' v' ST ∧ w' = u) := fun u a n c hh => by
    have := firstOf (.slice a n c) LI lim u hh.1 (fun a' m' c' e => by injection e with _ e2 e3; subst e2 e3; exact hh.2) hlim
    rw [hST] at this
    exact this
  have HSM : Hid (∀ u va vb, KrsAt u va ST → KrsAt u vb ST → Below w1.heap.size w1 u → Calls Try.prog 28 #[va, vb] u fun e w' => e = .returned (.bool true) ∧ Below w1.heap.size w1 w') := fun u va vb h1 h2 hu => (sameOf va vb ST u h1 h2).mono fun e w' ⟨a1, n, a2⟩ => ⟨a1, by rw [a2]; exact below_drewN hu n⟩
  have m0 := HM1.out.c 0 _ rfl
  have m3 := HM1.out.c 3 _ rfl
  have m10 := HM1.out.c 10 _ rfl
  simp only at m0 m3 m10
  have HMA : Hid (∀ u, Below w1.heap.size w1 u → u.cell? ⟨w.heap.size, 0, none⟩ = some (.int .i64 mdir) ∧ u.cell? ⟨w.heap.size, 1, none⟩ = some (.int .i64 9) ∧ u.cell? ⟨w.heap.size, 2, none⟩ = some (.string key) ∧ u.cell? ⟨w.heap.size, 3, none⟩ = some (.string hi) ∧ u.cell? ⟨w.heap.size, 4, none⟩ = some (.int .i64 me.seg) ∧ u.cell? ⟨w.heap.size, 5, none⟩ = some (.int .i64 me.pos) ∧ u.cell? ⟨w.heap.size, 6, none⟩ = some (.int .i64 me.size) ∧ u.cell? ⟨w.heap.size, 7, none⟩ = some (.int .i64 me.off) ∧ u.cell? ⟨w.heap.size, 8, none⟩ = some (.int .i64 me.time) ∧ u.cell? ⟨w.heap.size, 9, none⟩ = some (.bool me.tomb) ∧ u.cell? ⟨w.heap.size, 10, none⟩ = some (.int .i64 lim)) := fun u hu => ⟨(HM1.out.later hu).c 0 _ rfl, (HM1.out.later hu).c 1 _ rfl, (HM1.out.later hu).c 2 _ rfl, (HM1.out.later hu).c 3 _ rfl, (HM1.out.later hu).c 4 _ rfl, (HM1.out.later hu).c 5 _ rfl, (HM1.out.later hu).c 6 _ rfl, (HM1.out.later hu).c 7 _ rfl, (HM1.out.later hu).c 8 _ rfl, (HM1.out.later hu).c 9 _ rfl, (HM1.out.later hu).c 10 _ rfl⟩
  clear hp hlk hll2 hLI hgv hfo hfl hST
  go_wp2
  go_region_held3 (fun w' => w'.cell? ⟨w.heap.size, 0, none⟩ = some (.int .i64 mdir) ∧ w'.cell? ⟨w.heap.size, 1, none⟩ = some (.int .i64 9) ∧ w'.cell? ⟨w.heap.size, 2, none⟩ = some (.string key) ∧ w'.cell? ⟨w.heap.size, 3, none⟩ = some (.string hi) ∧ w'.cell? ⟨w.heap.size, 4, none⟩ = some (.int .i64 me.seg) ∧ w'.cell? ⟨w.heap.size, 5, none⟩ = some (.int .i64 me.pos) ∧ w'.cell? ⟨w.heap.size, 6, none⟩ = some (.int .i64 me.size) ∧ w'.cell? ⟨w.heap.size, 7, none⟩ = some (.int .i64 me.off) ∧ w'.cell? ⟨w.heap.size, 8, none⟩ = some (.int .i64 me.time) ∧ w'.cell? ⟨w.heap.size, 9, none⟩ = some (.bool me.tomb) ∧ w'.cell? ⟨w.heap.size, 10, none⟩ = some (.int .i64 lim)) (go_keep) (first
    | (go_at_call 31
       refine (HTK.out _ (by first | exact Below.refl _ _ | exact Below.drew (Below.refl _ _) | assumption)).mono ?_
       rintro e w3 ⟨v3, rfl, hk3, hb3⟩
       have hm3 := HMA.out w3 hb3
       rcases hm3 with ⟨e0, e1, e2, e3, e4, e5, e6, e7, e8, e9, e10⟩)
    | (go_at_call 34
       refine (HLI.out _ (by first | assumption)).mono ?_
       rintro e w4 ⟨a4, n4, c4, rfl, hk4, hb4, hb34⟩
       have hk34 := KrsAt.later hk3 hb34
       have hm4 := HMA.out w4 hb4
       rcases hm4 with ⟨f0, f1, f2, f3, f4, f5, f6, f7, f8, f9, f10⟩)
    | (go_at_call 32
       refine (HFS.out _ _ _ _ hk4).mono ?_
       rintro e w5 ⟨v5, rfl, hk5, hw5⟩
       rcases hw5 with rfl)
    | (go_at_call 28
       refine (HSM.out _ _ _ hk34 hk5 hb4).mono ?_
       rintro e w6 ⟨rfl, hb6⟩
       have hm6 := HMA.out w6 hb6
       rcases hm6 with ⟨i0, i1, i2, i3, i4, i5, i6, i7, i8, i9, i10⟩))
  all_goals
    go_wp2
    go_ret
    exact ⟨rfl, HFI.out _ hb6⟩
end Go.Proofs.Ytjhbaplnkigifaa
