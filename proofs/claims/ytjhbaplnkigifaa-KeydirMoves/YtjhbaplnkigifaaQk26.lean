import Derived.Test.YtjhbaplnkigifaaQk25
import Derived.Deep.RegionLaw
/-! keydir: told: Freeze. -/
namespace Go.Proofs.Ytjhbaplnkigifaa
open Go.RowKit Plain
set_option linter.unusedVariables false
set_option linter.unusedSimpArgs false

theorem Try.infoXP : (Try.prog.info? 30).map (fun i => (i.zero, i.size, i.bytes)) = some (some (Value.pointer none), 1, 8) := by kernel_rfl
theorem Try.infoDIRP : (Try.prog.info? 23).map (fun i => (i.zero, i.size, i.bytes)) = some (some (Value.pointer none), 1, 8) := by kernel_rfl
theorem pushCell {D : Nat → Prop} {w3 w5 w6 w7 : World} {gw : Nat} {vd vx vl u : Value} {rd rx rl : Option Nat} {ps : List Dp} {hs : List Ho} {o : Obj} (hC : Chg (pushS gw rd rx) w3 w5) (hs35 : w3.heap.size ≤ w5.heap.size) (hW3 : WdAt D w3 gw vd vx vl rd rx rl ps hs) (hb6 : Below w5.heap.size w5 w6) (hg7 : (w6.alloc o).grownBy w7 rx) (h : w5.cell? ⟨gw, 1, none⟩ = some u) : w7.cell? ⟨gw, 1, none⟩ = some u := by
  have hgw := hW3.lt gw (.inl rfl)
  have hs6 := hb6.size
  have hb : w7.heap[gw]? = w5.heap[gw]? := (hg7.block gw (by simp; omega) (fun e => hW3.sep.x e.symm)).trans ((Below.heap_alloc _ _ _ (by omega)).trans (hb6.block gw (by omega)))
  rw [World.cell?_of_block (w := w5) (a := ⟨gw, 1, none⟩) hb]; exact h
theorem pushFroz {D : Nat → Prop} {w3 w5 w6 w7 : World} {gw : Nat} {vd vx vl : Value} {rd rx rl : Option Nat} {ps : List Dp} {hs : List Ho} {o : Obj} (hC : Chg (pushS gw rd rx) w3 w5) (hs35 : w3.heap.size ≤ w5.heap.size) (hW3 : WdAt D w3 gw vd vx vl rd rx rl ps hs) (hb6 : Below w5.heap.size w5 w6) (hg7 : (w6.alloc o).grownBy w7 rx) (h : w5.frozen? ⟨gw, 1, none⟩ = false) : w7.frozen? ⟨gw, 1, none⟩ = false := by
  have hgw := hW3.lt gw (.inl rfl)
  have hs6 := hb6.size
  have hb : w7.heap[gw]? = w5.heap[gw]? := (hg7.block gw (by simp; omega) (fun e => hW3.sep.x e.symm)).trans ((Below.heap_alloc _ _ _ (by omega)).trans (hb6.block gw (by omega)))
  rw [World.frozen?_of_block (w := w5) (a := ⟨gw, 1, none⟩) hb]; exact h
/-- The second row grown: the pair is there. -/
theorem pushEnd {D : Nat → Prop} {w1 w3 w5 w6 w7 : World} {gw g4 g7 : Nat} {vd vx vl vd5 v6 v7 : Value} {rd rx rl r6 : Option Nat} {ps : List Dp} {hs : List Ho} {l : List Ke} {o : Obj} (hW1 : WdAt D w1 gw vd vx vl rd rx rl ps hs) (hB3 : Below w1.heap.size w1 w3) (hD3 : DirAt (fun g => D g ∨ g = w1.heap.size) w3 w1.heap.size l) (hC35 : Chg (pushS gw rd rx) w3 w5) (hg4 : rd = some g4 ∨ w3.heap.size ≤ g4) (hs35 : w3.heap.size ≤ w5.heap.size)
    (h50 : w5.cell? ⟨gw, 0, none⟩ = some vd5) (h51 : w5.cell? ⟨gw, 1, none⟩ = some vx) (h52 : w5.cell? ⟨gw, 2, none⟩ = some vl) (h5f : ∀ j, w5.frozen? ⟨gw, j, none⟩ = false) (hRD5 : OwnV w5 vd5 (ps.map ptrD ++ [.pointer (some ⟨w1.heap.size, 0, none⟩)]) (some g4)) (hRX5 : OwnV w5 vx (ps.map ptrX) rx)
    (hb6 : Below w5.heap.size w5 w6) (hx6 : XDirAt w6 w5.heap.size v6 l r6) (hr6 : ∀ g, r6 = some g → w5.heap.size < g) (ho7 : OwnV w7 v7 (ps.map ptrX ++ [.pointer (some ⟨w5.heap.size, 0, none⟩)]) (some g7)) (hg7 : (w6.alloc o).grownBy w7 rx) (hr7 : some g7 = rx ∨ g7 = (w6.alloc o).heap.size) (ha : AllK l) (hok : ∀ k ∈ l, k.r.Ok) (h8 : ps.length < 8) {k : Nat} (hkl : k < ps.length) (hll : l.length ≤ (ps.getD k Dp.zero).l.length) :
    ∃ D' vd' vx' rd' rx' ps', Grew ps ps' ∧ Fr3 D D' (WOwn gw rd rx rl ps hs) (WOwn gw rd' rx' rl ps' hs) w1 (w7.setCell ⟨gw, 1, none⟩ v7) ∧ WdAt D' (w7.setCell ⟨gw, 1, none⟩ v7) gw vd' vx' vl rd' rx' rl ps' hs := by
  have hW3 := hW1.later hB3
  have hgw := hW3.lt gw (.inl rfl)
  have hs6 := hb6.size
  have hsA : (w6.alloc o).heap.size = w6.heap.size + 1 := by simp
  have hs7 := hg7.size
  rw [hsA] at hs7
  have hrxl : ∀ g, rx = some g → g < w3.heap.size := fun g e => hW3.lt g (.inr (.inr (.inl e)))
  have gS : w7.grownBy (w7.setCell ⟨gw, 1, none⟩ v7) (some gw) := grow_setC w7 gw 1 v7
  obtain ⟨w8, hw8⟩ : ∃ w8, w7.setCell ⟨gw, 1, none⟩ v7 = w8 := ⟨_, rfl⟩
  rw [hw8] at gS ⊢
  have hs8 := gS.size
  have hb7 : ∀ j, j < w6.heap.size → rx ≠ some j → w7.heap[j]? = w6.heap[j]? := fun j hj hn => (hg7.block j (by omega) (fun e => hn e.symm)).trans (Below.heap_alloc _ _ _ hj)
  have hb8 : ∀ j, j < w6.heap.size → rx ≠ some j → j ≠ gw → w8.heap[j]? = w6.heap[j]? := fun j hj hn hn2 => (gS.block j (by omega) (fun e => hn2 (Option.some.inj e))).trans (hb7 j hj hn)
  have hgwb : w7.heap[gw]? = w5.heap[gw]? := (hb7 gw (by omega) hW3.sep.x).trans (hb6.block gw (by omega))
  have hc7 : ∀ j, w7.cell? ⟨gw, j, none⟩ = w5.cell? ⟨gw, j, none⟩ := fun j => World.cell?_of_block (w := w5) (a := ⟨gw, j, none⟩) hgwb
  have hcj : ∀ j, j ≠ 1 → w8.cell? ⟨gw, j, none⟩ = w5.cell? ⟨gw, j, none⟩ := fun j hj => by
    rw [← hw8, World.cell?_setCell_other _ _ _ _ (by intro e; injection e with e1 e2; exact hj e2.symm)]; exact hc7 j
  have hc1 : w8.cell? ⟨gw, 1, none⟩ = some v7 := by rw [← hw8]; exact World.cell?_setCell_same _ _ _ ((hc7 1).trans h51)
  have hf8 : ∀ j, w8.frozen? ⟨gw, j, none⟩ = false := fun j => by
    rw [← hw8, World.frozen?_setCell, World.frozen?_of_block (w := w5) (a := ⟨gw, j, none⟩) hgwb]; exact h5f j
  have hC38 : Chg (pushS gw rd rx) w3 w8 := (((hC35.more hb6).more ((Below.refl _ w6).alloc (Nat.le_refl _) o)).grown hg7 (fun g e => .inl (.inr (.inr e)))).grown gS (fun g e => .inl (.inl (Option.some.inj e).symm))
  have hx8 : XDirAt w8 w5.heap.size v6 l r6 := by
    have hb := hb8 w5.heap.size hx6.lt (fun e => by have := hrxl _ e; omega) (by omega)
    exact ⟨(World.cell?_of_block (w := w6) (a := ⟨w5.heap.size, 0, none⟩) hb).trans hx6.cell, (World.frozen?_of_block (w := w6) (a := ⟨w5.heap.size, 0, none⟩) hb).trans hx6.froz, hx6.row.of_block (by omega) (fun g e => hb8 g (hx6.row.lt' g e) (fun e2 => by have := hrxl _ e2; have := hr6 g e; omega) (by have := hr6 g e; omega)), hx6.ne, hx6.srt, hx6.short, hx6.len⟩
  have hg7w : g7 ≠ gw := fun e => by
    rcases hr7 with q | q
    · exact hW3.sep.x (by rw [← q, e])
    · omega
  have hrd8 : OwnV w8 vd5 (ps.map ptrD ++ [.pointer (some ⟨w1.heap.size, 0, none⟩)]) (some g4) := by
    have hl4 := hRD5.lt
    refine (hRD5.later hb6).of_block (by omega) (fun g e => ?_)
    have e' : g4 = g := Option.some.inj e
    subst e'
    refine hb8 g4 (by omega) (fun e2 => ?_) (fun e2 => ?_)
    · rcases hg4 with q | q
      · exact hW3.sep.dx g4 q e2
      · have := hrxl _ e2; omega
    · rcases hg4 with q | q
      · exact hW3.sep.d (by rw [q, e2])
      · omega
  have hrx8 : OwnV w8 v7 (ps.map ptrX ++ [.pointer (some ⟨w5.heap.size, 0, none⟩)]) (some g7) := ho7.kept gS (.inr (fun e => hg7w (Option.some.inj e)))
  obtain ⟨D', hfr, hD'⟩ := hW1.push (gd' := w1.heap.size) (gx' := w5.heap.size) (v' := v6) (r' := r6) (l := l) (w' := w8) (vd' := vd5) (vx' := v7) (rd' := some g4) (rx' := some g7) hB3 ⟨Nat.le_refl _, hD3.lt⟩ hD3 hC38 hx8 hs35 (fun g e => by have := hr6 g e; omega) ha hok ((hcj 0 (by omega)).trans h50) hc1 ((hcj 2 (by omega)).trans h52) hf8 hrd8 hrx8
    (fun g e => by
      have e' : g4 = g := Option.some.inj e
      subst e'
      have := hRD5.lt
      rcases hg4 with q | q
      · exact .inl q
      · exact .inr ⟨q, by omega, by omega, fun e2 => by have := hr6 g4 e2; omega⟩)
    (fun g e => by
      have e' : g7 = g := Option.some.inj e
      subst e'
      rcases hr7 with q | q
      · exact .inl q.symm
      · exact .inr ⟨by omega, by have := ho7.lt; omega, by omega, fun e2 => by have := hx6.row.lt' g7 e2; omega⟩)
    (fun g e e2 => by
      have e' : g4 = g := Option.some.inj e
      have e3 : g7 = g := Option.some.inj e2
      subst e'
      have := hRD5.lt
      rcases hr7 with q | q
      · rcases hg4 with q2 | q2
        · exact hW3.sep.dx g4 q2 (by rw [← q, e3])
        · have := hrxl g7 q.symm; omega
      · omega) h8
  exact ⟨D', _, _, _, _, _, Grew.push hkl hll, hfr, hD'⟩
set_option maxHeartbeats 16000000 in
set_option maxRecDepth 100000 in
theorem toldFreeze {D : Nat → Prop} {w : World} {gw : Nat} {vd vx vl : Value} {rd rx rl : Option Nat} {ps : List Dp} {hs : List Ho} (m : Mv) (h : WdAt D w gw vd vx vl rd rx rl ps hs) (hk : m.kind = 10) (hkey : m.key.size ≤ maxLen) (hdir : I64 m.dir) (hok : ∀ i, i < ps.length → (ps.getD i Dp.zero).l.length < 2199023255000) (hE : (Ke.r ⟨⟨#[]⟩, m.e⟩).Ok) :
    Calls Try.prog 6 #[.pointer (some ⟨gw, 0, none⟩), m.v] w fun e w' => e = .returned (.bool true) ∧ ∃ D' vd' vx' rd' rx' ps', Grew ps ps' ∧ Fr3 D D' (WOwn gw rd rx rl ps hs) (WOwn gw rd' rx' rl ps' hs) w w' ∧ WdAt D' w' gw vd' vx' vl rd' rx' rl ps' hs := by
  obtain ⟨mdir, mkind, key, hi, me, lim⟩ := m
  simp only at hk hkey hdir hE
  subst hk
  obtain ⟨ad, capd, e, hd1, hd2⟩ := h.rowd.shape
  obtain ⟨ax, capx, e2, hx1, hx2⟩ := h.rowx.shape
  rw [List.length_map] at e e2 hd2 hx2
  subst e e2
  obtain ⟨w0, hw0⟩ : ∃ w0, w.alloc (.cells #[.int .i64 mdir, .int .i64 10, .string key, .string hi, .int .i64 me.seg, .int .i64 me.pos, .int .i64 me.size, .int .i64 me.off, .int .i64 me.time, .bool me.tomb, .int .i64 lim] 40) = w0 := ⟨_, rfl⟩
  have hb0 : Below w.heap.size w w0 := by rw [← hw0]; exact (Below.refl _ _).alloc (Nat.le_refl _) _
  have HM0 : Hid (MvAt w0 w.heap.size ⟨mdir, 10, key, hi, me, lim⟩) := by unfold Hid; rw [← hw0]; exact MvAt.new w ⟨mdir, 10, key, hi, me, lim⟩
  have HW0 : Hid (WdAt D w0 gw (.slice ad ps.length capd) (.slice ax ps.length capx) vl rd rx rl ps hs) := h.later hb0
  have HB00 : Hid (Below w.heap.size w w0) := hb0
  have c0 := HW0.out.c0
  have c1 := HW0.out.c1
  obtain ⟨hp1, hp8⟩ := h.some2
  have HMO : Hid (∀ u, Calls Try.prog 10 #[.int .i64 mdir, .int .i64 ps.length] u fun e w' => (∃ k : Nat, k < ps.length ∧ e = .returned (.int .i64 k)) ∧ w' = u) := fun u => modOf mdir ps.length u hp1 (by omega) hdir
  have m0 := HM0.out.c 0 _ rfl
  have m1 := HM0.out.c 1 _ rfl
  have m2 := HM0.out.c 2 _ rfl
  have m4 := HM0.out.c 4 _ rfl
  have m5 := HM0.out.c 5 _ rfl
  have m6 := HM0.out.c 6 _ rfl
  have m7 := HM0.out.c 7 _ rfl
  have m8 := HM0.out.c 8 _ rfl
  have m9 := HM0.out.c 9 _ rfl
  have HDB : Hid (∀ g, D g → g < w.heap.size) := h.dw.bnd
  clear h hb0
  go_enter Try.func6, Try.ntmps6
  go_wp2
  go_region_held3 (fun w' => w'.cell? ⟨gw, 0, none⟩ = some (.slice ad ps.length capd) ∧ w'.cell? ⟨w.heap.size, 0, none⟩ = some (.int .i64 mdir)) (go_keep) (first
    | (go_at_call 10
       refine (HMO.out _).mono ?_
       rintro e w' ⟨⟨k, hkl, rfl⟩, hw'⟩
       rcases hw' with rfl))
  have hbd : Below w0.heap.size w0 w0.drew := Below.drew (Below.refl _ _)
  have HW1 : Hid (WdAt D w0.drew gw (.slice ad ps.length capd) (.slice ax ps.length capx) vl rd rx rl ps hs) := HW0.out.later hbd
  have HB01 : Hid (Below w.heap.size w w0.drew) := Below.drew HB00.out
  have HM1 : Hid (MvAt w0.drew w.heap.size ⟨mdir, 10, key, hi, me, lim⟩) := HM0.out.later hbd
  clear hbd c0 c1 m0 m1 m2 m4 m5 m6 m7 m8 m9 HW0 HM0 HMO
  generalize w0.drew = w1 at HW1 HM1 HB01 ⊢
  have c0 := HW1.out.c0
  have c1 := HW1.out.c1
  have m1 := HM1.out.c 1 _ rfl
  have m2 := HM1.out.c 2 _ rfl
  have m4 := HM1.out.c 4 _ rfl
  have m5 := HM1.out.c 5 _ rfl
  have m6 := HM1.out.c 6 _ rfl
  have m7 := HM1.out.c 7 _ rfl
  have m8 := HM1.out.c 8 _ rfl
  have m9 := HM1.out.c 9 _ rfl
  simp only at m1 m2 m4 m5 m6 m7 m8 m9
  obtain ⟨g1, g2, rfl, rfl, q1, q2⟩ := HW1.out.pick hkl
  have hki : (k : Int) < (ps.length : Int) := by omega
  have HPA : Hid (PairAt D w1 (ps.getD k Dp.zero)) := HW1.out.dw.pr k hkl
  have hll := hok k hkl
  have HNP : Hid (∀ g, (ps.getD k Dp.zero).own g → rd ≠ some g ∧ g ≠ gw) := fun g hg => ⟨fun e => HW1.out.notp g (.inr (.inl e)) k hkl hg, fun e => HW1.out.notp g (.inl e) k hkl hg⟩
  obtain ⟨p, hp⟩ : ∃ p, ps.getD k Dp.zero = p := ⟨_, rfl⟩
  rw [hp] at q1 q2 HPA hll HNP
  have HFZ : Hid (Calls Try.prog 35 #[.pointer (some ⟨p.gd, 0, none⟩)] w1 fun e w' => e = .returned (.pointer (some ⟨w1.heap.size, 0, none⟩)) ∧ Below w1.heap.size w1 w' ∧ DirAt (fun g => D g ∨ g = w1.heap.size) w' w1.heap.size p.l) := freezeOf w1 (HPA.out.dir.widen (fun g hg => .inl hg) (fun g hg => hg.imp id (fun e => by omega))) (.inr rfl)
  have HPL : Hid (p.l.length ≤ (ps.getD k Dp.zero).l.length) := by unfold Hid; rw [hp]; exact Nat.le_refl _
  clear hp
  go_wp2_with fail
  refine HFZ.out.mono ?_
  rintro e w3 ⟨rfl, hb3, hd3⟩
  have HW3 : Hid (WdAt D w3 gw (.slice (some ⟨g1, 0, none⟩) ps.length capd) (.slice (some ⟨g2, 0, none⟩) ps.length capx) vl rd rx rl ps hs) := HW1.out.later hb3
  have HB3 : Hid (Below w1.heap.size w1 w3 ∧ DirAt (fun g => D g ∨ g = w1.heap.size) w3 w1.heap.size p.l) := ⟨hb3, hd3⟩
  have c0 := HW3.out.c0
  have c1 := HW3.out.c1
  have f0 := HW3.out.fz 0
  clear hb3 hd3
  by_cases h8 : ps.length < 8
  · have h8i : (ps.length : Int) < 8 := by omega
    obtain ⟨ti, hti, hz0, hz1, hz2⟩ := info_parts Try.infoDIRP
    go_wp2_with (at_builtin; refine wpList_append_val2 _ rfl _ _ 29 23 ti (.pointer none) rfl Try.underlying29 hti hz0 rfl hz1 (by rw [hz2]; decide) _ _ (.pointer (some ⟨w1.heap.size, 0, none⟩)) (ps.map ptrD) rd rfl rfl ?hOwnL ?hSrcL ?hLenL ?_)
    case hOwnL => exact HW3.out.rowd.later ((Below.refl _ _).alloc (Nat.le_refl _) _)
    case hSrcL => exact src_val _ _ rfl _ 23 _ Try.underlying29
    case hLenL => simp; omega
    intro v4 w4 g4 ho4 hg4 hr4
    obtain ⟨a4, N4, cc4, rfl⟩ : ∃ a N c, v4 = .slice a N c := by
      obtain ⟨a6, cc6, e, -, -⟩ := ho4.shape
      exact ⟨a6, _, cc6, e⟩
    have hsA : (w3.alloc (.cells #[.pointer (some ⟨w1.heap.size, 0, none⟩)] 23)).heap.size = w3.heap.size + 1 := by simp
    have hs4 := hg4.size
    rw [hsA] at hs4
    have hgw3 := HW3.out.lt gw (.inl rfl)
    have hb4 : ∀ j, j < w3.heap.size → rd ≠ some j → w4.heap[j]? = w3.heap[j]? := fun j hj hn => (hg4.block j (by rw [hsA]; omega) (fun e => hn e.symm)).trans (Below.heap_alloc _ _ _ hj)
    have hg4x : rd = some g4 ∨ w3.heap.size ≤ g4 := by
      rcases hr4 with e | e
      · exact .inl e.symm
      · exact .inr (by first | omega | (rw [hsA] at e; omega))
    have hc4 : w4.cell? ⟨gw, 0, none⟩ = some (.slice (some ⟨g1, 0, none⟩) ps.length capd) := (World.cell?_of_block (w := w3) (a := ⟨gw, 0, none⟩) (hb4 gw hgw3 HW3.out.sep.d)).trans c0
    have hf4 : w4.frozen? ⟨gw, 0, none⟩ = false := (World.frozen?_of_block (w := w3) (a := ⟨gw, 0, none⟩) (hb4 gw hgw3 HW3.out.sep.d)).trans f0
    have gS := grow_setC w4 gw 0 (.slice a4 N4 cc4)
    obtain ⟨w5, hw5⟩ : ∃ w5, w4.setCell ⟨gw, 0, none⟩ (.slice a4 N4 cc4) = w5 := ⟨_, rfl⟩
    rw [hw5] at gS
    have hs5 := gS.size
    have hb5 : ∀ j, j < w3.heap.size → rd ≠ some j → j ≠ gw → w5.heap[j]? = w3.heap[j]? := fun j hj hn hn2 => (gS.block j (by omega) (fun e => hn2 (by have := Option.some.inj e; omega))).trans (hb4 j hj hn)
    have hC35 : Chg (pushS gw rd rx) w3 w5 := ((Chg.ofBelow ((Below.refl _ w3).alloc (Nat.le_refl _) _)).grown hg4 (fun g e => .inl (.inr (.inl e)))).grown gS (fun g e => .inl (.inl (by have := Option.some.inj e; omega)))
    have h50 : w5.cell? ⟨gw, 0, none⟩ = some (.slice a4 N4 cc4) := by rw [← hw5]; exact World.cell?_setCell_same' _ _ _ (by rw [hc4]; rfl)
    have h5j : ∀ j, j ≠ 0 → w5.cell? ⟨gw, j, none⟩ = w3.cell? ⟨gw, j, none⟩ := fun j hj => by
      rw [← hw5, show w4.setCell ⟨gw, 0, none⟩ (.slice a4 N4 cc4) = w4.setCells gw 0 [.slice a4 N4 cc4] from rfl, World.cell?_setCells_out gw _ _ w4 _ (fun _ _ => by simp only [List.length_cons, List.length_nil]; omega)]
      exact World.cell?_of_block (w := w3) (a := ⟨gw, j, none⟩) (hb4 gw hgw3 HW3.out.sep.d)
    have h5f : ∀ j, w5.frozen? ⟨gw, j, none⟩ = false := fun j => by
      rw [← hw5, World.frozen?_setCell]
      exact (World.frozen?_of_block (w := w3) (a := ⟨gw, j, none⟩) (hb4 gw hgw3 HW3.out.sep.d)).trans (HW3.out.fz j)
    have hg4w : g4 ≠ gw := fun e => by
      rcases hg4x with q | q
      · exact HW3.out.sep.d (by rw [q, e])
      · omega
    have HRD5 : Hid (OwnV w5 (.slice a4 N4 cc4) (ps.map ptrD ++ [.pointer (some ⟨w1.heap.size, 0, none⟩)]) (some g4)) := ho4.kept gS (.inr (fun e => hg4w (by have := Option.some.inj e; omega)))
    have HRX5 : Hid (OwnV w5 (.slice (some ⟨g2, 0, none⟩) ps.length capx) (ps.map ptrX) rx) := HW3.out.rowx.of_block (by omega) (fun g e => hb5 g (HW3.out.lt g (.inr (.inr (.inl e)))) (fun e2 => HW3.out.sep.dx g e2 e) (fun e2 => HW3.out.sep.x (by rw [e, e2])))
    have HP3 : Hid (PairAt D w3 p) := HPA.out.kept HB3.out.1.size (fun g hg => HB3.out.1.block g (HPA.out.lt g hg)) (fun g hg _ => HB3.out.1.block g hg)
    have hnp : ∀ g, p.own g → rd ≠ some g ∧ g ≠ gw := HNP.out
    have hXD5 : XDirAt w5 p.gx p.v p.l p.r := by
      have hx := HP3.out.xd
      have hb := hb5 p.gx hx.lt (hnp p.gx (.inr (.inl rfl))).1 (hnp p.gx (.inr (.inl rfl))).2
      exact ⟨(World.cell?_of_block (w := w3) (a := ⟨p.gx, 0, none⟩) hb).trans hx.cell, (World.frozen?_of_block (w := w3) (a := ⟨p.gx, 0, none⟩) hb).trans hx.froz, hx.row.of_block (by omega) (fun g e => hb5 g (hx.row.lt' g e) (hnp g (.inr (.inr e))).1 (hnp g (.inr (.inr e))).2), hx.ne, hx.srt, hx.short, hx.len⟩
    have HXD5 : Hid (XDirAt w5 p.gx p.v p.l p.r) := hXD5
    have H50 : Hid (w5.cell? ⟨gw, 0, none⟩ = some (.slice a4 N4 cc4)) := h50
    have HXF : Hid (Calls Try.prog 36 #[.pointer (some ⟨p.gx, 0, none⟩)] w5 fun e w' => e = .returned (.pointer (some ⟨w5.heap.size, 0, none⟩)) ∧ ∃ v' r', XDirAt w' w5.heap.size v' p.l r' ∧ (∀ g, r' = some g → w5.heap.size < g) ∧ Below w5.heap.size w5 w') := xfreezeOf p.gx p.v p.l p.r w5 hXD5
    have HC35 : Hid (Chg (pushS gw rd rx) w3 w5 ∧ (rd = some g4 ∨ w3.heap.size ≤ g4) ∧ w3.heap.size ≤ w5.heap.size) := ⟨hC35, hg4x, by omega⟩
    have H5J : Hid (∀ j, j ≠ 0 → w5.cell? ⟨gw, j, none⟩ = w3.cell? ⟨gw, j, none⟩) := h5j
    have H5F : Hid (∀ j, w5.frozen? ⟨gw, j, none⟩ = false) := h5f
    have d1 := (h5j 1 (by omega)).trans c1
    clear ho4 hg4 hr4 hb4 hb5 hC35 h5j h5f gS hXD5 hg4x hnp
    obtain ⟨tx, htx, hy0, hy1, hy2⟩ := info_parts Try.infoXP
    have HXF2 : Hid (∀ u, (u = w5 ∨ u = w5.drew) → Calls Try.prog 36 #[.pointer (some ⟨p.gx, 0, none⟩)] u fun e w' => e = .returned (.pointer (some ⟨w5.heap.size, 0, none⟩)) ∧ ∃ v' r', XDirAt w' w5.heap.size v' p.l r' ∧ (∀ g, r' = some g → w5.heap.size < g) ∧ Below w5.heap.size w5 w') := fun u hu => by
      rcases hu with rfl | rfl
      · exact HXF.out
      · refine (xfreezeOf p.gx p.v p.l p.r w5.drew (HXD5.out.later (Below.drew (Below.refl _ _)))).mono ?_
        rintro e w' ⟨rfl, v', r', q1, q2, q3⟩
        exact ⟨rfl, v', r', q1, q2, (Below.drew (Below.refl _ _)).trans q3⟩
    have HRX6 : Hid (∀ u, Below w5.heap.size w5 u → OwnV u (.slice (some ⟨g2, 0, none⟩) ps.length capx) (ps.map ptrX) rx) := fun u hu => HRX5.out.later hu
    have HEND : Hid (∀ (w6 w7 : World) (v6 v7 : Value) (r6 : Option Nat) (g7 : Nat) (o : Obj), Below w5.heap.size w5 w6 → XDirAt w6 w5.heap.size v6 p.l r6 → (∀ g, r6 = some g → w5.heap.size < g) → OwnV w7 v7 (ps.map ptrX ++ [.pointer (some ⟨w5.heap.size, 0, none⟩)]) (some g7) → (w6.alloc o).grownBy w7 rx → (some g7 = rx ∨ g7 = (w6.alloc o).heap.size) → ∃ D' vd' vx' rd' rx' ps', Grew ps ps' ∧ Fr3 D D' (WOwn gw rd rx rl ps hs) (WOwn gw rd' rx' rl ps' hs) w (w7.setCell ⟨gw, 1, none⟩ v7) ∧ WdAt D' (w7.setCell ⟨gw, 1, none⟩ v7) gw vd' vx' vl rd' rx' rl ps' hs) := fun w6 w7 v6 v7 r6 g7 o hb6 hx6 hr6 ho7 hg7 hr7 => by
      obtain ⟨D', vd', vx', rd', rx', ps', q1, q2, q3⟩ := pushEnd HW1.out HB3.out.1 HB3.out.2 HC35.out.1 HC35.out.2.1 HC35.out.2.2 H50.out d1 ((H5J.out 2 (by omega)).trans HW3.out.c2) H5F.out HRD5.out HRX5.out hb6 hx6 hr6 ho7 hg7 hr7 HPA.out.all HPA.out.ok h8 hkl HPL.out
      exact ⟨D', vd', vx', rd', rx', ps', q1, (Fr3.below HB01.out).trans q2, q3⟩
    go_wp2
    go_region_law (first
      | (refine step_append_val2 rfl (.tmp 319) (.tmp 322) 32 30 tx (.pointer none) Try.underlying32 htx hy0 rfl hy1 (by rw [hy2]; decide) rfl (.slice (some ⟨g2, 0, none⟩) ps.length capx) (.slice (some ⟨w6.heap.size, 0, none⟩) 1 1) (.pointer (some ⟨w5.heap.size, 0, none⟩)) (ps.map ptrX) rx (by first | rfl | simp [Act.eval, Act.put]) (by first | rfl | simp [Act.eval, Act.put]) (HRX6.out _ (hb6.trans (((Below.refl _ w6).alloc (Nat.le_refl _) _).mono hb6.size))) (src_val _ _ rfl _ 30 _ Try.underlying32) (by simp; omega) ?_
         intro v7 w7 g7 ho7 hg7 hr7
         have hsh : ∃ a N c, v7 = .slice a N c := ho7.shape.elim fun a6 h => h.elim fun cc6 h2 => ⟨a6, _, cc6, h2.1⟩
         rcases hsh with ⟨a7, N7, c7, rfl⟩
         have e7 := pushCell HC35.out.1 HC35.out.2.2 HW3.out hb6 hg7 d1
         have f7 := pushFroz HC35.out.1 HC35.out.2.2 HW3.out hb6 hg7 (H5F.out 1))
      | (go_simp
         go_at_call 36
         refine (HXF2.out _ (by first | exact .inl rfl | exact .inr rfl)).mono ?_
         rintro e w6 ⟨rfl, v6, r6, hx6, hr6, hb6⟩
         have e6 := (hb6.cell (p := ⟨gw, 1, none⟩) (cell_lt d1)).trans d1
         have e6b : (w6.alloc (.cells #[.pointer (some ⟨w5.heap.size, 0, none⟩)] 30)).cell? ⟨gw, 1, none⟩ = some (.slice (some ⟨g2, 0, none⟩) ps.length capx) := cell_kept e6 (World.grownBy_alloc _ _ none) (fun r e => by cases e)))
    all_goals
      have HF := HEND.out w6 w7 v6 (.slice a7 N7 c7) r6 g7 _ hb6 hx6 hr6 ho7 hg7 hr7
      have HFF : Hid (∃ D' vd' vx' rd' rx' ps', Grew ps ps' ∧ Fr3 D D' (WOwn gw rd rx rl ps hs) (WOwn gw rd' rx' rl ps' hs) w (w7.setCell ⟨gw, 1, none⟩ (.slice a7 N7 c7)) ∧ WdAt D' (w7.setCell ⟨gw, 1, none⟩ (.slice a7 N7 c7)) gw vd' vx' vl rd' rx' rl ps' hs) := HF
      clear HF hb6 hx6 hr6 ho7 hg7 hr7 e6 e7 f7
      go_wp2
      go_ret
      exact ⟨by first | rfl | simp, HFF.out⟩
  · have h8i : ¬ (ps.length : Int) < 8 := by omega
    go_wp2
    go_ret
    exact ⟨by first | rfl | simp, _, _, _, _, _, _, Grew.refl _, Fr3.below (HB01.out.trans (HB3.out.1.mono HB01.out.size)), HW3.out⟩
end Go.Proofs.Ytjhbaplnkigifaa
