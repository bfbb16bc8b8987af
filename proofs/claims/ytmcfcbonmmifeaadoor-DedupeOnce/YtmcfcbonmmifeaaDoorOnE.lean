import Derived.Test.YtmcfcbonmmifeaaDoorOnD
import Derived.Deep.RegionHeld3
/-! dedupe: the law's sends, way by way. -/
namespace Go.Proofs.YtmcfcbonmmifeaaDoor
open Go.RowKit Go.Maps Plain
set_option linter.unusedVariables false
set_option linter.unusedSimpArgs false

theorem modify_snoc (f : Gv → Gv) : ∀ (G : List Gv) (x : Gv), (G ++ [x]).modify G.length f = G ++ [f x]
  | [], x => rfl
  | g :: G, x => by
    have := modify_snoc f G x
    simp only [List.cons_append, List.length_cons, List.modify_succ_cons, this]
theorem src_gc (W : World) (x : Gc) (hx : x.sl.oneCell' = true) : Src Tryd.prog 2 28 (.slice (some ⟨W.heap.size, 0, none⟩) 1 1) [x].length (ccells [x]) (W.alloc (.cells #[.int .i64 x.pid, x.sl] 45)) :=
  Src.ofSlice _ Tryd.underlying28 _ 1 1 _ (by rfl) (fun j u hj => by
    rw [WideShapes.add_plain, World.cell?_alloc_at _ _ _ _ rfl, Nat.zero_add, ← hj]
    simp [ccells, Gc.cells]) (by intro u hu; simp [ccells, Gc.cells] at hu; rcases hu with rfl | rfl; rfl; exact hx)
theorem Tryd.infoI : (Tryd.prog.info? 2).map (fun i => (i.zero, i.size, i.bytes)) = some (some (.int .i64 0), 1, 8) := by kernel_rfl
set_option maxHeartbeats 8000000 in
set_option maxRecDepth 100000 in
theorem sendsFreeS (P T : Nat → Prop) (v : Value) (G : List Gv) (t : Nat) (pid seq off : Int) (w : World) (h : GAt P w v G) (hl : G.length ≤ 64) (hT : ∀ b, T b → b < w.heap.size ∧ ¬ P b) (i : Nat) (g : Gv) (hi : G[i]? = some g) (hpl : plc G pid = (i : Int)) (hn : g.offs ≠ []) (hnl : g.offs.length ≤ 1099511627775) 
    (HJ : Hid (∀ u, Below w.heap.size w u → Calls Tryd.prog 12 #[.pointer (some ⟨t, 0, none⟩), .int .i64 pid, .int .i64 seq] u fun e w' => e = .returned (.tuple #[.int .i64 (0), .int .i64 0]) ∧ Below u.heap.size u w'))
    (e0 : pid = 0) (e1 : seq = 0) :
    Calls Tryd.prog 5 #[.pointer (some ⟨t, 0, none⟩), v, .agg #[.int .i64 pid, .int .i64 seq], .int .i64 off] w fun e w' => e = .returned (.tuple #[v, .bool false, .bool true]) ∧ Below w.heap.size w w' := by
  obtain ⟨w0, hw0⟩ : ∃ w0, w.alloc (.cells #[.int .i64 pid, .int .i64 seq] 33) = w0 := ⟨_, rfl⟩
  have hb0 : Below w.heap.size w w0 := by rw [← hw0]; exact (Below.refl _ _).alloc (Nat.le_refl _) _
  have hs0 : w0.heap.size = w.heap.size + 1 := by rw [← hw0]; simp
  have HX : Hid (∀ u, Chg T w0 u → u.cell? ⟨w.heap.size, 0, none⟩ = some (.int .i64 pid) ∧ u.cell? ⟨w.heap.size, 1, none⟩ = some (.int .i64 seq)) := fun u hu => by
    have hb : u.heap[w.heap.size]? = w0.heap[w.heap.size]? := hu.block _ (by omega) (fun e => by have := (hT _ e).1; omega)
    have hc : ∀ j, u.cell? ⟨w.heap.size, j, none⟩ = w0.cell? ⟨w.heap.size, j, none⟩ := fun j => World.cell?_of_block (w := w0) (a := ⟨w.heap.size, j, none⟩) hb
    rw [hc, hc, ← hw0]
    exact ⟨World.cell?_alloc_at _ _ _ _ rfl, World.cell?_alloc_at _ _ _ _ rfl⟩
  obtain ⟨hx0, hx1⟩ := HX.out w0 (Chg.refl _ _)
  have HB0 : Hid (∀ u, Below w0.heap.size w0 u → Below w.heap.size w u) := fun u hu => below_step hb0 hu
  have HG : Hid (∀ u, Chg T w u → GAt P u v G) := fun u hu => h.chg hu fun b hb hb2 => (hT b hb2).2 hb
  have HL : Hid (∀ u, Below w0.heap.size w0 u → Chg T w0 u) := fun u hu => Chg.ofBelow hu
  obtain ⟨a, cap, rfl, hone⟩ := h.one
  obtain ⟨b, a', cap', rfl, hc⟩ := hone i g hi
  have HI : Hid (G[i]? = some g) := hi
  have HPL : Hid (∀ u, Below w0.heap.size w0 u → Calls Tryd.prog 9 #[.slice (some ⟨b, 0, none⟩) G.length cap, .int .i64 pid] u fun e w' => e = .returned (.int .i64 (i : Int)) ∧ w' = u) := fun u hu => by
    have := placeOf P _ G pid u (h.later (below_step hb0 hu)) hl
    rwa [hpl] at this
  have HC : Hid (∀ u, Below w0.heap.size w0 u → u.cell? ⟨b, i * 2 + 1, none⟩ = some (.slice a' g.offs.length cap')) := fun u hu => by
    have := (below_step hb0 hu).cell (p := ⟨b, i * 2 + 1, none⟩) (cell_lt hc.c1)
    rw [this]; exact hc.c1
  have hil : i < G.length := (List.getElem?_eq_some_iff.mp hi).1
  have hnl1 : 1 ≤ g.offs.length := by have := List.length_pos_iff.mpr hn; omega
  have HJ0 : Hid (Calls Tryd.prog 12 #[.pointer (some ⟨t, 0, none⟩), .int .i64 pid, .int .i64 seq] w0 fun e w' => e = .returned (.tuple #[.int .i64 (0), .int .i64 0]) ∧ Below w0.heap.size w0 w') := HJ.out w0 hb0
  generalize hN : g.offs.length = n at *
  clear h HJ hb0 hs0 hone hc hi
  subst e0 e1
  go_enter Tryd.func5, Tryd.ntmps5
  go_wp2_with fail
  refine HJ0.out.mono ?_
  rintro e w1 ⟨rfl, hb1⟩
  have HB1 : Hid (Below w0.heap.size w0 w1) := hb1
  have hc1 := HC.out w1 hb1
  obtain ⟨hy0, hy1⟩ := HX.out w1 (HL.out _ hb1)
  clear hb1 hx0 hx1
  go_wp2_with fail
  refine (HPL.out _ HB1.out).mono ?_
  rintro e w2 ⟨rfl, rfl⟩
  go_wp2
  go_ret3
  exact ⟨rfl, HB0.out _ HB1.out⟩
set_option maxHeartbeats 8000000 in
set_option maxRecDepth 100000 in
theorem sendsFree (P T : Nat → Prop) (v : Value) (G : List Gv) (t : Nat) (pid seq off : Int) (w : World) (h : GAt P w v G) (hl : G.length ≤ 64) (hT : ∀ b, T b → b < w.heap.size ∧ ¬ P b) (hpl : plc G pid = -1) 
    (HJ : Hid (∀ u, Below w.heap.size w u → Calls Tryd.prog 12 #[.pointer (some ⟨t, 0, none⟩), .int .i64 pid, .int .i64 seq] u fun e w' => e = .returned (.tuple #[.int .i64 (0), .int .i64 0]) ∧ Below u.heap.size u w'))
    (e0 : pid = 0) (e1 : seq = 0) :
    Calls Tryd.prog 5 #[.pointer (some ⟨t, 0, none⟩), v, .agg #[.int .i64 pid, .int .i64 seq], .int .i64 off] w fun e w' => e = .returned (.tuple #[v, .bool false, .bool true]) ∧ Below w.heap.size w w' := by
  obtain ⟨w0, hw0⟩ : ∃ w0, w.alloc (.cells #[.int .i64 pid, .int .i64 seq] 33) = w0 := ⟨_, rfl⟩
  have hb0 : Below w.heap.size w w0 := by rw [← hw0]; exact (Below.refl _ _).alloc (Nat.le_refl _) _
  have hs0 : w0.heap.size = w.heap.size + 1 := by rw [← hw0]; simp
  have HX : Hid (∀ u, Chg T w0 u → u.cell? ⟨w.heap.size, 0, none⟩ = some (.int .i64 pid) ∧ u.cell? ⟨w.heap.size, 1, none⟩ = some (.int .i64 seq)) := fun u hu => by
    have hb : u.heap[w.heap.size]? = w0.heap[w.heap.size]? := hu.block _ (by omega) (fun e => by have := (hT _ e).1; omega)
    have hc : ∀ j, u.cell? ⟨w.heap.size, j, none⟩ = w0.cell? ⟨w.heap.size, j, none⟩ := fun j => World.cell?_of_block (w := w0) (a := ⟨w.heap.size, j, none⟩) hb
    rw [hc, hc, ← hw0]
    exact ⟨World.cell?_alloc_at _ _ _ _ rfl, World.cell?_alloc_at _ _ _ _ rfl⟩
  obtain ⟨hx0, hx1⟩ := HX.out w0 (Chg.refl _ _)
  have HB0 : Hid (∀ u, Below w0.heap.size w0 u → Below w.heap.size w u) := fun u hu => below_step hb0 hu
  have HG : Hid (∀ u, Chg T w u → GAt P u v G) := fun u hu => h.chg hu fun b hb hb2 => (hT b hb2).2 hb
  have HL : Hid (∀ u, Below w0.heap.size w0 u → Chg T w0 u) := fun u hu => Chg.ofBelow hu
  obtain ⟨a, cap, rfl⟩ := h.shape
  have HPL : Hid (∀ u, Below w0.heap.size w0 u → Calls Tryd.prog 9 #[.slice a G.length cap, .int .i64 pid] u fun e w' => e = .returned (.int .i64 (-1)) ∧ w' = u) := fun u hu => by
    have := placeOf P _ G pid u (h.later (below_step hb0 hu)) hl
    rwa [hpl] at this
  have HJ0 : Hid (Calls Tryd.prog 12 #[.pointer (some ⟨t, 0, none⟩), .int .i64 pid, .int .i64 seq] w0 fun e w' => e = .returned (.tuple #[.int .i64 (0), .int .i64 0]) ∧ Below w0.heap.size w0 w') := HJ.out w0 hb0
  clear h HJ hb0 hs0
  subst e0 e1
  go_enter Tryd.func5, Tryd.ntmps5
  go_wp2_with fail
  refine HJ0.out.mono ?_
  rintro e w1 ⟨rfl, hb1⟩
  have HB1 : Hid (Below w0.heap.size w0 w1) := hb1
  obtain ⟨hy0, hy1⟩ := HX.out w1 (HL.out _ hb1)
  clear hb1 hx0 hx1
  go_wp2_with fail
  refine (HPL.out _ HB1.out).mono ?_
  rintro e w2 ⟨rfl, rfl⟩
  go_wp2
  go_ret3
  exact ⟨rfl, HB0.out _ HB1.out⟩
set_option maxHeartbeats 8000000 in
set_option maxRecDepth 100000 in
theorem sendsBadS (P T : Nat → Prop) (v : Value) (G : List Gv) (t : Nat) (pid seq off : Int) (w : World) (h : GAt P w v G) (hl : G.length ≤ 64) (hT : ∀ b, T b → b < w.heap.size ∧ ¬ P b) (i : Nat) (g : Gv) (hi : G[i]? = some g) (hpl : plc G pid = (i : Int)) (hn : g.offs ≠ []) (hnl : g.offs.length ≤ 1099511627775) 
    (HJ : Hid (∀ u, Below w.heap.size w u → Calls Tryd.prog 12 #[.pointer (some ⟨t, 0, none⟩), .int .i64 pid, .int .i64 seq] u fun e w' => e = .returned (.tuple #[.int .i64 (-1), .int .i64 0]) ∧ Below u.heap.size u w'))
    (h0 : okNum pid seq = false) (hz : pid = 0 → (seq == 0) = false) :
    Calls Tryd.prog 5 #[.pointer (some ⟨t, 0, none⟩), v, .agg #[.int .i64 pid, .int .i64 seq], .int .i64 off] w fun e w' => e = .returned (.tuple #[v, .bool false, .bool true]) ∧ Below w.heap.size w w' := by
  obtain ⟨w0, hw0⟩ : ∃ w0, w.alloc (.cells #[.int .i64 pid, .int .i64 seq] 33) = w0 := ⟨_, rfl⟩
  have hb0 : Below w.heap.size w w0 := by rw [← hw0]; exact (Below.refl _ _).alloc (Nat.le_refl _) _
  have hs0 : w0.heap.size = w.heap.size + 1 := by rw [← hw0]; simp
  have HX : Hid (∀ u, Chg T w0 u → u.cell? ⟨w.heap.size, 0, none⟩ = some (.int .i64 pid) ∧ u.cell? ⟨w.heap.size, 1, none⟩ = some (.int .i64 seq)) := fun u hu => by
    have hb : u.heap[w.heap.size]? = w0.heap[w.heap.size]? := hu.block _ (by omega) (fun e => by have := (hT _ e).1; omega)
    have hc : ∀ j, u.cell? ⟨w.heap.size, j, none⟩ = w0.cell? ⟨w.heap.size, j, none⟩ := fun j => World.cell?_of_block (w := w0) (a := ⟨w.heap.size, j, none⟩) hb
    rw [hc, hc, ← hw0]
    exact ⟨World.cell?_alloc_at _ _ _ _ rfl, World.cell?_alloc_at _ _ _ _ rfl⟩
  obtain ⟨hx0, hx1⟩ := HX.out w0 (Chg.refl _ _)
  have HB0 : Hid (∀ u, Below w0.heap.size w0 u → Below w.heap.size w u) := fun u hu => below_step hb0 hu
  have HG : Hid (∀ u, Chg T w u → GAt P u v G) := fun u hu => h.chg hu fun b hb hb2 => (hT b hb2).2 hb
  have HL : Hid (∀ u, Below w0.heap.size w0 u → Chg T w0 u) := fun u hu => Chg.ofBelow hu
  obtain ⟨a, cap, rfl, hone⟩ := h.one
  obtain ⟨b, a', cap', rfl, hc⟩ := hone i g hi
  have HI : Hid (G[i]? = some g) := hi
  have HPL : Hid (∀ u, Below w0.heap.size w0 u → Calls Tryd.prog 9 #[.slice (some ⟨b, 0, none⟩) G.length cap, .int .i64 pid] u fun e w' => e = .returned (.int .i64 (i : Int)) ∧ w' = u) := fun u hu => by
    have := placeOf P _ G pid u (h.later (below_step hb0 hu)) hl
    rwa [hpl] at this
  have HC : Hid (∀ u, Below w0.heap.size w0 u → u.cell? ⟨b, i * 2 + 1, none⟩ = some (.slice a' g.offs.length cap')) := fun u hu => by
    have := (below_step hb0 hu).cell (p := ⟨b, i * 2 + 1, none⟩) (cell_lt hc.c1)
    rw [this]; exact hc.c1
  have hil : i < G.length := (List.getElem?_eq_some_iff.mp hi).1
  have hnl1 : 1 ≤ g.offs.length := by have := List.length_pos_iff.mpr hn; omega
  have HMI : Hid (∀ u, Calls Tryd.prog 13 #[.agg #[.int .i64 pid, .int .i64 seq]] u fun e w' => e = .returned (.bool false) ∧ Below u.heap.size u w') := fun u => by
    have := mineOf pid seq u
    rwa [h0] at this
  have HJ0 : Hid (Calls Tryd.prog 12 #[.pointer (some ⟨t, 0, none⟩), .int .i64 pid, .int .i64 seq] w0 fun e w' => e = .returned (.tuple #[.int .i64 (-1), .int .i64 0]) ∧ Below w0.heap.size w0 w') := HJ.out w0 hb0
  generalize hN : g.offs.length = n at *
  clear h HJ hb0 hs0 h0 hone hc hi
  by_cases hp0 : pid = 0
  · subst hp0
    have hz' := hz rfl
    clear hz
    go_enter Tryd.func5, Tryd.ntmps5
    go_wp2_with fail
    refine HJ0.out.mono ?_
    rintro e w1 ⟨rfl, hb1⟩
    have HB1 : Hid (Below w0.heap.size w0 w1) := hb1
    have hc1 := HC.out w1 hb1
    obtain ⟨hy0, hy1⟩ := HX.out w1 (HL.out _ hb1)
    clear hb1 hx0 hx1
    go_wp2_with fail
    refine (HPL.out _ HB1.out).mono ?_
    rintro e w2 ⟨rfl, rfl⟩
    go_wp2_with fail
    refine (HMI.out _).mono ?_
    rintro e w3 ⟨rfl, hb3⟩
    have HB3 : Hid (Below w0.heap.size w0 w3) := below_step HB1.out hb3
    obtain ⟨hz0, hz1⟩ := HX.out w3 (HL.out _ HB3.out)
    clear hb3 hy0 hy1
    go_wp2
    go_ret3
    exact ⟨rfl, HB0.out _ HB3.out⟩
  · have hp0' : (pid == 0) = false := by simpa using hp0
    clear hz
    go_enter Tryd.func5, Tryd.ntmps5
    go_wp2_with fail
    refine HJ0.out.mono ?_
    rintro e w1 ⟨rfl, hb1⟩
    have HB1 : Hid (Below w0.heap.size w0 w1) := hb1
    have hc1 := HC.out w1 hb1
    obtain ⟨hy0, hy1⟩ := HX.out w1 (HL.out _ hb1)
    clear hb1 hx0 hx1
    go_wp2_with fail
    refine (HPL.out _ HB1.out).mono ?_
    rintro e w2 ⟨rfl, rfl⟩
    go_wp2_with fail
    refine (HMI.out _).mono ?_
    rintro e w3 ⟨rfl, hb3⟩
    have HB3 : Hid (Below w0.heap.size w0 w3) := below_step HB1.out hb3
    obtain ⟨hz0, hz1⟩ := HX.out w3 (HL.out _ HB3.out)
    clear hb3 hy0 hy1
    go_wp2
    go_ret3
    exact ⟨rfl, HB0.out _ HB3.out⟩
set_option maxHeartbeats 8000000 in
set_option maxRecDepth 100000 in
theorem sendsBad (P T : Nat → Prop) (v : Value) (G : List Gv) (t : Nat) (pid seq off : Int) (w : World) (h : GAt P w v G) (hl : G.length ≤ 64) (hT : ∀ b, T b → b < w.heap.size ∧ ¬ P b) (hpl : plc G pid = -1) 
    (HJ : Hid (∀ u, Below w.heap.size w u → Calls Tryd.prog 12 #[.pointer (some ⟨t, 0, none⟩), .int .i64 pid, .int .i64 seq] u fun e w' => e = .returned (.tuple #[.int .i64 (-1), .int .i64 0]) ∧ Below u.heap.size u w'))
    (h0 : okNum pid seq = false) (hz : pid = 0 → (seq == 0) = false) :
    Calls Tryd.prog 5 #[.pointer (some ⟨t, 0, none⟩), v, .agg #[.int .i64 pid, .int .i64 seq], .int .i64 off] w fun e w' => e = .returned (.tuple #[v, .bool false, .bool true]) ∧ Below w.heap.size w w' := by
  obtain ⟨w0, hw0⟩ : ∃ w0, w.alloc (.cells #[.int .i64 pid, .int .i64 seq] 33) = w0 := ⟨_, rfl⟩
  have hb0 : Below w.heap.size w w0 := by rw [← hw0]; exact (Below.refl _ _).alloc (Nat.le_refl _) _
  have hs0 : w0.heap.size = w.heap.size + 1 := by rw [← hw0]; simp
  have HX : Hid (∀ u, Chg T w0 u → u.cell? ⟨w.heap.size, 0, none⟩ = some (.int .i64 pid) ∧ u.cell? ⟨w.heap.size, 1, none⟩ = some (.int .i64 seq)) := fun u hu => by
    have hb : u.heap[w.heap.size]? = w0.heap[w.heap.size]? := hu.block _ (by omega) (fun e => by have := (hT _ e).1; omega)
    have hc : ∀ j, u.cell? ⟨w.heap.size, j, none⟩ = w0.cell? ⟨w.heap.size, j, none⟩ := fun j => World.cell?_of_block (w := w0) (a := ⟨w.heap.size, j, none⟩) hb
    rw [hc, hc, ← hw0]
    exact ⟨World.cell?_alloc_at _ _ _ _ rfl, World.cell?_alloc_at _ _ _ _ rfl⟩
  obtain ⟨hx0, hx1⟩ := HX.out w0 (Chg.refl _ _)
  have HB0 : Hid (∀ u, Below w0.heap.size w0 u → Below w.heap.size w u) := fun u hu => below_step hb0 hu
  have HG : Hid (∀ u, Chg T w u → GAt P u v G) := fun u hu => h.chg hu fun b hb hb2 => (hT b hb2).2 hb
  have HL : Hid (∀ u, Below w0.heap.size w0 u → Chg T w0 u) := fun u hu => Chg.ofBelow hu
  obtain ⟨a, cap, rfl⟩ := h.shape
  have HPL : Hid (∀ u, Below w0.heap.size w0 u → Calls Tryd.prog 9 #[.slice a G.length cap, .int .i64 pid] u fun e w' => e = .returned (.int .i64 (-1)) ∧ w' = u) := fun u hu => by
    have := placeOf P _ G pid u (h.later (below_step hb0 hu)) hl
    rwa [hpl] at this
  have HMI : Hid (∀ u, Calls Tryd.prog 13 #[.agg #[.int .i64 pid, .int .i64 seq]] u fun e w' => e = .returned (.bool false) ∧ Below u.heap.size u w') := fun u => by
    have := mineOf pid seq u
    rwa [h0] at this
  have HJ0 : Hid (Calls Tryd.prog 12 #[.pointer (some ⟨t, 0, none⟩), .int .i64 pid, .int .i64 seq] w0 fun e w' => e = .returned (.tuple #[.int .i64 (-1), .int .i64 0]) ∧ Below w0.heap.size w0 w') := HJ.out w0 hb0
  clear h HJ hb0 hs0 h0
  by_cases hp0 : pid = 0
  · subst hp0
    have hz' := hz rfl
    clear hz
    go_enter Tryd.func5, Tryd.ntmps5
    go_wp2_with fail
    refine HJ0.out.mono ?_
    rintro e w1 ⟨rfl, hb1⟩
    have HB1 : Hid (Below w0.heap.size w0 w1) := hb1
    obtain ⟨hy0, hy1⟩ := HX.out w1 (HL.out _ hb1)
    clear hb1 hx0 hx1
    go_wp2_with fail
    refine (HPL.out _ HB1.out).mono ?_
    rintro e w2 ⟨rfl, rfl⟩
    go_wp2_with fail
    refine (HMI.out _).mono ?_
    rintro e w3 ⟨rfl, hb3⟩
    have HB3 : Hid (Below w0.heap.size w0 w3) := below_step HB1.out hb3
    obtain ⟨hz0, hz1⟩ := HX.out w3 (HL.out _ HB3.out)
    clear hb3 hy0 hy1
    go_wp2
    go_ret3
    exact ⟨rfl, HB0.out _ HB3.out⟩
  · have hp0' : (pid == 0) = false := by simpa using hp0
    clear hz
    go_enter Tryd.func5, Tryd.ntmps5
    go_wp2_with fail
    refine HJ0.out.mono ?_
    rintro e w1 ⟨rfl, hb1⟩
    have HB1 : Hid (Below w0.heap.size w0 w1) := hb1
    obtain ⟨hy0, hy1⟩ := HX.out w1 (HL.out _ hb1)
    clear hb1 hx0 hx1
    go_wp2_with fail
    refine (HPL.out _ HB1.out).mono ?_
    rintro e w2 ⟨rfl, rfl⟩
    go_wp2_with fail
    refine (HMI.out _).mono ?_
    rintro e w3 ⟨rfl, hb3⟩
    have HB3 : Hid (Below w0.heap.size w0 w3) := below_step HB1.out hb3
    obtain ⟨hz0, hz1⟩ := HX.out w3 (HL.out _ HB3.out)
    clear hb3 hy0 hy1
    go_wp2
    go_ret3
    exact ⟨rfl, HB0.out _ HB3.out⟩
set_option maxHeartbeats 8000000 in
set_option maxRecDepth 100000 in
theorem sendsFull (P T : Nat → Prop) (v : Value) (G : List Gv) (t : Nat) (pid seq off : Int) (w : World) (h : GAt P w v G) (hl : G.length ≤ 64) (hT : ∀ b, T b → b < w.heap.size ∧ ¬ P b) (hpl : plc G pid = -1) 
    (HJ : Hid (∀ u, Below w.heap.size w u → Calls Tryd.prog 12 #[.pointer (some ⟨t, 0, none⟩), .int .i64 pid, .int .i64 seq] u fun e w' => e = .returned (.tuple #[.int .i64 (5), .int .i64 0]) ∧ Below u.heap.size u w'))
    (h0 : okNum pid seq = true) (hseq : seq = 1) (hfull : 64 ≤ G.length) :
    Calls Tryd.prog 5 #[.pointer (some ⟨t, 0, none⟩), v, .agg #[.int .i64 pid, .int .i64 seq], .int .i64 off] w fun e w' => e = .returned (.tuple #[v, .bool false, .bool true]) ∧ Below w.heap.size w w' := by
  obtain ⟨w0, hw0⟩ : ∃ w0, w.alloc (.cells #[.int .i64 pid, .int .i64 seq] 33) = w0 := ⟨_, rfl⟩
  have hb0 : Below w.heap.size w w0 := by rw [← hw0]; exact (Below.refl _ _).alloc (Nat.le_refl _) _
  have hs0 : w0.heap.size = w.heap.size + 1 := by rw [← hw0]; simp
  have HX : Hid (∀ u, Chg T w0 u → u.cell? ⟨w.heap.size, 0, none⟩ = some (.int .i64 pid) ∧ u.cell? ⟨w.heap.size, 1, none⟩ = some (.int .i64 seq)) := fun u hu => by
    have hb : u.heap[w.heap.size]? = w0.heap[w.heap.size]? := hu.block _ (by omega) (fun e => by have := (hT _ e).1; omega)
    have hc : ∀ j, u.cell? ⟨w.heap.size, j, none⟩ = w0.cell? ⟨w.heap.size, j, none⟩ := fun j => World.cell?_of_block (w := w0) (a := ⟨w.heap.size, j, none⟩) hb
    rw [hc, hc, ← hw0]
    exact ⟨World.cell?_alloc_at _ _ _ _ rfl, World.cell?_alloc_at _ _ _ _ rfl⟩
  obtain ⟨hx0, hx1⟩ := HX.out w0 (Chg.refl _ _)
  have HB0 : Hid (∀ u, Below w0.heap.size w0 u → Below w.heap.size w u) := fun u hu => below_step hb0 hu
  have HG : Hid (∀ u, Chg T w u → GAt P u v G) := fun u hu => h.chg hu fun b hb hb2 => (hT b hb2).2 hb
  have HL : Hid (∀ u, Below w0.heap.size w0 u → Chg T w0 u) := fun u hu => Chg.ofBelow hu
  obtain ⟨a, cap, rfl⟩ := h.shape
  have HPL : Hid (∀ u, Below w0.heap.size w0 u → Calls Tryd.prog 9 #[.slice a G.length cap, .int .i64 pid] u fun e w' => e = .returned (.int .i64 (-1)) ∧ w' = u) := fun u hu => by
    have := placeOf P _ G pid u (h.later (below_step hb0 hu)) hl
    rwa [hpl] at this
  have HMI : Hid (∀ u, Calls Tryd.prog 13 #[.agg #[.int .i64 pid, .int .i64 seq]] u fun e w' => e = .returned (.bool true) ∧ Below u.heap.size u w') := fun u => by
    have := mineOf pid seq u
    rwa [h0] at this
  have hk := (okNum_iff pid seq).mp h0
  have hp0 : (pid == 0) = false := by
    have : pid ≠ 0 := by omega
    simpa using this
  have HJ0 : Hid (Calls Tryd.prog 12 #[.pointer (some ⟨t, 0, none⟩), .int .i64 pid, .int .i64 seq] w0 fun e w' => e = .returned (.tuple #[.int .i64 (5), .int .i64 0]) ∧ Below w0.heap.size w0 w') := HJ.out w0 hb0
  clear h HJ hb0 hs0 h0
  subst hseq
  go_enter Tryd.func5, Tryd.ntmps5
  go_wp2_with fail
  refine HJ0.out.mono ?_
  rintro e w1 ⟨rfl, hb1⟩
  have HB1 : Hid (Below w0.heap.size w0 w1) := hb1
  obtain ⟨hy0, hy1⟩ := HX.out w1 (HL.out _ hb1)
  clear hb1 hx0 hx1
  go_wp2_with fail
  refine (HPL.out _ HB1.out).mono ?_
  rintro e w2 ⟨rfl, rfl⟩
  go_wp2_with fail
  refine (HMI.out _).mono ?_
  rintro e w3 ⟨rfl, hb3⟩
  have HB3 : Hid (Below w0.heap.size w0 w3) := below_step HB1.out hb3
  obtain ⟨hz0, hz1⟩ := HX.out w3 (HL.out _ HB3.out)
  clear hb3 hy0 hy1
  go_wp2
  go_ret3
  exact ⟨rfl, HB0.out _ HB3.out⟩
set_option maxHeartbeats 8000000 in
set_option maxRecDepth 100000 in
theorem sendsGapS (P T : Nat → Prop) (v : Value) (G : List Gv) (t : Nat) (pid seq off : Int) (w : World) (h : GAt P w v G) (hl : G.length ≤ 64) (hT : ∀ b, T b → b < w.heap.size ∧ ¬ P b) (i : Nat) (g : Gv) (hi : G[i]? = some g) (hpl : plc G pid = (i : Int)) (hn : g.offs ≠ []) (hnl : g.offs.length ≤ 1099511627775) 
    (HJ : Hid (∀ u, Below w.heap.size w u → Calls Tryd.prog 12 #[.pointer (some ⟨t, 0, none⟩), .int .i64 pid, .int .i64 seq] u fun e w' => e = .returned (.tuple #[.int .i64 (4), .int .i64 0]) ∧ Below u.heap.size u w'))
    (R : World → World → Prop)
    (HN : Hid (∀ u, Below w.heap.size w u → Calls Tryd.prog 14 #[.pointer (some ⟨t, 0, none⟩), .int .i64 pid, .int .i64 seq, .int .i64 off] u fun e w' => e = .returned (.int .i64 90) ∧ Chg T u w' ∧ R u w'))
    (h0 : okNum pid seq = true) (hseq : (g.offs.length : Int) + 1 < seq) :
    Calls Tryd.prog 5 #[.pointer (some ⟨t, 0, none⟩), v, .agg #[.int .i64 pid, .int .i64 seq], .int .i64 off] w fun e w' => e = .returned (.tuple #[v, .bool false, .bool true]) ∧ ∃ u, Below w.heap.size w u ∧ Chg T u w' ∧ R u w' := by
  obtain ⟨w0, hw0⟩ : ∃ w0, w.alloc (.cells #[.int .i64 pid, .int .i64 seq] 33) = w0 := ⟨_, rfl⟩
  have hb0 : Below w.heap.size w w0 := by rw [← hw0]; exact (Below.refl _ _).alloc (Nat.le_refl _) _
  have hs0 : w0.heap.size = w.heap.size + 1 := by rw [← hw0]; simp
  have HX : Hid (∀ u, Chg T w0 u → u.cell? ⟨w.heap.size, 0, none⟩ = some (.int .i64 pid) ∧ u.cell? ⟨w.heap.size, 1, none⟩ = some (.int .i64 seq)) := fun u hu => by
    have hb : u.heap[w.heap.size]? = w0.heap[w.heap.size]? := hu.block _ (by omega) (fun e => by have := (hT _ e).1; omega)
    have hc : ∀ j, u.cell? ⟨w.heap.size, j, none⟩ = w0.cell? ⟨w.heap.size, j, none⟩ := fun j => World.cell?_of_block (w := w0) (a := ⟨w.heap.size, j, none⟩) hb
    rw [hc, hc, ← hw0]
    exact ⟨World.cell?_alloc_at _ _ _ _ rfl, World.cell?_alloc_at _ _ _ _ rfl⟩
  obtain ⟨hx0, hx1⟩ := HX.out w0 (Chg.refl _ _)
  have HB0 : Hid (∀ u, Below w0.heap.size w0 u → Below w.heap.size w u) := fun u hu => below_step hb0 hu
  have HG : Hid (∀ u, Chg T w u → GAt P u v G) := fun u hu => h.chg hu fun b hb hb2 => (hT b hb2).2 hb
  have HL : Hid (∀ u, Below w0.heap.size w0 u → Chg T w0 u) := fun u hu => Chg.ofBelow hu
  obtain ⟨a, cap, rfl, hone⟩ := h.one
  obtain ⟨b, a', cap', rfl, hc⟩ := hone i g hi
  have HI : Hid (G[i]? = some g) := hi
  have HPL : Hid (∀ u, Below w0.heap.size w0 u → Calls Tryd.prog 9 #[.slice (some ⟨b, 0, none⟩) G.length cap, .int .i64 pid] u fun e w' => e = .returned (.int .i64 (i : Int)) ∧ w' = u) := fun u hu => by
    have := placeOf P _ G pid u (h.later (below_step hb0 hu)) hl
    rwa [hpl] at this
  have HC : Hid (∀ u, Below w0.heap.size w0 u → u.cell? ⟨b, i * 2 + 1, none⟩ = some (.slice a' g.offs.length cap')) := fun u hu => by
    have := (below_step hb0 hu).cell (p := ⟨b, i * 2 + 1, none⟩) (cell_lt hc.c1)
    rw [this]; exact hc.c1
  have hil : i < G.length := (List.getElem?_eq_some_iff.mp hi).1
  have hnl1 : 1 ≤ g.offs.length := by have := List.length_pos_iff.mpr hn; omega
  have HMI : Hid (∀ u, Calls Tryd.prog 13 #[.agg #[.int .i64 pid, .int .i64 seq]] u fun e w' => e = .returned (.bool true) ∧ Below u.heap.size u w') := fun u => by
    have := mineOf pid seq u
    rwa [h0] at this
  have hk := (okNum_iff pid seq).mp h0
  have hp0 : (pid == 0) = false := by
    have : pid ≠ 0 := by omega
    simpa using this
  have HJ0 : Hid (Calls Tryd.prog 12 #[.pointer (some ⟨t, 0, none⟩), .int .i64 pid, .int .i64 seq] w0 fun e w' => e = .returned (.tuple #[.int .i64 (4), .int .i64 0]) ∧ Below w0.heap.size w0 w') := HJ.out w0 hb0
  generalize hN : g.offs.length = n at *
  clear h HJ hb0 hs0 h0 hone hc hi
  have hsq : (seq == (n : Int) + 1) = false := by
    have : seq ≠ (n : Int) + 1 := by omega
    simpa using this
  go_enter Tryd.func5, Tryd.ntmps5
  go_wp2_with fail
  refine HJ0.out.mono ?_
  rintro e w1 ⟨rfl, hb1⟩
  have HB1 : Hid (Below w0.heap.size w0 w1) := hb1
  have hc1 := HC.out w1 hb1
  obtain ⟨hy0, hy1⟩ := HX.out w1 (HL.out _ hb1)
  clear hb1 hx0 hx1
  go_wp2_with fail
  refine (HPL.out _ HB1.out).mono ?_
  rintro e w2 ⟨rfl, rfl⟩
  go_wp2_with fail
  refine (HMI.out _).mono ?_
  rintro e w3 ⟨rfl, hb3⟩
  have HB3 : Hid (Below w0.heap.size w0 w3) := below_step HB1.out hb3
  obtain ⟨hz0, hz1⟩ := HX.out w3 (HL.out _ HB3.out)
  clear hb3 hy0 hy1
  go_wp2_with fail
  refine (HN.out _ (HB0.out _ HB3.out)).mono ?_
  rintro e w4 ⟨rfl, hT4, hR4⟩
  have HP : Hid (∃ u, Below w.heap.size w u ∧ Chg T u w4 ∧ R u w4) := ⟨w3, HB0.out _ HB3.out, hT4, hR4⟩
  clear hT4 hR4
  go_wp2
  go_ret3
  exact ⟨rfl, HP.out⟩
set_option maxHeartbeats 8000000 in
set_option maxRecDepth 100000 in
theorem sendsGap (P T : Nat → Prop) (v : Value) (G : List Gv) (t : Nat) (pid seq off : Int) (w : World) (h : GAt P w v G) (hl : G.length ≤ 64) (hT : ∀ b, T b → b < w.heap.size ∧ ¬ P b) (hpl : plc G pid = -1) 
    (HJ : Hid (∀ u, Below w.heap.size w u → Calls Tryd.prog 12 #[.pointer (some ⟨t, 0, none⟩), .int .i64 pid, .int .i64 seq] u fun e w' => e = .returned (.tuple #[.int .i64 (4), .int .i64 0]) ∧ Below u.heap.size u w'))
    (R : World → World → Prop)
    (HN : Hid (∀ u, Below w.heap.size w u → Calls Tryd.prog 14 #[.pointer (some ⟨t, 0, none⟩), .int .i64 pid, .int .i64 seq, .int .i64 off] u fun e w' => e = .returned (.int .i64 90) ∧ Chg T u w' ∧ R u w'))
    (h0 : okNum pid seq = true) (hseq : 1 < seq) :
    Calls Tryd.prog 5 #[.pointer (some ⟨t, 0, none⟩), v, .agg #[.int .i64 pid, .int .i64 seq], .int .i64 off] w fun e w' => e = .returned (.tuple #[v, .bool false, .bool true]) ∧ ∃ u, Below w.heap.size w u ∧ Chg T u w' ∧ R u w' := by
  obtain ⟨w0, hw0⟩ : ∃ w0, w.alloc (.cells #[.int .i64 pid, .int .i64 seq] 33) = w0 := ⟨_, rfl⟩
  have hb0 : Below w.heap.size w w0 := by rw [← hw0]; exact (Below.refl _ _).alloc (Nat.le_refl _) _
  have hs0 : w0.heap.size = w.heap.size + 1 := by rw [← hw0]; simp
  have HX : Hid (∀ u, Chg T w0 u → u.cell? ⟨w.heap.size, 0, none⟩ = some (.int .i64 pid) ∧ u.cell? ⟨w.heap.size, 1, none⟩ = some (.int .i64 seq)) := fun u hu => by
    have hb : u.heap[w.heap.size]? = w0.heap[w.heap.size]? := hu.block _ (by omega) (fun e => by have := (hT _ e).1; omega)
    have hc : ∀ j, u.cell? ⟨w.heap.size, j, none⟩ = w0.cell? ⟨w.heap.size, j, none⟩ := fun j => World.cell?_of_block (w := w0) (a := ⟨w.heap.size, j, none⟩) hb
    rw [hc, hc, ← hw0]
    exact ⟨World.cell?_alloc_at _ _ _ _ rfl, World.cell?_alloc_at _ _ _ _ rfl⟩
  obtain ⟨hx0, hx1⟩ := HX.out w0 (Chg.refl _ _)
  have HB0 : Hid (∀ u, Below w0.heap.size w0 u → Below w.heap.size w u) := fun u hu => below_step hb0 hu
  have HG : Hid (∀ u, Chg T w u → GAt P u v G) := fun u hu => h.chg hu fun b hb hb2 => (hT b hb2).2 hb
  have HL : Hid (∀ u, Below w0.heap.size w0 u → Chg T w0 u) := fun u hu => Chg.ofBelow hu
  obtain ⟨a, cap, rfl⟩ := h.shape
  have HPL : Hid (∀ u, Below w0.heap.size w0 u → Calls Tryd.prog 9 #[.slice a G.length cap, .int .i64 pid] u fun e w' => e = .returned (.int .i64 (-1)) ∧ w' = u) := fun u hu => by
    have := placeOf P _ G pid u (h.later (below_step hb0 hu)) hl
    rwa [hpl] at this
  have HMI : Hid (∀ u, Calls Tryd.prog 13 #[.agg #[.int .i64 pid, .int .i64 seq]] u fun e w' => e = .returned (.bool true) ∧ Below u.heap.size u w') := fun u => by
    have := mineOf pid seq u
    rwa [h0] at this
  have hk := (okNum_iff pid seq).mp h0
  have hp0 : (pid == 0) = false := by
    have : pid ≠ 0 := by omega
    simpa using this
  have HJ0 : Hid (Calls Tryd.prog 12 #[.pointer (some ⟨t, 0, none⟩), .int .i64 pid, .int .i64 seq] w0 fun e w' => e = .returned (.tuple #[.int .i64 (4), .int .i64 0]) ∧ Below w0.heap.size w0 w') := HJ.out w0 hb0
  clear h HJ hb0 hs0 h0
  have hsq : (seq == 1) = false := by
    have : seq ≠ 1 := by omega
    simpa using this
  go_enter Tryd.func5, Tryd.ntmps5
  go_wp2_with fail
  refine HJ0.out.mono ?_
  rintro e w1 ⟨rfl, hb1⟩
  have HB1 : Hid (Below w0.heap.size w0 w1) := hb1
  obtain ⟨hy0, hy1⟩ := HX.out w1 (HL.out _ hb1)
  clear hb1 hx0 hx1
  go_wp2_with fail
  refine (HPL.out _ HB1.out).mono ?_
  rintro e w2 ⟨rfl, rfl⟩
  go_wp2_with fail
  refine (HMI.out _).mono ?_
  rintro e w3 ⟨rfl, hb3⟩
  have HB3 : Hid (Below w0.heap.size w0 w3) := below_step HB1.out hb3
  obtain ⟨hz0, hz1⟩ := HX.out w3 (HL.out _ HB3.out)
  clear hb3 hy0 hy1
  go_wp2_with fail
  refine (HN.out _ (HB0.out _ HB3.out)).mono ?_
  rintro e w4 ⟨rfl, hT4, hR4⟩
  have HP : Hid (∃ u, Below w.heap.size w u ∧ Chg T u w4 ∧ R u w4) := ⟨w3, HB0.out _ HB3.out, hT4, hR4⟩
  clear hT4 hR4
  go_wp2
  go_ret3
  exact ⟨rfl, HP.out⟩
set_option maxHeartbeats 8000000 in
set_option maxRecDepth 100000 in
theorem sendsStale (P T : Nat → Prop) (v : Value) (G : List Gv) (t : Nat) (pid seq off : Int) (w : World) (h : GAt P w v G) (hl : G.length ≤ 64) (hT : ∀ b, T b → b < w.heap.size ∧ ¬ P b) (i : Nat) (g : Gv) (hi : G[i]? = some g) (hpl : plc G pid = (i : Int)) (hn : g.offs ≠ []) (hnl : g.offs.length ≤ 1099511627775) 
    (HJ : Hid (∀ u, Below w.heap.size w u → Calls Tryd.prog 12 #[.pointer (some ⟨t, 0, none⟩), .int .i64 pid, .int .i64 seq] u fun e w' => e = .returned (.tuple #[.int .i64 (3), .int .i64 0]) ∧ Below u.heap.size u w'))
    (R : World → World → Prop)
    (HN : Hid (∀ u, Below w.heap.size w u → Calls Tryd.prog 14 #[.pointer (some ⟨t, 0, none⟩), .int .i64 pid, .int .i64 seq, .int .i64 off] u fun e w' => e = .returned (.int .i64 91) ∧ Chg T u w' ∧ R u w'))
    (h0 : okNum pid seq = true) (hseq : seq < (g.offs.length : Int)) :
    Calls Tryd.prog 5 #[.pointer (some ⟨t, 0, none⟩), v, .agg #[.int .i64 pid, .int .i64 seq], .int .i64 off] w fun e w' => e = .returned (.tuple #[v, .bool false, .bool true]) ∧ ∃ u, Below w.heap.size w u ∧ Chg T u w' ∧ R u w' := by
  obtain ⟨w0, hw0⟩ : ∃ w0, w.alloc (.cells #[.int .i64 pid, .int .i64 seq] 33) = w0 := ⟨_, rfl⟩
  have hb0 : Below w.heap.size w w0 := by rw [← hw0]; exact (Below.refl _ _).alloc (Nat.le_refl _) _
  have hs0 : w0.heap.size = w.heap.size + 1 := by rw [← hw0]; simp
  have HX : Hid (∀ u, Chg T w0 u → u.cell? ⟨w.heap.size, 0, none⟩ = some (.int .i64 pid) ∧ u.cell? ⟨w.heap.size, 1, none⟩ = some (.int .i64 seq)) := fun u hu => by
    have hb : u.heap[w.heap.size]? = w0.heap[w.heap.size]? := hu.block _ (by omega) (fun e => by have := (hT _ e).1; omega)
    have hc : ∀ j, u.cell? ⟨w.heap.size, j, none⟩ = w0.cell? ⟨w.heap.size, j, none⟩ := fun j => World.cell?_of_block (w := w0) (a := ⟨w.heap.size, j, none⟩) hb
    rw [hc, hc, ← hw0]
    exact ⟨World.cell?_alloc_at _ _ _ _ rfl, World.cell?_alloc_at _ _ _ _ rfl⟩
  obtain ⟨hx0, hx1⟩ := HX.out w0 (Chg.refl _ _)
  have HB0 : Hid (∀ u, Below w0.heap.size w0 u → Below w.heap.size w u) := fun u hu => below_step hb0 hu
  have HG : Hid (∀ u, Chg T w u → GAt P u v G) := fun u hu => h.chg hu fun b hb hb2 => (hT b hb2).2 hb
  have HL : Hid (∀ u, Below w0.heap.size w0 u → Chg T w0 u) := fun u hu => Chg.ofBelow hu
  obtain ⟨a, cap, rfl, hone⟩ := h.one
  obtain ⟨b, a', cap', rfl, hc⟩ := hone i g hi
  have HI : Hid (G[i]? = some g) := hi
  have HPL : Hid (∀ u, Below w0.heap.size w0 u → Calls Tryd.prog 9 #[.slice (some ⟨b, 0, none⟩) G.length cap, .int .i64 pid] u fun e w' => e = .returned (.int .i64 (i : Int)) ∧ w' = u) := fun u hu => by
    have := placeOf P _ G pid u (h.later (below_step hb0 hu)) hl
    rwa [hpl] at this
  have HC : Hid (∀ u, Below w0.heap.size w0 u → u.cell? ⟨b, i * 2 + 1, none⟩ = some (.slice a' g.offs.length cap')) := fun u hu => by
    have := (below_step hb0 hu).cell (p := ⟨b, i * 2 + 1, none⟩) (cell_lt hc.c1)
    rw [this]; exact hc.c1
  have hil : i < G.length := (List.getElem?_eq_some_iff.mp hi).1
  have hnl1 : 1 ≤ g.offs.length := by have := List.length_pos_iff.mpr hn; omega
  have HMI : Hid (∀ u, Calls Tryd.prog 13 #[.agg #[.int .i64 pid, .int .i64 seq]] u fun e w' => e = .returned (.bool true) ∧ Below u.heap.size u w') := fun u => by
    have := mineOf pid seq u
    rwa [h0] at this
  have hk := (okNum_iff pid seq).mp h0
  have hp0 : (pid == 0) = false := by
    have : pid ≠ 0 := by omega
    simpa using this
  have HJ0 : Hid (Calls Tryd.prog 12 #[.pointer (some ⟨t, 0, none⟩), .int .i64 pid, .int .i64 seq] w0 fun e w' => e = .returned (.tuple #[.int .i64 (3), .int .i64 0]) ∧ Below w0.heap.size w0 w') := HJ.out w0 hb0
  generalize hN : g.offs.length = n at *
  clear h HJ hb0 hs0 h0 hone hc hi
  have hsq : (seq == (n : Int) + 1) = false := by
    have : seq ≠ (n : Int) + 1 := by omega
    simpa using this
  have hsq2 : (seq == (n : Int)) = false := by
    have : seq ≠ (n : Int) := by omega
    simpa using this
  go_enter Tryd.func5, Tryd.ntmps5
  go_wp2_with fail
  refine HJ0.out.mono ?_
  rintro e w1 ⟨rfl, hb1⟩
  have HB1 : Hid (Below w0.heap.size w0 w1) := hb1
  have hc1 := HC.out w1 hb1
  obtain ⟨hy0, hy1⟩ := HX.out w1 (HL.out _ hb1)
  clear hb1 hx0 hx1
  go_wp2_with fail
  refine (HPL.out _ HB1.out).mono ?_
  rintro e w2 ⟨rfl, rfl⟩
  go_wp2_with fail
  refine (HMI.out _).mono ?_
  rintro e w3 ⟨rfl, hb3⟩
  have HB3 : Hid (Below w0.heap.size w0 w3) := below_step HB1.out hb3
  obtain ⟨hz0, hz1⟩ := HX.out w3 (HL.out _ HB3.out)
  clear hb3 hy0 hy1
  go_wp2_with fail
  refine (HN.out _ (HB0.out _ HB3.out)).mono ?_
  rintro e w4 ⟨rfl, hT4, hR4⟩
  have HP : Hid (∃ u, Below w.heap.size w u ∧ Chg T u w4 ∧ R u w4) := ⟨w3, HB0.out _ HB3.out, hT4, hR4⟩
  clear hT4 hR4
  go_wp2
  go_ret3
  exact ⟨rfl, HP.out⟩
set_option maxHeartbeats 8000000 in
set_option maxRecDepth 100000 in
theorem sendsAgain (P T : Nat → Prop) (v : Value) (G : List Gv) (t : Nat) (pid seq off : Int) (w : World) (h : GAt P w v G) (hl : G.length ≤ 64) (hT : ∀ b, T b → b < w.heap.size ∧ ¬ P b) (i : Nat) (g : Gv) (hi : G[i]? = some g) (hpl : plc G pid = (i : Int)) (hn : g.offs ≠ []) (hnl : g.offs.length ≤ 1099511627775) (O : Int) 
    (HJ : Hid (∀ u, Below w.heap.size w u → Calls Tryd.prog 12 #[.pointer (some ⟨t, 0, none⟩), .int .i64 pid, .int .i64 seq] u fun e w' => e = .returned (.tuple #[.int .i64 (2), .int .i64 O]) ∧ Below u.heap.size u w'))
    (R : World → World → Prop)
    (HN : Hid (∀ u, Below w.heap.size w u → Calls Tryd.prog 14 #[.pointer (some ⟨t, 0, none⟩), .int .i64 pid, .int .i64 seq, .int .i64 off] u fun e w' => e = .returned (.int .i64 0) ∧ Chg T u w' ∧ R u w'))
    (h0 : okNum pid seq = true) (hseq : seq = (g.offs.length : Int)) (hO : O = g.offs.getLastD 0) :
    Calls Tryd.prog 5 #[.pointer (some ⟨t, 0, none⟩), v, .agg #[.int .i64 pid, .int .i64 seq], .int .i64 off] w fun e w' => e = .returned (.tuple #[v, .bool false, .bool true]) ∧ ∃ u, Below w.heap.size w u ∧ Chg T u w' ∧ R u w' := by
  obtain ⟨w0, hw0⟩ : ∃ w0, w.alloc (.cells #[.int .i64 pid, .int .i64 seq] 33) = w0 := ⟨_, rfl⟩
  have hb0 : Below w.heap.size w w0 := by rw [← hw0]; exact (Below.refl _ _).alloc (Nat.le_refl _) _
  have hs0 : w0.heap.size = w.heap.size + 1 := by rw [← hw0]; simp
  have HX : Hid (∀ u, Chg T w0 u → u.cell? ⟨w.heap.size, 0, none⟩ = some (.int .i64 pid) ∧ u.cell? ⟨w.heap.size, 1, none⟩ = some (.int .i64 seq)) := fun u hu => by
    have hb : u.heap[w.heap.size]? = w0.heap[w.heap.size]? := hu.block _ (by omega) (fun e => by have := (hT _ e).1; omega)
    have hc : ∀ j, u.cell? ⟨w.heap.size, j, none⟩ = w0.cell? ⟨w.heap.size, j, none⟩ := fun j => World.cell?_of_block (w := w0) (a := ⟨w.heap.size, j, none⟩) hb
    rw [hc, hc, ← hw0]
    exact ⟨World.cell?_alloc_at _ _ _ _ rfl, World.cell?_alloc_at _ _ _ _ rfl⟩
  obtain ⟨hx0, hx1⟩ := HX.out w0 (Chg.refl _ _)
  have HB0 : Hid (∀ u, Below w0.heap.size w0 u → Below w.heap.size w u) := fun u hu => below_step hb0 hu
  have HG : Hid (∀ u, Chg T w u → GAt P u v G) := fun u hu => h.chg hu fun b hb hb2 => (hT b hb2).2 hb
  have HL : Hid (∀ u, Below w0.heap.size w0 u → Chg T w0 u) := fun u hu => Chg.ofBelow hu
  obtain ⟨a, cap, rfl, hone⟩ := h.one
  obtain ⟨b, a', cap', rfl, hc⟩ := hone i g hi
  have HI : Hid (G[i]? = some g) := hi
  have HPL : Hid (∀ u, Below w0.heap.size w0 u → Calls Tryd.prog 9 #[.slice (some ⟨b, 0, none⟩) G.length cap, .int .i64 pid] u fun e w' => e = .returned (.int .i64 (i : Int)) ∧ w' = u) := fun u hu => by
    have := placeOf P _ G pid u (h.later (below_step hb0 hu)) hl
    rwa [hpl] at this
  have HC : Hid (∀ u, Below w0.heap.size w0 u → u.cell? ⟨b, i * 2 + 1, none⟩ = some (.slice a' g.offs.length cap')) := fun u hu => by
    have := (below_step hb0 hu).cell (p := ⟨b, i * 2 + 1, none⟩) (cell_lt hc.c1)
    rw [this]; exact hc.c1
  have hil : i < G.length := (List.getElem?_eq_some_iff.mp hi).1
  have hnl1 : 1 ≤ g.offs.length := by have := List.length_pos_iff.mpr hn; omega
  have HMI : Hid (∀ u, Calls Tryd.prog 13 #[.agg #[.int .i64 pid, .int .i64 seq]] u fun e w' => e = .returned (.bool true) ∧ Below u.heap.size u w') := fun u => by
    have := mineOf pid seq u
    rwa [h0] at this
  have hk := (okNum_iff pid seq).mp h0
  have hp0 : (pid == 0) = false := by
    have : pid ≠ 0 := by omega
    simpa using this
  obtain ⟨y, rfl, hlast⟩ := hc.last hn
  have HCL : Hid (∀ u, Below w0.heap.size w0 u → u.cell? ⟨y, g.offs.length - 1, none⟩ = some (.int .i64 O)) := fun u hu => by
    have := (below_step hb0 hu).cell (p := ⟨y, g.offs.length - 1, none⟩) (cell_lt hlast)
    rw [this, hO]; exact hlast
  have HJ0 : Hid (Calls Tryd.prog 12 #[.pointer (some ⟨t, 0, none⟩), .int .i64 pid, .int .i64 seq] w0 fun e w' => e = .returned (.tuple #[.int .i64 (2), .int .i64 O]) ∧ Below w0.heap.size w0 w') := HJ.out w0 hb0
  generalize hN : g.offs.length = n at *
  clear h HJ hb0 hs0 h0 hone hc hi hlast hO
  subst hseq
  have hsq : ((n : Int) == (n : Int) + 1) = false := by
    have : (n : Int) ≠ (n : Int) + 1 := by omega
    simpa using this
  have hn1 : ((n : Int) - 1).toNat = n - 1 := by omega
  go_enter Tryd.func5, Tryd.ntmps5
  go_wp2_with fail
  refine HJ0.out.mono ?_
  rintro e w1 ⟨rfl, hb1⟩
  have HB1 : Hid (Below w0.heap.size w0 w1) := hb1
  have hc1 := HC.out w1 hb1
  obtain ⟨hy0, hy1⟩ := HX.out w1 (HL.out _ hb1)
  clear hb1 hx0 hx1
  go_wp2_with fail
  refine (HPL.out _ HB1.out).mono ?_
  rintro e w2 ⟨rfl, rfl⟩
  go_wp2_with fail
  refine (HMI.out _).mono ?_
  rintro e w3 ⟨rfl, hb3⟩
  have HB3 : Hid (Below w0.heap.size w0 w3) := below_step HB1.out hb3
  obtain ⟨hz0, hz1⟩ := HX.out w3 (HL.out _ HB3.out)
  have hc3 := HC.out w3 HB3.out
  have hl3 := HCL.out w3 HB3.out
  clear hb3 hy0 hy1 hc1
  go_wp2_with fail
  refine (HN.out _ (HB0.out _ HB3.out)).mono ?_
  rintro e w4 ⟨rfl, hT4, hR4⟩
  have HP : Hid (∃ u, Below w.heap.size w u ∧ Chg T u w4 ∧ R u w4) := ⟨w3, HB0.out _ HB3.out, hT4, hR4⟩
  clear hT4 hR4
  go_wp2
  go_ret3
  exact ⟨rfl, HP.out⟩
set_option maxHeartbeats 8000000 in
set_option maxRecDepth 100000 in
theorem sendsTakeS (P T : Nat → Prop) (v : Value) (G : List Gv) (t : Nat) (pid seq off : Int) (w : World) (h : GAt P w v G) (hl : G.length ≤ 64) (hT : ∀ b, T b → b < w.heap.size ∧ ¬ P b) (i : Nat) (g : Gv) (hi : G[i]? = some g) (hpl : plc G pid = (i : Int)) (hn : g.offs ≠ []) (hnl : g.offs.length ≤ 1099511627775) 
    (HJ : Hid (∀ u, Below w.heap.size w u → Calls Tryd.prog 12 #[.pointer (some ⟨t, 0, none⟩), .int .i64 pid, .int .i64 seq] u fun e w' => e = .returned (.tuple #[.int .i64 (1), .int .i64 0]) ∧ Below u.heap.size u w'))
    (R : World → World → Prop)
    (HN : Hid (∀ u, Below w.heap.size w u → Calls Tryd.prog 14 #[.pointer (some ⟨t, 0, none⟩), .int .i64 pid, .int .i64 seq, .int .i64 off] u fun e w' => e = .returned (.int .i64 0) ∧ Chg T u w' ∧ R u w'))
    (h0 : okNum pid seq = true) (hseq : seq = (g.offs.length : Int) + 1) (hlk : lookG G pid = some i) :
    Calls Tryd.prog 5 #[.pointer (some ⟨t, 0, none⟩), v, .agg #[.int .i64 pid, .int .i64 seq], .int .i64 off] w fun e w' => ∃ v', e = .returned (.tuple #[v', .bool true, .bool true]) ∧ ∃ P' u1 u2, GAt P' w' v' (takeG G pid off) ∧ (∀ b, P' b → P b ∨ u2.heap.size ≤ b) ∧ Below w.heap.size w u1 ∧ Chg T u1 u2 ∧ R u1 u2 ∧ Chg P u2 w' := by
  obtain ⟨w0, hw0⟩ : ∃ w0, w.alloc (.cells #[.int .i64 pid, .int .i64 seq] 33) = w0 := ⟨_, rfl⟩
  have hb0 : Below w.heap.size w w0 := by rw [← hw0]; exact (Below.refl _ _).alloc (Nat.le_refl _) _
  have hs0 : w0.heap.size = w.heap.size + 1 := by rw [← hw0]; simp
  have HX : Hid (∀ u, Chg T w0 u → u.cell? ⟨w.heap.size, 0, none⟩ = some (.int .i64 pid) ∧ u.cell? ⟨w.heap.size, 1, none⟩ = some (.int .i64 seq)) := fun u hu => by
    have hb : u.heap[w.heap.size]? = w0.heap[w.heap.size]? := hu.block _ (by omega) (fun e => by have := (hT _ e).1; omega)
    have hc : ∀ j, u.cell? ⟨w.heap.size, j, none⟩ = w0.cell? ⟨w.heap.size, j, none⟩ := fun j => World.cell?_of_block (w := w0) (a := ⟨w.heap.size, j, none⟩) hb
    rw [hc, hc, ← hw0]
    exact ⟨World.cell?_alloc_at _ _ _ _ rfl, World.cell?_alloc_at _ _ _ _ rfl⟩
  obtain ⟨hx0, hx1⟩ := HX.out w0 (Chg.refl _ _)
  have HB0 : Hid (∀ u, Below w0.heap.size w0 u → Below w.heap.size w u) := fun u hu => below_step hb0 hu
  have HG : Hid (∀ u, Chg T w u → GAt P u v G) := fun u hu => h.chg hu fun b hb hb2 => (hT b hb2).2 hb
  have HL : Hid (∀ u, Below w0.heap.size w0 u → Chg T w0 u) := fun u hu => Chg.ofBelow hu
  obtain ⟨a, cap, rfl, hone⟩ := h.one
  obtain ⟨b, a', cap', rfl, hc⟩ := hone i g hi
  have HI : Hid (G[i]? = some g) := hi
  have HPL : Hid (∀ u, Below w0.heap.size w0 u → Calls Tryd.prog 9 #[.slice (some ⟨b, 0, none⟩) G.length cap, .int .i64 pid] u fun e w' => e = .returned (.int .i64 (i : Int)) ∧ w' = u) := fun u hu => by
    have := placeOf P _ G pid u (h.later (below_step hb0 hu)) hl
    rwa [hpl] at this
  have HC : Hid (∀ u, Below w0.heap.size w0 u → u.cell? ⟨b, i * 2 + 1, none⟩ = some (.slice a' g.offs.length cap')) := fun u hu => by
    have := (below_step hb0 hu).cell (p := ⟨b, i * 2 + 1, none⟩) (cell_lt hc.c1)
    rw [this]; exact hc.c1
  have hil : i < G.length := (List.getElem?_eq_some_iff.mp hi).1
  have hnl1 : 1 ≤ g.offs.length := by have := List.length_pos_iff.mpr hn; omega
  have HMI : Hid (∀ u, Calls Tryd.prog 13 #[.agg #[.int .i64 pid, .int .i64 seq]] u fun e w' => e = .returned (.bool true) ∧ Below u.heap.size u w') := fun u => by
    have := mineOf pid seq u
    rwa [h0] at this
  have hk := (okNum_iff pid seq).mp h0
  have hp0 : (pid == 0) = false := by
    have : pid ≠ 0 := by omega
    simpa using this
  have HTG : Hid (takeG G pid off = G.modify i fun y => ⟨y.pid, y.offs ++ [off]⟩) := by unfold Hid takeG; rw [hlk]
  have HBL : Hid (b < w.heap.size ∧ P b) := by
    obtain ⟨ts, bs, _, _, hrow, _⟩ := h.pick hi
    exact ⟨cell_lt hc.c1, hrow.inr b rfl⟩
  have HJ0 : Hid (Calls Tryd.prog 12 #[.pointer (some ⟨t, 0, none⟩), .int .i64 pid, .int .i64 seq] w0 fun e w' => e = .returned (.tuple #[.int .i64 (1), .int .i64 0]) ∧ Below w0.heap.size w0 w') := HJ.out w0 hb0
  clear h HJ hb0 hs0 h0 hone hc hi hlk
  have HNL : Hid (g.offs.length ≤ 1099511627775) := hnl
  generalize hN : g.offs.length = n at *
  subst hseq
  go_enter Tryd.func5, Tryd.ntmps5
  go_wp2_with fail
  refine HJ0.out.mono ?_
  rintro e w1 ⟨rfl, hb1⟩
  have HB1 : Hid (Below w0.heap.size w0 w1) := hb1
  have hc1 := HC.out w1 hb1
  obtain ⟨hy0, hy1⟩ := HX.out w1 (HL.out _ hb1)
  clear hb1 hx0 hx1
  go_wp2_with fail
  refine (HPL.out _ HB1.out).mono ?_
  rintro e w2 ⟨rfl, rfl⟩
  go_wp2_with fail
  refine (HMI.out _).mono ?_
  rintro e w3 ⟨rfl, hb3⟩
  have HB3 : Hid (Below w0.heap.size w0 w3) := below_step HB1.out hb3
  obtain ⟨hz0, hz1⟩ := HX.out w3 (HL.out _ HB3.out)
  clear hb3 hy0 hy1 hc1
  go_wp2_with fail
  refine (HN.out _ (HB0.out _ HB3.out)).mono ?_
  rintro e w4 ⟨rfl, hT4, hR4⟩
  have HT4 : Hid (Chg T w3 w4) := hT4
  have HR4 : Hid (R w3 w4) := hR4
  have hg4 := HG.out w4 ((Chg.ofBelow (HB0.out _ HB3.out)).trans hT4)
  obtain ⟨ts, bs, a4, c4, hrow, k1, k2, k3⟩ := hg4.pick HI.out
  rw [hN] at k1 k3
  have HROW : Hid (GRow P w4 (.slice (some ⟨b, 0, none⟩) G.length cap) G ts (some b) bs) := hrow
  have HOV : Hid (OwnV w4 (.slice a4 n c4) (ints g.offs) (bs i)) := k3
  clear hT4 hR4 hg4 hrow k3 hz0 hz1
  obtain ⟨i0, hi0, hz0, hz1, hz2⟩ := info_parts Tryd.infoI
  have HI0 : Hid (Tryd.prog.info? 2 = some i0 ∧ i0.zero = some (.int .i64 0) ∧ i0.size = 1 ∧ i0.bytes = 8) := ⟨hi0, hz0, hz1, hz2⟩
  clear hi0 hz0 hz1 hz2
  go_wp2_with (at_builtin; refine wpList_append_val _ rfl _ _ 23 2 i0 (.int .i64 0) rfl Tryd.underlying23 HI0.out.1 HI0.out.2.1 rfl HI0.out.2.2.1 (by rw [HI0.out.2.2.2]; omega) _ _ (.int .i64 off) (ints g.offs) (bs i) rfl rfl ?hOwn ?hSrc ?hLen ?_)
  case hOwn => exact HOV.out.kept (World.grownBy_alloc _ _ none) (by cases bs i <;> simp)
  case hSrc => exact src_val' _ _ (by simp) _ rfl 23 2 2 Tryd.underlying23
  case hLen => rw [ints_len, hN]; have := HNL.out; omega
  intro v5 w5 g5 ho5 hg5 hr5
  have hbs : bs i ≠ some b := fun e => (HROW.out.inp i b hil e).2 rfl
  have hblk : w5.heap[b]? = w4.heap[b]? := by
    have hbl : b < w4.heap.size := HROW.out.row.blt b rfl
    have := hg5.block b (by simp; omega) (fun e => hbs e.symm)
    rw [this]
    exact heap_alloc_old _ _ hbl
  have k1' : w5.cell? ⟨b, i * 2 + 1, none⟩ = some (.slice a4 n c4) := (World.cell?_of_block (w := w4) (a := ⟨b, i * 2 + 1, none⟩) hblk).trans k1
  have k2' : w5.frozen? ⟨b, i * 2 + 1, none⟩ = false := (World.frozen?_of_block (w := w4) (a := ⟨b, i * 2 + 1, none⟩) hblk).trans k2
  have HP : Hid (∃ P' u1 u2, GAt P' (w5.setCell ⟨b, i * 2 + 1, none⟩ v5) (.slice (some ⟨b, 0, none⟩) G.length cap) (takeG G pid off) ∧ (∀ b, P' b → P b ∨ u2.heap.size ≤ b) ∧ Below w.heap.size w u1 ∧ Chg T u1 u2 ∧ R u1 u2 ∧ Chg P u2 (w5.setCell ⟨b, i * 2 + 1, none⟩ v5)) := by
    have hsz : w.heap.size ≤ w4.heap.size := Nat.le_trans (HB0.out _ HB3.out).size HT4.out.size
    have hr1 := HROW.out.keep (w' := w4.alloc (.cells #[.int .i64 off] 2)) (by simp) (fun b _ hb => heap_alloc_old _ _ hb)
    have ho5' : OwnV w5 v5 (ints (g.offs ++ [off])) (some g5) := by rw [ints_snoc]; exact ho5
    have hg5' : some g5 = bs i ∨ (w4.alloc (.cells #[.int .i64 off] 2)).heap.size ≤ g5 := by
      rcases hr5 with e | e
      · exact .inl e
      · exact .inr (by rw [e]; simp)
    refine ⟨_, w3, w4, ⟨_, _, _, by rw [HTG.out]; exact hr1.lay HI.out ho5' hg5 hg5'⟩, fun q hq => ?_, HB0.out _ HB3.out, HT4.out, HR4.out, ?_⟩
    · rcases hq with hq | rfl
      · exact .inl hq
      · rcases hg5' with e | e
        · exact .inl (HROW.out.inp i _ hil e.symm).1
        · right; simp at e; omega
    · have c1 : Chg P w4 (w4.alloc (.cells #[.int .i64 off] 2)) := Chg.ofBelow ((Below.refl _ _).alloc (Nat.le_refl _) _)
      refine (c1.grown hg5 fun g e => .inl (HROW.out.inp i g hil e).1).grown (grow_setC w5 b (i * 2 + 1) v5) fun g e => .inl ?_
      cases e
      exact HBL.out.2
  obtain ⟨a5, n5, c5, rfl⟩ : ∃ a n c, v5 = .slice a n c := by
    obtain ⟨a, c, e, _⟩ := ho5.shape
    exact ⟨a, _, c, e⟩
  clear ho5 hg5 hr5 k1 k2 hblk
  go_wp2
  go_ret3
  exact ⟨_, rfl, HP.out⟩
set_option maxHeartbeats 8000000 in
set_option maxRecDepth 100000 in
theorem sendsTake (P T : Nat → Prop) (v : Value) (G : List Gv) (t : Nat) (pid seq off : Int) (w : World) (h : GAt P w v G) (hl : G.length ≤ 64) (hT : ∀ b, T b → b < w.heap.size ∧ ¬ P b) (hpl : plc G pid = -1) 
    (HJ : Hid (∀ u, Below w.heap.size w u → Calls Tryd.prog 12 #[.pointer (some ⟨t, 0, none⟩), .int .i64 pid, .int .i64 seq] u fun e w' => e = .returned (.tuple #[.int .i64 (1), .int .i64 0]) ∧ Below u.heap.size u w'))
    (R : World → World → Prop)
    (HN : Hid (∀ u, Below w.heap.size w u → Calls Tryd.prog 14 #[.pointer (some ⟨t, 0, none⟩), .int .i64 pid, .int .i64 seq, .int .i64 off] u fun e w' => e = .returned (.int .i64 0) ∧ Chg T u w' ∧ R u w'))
    (h0 : okNum pid seq = true) (hseq : seq = 1) (hroom : G.length < 64) (hlk : lookG G pid = none) :
    Calls Tryd.prog 5 #[.pointer (some ⟨t, 0, none⟩), v, .agg #[.int .i64 pid, .int .i64 seq], .int .i64 off] w fun e w' => ∃ v', e = .returned (.tuple #[v', .bool true, .bool true]) ∧ ∃ P' u1 u2, GAt P' w' v' (takeG G pid off) ∧ (∀ b, P' b → P b ∨ u2.heap.size ≤ b) ∧ Below w.heap.size w u1 ∧ Chg T u1 u2 ∧ R u1 u2 ∧ Chg P u2 w' := by
  obtain ⟨w0, hw0⟩ : ∃ w0, w.alloc (.cells #[.int .i64 pid, .int .i64 seq] 33) = w0 := ⟨_, rfl⟩
  have hb0 : Below w.heap.size w w0 := by rw [← hw0]; exact (Below.refl _ _).alloc (Nat.le_refl _) _
  have hs0 : w0.heap.size = w.heap.size + 1 := by rw [← hw0]; simp
  have HX : Hid (∀ u, Chg T w0 u → u.cell? ⟨w.heap.size, 0, none⟩ = some (.int .i64 pid) ∧ u.cell? ⟨w.heap.size, 1, none⟩ = some (.int .i64 seq)) := fun u hu => by
    have hb : u.heap[w.heap.size]? = w0.heap[w.heap.size]? := hu.block _ (by omega) (fun e => by have := (hT _ e).1; omega)
    have hc : ∀ j, u.cell? ⟨w.heap.size, j, none⟩ = w0.cell? ⟨w.heap.size, j, none⟩ := fun j => World.cell?_of_block (w := w0) (a := ⟨w.heap.size, j, none⟩) hb
    rw [hc, hc, ← hw0]
    exact ⟨World.cell?_alloc_at _ _ _ _ rfl, World.cell?_alloc_at _ _ _ _ rfl⟩
  obtain ⟨hx0, hx1⟩ := HX.out w0 (Chg.refl _ _)
  have HB0 : Hid (∀ u, Below w0.heap.size w0 u → Below w.heap.size w u) := fun u hu => below_step hb0 hu
  have HG : Hid (∀ u, Chg T w u → GAt P u v G) := fun u hu => h.chg hu fun b hb hb2 => (hT b hb2).2 hb
  have HL : Hid (∀ u, Below w0.heap.size w0 u → Chg T w0 u) := fun u hu => Chg.ofBelow hu
  obtain ⟨a, cap, rfl⟩ := h.shape
  have HPL : Hid (∀ u, Below w0.heap.size w0 u → Calls Tryd.prog 9 #[.slice a G.length cap, .int .i64 pid] u fun e w' => e = .returned (.int .i64 (-1)) ∧ w' = u) := fun u hu => by
    have := placeOf P _ G pid u (h.later (below_step hb0 hu)) hl
    rwa [hpl] at this
  have HMI : Hid (∀ u, Calls Tryd.prog 13 #[.agg #[.int .i64 pid, .int .i64 seq]] u fun e w' => e = .returned (.bool true) ∧ Below u.heap.size u w') := fun u => by
    have := mineOf pid seq u
    rwa [h0] at this
  have hk := (okNum_iff pid seq).mp h0
  have hp0 : (pid == 0) = false := by
    have : pid ≠ 0 := by omega
    simpa using this
  have HTG : Hid (takeG G pid off = G ++ [⟨pid, [off]⟩]) := by unfold Hid takeG; rw [hlk]
  have HJ0 : Hid (Calls Tryd.prog 12 #[.pointer (some ⟨t, 0, none⟩), .int .i64 pid, .int .i64 seq] w0 fun e w' => e = .returned (.tuple #[.int .i64 (1), .int .i64 0]) ∧ Below w0.heap.size w0 w') := HJ.out w0 hb0
  clear h HJ hb0 hs0 h0 hlk
  subst hseq
  go_enter Tryd.func5, Tryd.ntmps5
  go_wp2_with fail
  refine HJ0.out.mono ?_
  rintro e w1 ⟨rfl, hb1⟩
  have HB1 : Hid (Below w0.heap.size w0 w1) := hb1
  obtain ⟨hy0, hy1⟩ := HX.out w1 (HL.out _ hb1)
  clear hb1 hx0 hx1
  go_wp2_with fail
  refine (HPL.out _ HB1.out).mono ?_
  rintro e w2 ⟨rfl, rfl⟩
  go_wp2_with fail
  refine (HMI.out _).mono ?_
  rintro e w3 ⟨rfl, hb3⟩
  have HB3 : Hid (Below w0.heap.size w0 w3) := below_step HB1.out hb3
  obtain ⟨hz0, hz1⟩ := HX.out w3 (HL.out _ HB3.out)
  clear hb3 hy0 hy1
  go_wp2_with fail
  refine (HN.out _ (HB0.out _ HB3.out)).mono ?_
  rintro e w4 ⟨rfl, hT4, hR4⟩
  have HT4 : Hid (Chg T w3 w4) := hT4
  have HR4 : Hid (R w3 w4) := hR4
  have hg4 := HG.out w4 ((Chg.ofBelow (HB0.out _ HB3.out)).trans hT4)
  obtain ⟨hu0, hu1⟩ := HX.out w4 ((HL.out _ HB3.out).trans hT4)
  obtain ⟨ts, r, bs, hrow⟩ := hg4
  have HROW : Hid (GRow P w4 (.slice a G.length cap) G ts r bs) := hrow
  clear hT4 hR4 hrow hz0 hz1
  obtain ⟨i0, hi0, hz0, hz1, hz2⟩ := info_parts Tryd.infoI
  have HI0 : Hid (Tryd.prog.info? 2 = some i0 ∧ i0.zero = some (.int .i64 0) ∧ i0.size = 1 ∧ i0.bytes = 8) := ⟨hi0, hz0, hz1, hz2⟩
  clear hi0 hz0 hz1 hz2
  go_wp2_with (at_builtin; refine wpList_append_c _ rfl _ _ rfl _ _ ts [⟨pid, .slice none 0 0⟩] r rfl rfl ?hOwn ?hSrc ?hLen ?hR ?_)
  case hOwn => exact HROW.out.row.kept (World.grownBy_alloc _ _ none) (by cases r <;> simp)
  case hSrc => exact src_gc w4 ⟨pid, .slice none 0 0⟩ rfl
  case hLen => rw [HROW.out.len]; simp; omega
  case hR => exact .inr (Nat.succ_pos _)
  intro v5 w5 g5 ho5 hg5 hr5
  have hsz : w.heap.size ≤ w4.heap.size := Nat.le_trans (HB0.out _ HB3.out).size HT4.out.size
  have hr5' : some g5 = r ∨ (w4.alloc (.cells #[.int .i64 pid, .slice none 0 0] 45)).heap.size ≤ g5 := by
    rcases hr5 with e | e
    · exact .inl e
    · exact .inr (by rw [e]; simp)
  have hrow5 := (HROW.out.keep (w' := w4.alloc (.cells #[.int .i64 pid, .slice none 0 0] 45)) (by simp) (fun b _ hb => heap_alloc_old _ _ hb)).more ho5 hg5 hr5'
  have HC5 : Hid (Chg P w4 w5) := by
    have c1 : Chg P w4 (w4.alloc (.cells #[.int .i64 pid, .slice none 0 0] 45)) := Chg.ofBelow ((Below.refl _ _).alloc (Nat.le_refl _) _)
    exact c1.grown hg5 fun g e => .inl (HROW.out.inr g e)
  have HP5 : Hid (∀ q, (P q ∨ q = g5) → P q ∨ w4.heap.size ≤ q) := fun q hq => by
    rcases hq with hq | rfl
    · exact .inl hq
    · rcases hr5' with e | e
      · exact .inl (HROW.out.inr _ e.symm)
      · right; simp at e; omega
  obtain ⟨c5, rfl⟩ : ∃ c, v5 = .slice (some ⟨g5, 0, none⟩) (G.length + 1) c := by
    rcases hrow5.row with ⟨_, _, e⟩ | ⟨g', c', e1, e2, _⟩
    · simp at e
    · cases e1
      refine ⟨c', e2.trans ?_⟩
      congr 1
      rw [hrow5.len]; simp
  have hlen5 : (G ++ [(⟨pid, []⟩ : Gv)]).length = G.length + 1 := by simp
  have hg5x : GAt (fun q => P q ∨ q = g5) w5 (.slice (some ⟨g5, 0, none⟩) (G ++ [(⟨pid, []⟩ : Gv)]).length c5) (G ++ [⟨pid, []⟩]) := by rw [hlen5]; exact ⟨_, _, _, hrow5⟩
  have hi5 : (G ++ [(⟨pid, []⟩ : Gv)])[G.length]? = some ⟨pid, []⟩ := by simp
  obtain ⟨ts5, bs5, a6, c6, hrow6, k1, k2, k3⟩ := hg5x.pick hi5
  have HROW6 : Hid (GRow (fun q => P q ∨ q = g5) w5 (.slice (some ⟨g5, 0, none⟩) (G ++ [(⟨pid, []⟩ : Gv)]).length c5) (G ++ [⟨pid, []⟩]) ts5 (some g5) bs5) := hrow6
  have HOV : Hid (OwnV w5 (.slice a6 0 c6) (ints []) (bs5 G.length)) := k3
  have HI5 : Hid ((G ++ [(⟨pid, []⟩ : Gv)])[G.length]? = some ⟨pid, []⟩) := hi5
  have HL5 : Hid ((G ++ [(⟨pid, []⟩ : Gv)]).length = G.length + 1) := hlen5
  have HS5 : Hid (w.heap.size ≤ w4.heap.size) := hsz
  simp only [List.length_nil] at k1
  clear hrow5 hrow6 k3 ho5 hg5 hr5 hr5' hg5x hi5 hlen5 hu0 hu1 hsz
  generalize hGn : G.length = n at *
  have hn1 : ((n : Int) + 1 - 1) = (n : Int) := by omega
  go_wp2_with (at_builtin; refine wpList_append_val _ rfl _ _ 23 2 i0 (.int .i64 0) rfl Tryd.underlying23 HI0.out.1 HI0.out.2.1 rfl HI0.out.2.2.1 (by rw [HI0.out.2.2.2]; omega) _ _ (.int .i64 off) (ints []) (bs5 n) rfl rfl ?hOwn ?hSrc ?hLen ?_)
  case hOwn => exact HOV.out.kept (World.grownBy_alloc _ _ none) (by cases bs5 n <;> simp)
  case hSrc => exact src_val' _ _ (by simp) _ rfl 23 2 2 Tryd.underlying23
  case hLen => simp [ints]
  intro v7 w7 g7 ho7 hg7 hr7
  have hil : n < (G ++ [(⟨pid, []⟩ : Gv)]).length := by rw [HL5.out]; omega
  have hbs : bs5 n ≠ some g5 := fun e => (HROW6.out.inp n g5 hil e).2 rfl
  have hblk : w7.heap[g5]? = w5.heap[g5]? := by
    have hbl : g5 < w5.heap.size := HROW6.out.row.blt g5 rfl
    have := hg7.block g5 (by simp; omega) (fun e => hbs e.symm)
    rw [this]
    exact heap_alloc_old _ _ hbl
  have k1' : w7.cell? ⟨g5, n * 2 + 1, none⟩ = some (.slice a6 0 c6) := (World.cell?_of_block (w := w5) (a := ⟨g5, n * 2 + 1, none⟩) hblk).trans k1
  have k2' : w7.frozen? ⟨g5, n * 2 + 1, none⟩ = false := (World.frozen?_of_block (w := w5) (a := ⟨g5, n * 2 + 1, none⟩) hblk).trans k2
  have HP : Hid (∃ P' u1 u2, GAt P' (w7.setCell ⟨g5, n * 2 + 1, none⟩ v7) (.slice (some ⟨g5, 0, none⟩) (n + 1) c5) (takeG G pid off) ∧ (∀ b, P' b → P b ∨ u2.heap.size ≤ b) ∧ Below w.heap.size w u1 ∧ Chg T u1 u2 ∧ R u1 u2 ∧ Chg P u2 (w7.setCell ⟨g5, n * 2 + 1, none⟩ v7)) := by
    have hr1 := HROW6.out.keep (w' := w5.alloc (.cells #[.int .i64 off] 2)) (by simp) (fun b _ hb => heap_alloc_old _ _ hb)
    have ho7' : OwnV w7 v7 (ints ([] ++ [off])) (some g7) := by rw [ints_snoc]; exact ho7
    have hg7' : some g7 = bs5 n ∨ (w5.alloc (.cells #[.int .i64 off] 2)).heap.size ≤ g7 := by
      rcases hr7 with e | e
      · exact .inl e
      · exact .inr (by rw [e]; simp)
    have hlay := hr1.lay HI5.out ho7' hg7 hg7'
    have eG : (G ++ [(⟨pid, []⟩ : Gv)]).modify n (fun y => ⟨y.pid, y.offs ++ [off]⟩) = takeG G pid off := by
      rw [HTG.out, ← hGn]
      exact modify_snoc _ G _
    rw [eG, HL5.out] at hlay
    have hs45 := HC5.out.size
    refine ⟨_, w3, w4, ⟨_, _, _, hlay⟩, fun q hq => ?_, HB0.out _ HB3.out, HT4.out, HR4.out, ?_⟩
    · have hS := HS5.out
      rcases hq with hq | rfl
      · rcases HP5.out q hq with h1 | h1
        · exact .inl h1
        · right; omega
      · rcases hg7' with e | e
        · rcases HP5.out _ (HROW6.out.inp n _ hil e.symm).1 with h1 | h1
          · exact .inl h1
          · right; omega
        · right; simp at e; omega
    · have c1 : Chg P w4 (w5.alloc (.cells #[.int .i64 off] 2)) := HC5.out.more ((Below.refl _ _).alloc (Nat.le_refl _) _)
      refine (c1.grown hg7 fun g e => HP5.out g (HROW6.out.inp n g hil e).1).grown (grow_setC w7 g5 (n * 2 + 1) v7) fun g e => ?_
      cases e
      exact HP5.out _ (.inr rfl)
  obtain ⟨a7, n7, c7, rfl⟩ : ∃ a n c, v7 = .slice a n c := by
    obtain ⟨a, c, e, _⟩ := ho7.shape
    exact ⟨a, _, c, e⟩
  clear ho7 hg7 hr7 k1 k2 hblk
  go_wp2
  go_ret3
  exact ⟨_, rfl, HP.out⟩
end Go.Proofs.YtmcfcbonmmifeaaDoor
