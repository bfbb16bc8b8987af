import Derived.Test.YtjhbaplnkigifaaQk32
import Derived.Deep.RegionHeld3
/-! keydir: erode. -/
namespace Go.Proofs.Ytjhbaplnkigifaa
open Go.RowKit Go.Shelf Plain
attribute [local go_sem] Oper.semAt_some
set_option linter.unusedVariables false
set_option linter.unusedSimpArgs false

theorem hresErode : Try.f37.results = #[.cell 6 4] := by kernel_rfl
set_option maxHeartbeats 16000000 in
set_option maxRecDepth 100000 in
theorem erodeOf {D : Nat → Prop} {w : World} {p : Dp} (m : Mv) (hp : PairAt D w p) (hD : ∀ g, D g → g < w.heap.size) (hkey : m.key.size ≤ maxLen) (hhi : m.hi.size ≤ maxLen) (hE : (Ke.r ⟨⟨#[]⟩, m.e⟩).Ok) (hl : p.l.length < 2199023254000) :
    Calls Try.prog 37 #[.pointer (some ⟨p.gd, 0, none⟩), .pointer (some ⟨p.gx, 0, none⟩), m.v] w fun e w' => e = .returned (.bool true) ∧ ∃ D' p', p'.l.length ≤ p.l.length ∧ Ev0 D w p D' w' p' := by
  obtain ⟨mdir, mkind, lo, hi, me, lim⟩ := m
  simp only at hkey hhi hE
  obtain ⟨w0, hw0⟩ : ∃ w0, (((w.alloc (.cells #[.pointer (some ⟨p.gd, 0, none⟩)] 23)).alloc (.cells #[.pointer (some ⟨p.gx, 0, none⟩)] 30)).alloc (.cells #[.int .i64 mdir, .int .i64 mkind, .string lo, .string hi, .int .i64 me.seg, .int .i64 me.pos, .int .i64 me.size, .int .i64 me.off, .int .i64 me.time, .bool me.tomb, .int .i64 lim] 40)).alloc (.cells #[.bool false] 4) = w0 := ⟨_, rfl⟩
  have hs0 : w0.heap.size = w.heap.size + 4 := by rw [← hw0]; simp
  have hb0 : Below w.heap.size w w0 := by rw [← hw0]; exact ((((Below.refl _ _).alloc (Nat.le_refl _) _).alloc (by simp) _).alloc (by simp; omega) _).alloc (by simp; omega) _
  have HBX : Hid (w0.cell? ⟨w.heap.size, 0, none⟩ = some (.pointer (some ⟨p.gd, 0, none⟩)) ∧ w0.cell? ⟨w.heap.size + 1, 0, none⟩ = some (.pointer (some ⟨p.gx, 0, none⟩)) ∧ MvAt w0 (w.heap.size + 1 + 1) ⟨mdir, mkind, lo, hi, me, lim⟩ ∧ w0.cell? ⟨w.heap.size + 1 + 1 + 1, 0, none⟩ = some (.bool false) ∧ w0.frozen? ⟨w.heap.size + 1 + 1 + 1, 0, none⟩ = false) := by
    unfold Hid
    rw [← hw0]
    obtain ⟨u1, hu1⟩ : ∃ u1, w.alloc (.cells #[.pointer (some ⟨p.gd, 0, none⟩)] 23) = u1 := ⟨_, rfl⟩
    have e1 : u1.heap.size = w.heap.size + 1 := by rw [← hu1]; simp
    rw [hu1]
    obtain ⟨u2, hu2⟩ : ∃ u2, u1.alloc (.cells #[.pointer (some ⟨p.gx, 0, none⟩)] 30) = u2 := ⟨_, rfl⟩
    have e2 : u2.heap.size = w.heap.size + 1 + 1 := by rw [← hu2]; simp; omega
    rw [hu2]
    obtain ⟨u3, hu3⟩ : ∃ u3, u2.alloc (.cells #[.int .i64 mdir, .int .i64 mkind, .string lo, .string hi, .int .i64 me.seg, .int .i64 me.pos, .int .i64 me.size, .int .i64 me.off, .int .i64 me.time, .bool me.tomb, .int .i64 lim] 40) = u3 := ⟨_, rfl⟩
    have e3 : u3.heap.size = w.heap.size + 1 + 1 + 1 := by rw [← hu3]; simp; omega
    rw [hu3]
    have k1 : u1.cell? ⟨w.heap.size, 0, none⟩ = some (.pointer (some ⟨p.gd, 0, none⟩)) := by rw [← hu1]; exact World.cell?_alloc_at _ _ _ _ rfl
    have k2 : u2.cell? ⟨w.heap.size + 1, 0, none⟩ = some (.pointer (some ⟨p.gx, 0, none⟩)) := by rw [← hu2, ← e1]; exact World.cell?_alloc_at _ _ _ _ rfl
    have k3 : MvAt u3 (w.heap.size + 1 + 1) ⟨mdir, mkind, lo, hi, me, lim⟩ := by rw [← hu3, ← e2]; exact MvAt.new u2 ⟨mdir, mkind, lo, hi, me, lim⟩
    have g1 : ∀ {a : Addr} {v : Value}, u1.cell? a = some v → u2.cell? a = some v := fun h => by rw [← hu2]; exact cell_kept h (World.grownBy_alloc _ _ none) (fun r e => by cases e)
    have g2 : ∀ {a : Addr} {v : Value}, u2.cell? a = some v → u3.cell? a = some v := fun h => by rw [← hu3]; exact cell_kept h (World.grownBy_alloc _ _ none) (fun r e => by cases e)
    have g3 : ∀ {a : Addr} {v : Value}, u3.cell? a = some v → (u3.alloc (.cells #[.bool false] 4)).cell? a = some v := fun h => cell_kept h (World.grownBy_alloc _ _ none) (fun r e => by cases e)
    refine ⟨g3 (g2 (g1 k1)), g3 (g2 k2), k3.later ((Below.refl _ _).alloc (Nat.le_refl _) _), by rw [← e3]; exact World.cell?_alloc_at _ _ _ _ rfl, by rw [← e3]; exact World.frozen?_alloc_at _ _ _ _ rfl⟩
  obtain ⟨R, hR⟩ : ∃ R, rngL lo hi p.l = R := ⟨_, rfl⟩
  have hRl : R.length ≤ p.l.length := by rw [← hR]; exact List.length_filter_le ..
  have HXL : Hid (Calls Try.prog 33 #[.pointer (some ⟨p.gx, 0, none⟩), .string lo, .string hi] w0 fun e w' => ∃ v' r', e = .returned v' ∧ KrNew w0 w' v' (rowK R) r') := by rw [← hR]; exact xlistOf p.gx p.v p.l p.r lo hi w0 ((hp.later hb0).xd) hkey hhi
  refine (callsIn_wide (n := 8)).1 ?_
  refine callsIn_of_wp_marks Try.func37 rfl trivial ?_ rfl
  simp only [Try.ntmps37, List.size_toArray, List.length_cons, List.length_nil, Nat.reduceAdd, Nat.reduceSub, Array.replicate_succ, Array.replicate_zero, List.push_toArray, List.append_toArray, List.nil_append, List.cons_append]
  refine wpIn_wide.2 ?_
  refine wp_okPostZ ?_
  have x2 := HBX.out.2.1
  have y2 := HBX.out.2.2.1.c 2 _ rfl
  have y3 := HBX.out.2.2.1.c 3 _ rfl
  simp only at y2 y3
  go_wp2_with fail
  refine HXL.out.mono ?_
  rintro e w1 ⟨v1, r1, rfl, hn1⟩
  clear HXL hw0 x2 y2 y3
  obtain ⟨a1, c1, hv1, -, -⟩ := hn1.row.shape
  have hrl : (rowK R).length = R.length := by simp
  rw [hrl] at hv1
  subst hv1
  have hs01 := hn1.below.size
  obtain ⟨w2, hw2⟩ : ∃ w2, w1.alloc (.cells #[.slice a1 R.length c1] 43) = w2 := ⟨_, rfl⟩
  have hs2 : w2.heap.size = w1.heap.size + 1 := by rw [← hw2]; simp
  have hb12 : Below w1.heap.size w1 w2 := by rw [← hw2]; exact (Below.refl _ _).alloc (Nat.le_refl _) _
  have hb02 : Below w0.heap.size w0 w2 := hn1.below.trans (hb12.mono hn1.below.size)
  have hcw2 : w2.cell? ⟨w1.heap.size, 0, none⟩ = some (.slice a1 R.length c1) := by rw [← hw2]; exact World.cell?_alloc_at _ _ _ _ rfl
  obtain ⟨w3, hw3⟩ : ∃ w3, ((w2.alloc (.cells #[.pointer (some ⟨p.gd, 0, none⟩)] 23)).alloc (.cells #[.string lo] 9)).alloc (.cells #[.string hi] 9) = w3 := ⟨_, rfl⟩
  have HAL : Hid (Calls Try.prog 49 #[.pointer (some ⟨p.gd, 0, none⟩), .string lo, .string hi] w2 fun e w' => e = .returned (.func (.func 56) #[] #[.pointer (some ⟨w2.heap.size, 0, none⟩), .pointer (some ⟨w2.heap.size + 1, 0, none⟩), .pointer (some ⟨w2.heap.size + 2, 0, none⟩)]) ∧ w' = w3) := by
    have h := callsIn_wide.1 (allIn 7 (some ⟨p.gd, 0, none⟩) lo hi w2)
    rw [hw3] at h
    exact h
  have hs3 : w3.heap.size = w2.heap.size + 3 := by rw [← hw3]; simp
  have hb23 : Below w2.heap.size w2 w3 := by rw [← hw3]; exact (((Below.refl _ _).alloc (Nat.le_refl _) _).alloc (by simp) _).alloc (by simp; omega) _
  have hcap3 : CapAt w3 w2.heap.size (.pointer (some ⟨p.gd, 0, none⟩)) lo hi := by
    rw [← hw3]
    have e1 : (w2.alloc (.cells #[.pointer (some ⟨p.gd, 0, none⟩)] 23)).heap.size = w2.heap.size + 1 := by simp
    have e2 : ((w2.alloc (.cells #[.pointer (some ⟨p.gd, 0, none⟩)] 23)).alloc (.cells #[.string lo] 9)).heap.size = w2.heap.size + 2 := by simp
    have k1 : (w2.alloc (.cells #[.pointer (some ⟨p.gd, 0, none⟩)] 23)).cell? ⟨w2.heap.size, 0, none⟩ = some (.pointer (some ⟨p.gd, 0, none⟩)) := World.cell?_alloc_at _ _ _ _ rfl
    have k2 : ((w2.alloc (.cells #[.pointer (some ⟨p.gd, 0, none⟩)] 23)).alloc (.cells #[.string lo] 9)).cell? ⟨w2.heap.size + 1, 0, none⟩ = some (.string lo) := by rw [← e1]; exact World.cell?_alloc_at _ _ _ _ rfl
    refine ⟨?_, ?_, ?_⟩
    · exact cell_kept (cell_kept k1 (World.grownBy_alloc _ _ none) (fun r e => by cases e)) (World.grownBy_alloc _ _ none) (fun r e => by cases e)
    · exact cell_kept k2 (World.grownBy_alloc _ _ none) (fun r e => by cases e)
    · rw [← e2]; exact World.cell?_alloc_at _ _ _ _ rfl
  obtain ⟨w4, hw4⟩ : ∃ w4, w3.alloc (.cells #[.int .i64 0] 3) = w4 := ⟨_, rfl⟩
  have hs4 : w4.heap.size = w3.heap.size + 1 := by rw [← hw4]; simp
  have hb34 : Below w3.heap.size w3 w4 := by rw [← hw4]; exact (Below.refl _ _).alloc (Nat.le_refl _) _
  have hb24 : Below w2.heap.size w2 w4 := hb23.trans (hb34.mono hb23.size)
  have hb04 : Below w0.heap.size w0 w4 := hb02.trans (hb24.mono hb02.size)
  have hbw4 : Below w.heap.size w w4 := hb0.trans (hb04.mono hb0.size)
  have hcn4 : w4.cell? ⟨w3.heap.size, 0, none⟩ = some (.int .i64 0) := by rw [← hw4]; exact World.cell?_alloc_at _ _ _ _ rfl
  have hfn4 : w4.frozen? ⟨w3.heap.size, 0, none⟩ = false := by rw [← hw4]; exact World.frozen?_alloc_at _ _ _ _ rfl
  have hcap4 : CapAt w4 w2.heap.size (.pointer (some ⟨p.gd, 0, none⟩)) lo hi := ⟨(hb34.cell (p := ⟨w2.heap.size, 0, none⟩) (cell_lt hcap3.c0)).trans hcap3.c0, (hb34.cell (p := ⟨w2.heap.size + 1, 0, none⟩) (cell_lt hcap3.c1)).trans hcap3.c1, (hb34.cell (p := ⟨w2.heap.size + 2, 0, none⟩) (cell_lt hcap3.c2)).trans hcap3.c2⟩
  have hcw4 : w4.cell? ⟨w1.heap.size, 0, none⟩ = some (.slice a1 R.length c1) := (hb24.cell (p := ⟨w1.heap.size, 0, none⟩) (cell_lt hcw2)).trans hcw2
  have hn4 : KrNew w0 w4 (.slice a1 R.length c1) (rowK R) r1 := hn1.later (hb12.trans (hb24.mono hb12.size))
  have HBX4 : Hid (w4.cell? ⟨w.heap.size, 0, none⟩ = some (.pointer (some ⟨p.gd, 0, none⟩)) ∧ w4.cell? ⟨w.heap.size + 1, 0, none⟩ = some (.pointer (some ⟨p.gx, 0, none⟩)) ∧ MvAt w4 (w.heap.size + 1 + 1) ⟨mdir, mkind, lo, hi, me, lim⟩ ∧ w4.cell? ⟨w.heap.size + 1 + 1 + 1, 0, none⟩ = some (.bool false) ∧ w4.frozen? ⟨w.heap.size + 1 + 1 + 1, 0, none⟩ = false) := by
    obtain ⟨q1, q2, q3, q4, q5⟩ := HBX.out
    exact ⟨(hb04.cell (p := ⟨w.heap.size, 0, none⟩) (cell_lt q1)).trans q1, (hb04.cell (p := ⟨w.heap.size + 1, 0, none⟩) (cell_lt q2)).trans q2, q3.later hb04, (hb04.cell (p := ⟨w.heap.size + 1 + 1 + 1, 0, none⟩) (cell_lt q4)).trans q4, (hb04.frozen (p := ⟨w.heap.size + 1 + 1 + 1, 0, none⟩) (cell_lt q4)).trans q5⟩
  -- the pair, with all that erode has made ahead of its loop among D
  have hp4 : PairAt (fun g => D g ∨ (w.heap.size ≤ g ∧ g < w4.heap.size)) w4 p := (hp.widen (fun g hg => .inl hg) (fun g hg => hg.imp id (fun e => e.1))).later hbw4
  generalize hD1 : (fun g => D g ∨ (w.heap.size ≤ g ∧ g < w4.heap.size)) = D1 at hp4
  have hD1d : ∀ g, D1 g ↔ (D g ∨ (w.heap.size ≤ g ∧ g < w4.heap.size)) := fun g => by rw [← hD1]
  have hown : ∀ g, p.own g → g < w.heap.size := hp.lt
  have HEB : Hid (ErB D1 w4 p w3.heap.size) := ⟨(hD1d _).2 (.inr ⟨by have := hb0.size; omega, by omega⟩), fun ho => by have := hown _ ho; have := hb0.size; omega, by omega, fun g ho => (hD1d g).2 (.inl (hp.own g ho))⟩
  have HS0 : Hid (ErS D1 w4 p w3.heap.size 0 p.l w4 D1 p) := ⟨hcn4, hfn4, rfl, rfl, rfl, hp4, fun g hg => ((hD1d g).1 hg).elim (fun e => by have := hD g e; have := hbw4.size; omega) (fun e => e.2), Chg.refl _ _, fun g hg => .inl hg, fun g hg => .inl hg, fun g hg => hg⟩
  obtain ⟨q1, q2, q3, dd, q, hcq, hT⟩ := hp4.dir
  have hseq := allStopsP (fun g => ¬ D1 g) (some ⟨p.gd, 0, none⟩) 7 q lo hi hkey hhi w4.heap.size w2.heap.size dd p.l w4 (Nat.le_refl _) (by omega) hcap4 (fun u hu => topOf p.gd q u ((hu.cell (p := ⟨p.gd, 0, none⟩) (cell_lt hcq)).trans hcq)) (TreeAt.tight (fun g hg hl => ⟨hl, hg⟩) hT) q2
  rw [hR] at hseq
  -- what stands outside of the pair and of n
  have HKP : Hid (∀ W, Chg (fun g => p.own g ∨ g = w3.heap.size) w4 W → ∀ g, w.heap.size ≤ g → g < w3.heap.size → W.heap[g]? = w4.heap[g]?) := fun W hW g h1 h2 => hW.block g (by omega) (fun ho => ho.elim (fun e => by have := hown _ e; omega) (fun e => by omega))
  have hr1w : ∀ g, r1 = some g → w.heap.size ≤ g ∧ g < w3.heap.size := fun g e => ⟨by have := hn1.new g e; omega, by have := hn1.row.lt' g e; omega⟩
  have HRD : Hid (∀ W, Chg (fun g => p.own g ∨ g = w3.heap.size) w4 W → W.cell? ⟨w1.heap.size, 0, none⟩ = some (.slice a1 R.length c1) ∧ OwnKr W (.slice a1 R.length c1) (rowK R) r1 ∧ W.cell? ⟨w.heap.size, 0, none⟩ = some (.pointer (some ⟨p.gd, 0, none⟩)) ∧ W.cell? ⟨w.heap.size + 1, 0, none⟩ = some (.pointer (some ⟨p.gx, 0, none⟩)) ∧ MvAt W (w.heap.size + 1 + 1) ⟨mdir, mkind, lo, hi, me, lim⟩ ∧ W.cell? ⟨w.heap.size + 1 + 1 + 1, 0, none⟩ = some (.bool false) ∧ W.frozen? ⟨w.heap.size + 1 + 1 + 1, 0, none⟩ = false ∧ CapAt W w2.heap.size (.pointer (some ⟨p.gd, 0, none⟩)) lo hi) := fun W hW => by
    obtain ⟨b1, b2, b3, b4, b5⟩ := HBX4.out
    have hk := HKP.out W hW
    have kc : ∀ {g j : Nat} {v : Value}, w.heap.size ≤ g → g < w3.heap.size → w4.cell? ⟨g, j, none⟩ = some v → W.cell? ⟨g, j, none⟩ = some v := fun {g j v} h1 h2 h => (World.cell?_of_block (w := w4) (a := ⟨g, j, none⟩) (hk g h1 h2)).trans h
    refine ⟨kc (by omega) (by omega) hcw4, hn4.row.of_block hW.size (fun g e => hk g (hr1w g e).1 (hr1w g e).2), kc (by omega) (by omega) b1, kc (by omega) (by omega) b2, b3.of_block (hk _ (by omega) (by omega)), kc (by omega) (by omega) b4, (World.frozen?_of_block (w := w4) (a := ⟨w.heap.size + 1 + 1 + 1, 0, none⟩) (hk (w.heap.size + 1 + 1 + 1) (by omega) (by omega))).trans b5, ⟨kc (by omega) (by omega) hcap4.c0, kc (by omega) (by omega) hcap4.c1, kc (by omega) (by omega) hcap4.c2⟩⟩
  have b1 := (hb12.cell (p := ⟨w.heap.size, 0, none⟩) (by show w.heap.size < _; omega)).trans ((hn1.below.cell (p := ⟨w.heap.size, 0, none⟩) (cell_lt HBX.out.1)).trans HBX.out.1)
  have b5 : MvAt w2 (w.heap.size + 1 + 1) ⟨mdir, mkind, lo, hi, me, lim⟩ := HBX.out.2.2.1.later hb02
  have m2 := b5.c 2 _ rfl
  have m3 := b5.c 3 _ rfl
  simp only at m2 m3
  have HSZ : Hid (w0.heap.size = w.heap.size + 4 ∧ w0.heap.size ≤ w1.heap.size ∧ w2.heap.size = w1.heap.size + 1 ∧ w3.heap.size = w2.heap.size + 3 ∧ w4.heap.size = w3.heap.size + 1) := ⟨hs0, hs01, hs2, hs3, hs4⟩
  have HW4 : Hid (w3.alloc (.cells #[.int .i64 0] 3) = w4) := hw4
  have HN4 : Hid (KrNew w0 w4 (.slice a1 R.length c1) (rowK R) r1) := hn4
  clear b5 hs0 hs01 hs2 hs3 hs4 hw4 hw3 hcn4 hfn4 hcap3 hcap4 hcw4 hn1 hn4 hb0 hb12 hb02 hb23 hb34 hb24 hb04 HBX HBX4 hD1 q1 q3 hcq hT
  go_wp2_with fail
  refine HAL.out.mono ?_
  rintro e wk ⟨rfl, hwk⟩
  obtain rfl := hwk.symm
  clear HAL hw2 b1 m2 m3 hcw2
  go_wp2_with fail
  rw [HW4.out]
  have HRC : Hid (∀ W, Chg (fun g => p.own g ∨ g = w3.heap.size) w4 W → ∀ j, j < R.length → ∃ g, a1 = some ⟨g, 0, none⟩ ∧ Kr.CellsAt W g (j * 7) (R.getD j Ke.zero).r) := fun W hW j hj => by
    have hrow := (HRD.out W hW).2.1
    have hne : rowK R ≠ [] := fun e => by have := congrArg List.length e; simp at this; rw [this] at hj; simp at hj
    rcases hrow with ⟨-, e, -⟩ | ⟨g, cap, hr, hv, -⟩
    · exact absurd e hne
    · injection hv with e1 e2 e3
      refine ⟨g, e1, ?_⟩
      have hrow2 := (HRD.out W hW).2.1
      rw [hr] at hrow2
      have hc := hrow2.at (j := j) (by simpa using hj)
      rw [map_r_getDZ hj] at hc
      exact hc
  have HKZ : Hid (∀ x ∈ R, x.key.size ≤ 64) := fun x hx => by rw [← hR] at hx; exact hp.xd.short x (List.mem_filter.mp hx).1
  have hdd : ∀ k : Nat, (Fence.wide.depth.isSome = true → 1 ≤ k) := fun k h => by cases h
  have hmx : Try.prog.follows .mixedOrders = true := by kernel_rfl
  refine (wpIn_wide (n := 8)).1 ?_
  refine' rangeAllP (fun g => ¬ D1 g) _ (by omega) (gf := 56) (lb := #[.pointer (some ⟨w2.heap.size, 0, none⟩), .pointer (some ⟨w2.heap.size + 1, 0, none⟩), .pointer (some ⟨w2.heap.size + 2, 0, none⟩)]) rfl (enters_of Try.func56 (by kernel_rfl) rfl) (Nat.le_refl w4.heap.size) hseq (fun _ => rfl)
    (fun pre W => pre <+: R ∧ ∃ D' p', ErS D1 w4 p w3.heap.size pre.length (erodeL me pre p.l) W D' p')
    (fun xs W => ¬ xs <+: R)
    (fun s A A' row h1 hg hr => by obtain ⟨h0, D', p', h⟩ := h1; exact ⟨h0, D', p', h.steady hg hr⟩)
    (fun s A A' row h1 hg hr => h1)
    ⟨List.nil_prefix, D1, p, HS0.out⟩ ?assign ?body ?hsz ?done ?stop
  case assign =>
    intro l' x V K hK
    have HK := Hid.mkz hK
    clear hK
    gi_wp2
    refine HK.out _ ?_
    generalize V.heap.size = Bx
    exact rfl
  case hsz =>
    rintro s W ⟨-, D', p', h⟩
    exact h.chg.size
  case stop => exact fun pre W h1 h2 => h2 h1
  case body =>
    rintro l' pre x Bx W ⟨hpre, D', p', hS⟩ hszW hen hbx
    have HS : Hid (ErS D1 w4 p w3.heap.size pre.length (erodeL me pre p.l) W D' p') := hS
    obtain ⟨hk1, -, d3, d4, d5, d6, d7, -⟩ := HRD.out W hS.chg
    have hcn := hS.cell
    have hfn := hS.froz
    clear d3 d4 d5 hseq
    by_cases hlt : pre.length < R.length
    · obtain ⟨b, hav, hc⟩ := HRC.out W hS.chg pre.length hlt
      rw [hav] at hk1
      have hli : (pre.length : Int) < (R.length : Int) := by omega
      have hlg : ¬ (R.length : Int) ≤ (pre.length : Int) := by omega
      have hlgn : ¬ R.length ≤ pre.length := by omega
      have hlgd : decide (R.length ≤ pre.length) = false := decide_eq_false hlgn
      clear hS
      by_cases hxy : R.getD pre.length Ke.zero = x
      · have HPS : Hid (pre ++ [x] <+: R) := prefix_snocZ hpre hlt hxy
        rw [hxy] at hc
        obtain ⟨key, ⟨xa, xb, xc, xd, xt, xm⟩⟩ := x
        obtain ⟨k0, k1, k2, k3, k4, k5⟩ := hen
        obtain ⟨c0, c1', c2, c3, c4, c5, c6⟩ := hc
        simp only [Ke.r] at c0 c1' c2 c3 c4 c5 c6 k0 k1 k2 k3 k4 k5
        have hpreH : Hid (pre <+: R) := hpre
        clear hpre hxy d6 d7
        gi_wp2
        refine quietRound hmx (by kernel_rfl) rfl ?_
        repeat (gi_big_quiet_step (fail))
        refine wpQuietIn_nil ?_
        intro _ hw'
        obtain ⟨nq, hw''⟩ := hw'
        subst hw''
        obtain ⟨W1, hW1⟩ : ∃ W1, (W.drewN nq).setCell ⟨w3.heap.size, 0, none⟩ (.int .i64 ((pre.length : Int) + 1)) = W1 := ⟨_, rfl⟩
        have HS1 : Hid (ErS D1 w4 p w3.heap.size (pre.length + 1) (erodeL me pre p.l) W1 D' p') := by unfold Hid; rw [← hW1]; exact HS.out.setN HEB.out nq (pre.length + 1) _ (by simp)
        have HK1 : Hid (KeepsOthers W W1 ∧ KpP w4.heap.size (fun g => ¬ D1 g) W W1) := by
          unfold Hid
          rw [← hW1]
          exact ⟨(show KeepsOthers W (W.drewN nq) from ⟨Nat.le_refl _, fun _ _ h _ => h⟩).trans (KeepsOthers.setCell _ _ _), HS.out.kpN HEB.out nq _⟩
        have d3 := (HRD.out W1 HS1.out.chg).2.2.1
        have hn1' := HS1.out.cell
        clear c0 c1' c2 c3 c4 c5 c6 k0 k1 k2 k3 k4 k5
        have HLL : Hid ((erodeL me pre p.l).length ≤ p.l.length) := erode_short me (lo := lo) (hi := hi) hp.dir.srt (by rw [hR]; exact hpreH.out)
        obtain ⟨L, hL⟩ : ∃ L, erodeL me pre p.l = L := ⟨_, rfl⟩
        have HSN : Hid (erodeL me (pre ++ [⟨key, ⟨xa, xb, xc, xd, xt, xm⟩⟩]) p.l = putL (key ++ zeroB) me (delL key L)) := by unfold Hid; rw [erodeL_snoc, hL]
        rw [hL] at HLL HS1
        have HPR1 : Hid (PairAt D' W1 p' ∧ (∀ g, D' g → g < W1.heap.size) ∧ p'.l = L ∧ p'.gd = p.gd ∧ p'.gx = p.gx) := ⟨HS1.out.pr, HS1.out.bnd, HS1.out.l, HS1.out.gd, HS1.out.gx⟩
        have hkk : key.size ≤ 64 := HKZ.out ⟨key, ⟨xa, xb, xc, xd, xt, xm⟩⟩ (HPS.out.subset (by simp))
        have HRM : Hid (CallsIn (Fence.wide.inRound l') 5 Try.prog 19 #[.pointer (some ⟨p.gd, 0, none⟩), .string key] W1 fun e w' => e = .returned (.tuple #[(gotE (findL key L)).v, .bool (findL key L).isSome]) ∧ W1.grownBy w' (some p.gd) ∧ DirAt D' w' p.gd (delL key L)) := CallsIn.inRound l' (callsIn_wide.2 (by
          obtain ⟨h1, h2, h3, h4, h5⟩ := HPR1.out
          have hd := h1.dir
          rw [h3, h4] at hd
          exact removeOf key W1 (fun g hg hd' => by have := h2 g hd'; omega) hd (by unfold maxLen; omega) (by have := HLL.out; omega)))
        gi_wp2_with fail
        refine ⟨trivial, HRM.out.mono ?_⟩
        rintro e W2 ⟨rfl, hg2, hd2⟩
        clear HRM d3 hcn hfn hn1' hW1
        obtain ⟨old, hold⟩ : ∃ old, gotE (findL key L) = old := ⟨_, rfl⟩
        obtain ⟨had, hhad⟩ : ∃ had, (findL key L).isSome = had := ⟨_, rfl⟩
        obtain ⟨W3, hW3⟩ : ∃ W3, W2.alloc (.cells #[.int .i64 old.seg, .int .i64 old.pos, .int .i64 old.size, .int .i64 old.off, .int .i64 old.time, .bool old.tomb] 38) = W3 := ⟨_, rfl⟩
        have hb23 : Below W2.heap.size W2 W3 := by rw [← hW3]; exact (Below.refl _ _).alloc (Nat.le_refl _) _
        have hs23 : W3.heap.size = W2.heap.size + 1 := by rw [← hW3]; simp
        have hs12 := hg2.size
        have HOL : Hid (EnAt W3 W2.heap.size old) := by unfold Hid; rw [← hW3]; exact EnAt.new W2 old
        have hchg3 : Chg (fun g => p.own g ∨ g = w3.heap.size) w4 W3 := (HS1.out.chg.grown hg2 (fun g e => .inl (.inl (by cases e; exact .inl rfl)))).more hb23
        have d4 := (HRD.out W3 hchg3).2.2.2.1
        have HXR : Hid (CallsIn (Fence.wide.inRound l') 5 Try.prog 20 #[.pointer (some ⟨p.gx, 0, none⟩), .string key] W3 fun e w' => e = .returned (.tuple #[old.v, .bool had]) ∧ ∃ v' r', XPut W3 w' p.gx p'.r (delL key L) v' r') := CallsIn.inRound l' (callsIn_wide.2 (by
          obtain ⟨h1, h2, h3, h4, h5⟩ := HPR1.out
          have hx := (h1.xd1 (by rw [h4]; exact hg2)).later hb23
          have := xremoveOf p'.gx p'.v p'.l p'.r key W3 hx (by unfold maxLen; omega)
          rw [h3, h5, hold, hhad] at this
          exact this))
        rw [hold, hhad]
        gi_wp2_with fail
        refine ⟨trivial, HXR.out.mono ?_⟩
        rintro e W4 ⟨rfl, v4, r4, hx4⟩
        clear HXR d4
        have hgxl : p.gx < W2.heap.size := by
          obtain ⟨h1, h2, h3, h4, h5⟩ := HPR1.out
          have := h1.xd.lt
          rw [h5] at this
          omega
        have hrl2 : ∀ g, p'.r = some g → g < W2.heap.size := fun g e => by
          have := HPR1.out.1.xd.row.lt' g e
          omega
        have HEV1 : Hid (∃ D2 p2, p2.l = delL key L ∧ Ev D' W1 p' D2 W4 p2) := by
          obtain ⟨h1, h2, h3, h4, h5⟩ := HPR1.out
          have ha : AllK (delL key L) := by have := h1.all.del key; rw [h3] at this; exact this
          have hk : ∀ k ∈ delL key L, k.r.Ok := by have := del_ok h1.ok key; rw [h3] at this; exact this
          exact ⟨_, _, rfl, h1.step h2 (by rw [h4]; exact hg2) (by rw [h4]; exact hd2) (by rw [h5]; exact hx4.grow hb23 hgxl) ha hk⟩
        obtain ⟨D2, p2, hp2l, hev1⟩ := HEV1.out
        obtain ⟨W5, hW5⟩ : ∃ W5, W4.alloc (.cells #[.int .i64 old.seg, .int .i64 old.pos, .int .i64 old.size, .int .i64 old.off, .int .i64 old.time, .bool old.tomb] 38) = W5 := ⟨_, rfl⟩
        have hb45 : Below W4.heap.size W4 W5 := by rw [← hW5]; exact (Below.refl _ _).alloc (Nat.le_refl _) _
        have HEV5 : Hid (Ev D' W1 p' D2 W5 p2) := hev1.later hb45
        have HS5 : Hid (ErS D1 w4 p w3.heap.size (pre.length + 1) (delL key L) W5 D2 p2) := HS1.out.ev HEB.out HEV5.out hp2l
        have hbo : W5.heap[W2.heap.size]? = W3.heap[W2.heap.size]? := (hb45.block _ (by have := hx4.chg.size; omega)).trans (hx4.chg.block _ (by omega) (fun hs => hs.elim (fun e => by omega) (fun e => by have := hrl2 _ e; omega)))
        obtain ⟨o0, o1, o2, o3, o4, o5⟩ := HOL.out.block hbo
        obtain ⟨y0, y1, y2, y3, y4, y5⟩ : EnAt W5 W4.heap.size old := by rw [← hW5]; exact EnAt.new W4 old
        have HPR5 : Hid (PairAt D2 W5 p2 ∧ (∀ g, D2 g → g < W5.heap.size) ∧ p2.l = delL key L ∧ p2.gd = p.gd ∧ p2.gx = p.gx) := ⟨HS5.out.pr, HS5.out.bnd, HS5.out.l, HS5.out.gd, HS5.out.gx⟩
        have d3 := (HRD.out W5 HS5.out.chg).2.2.1
        have hmv := (HRD.out W5 HS5.out.chg).2.2.2.2.1
        have m4 := hmv.c 4 _ rfl
        have m5 := hmv.c 5 _ rfl
        have m6 := hmv.c 6 _ rfl
        have m7 := hmv.c 7 _ rfl
        have m8 := hmv.c 8 _ rfl
        have m9 := hmv.c 9 _ rfl
        simp only at m4 m5 m6 m7 m8 m9
        obtain ⟨k2, hk2⟩ : ∃ k2, key ++ (⟨#[0]⟩ : ByteArray) = k2 := ⟨_, rfl⟩
        have hk2s : k2.size ≤ 65 := by
          rw [← hk2, ByteArray.size_append]
          have : (⟨#[0]⟩ : ByteArray).size = 1 := rfl
          omega
        have HSN2 : Hid (erodeL me (pre ++ [⟨key, ⟨xa, xb, xc, xd, xt, xm⟩⟩]) p.l = putL k2 me (delL key L)) := by
          have h := HSN.out
          unfold zeroB at h
          rw [hk2] at h
          exact h
        have HL2 : Hid ((delL key L).length ≤ p.l.length) := Nat.le_trans (delL_len key L) HLL.out
        generalize delL key L = L2 at HS5 HPR5 HSN2 HL2 hp2l
        have HPU : Hid (CallsIn (Fence.wide.inRound l') 5 Try.prog 11 #[.pointer (some ⟨p.gd, 0, none⟩), .string k2, me.v] W5 fun e w' => e = .returned (.tuple #[(gotE (findL k2 L2)).v, .bool (findL k2 L2).isSome, .int .i64 (errK k2)]) ∧ W5.grownBy w' (some p.gd) ∧ DirAt D2 w' p.gd (putL k2 me L2)) := CallsIn.inRound l' (callsIn_wide.2 (by
          obtain ⟨h1, h2, h3, h4, h5⟩ := HPR5.out
          have hd := h1.dir
          have ha := h1.all
          rw [h3, h4] at hd
          rw [h3] at ha
          exact putWhat k2 me W5 (fun g hg hd' => by have := h2 g hd'; omega) hd ha (by unfold maxLen; omega) (by have := HL2.out; omega)))
        clear hmv hbo hx4 hg2 HSN hd2 hb23 hs23 hs12 hb45 hev1 HEV1 HOL hchg3 hold hhad hW3 HPR1 hrl2 hgxl
        gi_wp2_with fail
        refine ⟨trivial, HPU.out.mono ?_⟩
        rintro e W6 ⟨rfl, hg6, hd6⟩
        clear HPU d3 m4 m5 m6 m7 m8 m9 o0 o1 o2 o3 o4 o5 y0 y1 y2 y3 y4 y5 hW5
        obtain ⟨old2, hold2⟩ : ∃ old, gotE (findL k2 L2) = old := ⟨_, rfl⟩
        obtain ⟨had2, hhad2⟩ : ∃ had, (findL k2 L2).isSome = had := ⟨_, rfl⟩
        obtain ⟨er, her⟩ : ∃ er, errK k2 = er := ⟨_, rfl⟩
        obtain ⟨U6, hU6⟩ : ∃ U6, W6.alloc (.cells #[.int .i64 old2.seg, .int .i64 old2.pos, .int .i64 old2.size, .int .i64 old2.off, .int .i64 old2.time, .bool old2.tomb] 38) = U6 := ⟨_, rfl⟩
        have hb66 : Below W6.heap.size W6 U6 := by rw [← hU6]; exact (Below.refl _ _).alloc (Nat.le_refl _) _
        have hs56 := hg6.size
        have hchg6 : Chg (fun g => p.own g ∨ g = w3.heap.size) w4 U6 := (HS5.out.chg.grown hg6 (fun g e => .inl (.inl (by cases e; exact .inl rfl)))).more hb66
        have d4 := (HRD.out U6 hchg6).2.2.2.1
        have hmv := (HRD.out U6 hchg6).2.2.2.2.1
        have m4 := hmv.c 4 _ rfl
        have m5 := hmv.c 5 _ rfl
        have m6 := hmv.c 6 _ rfl
        have m7 := hmv.c 7 _ rfl
        have m8 := hmv.c 8 _ rfl
        have m9 := hmv.c 9 _ rfl
        simp only at m4 m5 m6 m7 m8 m9
        have HXP : Hid (CallsIn (Fence.wide.inRound l') 5 Try.prog 12 #[.pointer (some ⟨p.gx, 0, none⟩), .string k2, me.v] U6 fun e w' => e = .returned (.tuple #[old2.v, .bool had2, .int .i64 er]) ∧ ∃ v' r', XPut W6 w' p.gx p2.r (putL k2 me L2) v' r') := CallsIn.inRound l' (callsIn_wide.2 (by
          obtain ⟨h1, h2, h3, h4, h5⟩ := HPR5.out
          have hx := (h1.xd1 (by rw [h4]; exact hg6)).later hb66
          have ha := h1.all
          rw [h3] at ha
          have := xputAny p2.gx p2.v p2.l p2.r k2 me U6 hx (by rw [h3]; exact ha) (by unfold maxLen; omega) (by rw [h3]; have := HL2.out; omega)
          rw [h3, h5, hold2, hhad2, her] at this
          refine this.mono fun e w' ⟨q1, v', r', q2⟩ => ⟨q1, v', r', q2.grow hb66 ?_⟩
          have := h1.xd.lt
          rw [h5] at this
          omega))
        rw [hold2, hhad2, her]
        clear hmv
        gi_wp2_with fail
        refine ⟨trivial, HXP.out.mono ?_⟩
        rintro e W7 ⟨rfl, v7, r7, hx7⟩
        clear HXP
        have HEV7 : Hid (∃ D3 p3, p3.l = putL k2 me L2 ∧ Ev D2 W5 p2 D3 W7 p3) := by
          obtain ⟨h1, h2, h3, h4, h5⟩ := HPR5.out
          have ha : AllK (putL k2 me L2) := by have := h1.all.put k2 me; rw [h3] at this; exact this
          have hk : ∀ k ∈ putL k2 me L2, k.r.Ok := by have := putL_ok (key := k2) (en := me) h1.ok (by unfold maxLen; omega) hE; rw [h3] at this; exact this
          exact ⟨_, _, rfl, h1.step h2 (by rw [h4]; exact hg6) (by rw [h4]; exact hd6) (by rw [h5]; exact hx7) ha hk⟩
        obtain ⟨D3, p3, hp3l, hev7⟩ := HEV7.out
        have HE : Hid (∀ u, Below W7.heap.size W7 u → KeepsFrom w4.heap.size W u ∧ KpP w4.heap.size (fun g => ¬ D1 g) W u ∧ pre ++ [⟨key, ⟨xa, xb, xc, xd, xt, xm⟩⟩] <+: R ∧ ∃ D' p', ErS D1 w4 p w3.heap.size (pre ++ [(⟨key, ⟨xa, xb, xc, xd, xt, xm⟩⟩ : Ke)]).length (erodeL me (pre ++ [⟨key, ⟨xa, xb, xc, xd, xt, xm⟩⟩]) p.l) u D' p') := fun u hu => by
          have hv := hev7.later hu
          refine ⟨(HK1.out.1.trans (HEV5.out.kp.trans hv.kp)).from _, HK1.out.2.trans ((HS1.out.kpE HEB.out HEV5.out).trans (HS5.out.kpE HEB.out hv)), HPS.out, D3, p3, ?_⟩
          have h9 := HS5.out.ev HEB.out hv hp3l
          rw [HSN2.out, List.length_append, List.length_singleton]
          exact h9
        clear HEV7 hev7 hx7 hg6 hd6 hchg6 hb66 hU6 m4 m5 m6 m7 m8 m9 d4 HK1 HS1 HS5 HEV5 HPR5
        gi_wp2
        exact HE.out _ (by first | exact Below.refl _ _ | exact (Below.refl _ _).alloc (Nat.le_refl _) _)
      · have HNP : Hid (¬ pre ++ [x] <+: R) := fun h => hxy (prefix_lastZ h).2
        have HXY : Hid (R.getD pre.length Ke.zero ≠ x) := hxy
        generalize R.getD pre.length Ke.zero = y at hc HXY
        obtain ⟨key, ⟨xa, xb, xc, xd, xt, xm⟩⟩ := x
        obtain ⟨yk, ⟨ya, yb, yc, yd, yt, ym⟩⟩ := y
        obtain ⟨k0, k1, k2, k3, k4, k5⟩ := hen
        obtain ⟨c0, c1', c2, c3, c4, c5, c6⟩ := hc
        simp only [Ke.r] at c0 c1' c2 c3 c4 c5 c6 k0 k1 k2 k3 k4 k5
        clear hpre hxy
        by_cases hq0 : ¬ yk = key
        · have hqb := keys_neZ hq0
          gi_wp2
          refine quietRound hmx (by kernel_rfl) rfl ?_
          repeat (gi_big_quiet_step (fail))
          refine wpQuietIn_nil ?_
          intro _ hw'
          obtain ⟨nq, hw''⟩ := hw'
          subst hw''
          gi_wp2
          exact ⟨setN_keepsZ _ _ _ _ _, rfl, HNP.out⟩
        · obtain rfl : yk = key := Classical.not_not.mp hq0
          by_cases hq1 : ¬ ya = xa
          · have hqb : (ya == xa) = false := by simpa using hq1
            have hqc : (xa == ya) = false := by simpa using fun h => hq1 h.symm
            gi_wp2
            refine quietRound hmx (by kernel_rfl) rfl ?_
            repeat (gi_big_quiet_step (fail))
            refine wpQuietIn_nil ?_
            intro _ hw'
            obtain ⟨nq, hw''⟩ := hw'
            subst hw''
            gi_wp2
            exact ⟨setN_keepsZ _ _ _ _ _, rfl, HNP.out⟩
          · obtain rfl : ya = xa := Classical.not_not.mp hq1
            by_cases hq2 : ¬ yb = xb
            · have hqb : (yb == xb) = false := by simpa using hq2
              have hqc : (xb == yb) = false := by simpa using fun h => hq2 h.symm
              gi_wp2
              refine quietRound hmx (by kernel_rfl) rfl ?_
              repeat (gi_big_quiet_step (fail))
              refine wpQuietIn_nil ?_
              intro _ hw'
              obtain ⟨nq, hw''⟩ := hw'
              subst hw''
              gi_wp2
              exact ⟨setN_keepsZ _ _ _ _ _, rfl, HNP.out⟩
            · obtain rfl : yb = xb := Classical.not_not.mp hq2
              by_cases hq3 : ¬ yc = xc
              · have hqb : (yc == xc) = false := by simpa using hq3
                have hqc : (xc == yc) = false := by simpa using fun h => hq3 h.symm
                gi_wp2
                refine quietRound hmx (by kernel_rfl) rfl ?_
                repeat (gi_big_quiet_step (fail))
                refine wpQuietIn_nil ?_
                intro _ hw'
                obtain ⟨nq, hw''⟩ := hw'
                subst hw''
                gi_wp2
                exact ⟨setN_keepsZ _ _ _ _ _, rfl, HNP.out⟩
              · obtain rfl : yc = xc := Classical.not_not.mp hq3
                by_cases hq4 : ¬ yd = xd
                · have hqb : (yd == xd) = false := by simpa using hq4
                  have hqc : (xd == yd) = false := by simpa using fun h => hq4 h.symm
                  gi_wp2
                  refine quietRound hmx (by kernel_rfl) rfl ?_
                  repeat (gi_big_quiet_step (fail))
                  refine wpQuietIn_nil ?_
                  intro _ hw'
                  obtain ⟨nq, hw''⟩ := hw'
                  subst hw''
                  gi_wp2
                  exact ⟨setN_keepsZ _ _ _ _ _, rfl, HNP.out⟩
                · obtain rfl : yd = xd := Classical.not_not.mp hq4
                  by_cases hq5 : ¬ yt = xt
                  · have hqb : (yt == xt) = false := by simpa using hq5
                    have hqc : (xt == yt) = false := by simpa using fun h => hq5 h.symm
                    gi_wp2
                    refine quietRound hmx (by kernel_rfl) rfl ?_
                    repeat (gi_big_quiet_step (fail))
                    refine wpQuietIn_nil ?_
                    intro _ hw'
                    obtain ⟨nq, hw''⟩ := hw'
                    subst hw''
                    gi_wp2
                    exact ⟨setN_keepsZ _ _ _ _ _, rfl, HNP.out⟩
                  · obtain rfl : yt = xt := Classical.not_not.mp hq5
                    have hq6 : ym ≠ xm := fun h => HXY.out (by rw [h])
                    cases ym <;> cases xm <;> first | exact absurd rfl hq6 | skip
                    all_goals
                      gi_wp2
                      refine quietRound hmx (by kernel_rfl) rfl ?_
                      repeat (gi_big_quiet_step (fail))
                      refine wpQuietIn_nil ?_
                      intro _ hw'
                      obtain ⟨nq, hw''⟩ := hw'
                      subst hw''
                      gi_wp2
                      exact ⟨setN_keepsZ _ _ _ _ _, rfl, HNP.out⟩
    · have HNP : Hid (¬ pre ++ [x] <+: R) := fun h => hlt (prefix_lastZ h).1
      have hlg : (R.length : Int) ≤ (pre.length : Int) := by omega
      have hlgn : R.length ≤ pre.length := by omega
      have hlgd : decide (R.length ≤ pre.length) = true := decide_eq_true hlgn
      clear hpre hen
      gi_wp2
      refine quietRound hmx (by kernel_rfl) rfl ?_
      repeat (gi_big_quiet_step (fail))
      refine wpQuietIn_nil ?_
      intro _ hw'
      obtain ⟨nq, hw''⟩ := hw'
      subst hw''
      gi_wp2
      exact ⟨setN_keepsZ _ _ _ _ _, rfl, HNP.out⟩
  case done =>
    rintro Dd W hDd ⟨-, D', p', hS⟩ hK
    have hDW : Dd < W.heap.size := (Array.getElem?_eq_some_iff.1 hK).1
    have HS : Hid (ErS D1 w4 p w3.heap.size R.length (erodeL me R p.l) W D' p') := hS
    obtain ⟨hk1, -, d3, d4, d5, d6, d7, d8⟩ := HRD.out W hS.chg
    have hcn := hS.cell
    have hszW := hS.chg.size
    have hbR : ((R.length : Int) == (R.length : Int)) = true := by simp
    obtain ⟨G, hG⟩ : ∃ G, W.alloc (.cells #[.slice none 0 0] 43) = G := ⟨_, rfl⟩
    have hsG : G.heap.size = W.heap.size + 1 := by rw [← hG]; simp
    have HG : Hid (W.alloc (.cells #[.slice none 0 0] 43) = G) := hG
    have hbWG : Below W.heap.size W G := by rw [← hG]; exact (Below.refl _ _).alloc (Nat.le_refl _) _
    have hcG : G.cell? ⟨W.heap.size, 0, none⟩ = some (.slice none 0 0) := by rw [← hG]; exact World.cell?_alloc_at _ _ _ _ rfl
    have hfG : G.frozen? ⟨W.heap.size, 0, none⟩ = false := by rw [← hG]; exact World.frozen?_alloc_at _ _ _ _ rfl
    have hcapG : CapAt G w2.heap.size (.pointer (some ⟨p.gd, 0, none⟩)) lo hi := ⟨(hbWG.cell (p := ⟨w2.heap.size, 0, none⟩) (cell_lt d8.c0)).trans d8.c0, (hbWG.cell (p := ⟨w2.heap.size + 1, 0, none⟩) (cell_lt d8.c1)).trans d8.c1, (hbWG.cell (p := ⟨w2.heap.size + 2, 0, none⟩) (cell_lt d8.c2)).trans d8.c2⟩
    have hpl : p'.l.length ≤ p.l.length := by rw [hS.l]; exact erode_short me (lo := lo) (hi := hi) hp.dir.srt (by rw [hR]; exact List.prefix_refl _)
    have hdW := hS.pr.dir
    rw [hS.gd] at hdW
    obtain ⟨-, q2', -, dd2, q2, hcq2, hT2⟩ := hdW
    have hseq2 := allStops (some ⟨p.gd, 0, none⟩) 7 q2 lo hi hkey hhi W.heap.size w2.heap.size dd2 p'.l G (by omega) (by have := HSZ.out; omega) hcapG (fun u hu => topOf p.gd q2 u ((hu.cell (p := ⟨p.gd, 0, none⟩) (by show p.gd < G.heap.size; have := cell_lt hcq2; simp at this; omega)).trans ((hbWG.cell (p := ⟨p.gd, 0, none⟩) (cell_lt hcq2)).trans hcq2))) ((TreeAt.tight (fun g _ hl => hl) hT2).later hbWG) q2'
    obtain ⟨R2, hR2⟩ : ∃ R2, rngL lo hi p'.l = R2 := ⟨_, rfl⟩
    rw [hR2] at hseq2
    have hR2l : R2.length ≤ p'.l.length := by rw [← hR2]; exact List.length_filter_le ..
    have HPL : Hid (p'.l.length ≤ p.l.length) := hpl
    clear hseq hG hS q2' hcq2 hT2 hcapG d8
    go_wp2_with fail
    rw [HG.out]
    refine (wpIn_wide (n := 8)).1 ?_
    refine' rangeAllN _ (by omega) (gf := 56) (lb := #[.pointer (some ⟨w2.heap.size, 0, none⟩), .pointer (some ⟨w2.heap.size + 1, 0, none⟩), .pointer (some ⟨w2.heap.size + 2, 0, none⟩)]) rfl (enters_of Try.func56 (by kernel_rfl) rfl) (by omega : W.heap.size ≤ G.heap.size) hseq2 (fun _ => rfl)
      (fun pre X => (∃ v r, X.cell? ⟨W.heap.size, 0, none⟩ = some v ∧ X.frozen? ⟨W.heap.size, 0, none⟩ = false ∧ OwnKr X v (pre.map Ke.r) r ∧ (r ≠ none → pre.map Ke.r ≠ []) ∧ (∀ g, r = some g → G.heap.size ≤ g)) ∧ Below W.heap.size W X ∧ G.heap.size ≤ X.heap.size)
      (fun xs X => False)
      (fun s A A' row h1 hg hr => by
        obtain ⟨⟨v, r, e1, e2, e3, e4, e5⟩, e6, e7⟩ := h1
        exact ⟨⟨v, r, cell_kept e1 hg (fun k e => (hr k e).2), (frozen_kept e1 hg (fun k e => (hr k e).2)).trans e2, e3.steadyAll hg (fun k e => (hr k e).2), e4, e5⟩, e6.grown hg e6.size (fun k e => by have := (hr k e).1; omega), Nat.le_trans e7 hg.size⟩)
      (fun s A A' row h1 hg hr => h1)
      ⟨⟨.slice none 0 0, none, hcG, hfG, OwnKr.nil _, fun h => absurd rfl h, fun g e => by cases e⟩, hbWG, Nat.le_refl _⟩ ?assign2 ?body2 ?hsz2 ?done2 ?stop2
    case assign2 =>
      intro l' x V K hK
      have HK := Hid.mkz hK
      clear hK
      gi_wp2
      refine HK.out _ ?_
      generalize V.heap.size = Bx
      exact rfl
    case hsz2 => exact fun s X h => h.2.1.size
    case stop2 => exact fun pre X h1 h2 => h2
    case body2 =>
      rintro l' pre x Bx X ⟨⟨v, r, hv, hvf, hown2, hr5, hr6⟩, hbX, hszX⟩ hn0 hen hN
      obtain ⟨k0, k1, k2, k3, k4, k5⟩ := hen
      obtain ⟨a, cap, rfl, hcap, hle⟩ := hown2.shape
      rw [List.length_map] at *
      gi_wp2_with (gi_at_builtin; refine wpListIn_append_k _ rfl _ _ rfl _ _ (pre.map Ke.r) [x.r] r rfl rfl ?hOwn ?hSrc ?hLen ?hR ?_)
      case hOwn => exact hown2.later ((Below.refl _ X).alloc (Nat.le_refl _) _)
      case hSrc => exact src_kr X x
      case hLen => omega
      intro v1 X1 g1 ho1 hg1 hgr1
      obtain ⟨a1', cap1, rfl, hcap1, hle1⟩ := ho1.shape
      have hlen1 : (pre.map Ke.r ++ [x.r]).length = pre.length + 1 := by simp
      rw [hlen1] at ho1 hle1 ⊢
      have hnb : ∀ j, j < W.heap.size + 1 → X1.heap[j]? = X.heap[j]? := fun j hj => (hg1.block j (by simp; omega) (fun e => by have := hr6 j e.symm; omega)).trans (Below.heap_alloc X _ j (by omega))
      have hv1 : X1.cell? ⟨W.heap.size, 0, none⟩ = some (.slice a pre.length cap) := (World.cell?_of_block (w := X) (a := ⟨W.heap.size, 0, none⟩) (hnb W.heap.size (by omega))).trans hv
      have hvf1 : X1.frozen? ⟨W.heap.size, 0, none⟩ = false := (World.frozen?_of_block (w := X) (a := ⟨W.heap.size, 0, none⟩) (hnb W.heap.size (by omega))).trans hvf
      have hs1 := hg1.size
      simp only [World.size_alloc] at hs1
      have hg1l : G.heap.size ≤ g1 := by
        rcases hgr1 with e | e
        · exact hr6 g1 e.symm
        · first | (simp at e; omega) | omega
      have hKO : KeepsOthers X X1 := (KeepsOthers.alloc X _).trans ((hown2.later ((Below.refl _ X).alloc (Nat.le_refl _) _)).others hr5 hg1)
      have hBW : Below W.heap.size X X1 := ((Below.refl _ X).alloc (by omega) _).grown hg1 (by simp; omega) (fun k e => by have := hr6 k e; omega)
      have gS := grow_setC X1 W.heap.size 0 (.slice a1' (pre.length + 1) cap1)
      have HE : Hid (KeepsFrom G.heap.size X (X1.setCell ⟨W.heap.size, 0, none⟩ (.slice a1' (pre.length + 1) cap1)) ∧ Below W.heap.size X (X1.setCell ⟨W.heap.size, 0, none⟩ (.slice a1' (pre.length + 1) cap1)) ∧ (∃ v r, (X1.setCell ⟨W.heap.size, 0, none⟩ (.slice a1' (pre.length + 1) cap1)).cell? ⟨W.heap.size, 0, none⟩ = some v ∧ (X1.setCell ⟨W.heap.size, 0, none⟩ (.slice a1' (pre.length + 1) cap1)).frozen? ⟨W.heap.size, 0, none⟩ = false ∧ OwnKr (X1.setCell ⟨W.heap.size, 0, none⟩ (.slice a1' (pre.length + 1) cap1)) v ((pre ++ [x]).map Ke.r) r ∧ (r ≠ none → (pre ++ [x]).map Ke.r ≠ []) ∧ (∀ g, r = some g → G.heap.size ≤ g)) ∧ Below W.heap.size W (X1.setCell ⟨W.heap.size, 0, none⟩ (.slice a1' (pre.length + 1) cap1)) ∧ G.heap.size ≤ (X1.setCell ⟨W.heap.size, 0, none⟩ (.slice a1' (pre.length + 1) cap1)).heap.size) := by
        refine ⟨(hKO.trans (KeepsOthers.setCell _ _ _)).from _, hBW.setCell (p := ⟨W.heap.size, 0, none⟩) (Nat.le_refl _) _, ⟨_, some g1, World.cell?_setCell_same' _ _ _ (by rw [hv1]; rfl), by rw [World.frozen?_setCell]; exact hvf1, ?_, fun _ => by simp, fun g e => by cases e; exact hg1l⟩, (hbX.trans hBW).setCell (p := ⟨W.heap.size, 0, none⟩) (Nat.le_refl _) _, ?_⟩
        · have h2 := ho1.kept gS (.inr (fun e => by cases e; omega))
          rw [List.map_append]
          exact h2
        · exact Nat.le_trans (by omega) gS.size
      clear hKO hBW gS hnb ho1 hg1 hgr1
      gi_wp2
      exact ⟨HE.out.1, HE.out.2.1, HE.out.2.2⟩
    case done2 =>
      rintro D2 X hD2 ⟨⟨v, r, hv, hvf, hown2, hr5, hr6⟩, hbX, hszX⟩ hK2
      obtain ⟨a, cap, rfl, hcap, hle⟩ := hown2.shape
      rw [List.length_map] at *
      have hszw : w.heap.size + 4 ≤ W.heap.size := by have := HSZ.out; omega
      have x2 : X.cell? ⟨w.heap.size + 1, 0, none⟩ = some (.pointer (some ⟨p.gx, 0, none⟩)) := (hbX.cell (p := ⟨w.heap.size + 1, 0, none⟩) (cell_lt d4)).trans d4
      have hmX : MvAt X (w.heap.size + 1 + 1) ⟨mdir, mkind, lo, hi, me, lim⟩ := d5.later hbX
      have x6 : X.cell? ⟨w.heap.size + 1 + 1 + 1, 0, none⟩ = some (.bool false) := (hbX.cell (p := ⟨w.heap.size + 1 + 1 + 1, 0, none⟩) (cell_lt d6)).trans d6
      have x7 : X.frozen? ⟨w.heap.size + 1 + 1 + 1, 0, none⟩ = false := (hbX.frozen (p := ⟨w.heap.size + 1 + 1 + 1, 0, none⟩) (cell_lt d6)).trans d7
      have HPX : Hid (PairAt D' X p') := HS.out.pr.later hbX
      have HOWN : Hid (OwnKr X (.slice a R2.length cap) (rowK R2) r) := hown2
      have HXL : Hid (∀ u, Below X.heap.size X u → Calls Try.prog 33 #[.pointer (some ⟨p.gx, 0, none⟩), .string lo, .string hi] u fun e w' => ∃ v' r', e = .returned v' ∧ KrNew u w' v' (rowK R2) r') := fun u hu => by
        have := xlistOf p'.gx p'.v p'.l p'.r lo hi u ((HPX.out.later hu).xd) hkey hhi
        rw [hR2, HS.out.gx] at this
        exact this
      have m2 := hmX.c 2 _ rfl
      have m3 := hmX.c 3 _ rfl
      simp only at m2 m3
      have HBX2 : Hid (Below W.heap.size W X) := hbX
      have HK2 : Hid (X.heap[D2]? = some (.deferred (some []))) := hK2
      have hok2 : ∀ k ∈ R2, k.r.Ok := fun k hk => by rw [← hR2] at hk; exact HS.out.pr.ok k (List.mem_filter.mp hk).1
      have HC : Hid (∀ u, Below X.heap.size X u → u.cell? ⟨W.heap.size, 0, none⟩ = some (.slice a R2.length cap) ∧ u.cell? ⟨w.heap.size + 1, 0, none⟩ = some (.pointer (some ⟨p.gx, 0, none⟩)) ∧ u.cell? ⟨w.heap.size + 1 + 1, 2, none⟩ = some (.string lo) ∧ u.cell? ⟨w.heap.size + 1 + 1, 3, none⟩ = some (.string hi) ∧ u.cell? ⟨w.heap.size + 1 + 1 + 1, 0, none⟩ = some (.bool false) ∧ u.frozen? ⟨w.heap.size + 1 + 1 + 1, 0, none⟩ = false) := fun u hu => by
        have kc : ∀ {p : Addr} {v : Value}, X.cell? p = some v → u.cell? p = some v := fun {p v} h => (hu.cell (p := p) (cell_lt h)).trans h
        exact ⟨kc hv, kc x2, kc m2, kc m3, kc x6, (hu.frozen (p := ⟨w.heap.size + 1 + 1 + 1, 0, none⟩) (cell_lt x6)).trans x7⟩
      have HQ : Hid (∀ u w5 v5 r5, Below X.heap.size X u → KrNew u w5 v5 (rowK R2) r5 → Below X.heap.size X w5 ∧ Calls Try.prog 28 #[.slice a R2.length cap, v5] w5 fun e w' => e = .returned (.bool true) ∧ Below X.heap.size X w') := fun u w5 v5 r5 hu hn => by
        have hb5 : Below X.heap.size X w5 := hu.trans (hn.below.mono hu.size)
        have h2l : R2.length ≤ 2199023255500 := by have := HPL.out; omega
        refine ⟨hb5, (sameOf _ _ (rowK R2) w5 (krs_row (HOWN.out.later hb5) h2l hok2) (krs_row hn.row h2l hok2)).mono ?_⟩
        rintro e w6 ⟨he, n6, rfl⟩
        exact ⟨he, below_drewN hb5 n6⟩
      have hne1 : ¬ W.heap.size = w.heap.size + 1 + 1 + 1 := by omega
      have hne2 : ¬ w.heap.size + 1 + 1 + 1 = W.heap.size := by omega
      have hne3 : ¬ w.heap.size + 1 = w.heap.size + 1 + 1 + 1 := by omega
      have hne4 : ¬ w.heap.size + 1 + 1 + 1 = w.heap.size + 1 := by omega
      clear hseq2 hown2 hr5 hbX hmX hK2 d3 d4 d5 d6 d7 hk1 hcn
      go_wp2_with fail
      go_region_held3 (fun w' => w'.cell? ⟨W.heap.size, 0, none⟩ = some (.slice a R2.length cap) ∧ w'.cell? ⟨w.heap.size + 1, 0, none⟩ = some (.pointer (some ⟨p.gx, 0, none⟩)) ∧ w'.cell? ⟨w.heap.size + 1 + 1, 2, none⟩ = some (.string lo) ∧ w'.cell? ⟨w.heap.size + 1 + 1, 3, none⟩ = some (.string hi)) (first | (go_keep; done) | ((try dsimp only); (repeat' apply And.intro) <;> first | (rw [World.cell?_setCell_other _ _ _ _ (by intro e; injection e; omega)]; assumption) | (go_keep; done))) (first
        | (go_at_call 33
           refine (HXL.out _ (by first | exact Below.refl _ _ | exact Below.drew (Below.refl _ _))).mono ?_
           rintro e w5 ⟨v5, r5, rfl, hn5⟩
           rcases HQ.out _ w5 v5 r5 (by first | exact Below.refl _ _ | exact Below.drew (Below.refl _ _)) hn5 with ⟨hb5, hsm⟩
           rcases HC.out w5 hb5 with ⟨e1, e2, e3, e4, e5, e6⟩
           have HSM := Hid.mkz hsm
           clear hb5 hsm hn5)
        | (go_at_call 28
           refine HSM.out.mono ?_
           rintro e w6 ⟨rfl, hb6⟩
           rcases HC.out w6 hb6 with ⟨f1, f2, f3, f4, f5, f6⟩
           have HB6 := Hid.mkz hb6
           clear hb6))
      have hszX6 := HB6.out.size
      have hD2X : D2 < X.heap.size := (Array.getElem?_eq_some_iff.1 HK2.out).1
      have hDX : X.heap[Dd]? = some (.deferred (some [])) := (HBX2.out.block Dd hDW).trans hK
      have HKD2 : Hid (w6.heap[D2]? = some (.deferred (some []))) := (HB6.out.block D2 hD2X).trans HK2.out
      have HKD : Hid (w6.heap[Dd]? = some (.deferred (some []))) := (HB6.out.block Dd (by have := HBX2.out.size; omega)).trans hDX
      have HNE : Hid (Dd ≠ D2 ∧ w.heap.size + 4 ≤ Dd ∧ w.heap.size + 4 ≤ D2) := ⟨by omega, by have := HSZ.out; omega, by omega⟩
      clear hK HK2 hDX f1 f2 f3 f4 f6 hD2X
      have HF5 : Hid (w6.cell? ⟨w.heap.size + 1 + 1 + 1, 0, none⟩ = some (.bool false)) := f5
      clear f5
      go_wp2
      have t1 : (w6.setCell ⟨w.heap.size + 1 + 1 + 1, 0, none⟩ (.bool true)).heap[D2]? = some (.deferred (some [])) := (KeepsOthers.setCell _ _ _).same D2 _ HKD2.out rfl
      have t2 : (w6.setCell ⟨w.heap.size + 1 + 1 + 1, 0, none⟩ (.bool true)).heap[Dd]? = some (.deferred (some [])) := (KeepsOthers.setCell _ _ _).same Dd _ HKD.out rfl
      have g0 := grow_setC w6 (w.heap.size + 1 + 1 + 1) 0 (.bool true)
      have g1 := grownBy_putObj' (w6.setCell ⟨w.heap.size + 1 + 1 + 1, 0, none⟩ (.bool true)) D2 (.deferred none)
      have t3 : ((w6.setCell ⟨w.heap.size + 1 + 1 + 1, 0, none⟩ (.bool true)).putObj D2 (.deferred none)).heap[Dd]? = some (.deferred (some [])) := (g1.block Dd (Array.getElem?_eq_some_iff.1 t2).1 (fun e => HNE.out.1 (by cases e; rfl))).trans t2
      have g2 := grownBy_putObj' ((w6.setCell ⟨w.heap.size + 1 + 1 + 1, 0, none⟩ (.bool true)).putObj D2 (.deferred none)) Dd (.deferred none)
      have c1 : (w6.setCell ⟨w.heap.size + 1 + 1 + 1, 0, none⟩ (.bool true)).cell? ⟨w.heap.size + 1 + 1 + 1, 0, none⟩ = some (.bool true) := World.cell?_setCell_same' _ _ _ (by rw [HF5.out]; rfl)
      have c2 := cell_kept c1 g1 (fun k e => by cases e; exact ⟨_, t1, rfl⟩)
      have c3 := cell_kept c2 g2 (fun k e => by cases e; exact ⟨_, t3, rfl⟩)
      have hres : ¬ p'.own (w.heap.size + 1 + 1 + 1) := fun ho => by
        rcases HS.out.own _ ho with e | e
        · have := hp.lt _ e; omega
        · have := HSZ.out; omega
      have hresD : D' (w.heap.size + 1 + 1 + 1) := HS.out.d2 _ ((hD1d _).2 (.inr ⟨by omega, by have := HSZ.out; omega⟩))
      have p1 : PairAt D' w6 p' := HPX.out.later HB6.out
      have p2 : PairAt D' (w6.setCell ⟨w.heap.size + 1 + 1 + 1, 0, none⟩ (.bool true)) p' := p1.kept g0.size (fun g ho => g0.block g (p1.lt g ho) (fun e => hres (by cases e; exact ho))) (fun g hg hd => g0.block g hg (fun e => hd (by cases e; exact hresD)))
      have p3 := (p2.steady g1 (fun k e => by cases e; exact ⟨_, t1, rfl⟩)).steady g2 (fun k e => by cases e; exact ⟨_, t3, rfl⟩)
      refine ⟨by simp, .inl ⟨_, _, rfl, run_takeDeferred t1, ?_⟩⟩
      refine ⟨by simp, .inl ⟨_, _, rfl, run_takeDeferred t3, ?_⟩⟩
      refine ⟨.bool true, ?_, rfl, D', p', HPL.out, HS.out.gd, HS.out.gx, p3, fun g hg => ?_, ⟨?_, fun g hg => ?_, fun g hg => ?_, fun g hg => HS.out.d2 g ((hD1d g).2 (.inl hg))⟩⟩
      · simp only [results, hresErode]
        go_simp
      · have := HS.out.bnd g hg
        have := HBX2.out.size
        have := g0.size
        have := g1.size
        have := g2.size
        omega
      · refine (((((Chg.ofBelow hbw4).trans' HS.out.chg (fun x hx => hx.imp id (fun e => by have := HSZ.out; omega))).more HBX2.out).more HB6.out).grown g0 (fun g e => .inr (by cases e; omega)) |>.grown g1 (fun g e => .inr (by cases e; have := HNE.out; omega)) |>.grown g2 (fun g e => .inr (by cases e; have := HNE.out; omega)))
      · rcases HS.out.own g hg with e | e
        · exact .inl e
        · exact .inr (by have := HSZ.out; omega)
      · rcases HS.out.d1 g hg with e | e
        · exact ((hD1d g).1 e).imp id (fun e => e.1)
        · exact .inr (by have := HSZ.out; omega)
end Go.Proofs.Ytjhbaplnkigifaa
