import Derived.Test.YtdcagkojfgcbkaaHki
import Derived.Deep.RegionHeld3
/-! hint: the document's Of: its walk. -/
namespace Go.Proofs.Ytdcagkojfgcbkaa
open Go.RowKit Plain Go.WideMaps Go.Maps
set_option linter.unusedVariables false
set_option linter.unusedSimpArgs false
theorem src_hd (W : World) (b : Nat) (hb : W.heap.size = b) (x : He) : Src Try.prog 6 23 (.slice (some ⟨b, 0, none⟩) 1 1) [x].length (ecells [x]) (W.alloc (.cells #[.string x.key, .int .i64 x.off, .int .i64 x.time, .bool x.dead, .int .i64 x.pos, .int .i64 x.len] 28)).drew := by
  subst hb
  exact Src.ofSlice _ Try.underlying23 _ 1 1 _ (by rfl) (fun j u hj => by
    show (W.alloc (.cells #[.string x.key, .int .i64 x.off, .int .i64 x.time, .bool x.dead, .int .i64 x.pos, .int .i64 x.len] 28)).cell? _ = _
    rw [WideShapes.add_plain, World.cell?_alloc_at _ _ _ _ rfl, Nat.zero_add]
    rw [← hj]; simp [ecells, He.cells]) (fun u hu => by
    simp [ecells, He.cells] at hu
    rcases hu with rfl | rfl | rfl | rfl | rfl | rfl <;> rfl)
set_option maxHeartbeats 4000000 in
set_option maxRecDepth 100000 in
theorem rofOf (s z : Int) (v : Value) (st : List Pl) (w : World) (h : PlsAt w v st) : Calls Try.prog 6 #[.int .i64 s, .int .i64 z, v] w (OfPost s z st w) := by
  obtain ⟨a, cap, rfl, hcl, hok, hcells⟩ := h
  have HC : Hid (st ≠ [] → ∃ b off, a = some ⟨b, off, none⟩ ∧ ∀ j, j < st.length → Pl.CellsAt w b (off + j * 9) (st.getD j Pl.zero)) := hcells
  clear hcells hok
  obtain ⟨W0, hW0⟩ : ∃ W0, w.alloc (.cells #[.int .i64 0, .int .i64 0, .slice none 0 0] 25) = W0 := ⟨_, rfl⟩
  obtain ⟨w3, hw3⟩ : ∃ w3, W0.alloc (.cells #[.int .i64 s, .int .i64 z, .slice none 0 0] 25) = w3 := ⟨_, rfl⟩
  have hs0 : W0.heap.size = w.heap.size + 1 := by rw [← hW0]; simp
  have hs3 : w3.heap.size = w.heap.size + 2 := by rw [← hw3]; simp; omega
  have hb0 : Below w.heap.size w W0 := by rw [← hW0]; exact (Below.refl _ _).alloc (Nat.le_refl _) _
  have hb2 : Below W0.heap.size W0 w3 := by rw [← hw3]; exact (Below.refl _ _).alloc (Nat.le_refl _) _
  have HB3 : Hid (Below w.heap.size w w3) := hb0.trans (hb2.mono (by omega))
  have HR3 : Hid (Hb w3 w.heap.size 0 0 (.slice none 0 0)) := by
    have h1 : Hb W0 w.heap.size 0 0 (.slice none 0 0) := by rw [← hW0]; exact Hb.new _ _ _ _
    exact h1.block (hb2.block _ (by omega))
  have HZ3 : Hid (Hb w3 (w.heap.size + 1) s z (.slice none 0 0)) := by
    unfold Hid
    rw [← hw3, ← hs0]; exact Hb.new _ _ _ _
  have H0 : Hid (OfI w3 (w.heap.size + 1) s z (ents st (lps st 0)) w3) := ⟨ButZ.refl _ _, none, 0, 0, none, HZ3.out, OwnHe.nil _, fun g e => by cases e⟩
  have HW : Hid ((w.alloc (.cells #[.int .i64 0, .int .i64 0, .slice none 0 0] 25)).alloc (.cells #[.int .i64 s, .int .i64 z, .slice none 0 0] 25) = w3) := by unfold Hid; rw [hW0, hw3]
  clear hb0 hb2 HZ3 hs0 hw3 hW0
  clear W0
  go_enter Try.func6, Try.ntmps6
  go_wp2
  rw [HW.out]
  clear HW
  go_loopg [8] st.length (fun gk s8 wx => ∃ (i : Nat), i + gk = st.length ∧ s8 = .int .i64 i ∧ Hid (OfI w3 (w.heap.size + 1) s z (ents st (lps st i)) wx))
  case atStart => exact ⟨0, by omega, rfl, H0.out⟩
  case round =>
    clear H0
    obtain ⟨i, hig, rfl, HV⟩ := hrel
    cases gk with
    | zero =>
      obtain rfl : i = st.length := by omega
      obtain ⟨a0, n0, c0, r, hZ, hO, hr⟩ := HV.out.hb
      have hB := HV.out.but
      obtain ⟨z0, z1, z2, zf⟩ := hZ
      have hR := HR3.out.block (hB.block _ (by omega) (by omega))
      obtain ⟨r0, r1, r2, rf⟩ := hR
      have rf0 := rf 0
      have rf1 := rf 1
      have rf2 := rf 2
      have HF : Hid (∀ u, u = (((wr.setCell ⟨w.heap.size, 0, none⟩ (.int .i64 s)).setCell ⟨w.heap.size, 1, none⟩ (.int .i64 z)).setCell ⟨w.heap.size, 2, none⟩ (.slice a0 n0 c0)) → OfPost s z st w (.returned (.agg #[.int .i64 s, .int .i64 z, .slice a0 n0 c0])) u) := fun u hu => by
        have hb1 : Below w.heap.size w wr := HB3.out.trans (hB.below (by omega) (by omega))
        have hset : ∀ (u : World) (j : Nat) (x : Value), Below w.heap.size w u → Below w.heap.size w (u.setCell ⟨w.heap.size, j, none⟩ x) := fun u j x hb => Below.setCell hb (show w.heap.size ≤ (⟨w.heap.size, j, none⟩ : Addr).block from Nat.le_refl _) x
        have hrl : ∀ g, r = some g → w.heap.size < g := fun g e => by have := hr g e; omega
        have hk1 := hO.kept (grow_set wr w.heap.size 0 (.int .i64 s)) (by cases r with
          | none => exact .inl rfl
          | some g => exact .inr (fun e => by have := hrl g rfl; have := Option.some.inj e; omega))
        have hk2 := hk1.kept (grow_set _ w.heap.size 1 (.int .i64 z)) (by cases r with
          | none => exact .inl rfl
          | some g => exact .inr (fun e => by have := hrl g rfl; have := Option.some.inj e; omega))
        have hk3 := hk2.kept (grow_set _ w.heap.size 2 (.slice a0 n0 c0)) (by cases r with
          | none => exact .inl rfl
          | some g => exact .inr (fun e => by have := hrl g rfl; have := Option.some.inj e; omega))
        subst hu
        exact ⟨a0, n0, c0, r, lps st st.length, rfl, lps_ok st, lps_len st _, hk3, fun g e => by have := hrl g e; omega, hset _ _ _ (hset _ _ _ (hset _ _ _ hb1))⟩
      clear hO hB HV zf rf
      go_wp2
      refine bodyPost_ret (v := .agg #[.int .i64 s, .int .i64 z, .slice a0 n0 c0]) ?_ rfl (HF.out _ rfl)
      have ne : ∀ {i j : Nat}, i ≠ j → (⟨w.heap.size, i, none⟩ : Addr) ≠ ⟨w.heap.size, j, none⟩ := fun hij e => hij (congrArg Addr.off e)
      have o1 : (wr.setCell ⟨w.heap.size, 0, none⟩ (.int .i64 s)).cell? ⟨w.heap.size, 1, none⟩ = some (.int .i64 0) := (World.cell?_setCell_other _ _ _ _ (ne (by omega))).trans r1
      have o2 : ((wr.setCell ⟨w.heap.size, 0, none⟩ (.int .i64 s)).setCell ⟨w.heap.size, 1, none⟩ (.int .i64 z)).cell? ⟨w.heap.size, 2, none⟩ = some (.slice none 0 0) := (World.cell?_setCell_other _ _ _ _ (ne (by omega))).trans ((World.cell?_setCell_other _ _ _ _ (ne (by omega))).trans r2)
      have p2 := World.cell?_setCell_same _ ⟨w.heap.size, 2, none⟩ (.slice a0 n0 c0) o2
      have p1 := (World.cell?_setCell_other _ ⟨w.heap.size, 2, none⟩ ⟨w.heap.size, 1, none⟩ (.slice a0 n0 c0) (ne (by omega))).trans (World.cell?_setCell_same _ _ (.int .i64 z) o1)
      have p0 := (World.cell?_setCell_other _ ⟨w.heap.size, 2, none⟩ ⟨w.heap.size, 0, none⟩ (.slice a0 n0 c0) (ne (by omega))).trans ((World.cell?_setCell_other _ ⟨w.heap.size, 1, none⟩ ⟨w.heap.size, 0, none⟩ (.int .i64 z) (ne (by omega))).trans (World.cell?_setCell_same _ _ (.int .i64 s) r0))
      simp only [results, hres6]
      go_simp
    | succ gk1 =>
      have hi : i < st.length := by omega
      obtain ⟨b, off, rfl, hc⟩ := HC.out (by rintro rfl; simp at hi)
      have hii : (i : Int) < (st.length : Int) := by omega
      have HCX : Hid (∀ u, Below w.heap.size w u → ∀ j, j < st.length → Pl.CellsAt u b (off + j * 9) (st.getD j Pl.zero)) := fun u hu j hj => (hc j hj).block (hu.block b (hc j hj).lt)
      have HBX : Hid (Below w.heap.size w wr) := HB3.out.trans (HV.out.but.below (by omega) (by omega))
      obtain ⟨x, hx⟩ : ∃ x, st.getD i Pl.zero = x := ⟨_, rfl⟩
      have HXI : Hid (st.getD i Pl.zero = x) := hx
      have hL : lps st (i + 1) = if lastG st i (st.length - (i + 1)) = true then lps st i ++ [i] else lps st i := rfl
      have HL : Hid (lps st (i + 1) = if lastG st i (st.length - (i + 1)) = true then lps st i ++ [i] else lps st i) := hL
      have hbW : b < w.heap.size := (hc i hi).lt
      clear hc hx hL
      go_wp2
      obtain ⟨wo, hwo⟩ : ∃ wo, wr = wo := ⟨_, rfl⟩
      subst hwo
      go_loopg [9, 10] (st.length - (i + 1)) (fun gk s9 s10 wy => ∃ (m : Nat), m + gk = st.length - (i + 1) ∧ s9 = .bool (lastG st i m) ∧ s10 = .int .i64 ((i + 1 + m : Nat) : Int) ∧ Hid (OfI w3 (w.heap.size + 1) s z (ents st (lps st i)) wy))
      case atStart => exact ⟨0, by omega, rfl, by go_num, HV.out⟩
      case round =>
        clear HV HBX
        obtain ⟨m, hmg, rfl, rfl, HV⟩ := hrel
        have HBX : Hid (Below w.heap.size w wr) := HB3.out.trans (HV.out.but.below (by omega) (by omega))
        have hcx := HCX.out wr HBX.out i hi
        rw [HXI.out] at hcx
        cases gk with
        | zero =>
          obtain rfl : m = st.length - (i + 1) := by omega
          rw [show i + 1 + (st.length - (i + 1)) = st.length by omega]
          obtain ⟨d0, d1, d2, d3, d4, d5, d6, d7, d8⟩ := hcx
          generalize lastG st i (st.length - (i + 1)) = g at *
          cases g with
          | false =>
            have HL2 : Hid (lps st (i + 1) = lps st i) := HL.out
            go_wp2
            go_roundg gk1
            case rel => exact ⟨i + 1, by omega, by go_num, by rw [HL2.out]; exact HV.out⟩
            case measure => exact Nat.lt_succ_self _
          | true =>
            have HL2 : Hid (ents st (lps st (i + 1)) = ents st (lps st i) ++ [x.entry]) := by
              unfold Hid
              rw [show lps st (i + 1) = lps st i ++ [i] from HL.out]
              unfold ents
              rw [List.map_append, List.map_singleton, HXI.out]
            obtain ⟨a0, n0, c0, r, hZ, hO, hr⟩ := HV.out.hb
            have hB := HV.out.but
            have HZX : Hid (Hb wr (w.heap.size + 1) s z (.slice a0 n0 c0)) := hZ
            have HO : Hid (OwnHe wr (.slice a0 n0 c0) (ents st (lps st i)) r) := hO
            have HR : Hid (∀ g, r = some g → w3.heap.size ≤ g) := hr
            have HBZ : Hid (ButZ (w.heap.size + 1) w3 wr) := hB
            have hwr : w3.heap.size ≤ wr.heap.size := hB.size
            have hel : (ents st (lps st i)).length ≤ st.length := by rw [ents_len]; have := lps_len st i; omega
            have hZ3 : w.heap.size + 1 < w3.heap.size := by omega
            have hbl : b < wr.heap.size := cell_lt d0
            have hbw : b < w.heap.size := hbW
            generalize ents st (lps st i) = es at *
            obtain ⟨xk, xo, xt, xp, xq, xkey, xval, xpos, xlen⟩ := x
            simp only at d0 d1 d2 d3 d4 d5 d6 d7 d8
            obtain ⟨wR, hwR⟩ : ∃ wR, wr.alloc (.cells #[.int .i64 xk, .int .i64 xo, .int .i64 xt, .int .i64 xp, .int .i64 xq, .string xkey, .string xval] 30) = wR := ⟨_, rfl⟩
            have hbR : Below wr.heap.size wr wR := by rw [← hwR]; exact (Below.refl _ _).alloc (Nat.le_refl _) _
            have hsR : wR.heap.size = wr.heap.size + 1 := by rw [← hwR]; simp
            have ra : ∀ t, wR.cell? ⟨wr.heap.size, t, none⟩ = #[Value.int .i64 xk, .int .i64 xo, .int .i64 xt, .int .i64 xp, .int .i64 xq, .string xkey, .string xval][t]? := fun t => by rw [← hwR]; exact World.cell?_alloc_at _ _ _ _ rfl
            have r0 : wR.cell? ⟨wr.heap.size, 0, none⟩ = some (.int .i64 xk) := ra 0
            have r1 : wR.cell? ⟨wr.heap.size, 1, none⟩ = some (.int .i64 xo) := ra 1
            have r2 : wR.cell? ⟨wr.heap.size, 2, none⟩ = some (.int .i64 xt) := ra 2
            have r5 : wR.cell? ⟨wr.heap.size, 5, none⟩ = some (.string xkey) := ra 5
            have bl : ∀ (c : Addr), c.block < wr.heap.size → wR.cell? c = wr.cell? c := fun c hc => World.cell?_of_block (hbR.block _ hc)
            have q7 := (bl ⟨b, off + i * 9 + 7, none⟩ hbl).trans d7
            have q8 := (bl ⟨b, off + i * 9 + 8, none⟩ hbl).trans d8
            have HZR : Hid (Hb wR (w.heap.size + 1) s z (.slice a0 n0 c0)) := HZX.out.block (hbR.block _ HZX.out.lt)
            obtain ⟨y0, y1, y2, yf⟩ := HZR.out
            have yf2 := yf 2
            have ya : ∀ (o : Obj), (wR.alloc o).cell? ⟨w.heap.size + 1, 2, none⟩ = some (.slice a0 n0 c0) := fun o => by
              rw [World.cell?_of_block (w := wR) (a := ⟨w.heap.size + 1, 2, none⟩) (((Below.refl _ wR).alloc (Nat.le_refl _) o).block _ HZR.out.lt)]
              exact y2
            have HBR : Hid (Below wr.heap.size wr wR) := hbR
            have HWR : Hid (wr.alloc (.cells #[.int .i64 xk, .int .i64 xo, .int .i64 xt, .int .i64 xp, .int .i64 xq, .string xkey, .string xval] 30) = wR) := hwR
            have HOR : Hid (OwnHe wR (.slice a0 n0 c0) es r) := HO.out.later hbR
            clear ra bl hbR hwR hZ hO hr hB yf HV hsR
            go_wp2
            rw [HWR.out]
            have hrw : ∀ g, r = some g → g < wr.heap.size := fun g e => by have h := HO.out; rw [e] at h; exact h.lt
            have hsR2 := HBR.out.size
            have hwl : wr.heap.size < wR.heap.size := cell_lt r0
            have ea1 : ∀ (o : Obj) (t : Nat), (wR.alloc o).cell? ⟨wr.heap.size, t, none⟩ = wR.cell? ⟨wr.heap.size, t, none⟩ := fun o t => World.cell?_of_block (w := wR) (a := ⟨wr.heap.size, t, none⟩) (((Below.refl _ wR).alloc (Nat.le_refl _) o).block _ hwl)
            have hbR2 : b < wR.heap.size := by omega
            have ea2 : ∀ (o : Obj) (t : Nat), (wR.alloc o).cell? ⟨b, t, none⟩ = wR.cell? ⟨b, t, none⟩ := fun o t => World.cell?_of_block (w := wR) (a := ⟨b, t, none⟩) (((Below.refl _ wR).alloc (Nat.le_refl _) o).block _ hbR2)
            clear HL d0 d1 d2 d3 d4 d5 d6 d7 d8
            refine wp_region_noPanic ?_
            refine wp_region_held_drew (S := (fun w' => w'.cell? ⟨wr.heap.size, 0, none⟩ = some (.int .i64 xk) ∧ w'.cell? ⟨wr.heap.size, 1, none⟩ = some (.int .i64 xo) ∧ w'.cell? ⟨wr.heap.size, 2, none⟩ = some (.int .i64 xt) ∧ w'.cell? ⟨wr.heap.size, 5, none⟩ = some (.string xkey) ∧ w'.cell? ⟨b, off + i * 9 + 7, none⟩ = some (.int .i64 xpos) ∧ w'.cell? ⟨b, off + i * 9 + 8, none⟩ = some (.int .i64 xlen))) (by kernel_rfl) ?_ (fun hHeld => ?_)
            · go_keep
            refine wpAnyH_take (i := 0) (v := ?v1) rfl (by kernel_rfl) (by kernel_rfl) (by kernel_rfl) (fun _ _ _ h => h) (Or.inl ⟨by rfl, ?hy1⟩) (by assumption) ?rest1
            case hy1 => (intro u hSw; (try dsimp only at hSw); first | (go_simp; done) | (go_simp; with_reducible rfl))
            try simp only [Act.put, List.setIfInBounds_toArray, List.set_cons_zero, List.set_cons_succ]
            refine wpAnyH_take (i := 2) (v := ?v2) rfl (by kernel_rfl) (by kernel_rfl) (by kernel_rfl) (fun _ _ _ h => h) (Or.inl ⟨by rfl, ?hy2⟩) (by assumption) ?rest2
            case hy2 => (intro u hSw; (try dsimp only at hSw); first | (go_simp; done) | (go_simp; with_reducible rfl))
            try simp only [Act.put, List.setIfInBounds_toArray, List.set_cons_zero, List.set_cons_succ]
            refine wpAnyH_take (i := 3) (v := ?v3) rfl (by kernel_rfl) (by kernel_rfl) (by kernel_rfl) (fun _ _ _ h => h) (Or.inl ⟨by rfl, ?hy3⟩) (by assumption) ?rest3
            case hy3 => (intro u hSw; (try dsimp only at hSw); first | (go_simp; done) | (go_simp; with_reducible rfl))
            try simp only [Act.put, List.setIfInBounds_toArray, List.set_cons_zero, List.set_cons_succ]
            refine wpAnyH_take (i := 4) (v := ?v4) rfl (by kernel_rfl) (by kernel_rfl) (by kernel_rfl) (fun _ _ _ h => h) (Or.inl ⟨by rfl, ?hy4⟩) (by assumption) ?rest4
            case hy4 => (intro u hSw; (try dsimp only at hSw); first | (go_simp; done) | (go_simp; with_reducible rfl))
            try simp only [Act.put, List.setIfInBounds_toArray, List.set_cons_zero, List.set_cons_succ]
            refine wpAnyH_take (i := 5) (v := ?v5) rfl (by kernel_rfl) (by kernel_rfl) (by kernel_rfl) (fun _ _ _ h => h) (Or.inl ⟨by rfl, ?hy5⟩) (by assumption) ?rest5
            case hy5 => (intro u hSw; (try dsimp only at hSw); first | (go_simp; done) | (go_simp; with_reducible rfl))
            try simp only [Act.put, List.setIfInBounds_toArray, List.set_cons_zero, List.set_cons_succ]
            refine wpAnyH_take (i := 6) (v := ?v6) rfl (by kernel_rfl) (by kernel_rfl) (by kernel_rfl) (fun _ _ _ h => h) (Or.inl ⟨by rfl, ?hy6⟩) (by assumption) ?rest6
            case hy6 => (intro u hSw; (try dsimp only at hSw); first | (go_simp; done) | (go_simp; with_reducible rfl))
            try simp only [Act.put, List.setIfInBounds_toArray, List.set_cons_zero, List.set_cons_succ]
            refine wpAnyH_take (i := 7) (v := ?v7) rfl (by kernel_rfl) (by kernel_rfl) (by kernel_rfl) (fun _ _ _ h => h) (Or.inl ⟨by rfl, ?hy7⟩) (by assumption) ?rest7
            case hy7 => (intro u hSw; (try dsimp only at hSw); first | (go_simp; done) | (go_simp; with_reducible rfl))
            try simp only [Act.put, List.setIfInBounds_toArray, List.set_cons_zero, List.set_cons_succ]
            refine wpAnyH_take (i := 8) (v := ?v8) rfl (by kernel_rfl) (by kernel_rfl) (by kernel_rfl) (fun _ _ _ h => h) (Or.inl ⟨by rfl, ?hy8⟩) (by assumption) ?rest8
            case hy8 => (intro u hSw; (try dsimp only at hSw); first | (go_simp; done) | (go_simp; with_reducible rfl))
            try simp only [Act.put, List.setIfInBounds_toArray, List.set_cons_zero, List.set_cons_succ]
            refine wpAnyH_take (i := 9) (v := ?v9) rfl (by kernel_rfl) (by kernel_rfl) (by kernel_rfl) (fun _ _ _ h => h) (Or.inl ⟨by rfl, ?hy9⟩) (by assumption) ?rest9
            case hy9 => (intro u hSw; (try dsimp only at hSw); first | (go_simp; done) | (go_simp; with_reducible rfl))
            try simp only [Act.put, List.setIfInBounds_toArray, List.set_cons_zero, List.set_cons_succ]
            refine wpAnyH_take (i := 10) (v := ?v10) rfl (by kernel_rfl) (by kernel_rfl) (by kernel_rfl) (fun _ _ _ h => h) (Or.inl ⟨by rfl, ?hy10⟩) (by assumption) ?rest10
            case hy10 => (intro u hSw; (try dsimp only at hSw); first | (go_simp; done) | (go_simp; with_reducible rfl))
            try simp only [Act.put, List.setIfInBounds_toArray, List.set_cons_zero, List.set_cons_succ]
            refine wpAnyH_take (i := 11) (v := ?v11) rfl (by kernel_rfl) (by kernel_rfl) (by kernel_rfl) (fun _ _ _ h => h) (Or.inl ⟨by rfl, ?hy11⟩) (by assumption) ?rest11
            case hy11 => (intro u hSw; (try dsimp only at hSw); first | (go_simp; done) | (go_simp; with_reducible rfl))
            try simp only [Act.put, List.setIfInBounds_toArray, List.set_cons_zero, List.set_cons_succ]
            refine wpAnyH_take (i := 12) (v := ?v12) rfl (by kernel_rfl) (by kernel_rfl) (by kernel_rfl) (fun _ _ _ h => h) (Or.inl ⟨by rfl, ?hy12⟩) (by assumption) ?rest12
            case hy12 => (intro u hSw; (try dsimp only at hSw); first | (go_simp; done) | (go_simp; with_reducible rfl))
            try simp only [Act.put, List.setIfInBounds_toArray, List.set_cons_zero, List.set_cons_succ]
            refine wpAnyH_take (i := 13) (v := ?v13) rfl (by kernel_rfl) (by kernel_rfl) (by kernel_rfl) (fun _ _ _ h => h) (Or.inl ⟨by rfl, ?hy13⟩) (by assumption) ?rest13
            case hy13 => (intro u hSw; (try dsimp only at hSw); first | (go_simp; done) | (go_simp; with_reducible rfl))
            try simp only [Act.put, List.setIfInBounds_toArray, List.set_cons_zero, List.set_cons_succ]
            refine wpAnyH_take (i := 14) (v := ?v14) rfl (by kernel_rfl) (by kernel_rfl) (by kernel_rfl) (fun _ _ _ h => h) (Or.inl ⟨by rfl, ?hy14⟩) (by assumption) ?rest14
            case hy14 => (intro u hSw; (try dsimp only at hSw); first | (go_simp; done) | (go_simp; with_reducible rfl))
            try simp only [Act.put, List.setIfInBounds_toArray, List.set_cons_zero, List.set_cons_succ]
            refine wpAnyH_take (i := 15) (v := ?v15) rfl (by kernel_rfl) (by kernel_rfl) (by kernel_rfl) (fun _ _ _ h => h) (Or.inl ⟨by rfl, ?hy15⟩) (by assumption) ?rest15
            case hy15 => (intro u hSw; (try dsimp only at hSw); first | (go_simp; done) | (go_simp; with_reducible rfl))
            try simp only [Act.put, List.setIfInBounds_toArray, List.set_cons_zero, List.set_cons_succ]
            refine wpAnyH_take (i := 16) (v := ?v16) rfl (by kernel_rfl) (by kernel_rfl) (by kernel_rfl) (fun _ _ _ h => h) (Or.inl ⟨by rfl, ?hy16⟩) (by assumption) ?rest16
            case hy16 => (intro u hSw; (try dsimp only at hSw); first | (go_simp; done) | (go_simp; with_reducible rfl))
            try simp only [Act.put, List.setIfInBounds_toArray, List.set_cons_zero, List.set_cons_succ]
            refine wpAnyH_take (i := 17) (v := ?v17) rfl (by kernel_rfl) (by kernel_rfl) (by kernel_rfl) (fun _ _ _ h => h) (Or.inl ⟨by rfl, ?hy17⟩) (by assumption) ?rest17
            case hy17 => (intro u hSw; (try dsimp only at hSw); first | (go_simp; done) | (go_simp; with_reducible rfl))
            try simp only [Act.put, List.setIfInBounds_toArray, List.set_cons_zero, List.set_cons_succ]
            refine wpAnyH_take (i := 18) (v := ?v18) rfl (by kernel_rfl) (by kernel_rfl) (by kernel_rfl) (fun _ _ _ h => h) (Or.inl ⟨by rfl, ?hy18⟩) (by assumption) ?rest18
            case hy18 => (intro u hSw; (try dsimp only at hSw); first | (go_simp; done) | (go_simp; with_reducible rfl))
            try simp only [Act.put, List.setIfInBounds_toArray, List.set_cons_zero, List.set_cons_succ]
            refine wpAnyH_take (i := 19) (v := ?v19) rfl (by kernel_rfl) (by kernel_rfl) (by kernel_rfl) (fun _ _ _ h => h) (Or.inl ⟨by rfl, ?hy19⟩) (by assumption) ?rest19
            case hy19 => (intro u hSw; (try dsimp only at hSw); first | (go_simp; done) | (go_simp; with_reducible rfl))
            try simp only [Act.put, List.setIfInBounds_toArray, List.set_cons_zero, List.set_cons_succ]
            refine wpAnyH_take (i := 20) (v := ?v20) rfl (by kernel_rfl) (by kernel_rfl) (by kernel_rfl) (fun _ _ _ h => h) (Or.inl ⟨by rfl, ?hy20⟩) (by assumption) ?rest20
            case hy20 => (intro u hSw; (try dsimp only at hSw); first | (go_simp; done) | (go_simp; with_reducible rfl))
            try simp only [Act.put, List.setIfInBounds_toArray, List.set_cons_zero, List.set_cons_succ]
            refine wpAnyH_take (i := 21) (v := ?v21) rfl (by kernel_rfl) (by kernel_rfl) (by kernel_rfl) (fun _ _ _ h => h) (Or.inl ⟨by rfl, ?hy21⟩) (by assumption) ?rest21
            case hy21 => (intro u hSw; (try dsimp only at hSw); first | (go_simp; done) | (go_simp; with_reducible rfl))
            try simp only [Act.put, List.setIfInBounds_toArray, List.set_cons_zero, List.set_cons_succ]
            refine wpAnyH_ready (rs := [1, 22]) (by kernel_rfl) (by simp) ?_
            refine AllReadyH.cons rfl (fun K hK => ?_) (AllReadyH.cons rfl (fun K hK => ?_) AllReadyH.nil)
            · go_simp
              refine hK.out _ _ ?_ (fun hHeld2 => ?_)
              · go_keep
              clear hK K
              try simp only [Act.put, List.setIfInBounds_toArray, List.set_cons_zero, List.set_cons_succ]
              clear hHeld
              have hHeld := hHeld2
              clear hHeld2
              refine wpAnyH_ready (rs := [22]) (by kernel_rfl) (by simp) ?_
              refine AllReadyH.cons rfl (fun K hK => ?_) AllReadyH.nil
              go_simp
              refine hK.out _ _ ?_ (fun hHeld2 => ?_)
              · go_keep
              clear hK K
              try simp only [Act.put, List.setIfInBounds_toArray, List.set_cons_zero, List.set_cons_succ]
              clear hHeld
              have hHeld := hHeld2
              clear hHeld2
              refine wpAnyH_ready (rs := [23]) (by kernel_rfl) (by simp) ?_
              refine AllReadyH.cons rfl (fun K hK => ?_) AllReadyH.nil
              refine step_append_he rfl (.tmp 52) (.tmp 73) rfl (.slice a0 n0 c0) (.slice (some ⟨wR.heap.size, 0, none⟩) 1 1) es [Pl.entry ⟨xk, xo, xt, xp, xq, xkey, xval, xpos, xlen⟩] r (by first | rfl | simp [Act.eval, Act.put]) (by first | rfl | simp [Act.eval, Act.put]) (HOR.out.later (Below.drew (Below.alloc (Below.refl _ _) (Nat.le_refl _) _))) (src_hd wR _ rfl (Pl.entry ⟨xk, xo, xt, xp, xq, xkey, xval, xpos, xlen⟩)) (by simp; omega) (.inr (by simp)) ?_
              intro v6 w6 g6 ho6 hg6 hr6
              rcases ho6.shape with ⟨a6, c6, rfl, hq1, hq2⟩
              have HS6 := OfI.step HBZ.out HZX.out hZ3 HR.out (HBR.out.trans ((Below.drew (Below.alloc (Below.refl _ _) (Nat.le_refl _) _)).mono HBR.out.size)) hg6 ho6 hr6
              have HI6 : Hid (OfI w3 (w.heap.size + 1) s z (es ++ [Pl.entry ⟨xk, xo, xt, xp, xq, xkey, xval, xpos, xlen⟩]) (w6.setCell ⟨w.heap.size + 1, 2, none⟩ (.slice a6 (es ++ [Pl.entry ⟨xk, xo, xt, xp, xq, xkey, xval, xpos, xlen⟩]).length c6))) := HS6.2
              have hsz6 := hg6.size
              have e61 : ∀ (t : Nat), w6.cell? ⟨wr.heap.size, t, none⟩ = wR.cell? ⟨wr.heap.size, t, none⟩ := fun t => (World.cell?_of_block (a := ⟨wr.heap.size, t, none⟩) (hg6.block _ (by simp; omega) (fun e => by have h : wr.heap.size < wr.heap.size := hrw _ e.symm; omega))).trans (ea1 _ t)
              have e62 : ∀ (t : Nat), w6.cell? ⟨b, t, none⟩ = wR.cell? ⟨b, t, none⟩ := fun t => (World.cell?_of_block (a := ⟨b, t, none⟩) (hg6.block _ (by simp; omega) (fun e => by have h : w3.heap.size ≤ b := HR.out _ e.symm; omega))).trans (ea2 _ t)
              have e71 : ∀ (v : Value) (t : Nat), (w6.setCell ⟨w.heap.size + 1, 2, none⟩ v).cell? ⟨wr.heap.size, t, none⟩ = w6.cell? ⟨wr.heap.size, t, none⟩ := fun v t => World.cell?_setCell_other _ _ _ _ (fun e => by have := congrArg Addr.block e; simp at this; omega)
              have e72 : ∀ (v : Value) (t : Nat), (w6.setCell ⟨w.heap.size + 1, 2, none⟩ v).cell? ⟨b, t, none⟩ = w6.cell? ⟨b, t, none⟩ := fun v t => World.cell?_setCell_other _ _ _ _ (fun e => by have := congrArg Addr.block e; simp at this; omega)
              rcases HS6.1 with ⟨t0, t1, t2, tf⟩
              have tf2 := tf 2
              clear ho6 hg6 hr6 HS6 tf hq1 hq2
              refine hK.out _ _ ?_ (fun hHeld2 => ?_)
              · go_keep
              clear hK K
              try simp only [Act.put, List.setIfInBounds_toArray, List.set_cons_zero, List.set_cons_succ]
              clear hHeld
              have hHeld := hHeld2
              clear hHeld2
              refine wpAnyH_take (i := 24) (v := ?v22) rfl (by kernel_rfl) (by kernel_rfl) (by kernel_rfl) (fun _ _ _ h => h) (Or.inl ⟨by rfl, ?hy22⟩) (by assumption) ?rest22
              case hy22 => (intro u hSw; (try dsimp only at hSw); first | (go_simp; done) | (go_simp; with_reducible rfl))
              try simp only [Act.put, List.setIfInBounds_toArray, List.set_cons_zero, List.set_cons_succ]
              refine wpAnyH_ready (rs := [25]) (by kernel_rfl) (by simp) ?_
              refine AllReadyH.cons rfl (fun K hK => ?_) AllReadyH.nil
              go_simp
              refine hK.out _ _ ?_ (fun hHeld2 => ?_)
              · go_keep
              clear hK K
              try simp only [Act.put, List.setIfInBounds_toArray, List.set_cons_zero, List.set_cons_succ]
              clear hHeld
              have hHeld := hHeld2
              clear hHeld2
              refine wpAnyH_done (by kernel_rfl) ?_ _
              refine NoPanic.normal ?_
              have HI7 : Hid (OfI w3 (w.heap.size + 1) s z (ents st (lps st (i + 1))) (w6.setCell ⟨w.heap.size + 1, 2, none⟩ (.slice a6 (es.length + 1) c6))) := by
                unfold Hid
                rw [HL2.out]
                have h := HI6.out
                rw [List.length_append] at h
                exact h
              clear HI6
              go_wp2
              go_roundg gk1
              case rel => exact ⟨i + 1, by omega, by go_num, HI7.out⟩
              case measure => exact Nat.lt_succ_self _
            · go_simp
              refine hK.out _ _ ?_ (fun hHeld2 => ?_)
              · go_keep
              clear hK K
              try simp only [Act.put, List.setIfInBounds_toArray, List.set_cons_zero, List.set_cons_succ]
              clear hHeld
              have hHeld := hHeld2
              clear hHeld2
              refine wpAnyH_ready (rs := [1]) (by kernel_rfl) (by simp) ?_
              refine AllReadyH.cons rfl (fun K hK => ?_) AllReadyH.nil
              go_simp
              refine hK.out _ _ ?_ (fun hHeld2 => ?_)
              · go_keep
              clear hK K
              try simp only [Act.put, List.setIfInBounds_toArray, List.set_cons_zero, List.set_cons_succ]
              clear hHeld
              have hHeld := hHeld2
              clear hHeld2
              refine wpAnyH_ready (rs := [23]) (by kernel_rfl) (by simp) ?_
              refine AllReadyH.cons rfl (fun K hK => ?_) AllReadyH.nil
              refine step_append_he rfl (.tmp 52) (.tmp 73) rfl (.slice a0 n0 c0) (.slice (some ⟨wR.heap.size, 0, none⟩) 1 1) es [Pl.entry ⟨xk, xo, xt, xp, xq, xkey, xval, xpos, xlen⟩] r (by first | rfl | simp [Act.eval, Act.put]) (by first | rfl | simp [Act.eval, Act.put]) (HOR.out.later (Below.drew (Below.alloc (Below.refl _ _) (Nat.le_refl _) _))) (src_hd wR _ rfl (Pl.entry ⟨xk, xo, xt, xp, xq, xkey, xval, xpos, xlen⟩)) (by simp; omega) (.inr (by simp)) ?_
              intro v6 w6 g6 ho6 hg6 hr6
              rcases ho6.shape with ⟨a6, c6, rfl, hq1, hq2⟩
              have HS6 := OfI.step HBZ.out HZX.out hZ3 HR.out (HBR.out.trans ((Below.drew (Below.alloc (Below.refl _ _) (Nat.le_refl _) _)).mono HBR.out.size)) hg6 ho6 hr6
              have HI6 : Hid (OfI w3 (w.heap.size + 1) s z (es ++ [Pl.entry ⟨xk, xo, xt, xp, xq, xkey, xval, xpos, xlen⟩]) (w6.setCell ⟨w.heap.size + 1, 2, none⟩ (.slice a6 (es ++ [Pl.entry ⟨xk, xo, xt, xp, xq, xkey, xval, xpos, xlen⟩]).length c6))) := HS6.2
              have hsz6 := hg6.size
              have e61 : ∀ (t : Nat), w6.cell? ⟨wr.heap.size, t, none⟩ = wR.cell? ⟨wr.heap.size, t, none⟩ := fun t => (World.cell?_of_block (a := ⟨wr.heap.size, t, none⟩) (hg6.block _ (by simp; omega) (fun e => by have h : wr.heap.size < wr.heap.size := hrw _ e.symm; omega))).trans (ea1 _ t)
              have e62 : ∀ (t : Nat), w6.cell? ⟨b, t, none⟩ = wR.cell? ⟨b, t, none⟩ := fun t => (World.cell?_of_block (a := ⟨b, t, none⟩) (hg6.block _ (by simp; omega) (fun e => by have h : w3.heap.size ≤ b := HR.out _ e.symm; omega))).trans (ea2 _ t)
              have e71 : ∀ (v : Value) (t : Nat), (w6.setCell ⟨w.heap.size + 1, 2, none⟩ v).cell? ⟨wr.heap.size, t, none⟩ = w6.cell? ⟨wr.heap.size, t, none⟩ := fun v t => World.cell?_setCell_other _ _ _ _ (fun e => by have := congrArg Addr.block e; simp at this; omega)
              have e72 : ∀ (v : Value) (t : Nat), (w6.setCell ⟨w.heap.size + 1, 2, none⟩ v).cell? ⟨b, t, none⟩ = w6.cell? ⟨b, t, none⟩ := fun v t => World.cell?_setCell_other _ _ _ _ (fun e => by have := congrArg Addr.block e; simp at this; omega)
              rcases HS6.1 with ⟨t0, t1, t2, tf⟩
              have tf2 := tf 2
              clear ho6 hg6 hr6 HS6 tf hq1 hq2
              refine hK.out _ _ ?_ (fun hHeld2 => ?_)
              · go_keep
              clear hK K
              try simp only [Act.put, List.setIfInBounds_toArray, List.set_cons_zero, List.set_cons_succ]
              clear hHeld
              have hHeld := hHeld2
              clear hHeld2
              refine wpAnyH_take (i := 24) (v := ?v23) rfl (by kernel_rfl) (by kernel_rfl) (by kernel_rfl) (fun _ _ _ h => h) (Or.inl ⟨by rfl, ?hy23⟩) (by assumption) ?rest23
              case hy23 => (intro u hSw; (try dsimp only at hSw); first | (go_simp; done) | (go_simp; with_reducible rfl))
              try simp only [Act.put, List.setIfInBounds_toArray, List.set_cons_zero, List.set_cons_succ]
              refine wpAnyH_ready (rs := [25]) (by kernel_rfl) (by simp) ?_
              refine AllReadyH.cons rfl (fun K hK => ?_) AllReadyH.nil
              go_simp
              refine hK.out _ _ ?_ (fun hHeld2 => ?_)
              · go_keep
              clear hK K
              try simp only [Act.put, List.setIfInBounds_toArray, List.set_cons_zero, List.set_cons_succ]
              clear hHeld
              have hHeld := hHeld2
              clear hHeld2
              refine wpAnyH_done (by kernel_rfl) ?_ _
              refine NoPanic.normal ?_
              have HI7 : Hid (OfI w3 (w.heap.size + 1) s z (ents st (lps st (i + 1))) (w6.setCell ⟨w.heap.size + 1, 2, none⟩ (.slice a6 (es.length + 1) c6))) := by
                unfold Hid
                rw [HL2.out]
                have h := HI6.out
                rw [List.length_append] at h
                exact h
              clear HI6
              go_wp2
              go_roundg gk1
              case rel => exact ⟨i + 1, by omega, by go_num, HI7.out⟩
              case measure => exact Nat.lt_succ_self _
        | succ gm1 =>
          obtain ⟨k, hk⟩ : ∃ k, i + 1 + m = k := ⟨_, rfl⟩
          have hkl : k < st.length := by omega
          have hki : (k : Int) < (st.length : Int) := by omega
          have hcy := HCX.out wr HBX.out k hkl
          obtain ⟨y, hy⟩ : ∃ y, st.getD k Pl.zero = y := ⟨_, rfl⟩
          rw [hy] at hcy
          have HLG : Hid (lastG st i (m + 1) = (lastG st i m && decide (¬ y.key = x.key))) := by
            show (lastG st i m && decide (¬ pk st (i + 1 + m) = pk st i)) = _
            unfold pk
            rw [hk, hy, HXI.out]
          obtain ⟨d0, d1, d2, d3, d4, d5, d6, d7, d8⟩ := hcx
          obtain ⟨f0, f1, f2, f3, f4, f5, f6, f7, f8⟩ := hcy
          rw [hk]
          clear hy
          generalize lastG st i m = g at *
          cases g with
          | false =>
            go_wp2
            go_quiet (fail)
            go_wp2
            go_roundg gm1
            case rel => exact ⟨m + 1, by omega, by rw [HLG.out]; rfl, by rw [← hk]; go_num, HV.out.later (below_drewN (Below.refl _ _) _)⟩
            case measure => exact Nat.lt_succ_self _
          | true =>
            by_cases hyx : y.key = x.key
            · have hB : (y.key.toList == x.key.toList) = true := by rw [hyx]; simp
              have HLH : Hid (lastG st i (m + 1) = false) := by unfold Hid; rw [HLG.out]; simp [hyx]
              go_wp2
              go_quiet (fail)
              go_wp2
              go_roundg gm1
              case rel => exact ⟨m + 1, by omega, by rw [HLH.out], by rw [← hk]; go_num, HV.out.later (below_drewN (Below.refl _ _) _)⟩
              case measure => exact Nat.lt_succ_self _
            · have hB : (y.key.toList == x.key.toList) = false := keys_ne hyx
              have HLH : Hid (lastG st i (m + 1) = true) := by unfold Hid; rw [HLG.out]; simp [hyx]
              go_wp2
              go_quiet (fail)
              go_wp2
              go_roundg gm1
              case rel => exact ⟨m + 1, by omega, by rw [HLH.out], by rw [← hk]; go_num, HV.out.later (below_drewN (Below.refl _ _) _)⟩
              case measure => exact Nat.lt_succ_self _
end Go.Proofs.Ytdcagkojfgcbkaa
