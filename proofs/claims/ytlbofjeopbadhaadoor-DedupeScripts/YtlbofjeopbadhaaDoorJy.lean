import Derived.Test.YtlbofjeopbadhaaDoorJx
import Derived.Test.YtlbofjeopbadhaaDoorJop
/-! dedupe: the law's kept, spoil, sameRecords. -/
namespace Go.Proofs.YtlbofjeopbadhaaDoor
open Go.RowKit Go.Maps Plain
set_option linter.unusedVariables false
set_option linter.unusedSimpArgs false

theorem rcells_set (ts : List Rc) (j : Nat) (x : Rc) (h : j < ts.length) (i : Nat) : (rcells (ts.set j x))[i]? = if j * 7 ≤ i ∧ i < j * 7 + 7 then x.cells[i - j * 7]? else (rcells ts)[i]? := by
  by_cases hi : i < 7 * ts.length
  · obtain ⟨m, r, hm, hr, rfl⟩ : ∃ m r, m < ts.length ∧ r < 7 ∧ i = m * 7 + r := ⟨i / 7, i % 7, by omega, by omega, by omega⟩
    rw [rcells_get (ts.set j x) m r (by simpa using hm) hr, rcells_get ts m r hm hr]
    by_cases e : m = j
    · subst e
      rw [if_pos (by omega), show m * 7 + r - m * 7 = r by omega]
      simp [hm]
    · rw [if_neg (by omega)]
      congr 2
      simp [Ne.symm e]
  · rw [List.getElem?_eq_none (by rw [rcells_len]; simp; omega), if_neg (by omega), List.getElem?_eq_none (by rw [rcells_len]; omega)]

theorem OwnR.setR {w : World} {v : Value} {g j : Nat} {ts : List Rc} (x : Rc) (h : OwnR w v ts (some g)) (hj : j < ts.length) : OwnR (w.setCells g (j * 7) x.cells) v (ts.set j x) (some g) := by
  rcases h with ⟨_, _, h⟩ | ⟨g', cap, e, rfl, hg, h1, h2, h3, h4, h5⟩
  · simp at h
  · simp at e; subst e
    refine .inr ⟨g, cap, rfl, by simp, by rw [setCells_size]; exact hg, by simpa using h1, h2, fun i hi => ?_, fun i hi => ?_, fun i hi => ?_⟩
    · rw [World.frozen?_setCells]; exact h3 i hi
    · exact isSome_setCells g _ _ w _ (h4 i hi)
    · rw [List.length_set] at hi
      rw [rcells_set ts j x hj i]
      have hxl : x.cells.length = 7 := rfl
      by_cases hin : j * 7 ≤ i ∧ i < j * 7 + 7
      · rw [if_pos hin]
        have := World.cell?_setCells_in g x.cells (j * 7) w (fun m hm => h4 _ (by rw [hxl] at hm; omega)) (i - j * 7) (by rw [hxl]; omega)
        rw [show j * 7 + (i - j * 7) = i by omega] at this
        rw [this, List.getElem?_eq_getElem (by rw [hxl]; omega)]
      · rw [if_neg hin, ← h5 i hi]
        refine World.cell?_setCells_out g _ _ w _ (fun _ _ => ?_)
        rw [hxl]
        simp only
        omega
theorem OwnR.fz {w : World} {v : Value} {g : Nat} {ts : List Rc} (h : OwnR w v ts (some g)) {j : Nat} (hj : j < 7 * ts.length) : w.frozen? ⟨g, j, none⟩ = false := by
  rcases h with ⟨_, _, h⟩ | ⟨g', cap, e, rfl, hg, h1, h2, h3, h4, h5⟩
  · simp at h
  · simp at e; subst e
    exact h3 j (by omega)

theorem seven_set (w : World) (g o : Nat) (x : Rc) : (((((((w.setCell ⟨g, o, none⟩ (.int .i64 x.k)).setCell ⟨g, o + 1, none⟩ (.int .i64 x.o)).setCell ⟨g, o + 2, none⟩ (.int .i64 x.t)).setCell ⟨g, o + 3, none⟩ (.int .i64 x.p)).setCell ⟨g, o + 4, none⟩ (.int .i64 x.q)).setCell ⟨g, o + 5, none⟩ (.string x.key)).setCell ⟨g, o + 6, none⟩ (.string x.val)) = w.setCells g o x.cells := rfl

theorem qcells_set (ts : List Pr) (j : Nat) (x : Pr) (h : j < ts.length) (i : Nat) : (qcells (ts.set j x))[i]? = if j * 3 ≤ i ∧ i < j * 3 + 3 then x.cells[i - j * 3]? else (qcells ts)[i]? := by
  by_cases hi : i < 3 * ts.length
  · obtain ⟨m, r, hm, hr, rfl⟩ : ∃ m r, m < ts.length ∧ r < 3 ∧ i = m * 3 + r := ⟨i / 3, i % 3, by omega, by omega, by omega⟩
    rw [qcells_get (ts.set j x) m r (by simpa using hm) hr, qcells_get ts m r hm hr]
    by_cases e : m = j
    · subst e
      rw [if_pos (by omega), show m * 3 + r - m * 3 = r by omega]
      simp [hm]
    · rw [if_neg (by omega)]
      congr 2
      simp [Ne.symm e]
  · rw [List.getElem?_eq_none (by rw [qcells_len]; simp; omega), if_neg (by omega), List.getElem?_eq_none (by rw [qcells_len]; omega)]

theorem OwnPr.setP {w : World} {v : Value} {g j : Nat} {ts : List Pr} (x : Pr) (h : OwnPr w v ts (some g)) (hj : j < ts.length) : OwnPr (w.setCells g (j * 3) x.cells) v (ts.set j x) (some g) := by
  rcases h with ⟨_, _, h⟩ | ⟨g', cap, e, rfl, hg, h1, h2, h3, h4, h5⟩
  · simp at h
  · simp at e; subst e
    refine .inr ⟨g, cap, rfl, by simp, by rw [setCells_size]; exact hg, by simpa using h1, h2, fun i hi => ?_, fun i hi => ?_, fun i hi => ?_⟩
    · rw [World.frozen?_setCells]; exact h3 i hi
    · exact isSome_setCells g _ _ w _ (h4 i hi)
    · rw [List.length_set] at hi
      rw [qcells_set ts j x hj i]
      have hxl : x.cells.length = 3 := rfl
      by_cases hin : j * 3 ≤ i ∧ i < j * 3 + 3
      · rw [if_pos hin]
        have := World.cell?_setCells_in g x.cells (j * 3) w (fun m hm => h4 _ (by rw [hxl] at hm; omega)) (i - j * 3) (by rw [hxl]; omega)
        rw [show j * 3 + (i - j * 3) = i by omega] at this
        rw [this, List.getElem?_eq_getElem (by rw [hxl]; omega)]
      · rw [if_neg hin, ← h5 i hi]
        refine World.cell?_setCells_out g _ _ w _ (fun _ _ => ?_)
        rw [hxl]
        simp only
        omega
theorem OwnPr.fz {w : World} {v : Value} {g : Nat} {ts : List Pr} (h : OwnPr w v ts (some g)) {j : Nat} (hj : j < 3 * ts.length) : w.frozen? ⟨g, j, none⟩ = false := by
  rcases h with ⟨_, _, h⟩ | ⟨g', cap, e, rfl, hg, h1, h2, h3, h4, h5⟩
  · simp at h
  · simp at e; subst e
    exact h3 j (by omega)

theorem RoomAt.reads {w : World} {g n cap : Nat} {ps : List Pr} (h : RoomAt w g n cap ps) (hl : ps.length ≤ 8796093022000) (hok : ∀ x ∈ ps, x.Ok) : PrsAt w (.slice (some ⟨g, 0, none⟩) ps.length cap) ps := by
  obtain ⟨_, h⟩ := h
  refine ⟨_, cap, rfl, hl, hok, fun _ => ⟨g, 0, rfl, fun j hj => ?_⟩⟩
  have := h.at (j := j) (by simp; omega)
  have e : (ps ++ [mkP (-1), mkP (-2)]).getD j Pr.zero = ps.getD j Pr.zero := by simp [List.getElem?_append_left hj]
  rw [e] at this
  rw [Nat.zero_add]
  exact this
theorem RoomAt.later {w w' : World} {g n cap : Nat} {ps : List Pr} (h : RoomAt w g n cap ps) (hb : Below w.heap.size w w') : RoomAt w' g n cap ps := ⟨h.1, h.2.later hb⟩
theorem RoomAt.lt {w : World} {g n cap : Nat} {ps : List Pr} (h : RoomAt w g n cap ps) : g < w.heap.size := h.2.lt
set_option maxHeartbeats 2000000 in
theorem keptOf (g cap : Nat) (v : Value) (ps : List Pr) (w : World) (hR : RoomAt w g ps.length cap ps) (h : PrsAt w v ps) : Calls Tryd.prog 19 #[.slice (some ⟨g, 0, none⟩) ps.length cap, v] w fun e w' => e = .returned (.bool true) ∧ Below w.heap.size w w' := by
  have hpl : ps.length ≤ 8796093022000 := by obtain ⟨_, _, _, h, _⟩ := h; exact h
  have hok : ∀ x ∈ ps, x.Ok := by obtain ⟨_, _, _, _, h, _⟩ := h; exact h
  have HS : Hid (Calls Tryd.prog 13 #[.slice (some ⟨g, 0, none⟩) ps.length cap, v] w fun e w' => e = .returned (.bool true) ∧ Below w.heap.size w w') := sameB _ _ ps w (hR.reads hpl hok) h
  obtain ⟨a0, cap0, rfl⟩ : ∃ a c, v = .slice a ps.length c := by obtain ⟨x, y, e, _⟩ := h; exact ⟨x, y, e⟩
  have h1 := (hR.2.at (j := ps.length) (by simp)).c0
  have h2 := (hR.2.at (j := ps.length + 1) (by simp)).c0
  have HM : Hid (∀ u, Below w.heap.size w u → u.cell? ⟨g, ps.length * 3, none⟩ = some (.int .i64 (-1)) ∧ u.cell? ⟨g, (ps.length + 1) * 3, none⟩ = some (.int .i64 (-2))) := fun u hu => by
    refine ⟨(hu.cell (p := ⟨g, _, none⟩) hR.lt).trans ?_, (hu.cell (p := ⟨g, _, none⟩) hR.lt).trans ?_⟩
    · rw [h1]; simp [mkP]
    · rw [h2]; simp [mkP]
  obtain ⟨a', c', e, hcm, hcl⟩ := hR.2.shape
  have hcl' : ps.length + 2 ≤ cap := by
    simp at e
    simp at hcl
    omega
  have hcm' : cap ≤ maxLen := by
    simp at e
    omega
  unfold maxLen at hcm'
  clear h1 h2 e hcm hcl h hR hok
  go_enter Tryd.func19, Tryd.ntmps19
  go_wp2_with fail
  refine HS.out.mono ?_
  rintro e w1 ⟨rfl, hb⟩
  have HB : Hid (Below w.heap.size w w1) := hb
  obtain ⟨m1, m2⟩ := HM.out w1 hb
  clear hb
  have hi2 : ps.length + 1 < ps.length + 2 := by omega
  have hi1 : ps.length < ps.length + 2 := by omega
  go_wp2
  go_ret
  exact ⟨rfl, HB.out⟩
theorem three_set (w : World) (g o : Nat) (x : Pr) : (((w.setCell ⟨g, o, none⟩ (.int .i64 x.pid)).setCell ⟨g, o + 1, none⟩ (.int .i64 x.seq)).setCell ⟨g, o + 2, none⟩ (.int .i64 x.off)) = w.setCells g o x.cells := rfl
theorem OwnPr.where {w : World} {x : Option Addr} {n c : Nat} {ts : List Pr} {r : Option Nat} (h : OwnPr w (.slice x n c) ts r) {k : Nat} (hk : k < ts.length) : ∃ g, r = some g ∧ x = some ⟨g, 0, none⟩ := by
  rcases h with ⟨_, rfl, _⟩ | ⟨g, cap, rfl, e, _⟩
  · simp at hk
  · simp at e; exact ⟨g, rfl, e.1⟩
set_option maxHeartbeats 4000000 in
theorem spoilOf (v : Value) (L : List Pr) (r : Option Nat) (w : World) (ho : OwnPr w v L r) (hl : L.length ≤ 64) : Calls Tryd.prog 20 #[v] w fun e w' => e = .returned (.bool true) ∧ Chg (fun k => r = some k) w w' := by
  obtain ⟨a, cap, rfl, -, -⟩ := ho.shape
  have HO : Hid (OwnPr w (.slice a L.length cap) L r) := ho
  generalize hn : L.length = n at *
  clear ho
  go_enter Tryd.func20, Tryd.ntmps20
  go_wp2
  go_loopw [3] (fun i wr => ∃ (k : Nat) (M : List Pr), k ≤ n ∧ i = .int .i64 k ∧ M.length = n ∧ Hid (OwnPr wr (.slice a n cap) M r) ∧ Hid (Chg (fun k => r = some k) w wr))
    (fun i _ => n - (intOf i).toNat)
  case atStart => exact ⟨0, L, Nat.zero_le _, rfl, hn, HO.out, Chg.refl _ _⟩
  case round =>
    obtain ⟨k, M, hk, rfl, hM, HOW, HCH⟩ := hrel
    by_cases hlt : k < n
    · obtain ⟨g, rfl, rfl⟩ := HOW.out.where (k := k) (by omega)
      obtain ⟨c0, c1, c2⟩ := HOW.out.at (j := k) (by omega)
      have f0 := HOW.out.fz (j := k * 3) (by omega)
      have f1 := HOW.out.fz (j := k * 3 + 1) (by omega)
      have f2 := HOW.out.fz (j := k * 3 + 2) (by omega)
      have hki : (k : Int) < (n : Int) := by omega
      have HN : Hid (OwnPr (((wr.setCell ⟨g, k * 3, none⟩ (.int .i64 (-7))).setCell ⟨g, k * 3 + 1, none⟩ (.int .i64 (k : Int))).setCell ⟨g, k * 3 + 2, none⟩ (.int .i64 0)) (.slice (some ⟨g, 0, none⟩) n cap) (M.set k ⟨-7, k, 0⟩) (some g) ∧ Chg (fun k => some g = some k) w (((wr.setCell ⟨g, k * 3, none⟩ (.int .i64 (-7))).setCell ⟨g, k * 3 + 1, none⟩ (.int .i64 (k : Int))).setCell ⟨g, k * 3 + 2, none⟩ (.int .i64 0))) := by
        have e := three_set wr g (k * 3) ⟨-7, k, 0⟩
        simp only at e
        rw [e]
        exact ⟨HOW.out.setP ⟨-7, k, 0⟩ (by omega), HCH.out.grown (grow_setCells _ _ _ _) (fun g' e => by cases e; exact .inl rfl)⟩
      go_wp2
      go_roundw
      case rel => exact ⟨k + 1, M.set k ⟨-7, k, 0⟩, by omega, by go_num, by simpa using hM, HN.out.1, HN.out.2⟩
      case measure => simp [intOf]; omega
    · have hki : ¬ (k : Int) < (n : Int) := by omega
      go_wp2
      go_loopw [4, 5] (fun s4 i wx => ∃ (j : Nat) (N : List Pr) (x : Option Addr) (c : Nat) (q : Option Nat), j ≤ 64 ∧ i = .int .i64 j ∧ s4 = .slice x N.length c ∧ N.length = n + j ∧ Hid (OwnPr wx (.slice x N.length c) N q) ∧ Hid (∀ g, q = some g → r = some g ∨ w.heap.size ≤ g) ∧ Hid (Chg (fun k => r = some k) w wx))
        (fun _ i _ => 64 - (intOf i).toNat)
      case atStart => exact ⟨0, M, a, cap, r, by omega, rfl, by rw [hM], by omega, by rw [hM]; exact HOW.out, (fun g e => .inl e), HCH.out⟩
      case round =>
        obtain ⟨j, N, x, c, q, hj, rfl, rfl, hN, HO2, HQ, HC2⟩ := hrel
        by_cases hj64 : j < 64
        · have hji : (j : Int) < 64 := by omega
          have HSRC : Hid (Src Tryd.prog 3 30 (.slice (some ⟨wr.heap.size, 0, none⟩) 1 1) [mkP (-8)].length (qcells [mkP (-8)]) (wr.alloc (.cells #[.int .i64 (-8), .int .i64 0, .int .i64 0] 50))) := src_pr wr (mkP (-8))
          go_wp2_with (at_builtin; refine wpList_append_q _ rfl _ _ rfl _ _ N [mkP (-8)] q rfl rfl ?hOwn ?hSrc ?hLen ?hR ?_)
          case hOwn => exact HO2.out.later (bel_al _ _)
          case hSrc => exact HSRC.out
          case hLen => simp; omega
          case hR => exact .inr (by simp)
          intro v8 w8 g8 ho8 hg8 hr8
          have hlen8 : (N ++ [mkP (-8)]).length = N.length + 1 := by simp
          obtain ⟨x8, c8, rfl, -, -⟩ := ho8.shape
          have HA : Hid (OwnPr w8 (.slice x8 (N ++ [mkP (-8)]).length c8) (N ++ [mkP (-8)]) (some g8) ∧ (∀ g, some g8 = some g → r = some g ∨ w.heap.size ≤ g) ∧ Chg (fun k => r = some k) w w8) := by
            refine ⟨ho8, fun g e => ?_, (HC2.out.more (bel_al _ _)).grown hg8 HQ.out⟩
            cases e
            have hsz := HC2.out.size
            rcases hr8 with h | h
            · exact HQ.out g8 h.symm
            · right; first | omega | (simp at h; omega)
          clear ho8 hg8 hr8 HSRC
          generalize hM8 : N ++ [mkP (-8)] = N8 at HA hlen8
          clear hM8
          go_wp2
          go_roundw
          case rel => exact ⟨j + 1, N8, x8, c8, some g8, by omega, by go_num, rfl, by omega, HA.out.1, HA.out.2.1, HA.out.2.2⟩
          case measure => simp [intOf]; omega
        · obtain rfl : j = 64 := by omega
          have hNi : (N.length : Int) = (n : Int) + 64 := by omega
          go_wp2
          go_ret
          exact ⟨by simp [hNi], HC2.out⟩
end Go.Proofs.YtlbofjeopbadhaaDoor
