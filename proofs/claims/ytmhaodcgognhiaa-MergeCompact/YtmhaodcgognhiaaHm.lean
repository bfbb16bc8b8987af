import Derived.Test.YtmhaodcgognhiaaRc
import Derived.Deep.Quiet
/-! The law's own helpers: alike, kept, back. -/
namespace Go.Proofs.Ytmhaodcgognhiaa
open Go.RowKit Plain
set_option linter.unusedVariables false

set_option maxHeartbeats 1000000 in
theorem alikeYes (va vb : Value) (st : List Rc) (w : World) (ha : RecsAt w va st) (hb : RecsAt w vb st) :
    Calls Try.prog 14 #[va, vb] w fun e w' => e = .returned (.bool true) ∧ ∃ n, w' = w.drewN n := by
  obtain ⟨a, cap, rfl, hcl, -, hcells⟩ := ha
  obtain ⟨a', cap', rfl, -, -, hcells'⟩ := hb
  by_cases hnil : st = []
  · subst hnil
    clear hcells hcells'
    go_enter Try.func14, Try.ntmps14
    go_wp2
    refine wp_loop_rounds 1 ?_
    rw [rounds_succ]
    go_wp2
    go_ret
    exact ⟨rfl, 0, rfl⟩
  · obtain ⟨b, off, rfl, hc⟩ := hcells hnil
    obtain ⟨b', off', rfl, hc'⟩ := hcells' hnil
    have HC : Hid (∀ j, j < st.length → CellsAt w b (off + j * 7) (st.getD j Rc.none)) := hc
    have HC' : Hid (∀ j, j < st.length → CellsAt w b' (off' + j * 7) (st.getD j Rc.none)) := hc'
    clear hcells hcells' hc hc' hnil
    go_enter Try.func14, Try.ntmps14
    go_wp2
    go_loopw [5] (fun i w' => ∃ k n : Nat, w' = w.drewN n ∧ k ≤ st.length ∧ i = .int .i64 k) (fun i _ => st.length - (intOf i).toNat)
    case atStart => exact ⟨0, 0, rfl, by omega, rfl⟩
    case round =>
      obtain ⟨k, n, rfl, hk, rfl⟩ := hrel
      by_cases hlt : k < st.length
      · have hx := HC.out k hlt
        have hy := HC'.out k hlt
        generalize st.getD k Rc.none = x at hx hy
        obtain ⟨xk, xo, xt, xp, xq, xkey, xval⟩ := x
        obtain ⟨c0, c1, c2, c3, c4, c5, c6⟩ := hx
        obtain ⟨d0, d1, d2, d3, d4, d5, d6⟩ := hy
        simp only at c0 c1 c2 c3 c4 c5 c6 d0 d1 d2 d3 d4 d5 d6
        go_wp2
        go_quiet (fail)
        go_wp2
        go_roundw
        case rel => exact ⟨k + 1, _, rfl, by omega, by go_num⟩
        case measure => simp [intOf]; omega
      · go_wp2
        go_ret
        exact ⟨rfl, _, rfl⟩

/-- The record with which the helpers mark. -/
def mkR (k : Int) (o : Int) : Rc := ⟨k, o, 0, 0, 0, ⟨#[]⟩, ⟨#[]⟩⟩

/-- A record is written over another. -/
theorem rcells_set (ts : List Rc) (j : Nat) (x : Rc) (h : j < ts.length) (i : Nat) : (rcells (ts.set j x))[i]? = if j * 7 ≤ i ∧ i < j * 7 + 7 then x.cells[i - j * 7]? else (rcells ts)[i]? := by
  by_cases hi : i < 7 * ts.length
  · obtain ⟨m, r, hm, hr, rfl⟩ : ∃ m r, m < ts.length ∧ r < 7 ∧ i = m * 7 + r := ⟨i / 7, i % 7, by omega, by omega, by omega⟩
    rw [rcells_get (ts.set j x) m r (by simpa using hm) hr, rcells_get ts m r hm hr]
    by_cases e : m = j
    · subst e
      rw [if_pos (by omega), show m * 7 + r - m * 7 = r by omega]
      simp [hm]
    · rw [if_neg (by omega)]
      congr 2
      simp [Ne.symm e]
  · rw [List.getElem?_eq_none (by rw [rcells_len]; simp; omega), if_neg (by omega), List.getElem?_eq_none (by rw [rcells_len]; omega)]

theorem OwnR.setR {w : World} {v : Value} {g j : Nat} {ts : List Rc} (x : Rc) (h : OwnR w v ts (some g)) (hj : j < ts.length) : OwnR (w.setCells g (j * 7) x.cells) v (ts.set j x) (some g) := by
  rcases h with ⟨_, _, h⟩ | ⟨g', cap, e, rfl, hg, h1, h2, h3, h4, h5⟩
  · simp at h
  · simp at e; subst e
    refine .inr ⟨g, cap, rfl, by simp, by rw [setCells_size]; exact hg, by simpa using h1, h2, fun i hi => ?_, fun i hi => ?_, fun i hi => ?_⟩
    · rw [World.frozen?_setCells]; exact h3 i hi
    · exact isSome_setCells g _ _ w _ (h4 i hi)
    · rw [List.length_set] at hi
      rw [rcells_set ts j x hj i]
      have hxl : x.cells.length = 7 := rfl
      by_cases hin : j * 7 ≤ i ∧ i < j * 7 + 7
      · rw [if_pos hin]
        have := World.cell?_setCells_in g x.cells (j * 7) w (fun m hm => h4 _ (by rw [hxl] at hm; omega)) (i - j * 7) (by rw [hxl]; omega)
        rw [show j * 7 + (i - j * 7) = i by omega] at this
        rw [this, List.getElem?_eq_getElem (by rw [hxl]; omega)]
      · rw [if_neg hin, ← h5 i hi]
        refine World.cell?_setCells_out g _ _ w _ (fun _ _ => ?_)
        rw [hxl]
        simp only
        omega
theorem OwnR.fz {w : World} {v : Value} {g : Nat} {ts : List Rc} (h : OwnR w v ts (some g)) {j : Nat} (hj : j < 7 * ts.length) : w.frozen? ⟨g, j, none⟩ = false := by
  rcases h with ⟨_, _, h⟩ | ⟨g', cap, e, rfl, hg, h1, h2, h3, h4, h5⟩
  · simp at h
  · simp at e; subst e
    exact h3 j (by omega)

theorem seven_set (w : World) (g o : Nat) (x : Rc) : (((((((w.setCell ⟨g, o, none⟩ (.int .i64 x.k)).setCell ⟨g, o + 1, none⟩ (.int .i64 x.o)).setCell ⟨g, o + 2, none⟩ (.int .i64 x.t)).setCell ⟨g, o + 3, none⟩ (.int .i64 x.p)).setCell ⟨g, o + 4, none⟩ (.int .i64 x.q)).setCell ⟨g, o + 5, none⟩ (.string x.key)).setCell ⟨g, o + 6, none⟩ (.string x.val)) = w.setCells g o x.cells := rfl

/-- The cells of a row at a place, and that they may be written. -/
structure Open (w : World) (g o : Nat) : Prop where
  c : ∃ y : Rc, CellsAt w g o y
  f0 : w.frozen? ⟨g, o, none⟩ = false
  f1 : w.frozen? ⟨g, o + 1, none⟩ = false
  f2 : w.frozen? ⟨g, o + 2, none⟩ = false
  f3 : w.frozen? ⟨g, o + 3, none⟩ = false
  f4 : w.frozen? ⟨g, o + 4, none⟩ = false
  f5 : w.frozen? ⟨g, o + 5, none⟩ = false
  f6 : w.frozen? ⟨g, o + 6, none⟩ = false
theorem OwnR.open {w : World} {v : Value} {g : Nat} {ts : List Rc} (h : OwnR w v ts (some g)) {j : Nat} (hj : j < ts.length) : Open w g (j * 7) :=
  ⟨⟨_, h.at hj⟩, h.fz (by omega), h.fz (by omega), h.fz (by omega), h.fz (by omega), h.fz (by omega), h.fz (by omega), h.fz (by omega)⟩

theorem back_step (st ts : List Rc) (k : Nat) (h1 : k < st.length) (h2 : st.length ≤ ts.length) : (st.take k ++ ts.drop k).set k (st.getD k Rc.none) = st.take (k + 1) ++ ts.drop (k + 1) := by
  have hk : (st.take k).length = k := by simp; omega
  rw [List.set_append_right _ _ (by omega), hk, Nat.sub_self, List.drop_eq_getElem_cons (by omega), List.set_cons_zero, List.take_succ_eq_append_getElem h1, List.append_assoc]
  congr 1
  simp [h1]

end Go.Proofs.Ytmhaodcgognhiaa
