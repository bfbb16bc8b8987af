import Derived.Test.YtpdhkojiehifeaaRc
import Derived.Deep.Quiet
/-! The law's own helpers: alike, kept, back. -/
namespace Go.Proofs.Ytpdhkojiehifeaa
open Go.RowKit Plain
set_option linter.unusedVariables false

set_option maxHeartbeats 1000000 in
theorem alikeYes (va vb : Value) (st : List Rc) (w : World) (ha : RecsAt w va st) (hb : RecsAt w vb st) :
    Calls Try.prog 10 #[va, vb] w fun e w' => e = .returned (.bool true) ∧ ∃ n, w' = w.drewN n := by
  obtain ⟨a, cap, rfl, hcl, -, hcells⟩ := ha
  obtain ⟨a', cap', rfl, -, -, hcells'⟩ := hb
  by_cases hnil : st = []
  · subst hnil
    clear hcells hcells'
    go_enter Try.func10, Try.ntmps10
    go_wp2
    refine wp_loop_rounds 1 ?_
    rw [rounds_succ]
    go_wp2
    go_ret
    exact ⟨rfl, 0, rfl⟩
  · obtain ⟨b, off, rfl, hc⟩ := hcells hnil
    obtain ⟨b', off', rfl, hc'⟩ := hcells' hnil
    have HC : Hid (∀ j, j < st.length → CellsAt w b (off + j * 7) (st.getD j Rc.none)) := hc
    have HC' : Hid (∀ j, j < st.length → CellsAt w b' (off' + j * 7) (st.getD j Rc.none)) := hc'
    clear hcells hcells' hc hc' hnil
    go_enter Try.func10, Try.ntmps10
    go_wp2
    go_loopw [5] (fun i w' => ∃ k n : Nat, w' = w.drewN n ∧ k ≤ st.length ∧ i = .int .i64 k) (fun i _ => st.length - (intOf i).toNat)
    case atStart => exact ⟨0, 0, rfl, by omega, rfl⟩
    case round =>
      obtain ⟨k, n, rfl, hk, rfl⟩ := hrel
      by_cases hlt : k < st.length
      · have hx := HC.out k hlt
        have hy := HC'.out k hlt
        generalize st.getD k Rc.none = x at hx hy
        obtain ⟨xk, xo, xt, xp, xq, xkey, xval⟩ := x
        obtain ⟨c0, c1, c2, c3, c4, c5, c6⟩ := hx
        obtain ⟨d0, d1, d2, d3, d4, d5, d6⟩ := hy
        simp only at c0 c1 c2 c3 c4 c5 c6 d0 d1 d2 d3 d4 d5 d6
        go_wp2
        go_quiet (fail)
        go_wp2
        go_roundw
        case rel => exact ⟨k + 1, _, rfl, by omega, by go_num⟩
        case measure => simp [intOf]; omega
      · go_wp2
        go_ret
        exact ⟨rfl, _, rfl⟩

/-- The record with which the helpers mark. -/
def mkR (k : Int) (o : Int) : Rc := ⟨k, o, 0, 0, 0, ⟨#[]⟩, ⟨#[]⟩⟩

/-- A record is written over another. -/
theorem rcells_set (ts : List Rc) (j : Nat) (x : Rc) (h : j < ts.length) (i : Nat) : (rcells (ts.set j x))[i]? = if j * 7 ≤ i ∧ i < j * 7 + 7 then x.cells[i - j * 7]? else (rcells ts)[i]? := by
  by_cases hi : i < 7 * ts.length
  · obtain ⟨m, r, hm, hr, rfl⟩ : ∃ m r, m < ts.length ∧ r < 7 ∧ i = m * 7 + r := ⟨i / 7, i % 7, by omega, by omega, by omega⟩
    rw [rcells_get (ts.set j x) m r (by simpa using hm) hr, rcells_get ts m r hm hr]
    by_cases e : m = j
    · subst e
      rw [if_pos (by omega), show m * 7 + r - m * 7 = r by omega]
      simp [hm]
    · rw [if_neg (by omega)]
      congr 2
      simp [Ne.symm e]
  · rw [List.getElem?_eq_none (by rw [rcells_len]; simp; omega), if_neg (by omega), List.getElem?_eq_none (by rw [rcells_len]; omega)]

theorem OwnR.setR {w : World} {v : Value} {g j : Nat} {ts : List Rc} (x : Rc) (h : OwnR w v ts (some g)) (hj : j < ts.length) : OwnR (w.setCells g (j * 7) x.cells) v (ts.set j x) (some g) := by
  rcases h with ⟨_, _, h⟩ | ⟨g', cap, e, rfl, hg, h1, h2, h3, h4, h5⟩
  · simp at h
  · simp at e; subst e
    refine .inr ⟨g, cap, rfl, by simp, by rw [setCells_size]; exact hg, by simpa using h1, h2, fun i hi => ?_, fun i hi => ?_, fun i hi => ?_⟩
    · rw [World.frozen?_setCells]; exact h3 i hi
    · exact isSome_setCells g _ _ w _ (h4 i hi)
    · rw [List.length_set] at hi
      rw [rcells_set ts j x hj i]
      have hxl : x.cells.length = 7 := rfl
      by_cases hin : j * 7 ≤ i ∧ i < j * 7 + 7
      · rw [if_pos hin]
        have := World.cell?_setCells_in g x.cells (j * 7) w (fun m hm => h4 _ (by rw [hxl] at hm; omega)) (i - j * 7) (by rw [hxl]; omega)
        rw [show j * 7 + (i - j * 7) = i by omega] at this
        rw [this, List.getElem?_eq_getElem (by rw [hxl]; omega)]
      · rw [if_neg hin, ← h5 i hi]
        refine World.cell?_setCells_out g _ _ w _ (fun _ _ => ?_)
        rw [hxl]
        simp only
        omega
theorem OwnR.fz {w : World} {v : Value} {g : Nat} {ts : List Rc} (h : OwnR w v ts (some g)) {j : Nat} (hj : j < 7 * ts.length) : w.frozen? ⟨g, j, none⟩ = false := by
  rcases h with ⟨_, _, h⟩ | ⟨g', cap, e, rfl, hg, h1, h2, h3, h4, h5⟩
  · simp at h
  · simp at e; subst e
    exact h3 j (by omega)

theorem seven_set (w : World) (g o : Nat) (x : Rc) : (((((((w.setCell ⟨g, o, none⟩ (.int .i64 x.k)).setCell ⟨g, o + 1, none⟩ (.int .i64 x.o)).setCell ⟨g, o + 2, none⟩ (.int .i64 x.t)).setCell ⟨g, o + 3, none⟩ (.int .i64 x.p)).setCell ⟨g, o + 4, none⟩ (.int .i64 x.q)).setCell ⟨g, o + 5, none⟩ (.string x.key)).setCell ⟨g, o + 6, none⟩ (.string x.val)) = w.setCells g o x.cells := rfl

/-- The cells of a row at a place, and that they may be written. -/
structure Open (w : World) (g o : Nat) : Prop where
  c : ∃ y : Rc, CellsAt w g o y
  f0 : w.frozen? ⟨g, o, none⟩ = false
  f1 : w.frozen? ⟨g, o + 1, none⟩ = false
  f2 : w.frozen? ⟨g, o + 2, none⟩ = false
  f3 : w.frozen? ⟨g, o + 3, none⟩ = false
  f4 : w.frozen? ⟨g, o + 4, none⟩ = false
  f5 : w.frozen? ⟨g, o + 5, none⟩ = false
  f6 : w.frozen? ⟨g, o + 6, none⟩ = false
theorem OwnR.open {w : World} {v : Value} {g : Nat} {ts : List Rc} (h : OwnR w v ts (some g)) {j : Nat} (hj : j < ts.length) : Open w g (j * 7) :=
  ⟨⟨_, h.at hj⟩, h.fz (by omega), h.fz (by omega), h.fz (by omega), h.fz (by omega), h.fz (by omega), h.fz (by omega), h.fz (by omega)⟩

theorem back_step (st ts : List Rc) (k : Nat) (h1 : k < st.length) (h2 : st.length ≤ ts.length) : (st.take k ++ ts.drop k).set k (st.getD k Rc.none) = st.take (k + 1) ++ ts.drop (k + 1) := by
  have hk : (st.take k).length = k := by simp; omega
  rw [List.set_append_right _ _ (by omega), hk, Nat.sub_self, List.drop_eq_getElem_cons (by omega), List.set_cons_zero, List.take_succ_eq_append_getElem h1, List.append_assoc]
  congr 1
  simp [h1]

set_option maxHeartbeats 1000000 in
/-- The list is written back into the row. -/
theorem backAny (g cap : Nat) (vb : Value) (st ts : List Rc) (w0 w : World) (hlen : st.length ≤ ts.length) (ho : OwnR w (.slice (some ⟨g, 0, none⟩) ts.length cap) ts (some g)) (hr : RecsAt w0 vb st) (hb : Below w0.heap.size w0 w) (hg : w0.heap.size ≤ g) :
    Calls Try.prog 7 #[.slice (some ⟨g, 0, none⟩) st.length cap, vb] w fun e w' => e = .returned (.tuple #[]) ∧ OwnR w' (.slice (some ⟨g, 0, none⟩) ts.length cap) (st ++ ts.drop st.length) (some g) ∧ w.grownBy w' (some g) := by
  obtain ⟨a, capb, rfl, hcl, hok, hcells⟩ := hr
  have HC : Hid (st ≠ [] → ∃ b off, a = some ⟨b, off, none⟩ ∧ ∀ j, j < st.length → CellsAt w0 b (off + j * 7) (st.getD j Rc.none)) := hcells
  have HO : Hid (OwnR w (.slice (some ⟨g, 0, none⟩) ts.length cap) ts (some g)) := ho
  have HB : Hid (Below w0.heap.size w0 w) := hb
  clear hcells ho hb hok
  go_enter Try.func7, Try.ntmps7
  go_wp2
  go_loopw [4] (fun i wr => ∃ k : Nat, k ≤ st.length ∧ i = .int .i64 k ∧ OwnR wr (.slice (some ⟨g, 0, none⟩) ts.length cap) (st.take k ++ ts.drop k) (some g) ∧ w.grownBy wr (some g)) (fun i _ => st.length - (intOf i).toNat)
  case atStart => exact ⟨0, by omega, rfl, by simpa using HO.out, below_grow (Below.refl _ _) _⟩
  case round =>
    obtain ⟨k, hk, rfl, hown, hgr⟩ := hrel
    have HOW : Hid (OwnR wr (.slice (some ⟨g, 0, none⟩) ts.length cap) (st.take k ++ ts.drop k) (some g)) := hown
    have HG : Hid (w.grownBy wr (some g)) := hgr
    clear hown hgr
    by_cases hlt : k < st.length
    · have hne : st ≠ [] := by rintro rfl; simp at hlt
      obtain ⟨b, off, rfl, hc⟩ := HC.out hne
      have hck := hc k hlt
      have hbw : Below w0.heap.size w0 wr := HB.out.trans (grow_below HG.out HB.out.size (fun q hq => by simp at hq; omega))
      have hx := hck.block (hbw.block b hck.lt)
      have hbl := hck.lt
      obtain ⟨⟨y, hy⟩, f0, f1, f2, f3, f4, f5, f6⟩ := HOW.out.open (j := k) (by simp; omega)
      have HN : Hid (OwnR (wr.setCells g (k * 7) (st.getD k Rc.none).cells) (.slice (some ⟨g, 0, none⟩) ts.length cap) (st.take (k + 1) ++ ts.drop (k + 1)) (some g)) := by
        have := HOW.out.setR (st.getD k Rc.none) (j := k) (by simp; omega)
        rw [back_step st ts k hlt hlen] at this
        exact this
      have HG2 : Hid (w.grownBy (wr.setCells g (k * 7) (st.getD k Rc.none).cells) (some g)) := grow_trans HG.out (grow_setCells wr g _ _) (.inl rfl)
      generalize st.getD k Rc.none = x at hx HN HG2
      obtain ⟨xk, xo, xt, xp, xq, xkey, xval⟩ := x
      obtain ⟨yk, yo, yt, yp, yq, ykey, yval⟩ := y
      obtain ⟨c0, c1, c2, c3, c4, c5, c6⟩ := hx
      obtain ⟨d0, d1, d2, d3, d4, d5, d6⟩ := hy
      simp only at c0 c1 c2 c3 c4 c5 c6 d0 d1 d2 d3 d4 d5 d6
      clear hck hc hne hbw
      go_wp2
      go_roundw
      case rel => exact ⟨k + 1, by omega, by go_num, HN.out, HG2.out⟩
      case measure => simp [intOf]; omega
    · obtain rfl : k = st.length := by omega
      have HF : Hid (OwnR wr (.slice (some ⟨g, 0, none⟩) ts.length cap) (st ++ ts.drop st.length) (some g)) := by have := HOW.out; rwa [List.take_length] at this
      clear HC
      go_wp2
      go_end0
      exact ⟨rfl, HF.out, HG.out⟩

set_option maxHeartbeats 1000000 in
/-- Are they these still, and is the mark there? -/
theorem keptAny (g cap : Nat) (vb : Value) (st : List Rc) (w : World) (hl : st.length ≤ 2199023255000) (hok : ∀ x ∈ st, x.Ok) (ho : OwnR w (.slice (some ⟨g, 0, none⟩) (st.length + 1) cap) (st ++ [mkR (-77) 0]) (some g)) (hr : RecsAt w vb st) :
    Calls Try.prog 11 #[.slice (some ⟨g, 0, none⟩) st.length cap, vb] w fun e w' => e = .returned (.bool true) ∧ ∃ n, w' = w.drewN n := by
  have hc7 := (ho.at (j := st.length) (by simp)).c0
  rw [show ((st ++ [mkR (-77) 0]).getD st.length Rc.none).k = -77 by simp [mkR]] at hc7
  have HA : Hid (RecsAt w (.slice (some ⟨g, 0, none⟩) st.length cap) st) := by
    refine ⟨_, cap, rfl, hl, hok, fun _ => ⟨g, 0, rfl, fun j hj => ?_⟩⟩
    have := ho.at (j := j) (by simp; omega)
    rw [show (st ++ [mkR (-77) 0]).getD j Rc.none = st.getD j Rc.none by simp [List.getElem?_append_left hj]] at this
    rw [Nat.zero_add]
    exact this
  have HR : Hid (RecsAt w vb st) := hr
  have hcap : st.length + 1 ≤ cap ∧ cap ≤ 9223372036854775807 := by
    rcases ho with ⟨_, _, h⟩ | ⟨g', cap', e, e2, hg, h1, h2, _⟩
    · simp at h
    · injection e2 with _ _ e3
      unfold maxLen at h2
      simp at h1
      omega
  obtain ⟨a, capb, rfl, -⟩ := hr
  clear ho hok
  go_enter Try.func11, Try.ntmps11
  go_wp2_with fail
  refine (alikeYes _ _ st w HA.out HR.out).mono ?_
  rintro e w1 ⟨rfl, n, rfl⟩
  go_wp2
  go_ret
  exact ⟨rfl, n, rfl⟩
end Go.Proofs.Ytpdhkojiehifeaa
