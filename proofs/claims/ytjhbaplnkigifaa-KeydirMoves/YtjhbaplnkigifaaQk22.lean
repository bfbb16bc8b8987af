import Derived.Test.YtjhbaplnkigifaaQk21
/-! keydir: what Point answers; Put and Note of whatever key, of the program's dir. -/
namespace Go.Proofs.Ytjhbaplnkigifaa
open Go.RowKit Plain
set_option linter.unusedVariables false
set_option linter.unusedSimpArgs false

set_option maxHeartbeats 4000000 in
theorem pointAns {D : Nat → Prop} {gd : Nat} {l : List Ke} (key : ByteArray) (off seg pos : Int) (w : World) (hD : ∀ g, w.heap.size ≤ g → ¬ D g) (h : DirAt D w gd l) (hk : key.size ≤ maxLen) (hl : l.length ≤ 1125899906842600) : Calls Try.prog 15 #[.pointer (some ⟨gd, 0, none⟩), .string key, .int .i64 off, .int .i64 seg, .int .i64 pos] w fun e w' => e = .returned (.bool (pointB key off l)) ∧ w.grownBy w' (some gd) ∧ DirAt D w' gd (pointL key off seg pos l) := by
  have HGE : Hid (Calls Try.prog 17 #[.pointer (some ⟨gd, 0, none⟩), .string key] w fun e w' => e = .returned (.tuple #[(gotE (findL key l)).v, .bool (findL key l).isSome]) ∧ Below w.heap.size w w') := getOf key w h hk
  have hgl := h.lt
  have HDA : Hid (∀ u, Below w.heap.size w u → DirAt D u gd l) := fun u hu => h.later hu
  obtain ⟨hdg, hsr, hfz', n, p, hcd', ht'⟩ := h
  have HTA : Hid (∀ u, Below w.heap.size w u → TreeAt (fun g => ¬ D g) u n p l) := fun u hu => ht'.later hu
  have HDG : Hid (D gd) := hdg
  have HSR : Hid (Srt l) := hsr
  have HSH : Hid (∀ k ∈ l, k.key.size ≤ 64) := ht'.short
  cases hfd : findL key l with
  | none =>
    have HPL : Hid (pointL key off seg pos l = l) := by unfold Hid pointL; rw [hfd]
    have HPB : Hid (pointB key off l = false) := by unfold Hid pointB; rw [hfd]
    rw [hfd] at HGE
    obtain ⟨z, hz⟩ : ∃ z, gotE none = z := ⟨_, rfl⟩
    rw [hz] at HGE
    have HGE2 : Hid (Calls Try.prog 17 #[.pointer (some ⟨gd, 0, none⟩), .string key] w fun e w' => e = .returned (.tuple #[z.v, .bool false]) ∧ Below w.heap.size w w') := HGE
    clear HGE hfd hz ht' hcd' hfz' hdg hsr
    go_enter Try.func15, Try.ntmps15
    go_wp2_with fail
    refine HGE2.out.mono ?_
    rintro e w1 ⟨rfl, hb1⟩
    have HF : Hid (∀ w2, Below w1.heap.size w1 w2 → w.grownBy w2 (some gd) ∧ DirAt D w2 gd (pointL key off seg pos l)) := fun w2 h2 => by
      rw [HPL.out]
      exact ⟨below_grow (below_step' hb1 h2) _, HDA.out w2 (below_step' hb1 h2)⟩
    clear hb1
    go_wp2
    go_ret
    exact ⟨by rw [HPB.out]; rfl, HF.out _ ((Below.refl _ _).alloc (Nat.le_refl _) _)⟩
  | some k =>
    have hmem := findL_is hfd
    have hks : key.size ≤ 64 := by rw [← hmem.2]; exact HSH.out k hmem.1
    have HPB : Hid (pointB key off l = decide (k.e.off = off)) := by unfold Hid pointB; rw [hfd]
    have HPL : Hid (pointL key off seg pos l = if k.e.off = off then insL key ⟨seg, pos, k.e.size, k.e.off, k.e.time, k.e.tomb⟩ l else l) := by unfold Hid pointL; rw [hfd]
    rw [hfd] at HGE
    have HGE2 : Hid (Calls Try.prog 17 #[.pointer (some ⟨gd, 0, none⟩), .string key] w fun e w' => e = .returned (.tuple #[k.e.v, .bool true]) ∧ Below w.heap.size w w') := HGE
    clear HGE hfd hmem
    obtain ⟨kk, old⟩ := k
    obtain ⟨oa, ob, oc, od, ot, om⟩ := old
    simp only at HGE2 HPL HPB
    have hcdw : Hid (∀ u, Below w.heap.size w u → u.cell? ⟨gd, 0, none⟩ = some (.pointer p) ∧ u.frozen? ⟨gd, 0, none⟩ = false) := fun u hu => ⟨(hu.cell (p := ⟨gd, 0, none⟩) hgl).trans hcd', (hu.frozen (p := ⟨gd, 0, none⟩) hgl).trans hfz'⟩
    clear ht' hcd' hfz' hdg hsr
    go_enter Try.func15, Try.ntmps15
    go_wp2_with fail
    refine HGE2.out.mono ?_
    rintro e w1 ⟨rfl, hb1⟩
    have HB1 : Hid (Below w.heap.size w w1) := hb1
    have hs1 := hb1.size
    clear hb1 HGE2
    by_cases hoff : od = off
    · subst hoff
      have hoffT : od = od := rfl
      have HPL2 : Hid (pointL key od seg pos l = insL key ⟨seg, pos, oc, od, ot, om⟩ l) := by unfold Hid; rw [HPL.out, if_pos rfl]
      obtain ⟨w2, hw2⟩ : ∃ w2, w1.alloc (.cells #[.int .i64 seg, .int .i64 pos, .int .i64 oc, .int .i64 od, .int .i64 ot, .bool om] 38) = w2 := ⟨_, rfl⟩
      have hb12 : Below w1.heap.size w1 w2 := by rw [← hw2]; exact (Below.refl _ _).alloc (Nat.le_refl _) _
      have hb2 : Below w.heap.size w w2 := below_step' HB1.out hb12
      have HB2 : Hid (Below w.heap.size w w2) := hb2
      obtain ⟨d0, d1, d2, d3, d4, d5⟩ : EnAt w2 w1.heap.size ⟨seg, pos, oc, od, ot, om⟩ := by rw [← hw2]; exact EnAt.new w1 ⟨seg, pos, oc, od, ot, om⟩
      simp only at d0 d1 d2 d3 d4 d5
      have HW : Hid (∀ u, Below w2.heap.size w2 u → Calls Try.prog 41 #[.pointer p, .string key, En.v ⟨seg, pos, oc, od, ot, om⟩] u (TreeRet (fun g => ¬ D g) u (insL key ⟨seg, pos, oc, od, ot, om⟩ l))) := fun u hu => withOf _ key ⟨seg, pos, oc, od, ot, om⟩ hks n u p l (fun g hg => hD g (by have := hu.size; have := hb2.size; omega)) (HTA.out u (below_step' hb2 hu)) HSR.out (by omega)
      obtain ⟨hcd, hfz⟩ := hcdw.out w2 hb2
      clear hb12 hb2
      go_wp2
      go_region_with (first
        | (go_at_call 41
           refine (HW.out _ (by first | exact Below.refl _ _ | exact Below.drew (Below.refl _ _))).mono ?_
           rintro e w3 ⟨n3, p3, rfl, ht3, hb3⟩
           have hb23 : Below w2.heap.size w2 w3 := (by first | exact hb3 | exact (Below.drew (Below.refl _ w2)).trans hb3)
           have hcd3 := (hb23.cell (p := ⟨gd, 0, none⟩) (cell_lt hcd)).trans hcd
           have hfz3 := (hb23.frozen (p := ⟨gd, 0, none⟩) (cell_lt hcd)).trans hfz
           have HF : Hid (w.grownBy (w3.setCell ⟨gd, 0, none⟩ (.pointer p3)) (some gd) ∧ DirAt D (w3.setCell ⟨gd, 0, none⟩ (.pointer p3)) gd (insL key ⟨seg, pos, oc, od, ot, om⟩ l)) := rootEnd0 HDG.out (HSR.out.ins key _) (below_step' HB2.out hb23) (by rw [hcd3]; rfl) hfz3 ht3
           clear ht3 hb3 hb23 HW))
      all_goals
        go_wp2
        go_ret
        exact ⟨by rw [HPB.out, decide_eq_true hoffT]; rfl, by rw [HPL2.out]; exact HF.out⟩
    · have HPL2 : Hid (pointL key off seg pos l = l) := by unfold Hid; rw [HPL.out, if_neg hoff]
      have HF : Hid (∀ w2, Below w1.heap.size w1 w2 → w.grownBy w2 (some gd) ∧ DirAt D w2 gd (pointL key off seg pos l)) := fun w2 h2 => by
        rw [HPL2.out]
        exact ⟨below_grow (below_step' HB1.out h2) _, HDA.out w2 (below_step' HB1.out h2)⟩
      go_wp2
      go_ret
      exact ⟨by rw [HPB.out, decide_eq_false hoff]; rfl, HF.out _ ((Below.refl _ _).alloc (Nat.le_refl _) _)⟩

theorem putWhat {D : Nat → Prop} {gd : Nat} {l : List Ke} (key : ByteArray) (en : En) (w : World) (hD : ∀ g, w.heap.size ≤ g → ¬ D g) (h : DirAt D w gd l) (ha : AllK l) (hk : key.size ≤ maxLen) (hl : l.length ≤ 1125899906842600) :
    Calls Try.prog 11 #[.pointer (some ⟨gd, 0, none⟩), .string key, en.v] w fun e w' => e = .returned (.tuple #[(gotE (findL key l)).v, .bool (findL key l).isSome, .int .i64 (errK key)]) ∧ w.grownBy w' (some gd) ∧ DirAt D w' gd (putL key en l) := by
  unfold errK putL
  by_cases hok : okKey key = true
  · rw [if_pos hok, if_pos hok]
    obtain ⟨h1, h2⟩ := okKey_size hok
    exact putOf key en w hD h h1 h2 hl
  · rw [if_neg hok, if_neg hok]
    have hb : okKey key = false := by simpa using hok
    rw [ha.find hb]
    exact (putBad key en w hk hb).mono fun e w' ⟨q1, q2⟩ => ⟨q1, below_grow q2 _, h.later q2⟩
theorem noteWhat {D : Nat → Prop} {gd : Nat} {l : List Ke} (key : ByteArray) (en : En) (w : World) (hD : ∀ g, w.heap.size ≤ g → ¬ D g) (h : DirAt D w gd l) (ha : AllK l) (hk : key.size ≤ maxLen) (hl : l.length ≤ 1125899906842600) :
    Calls Try.prog 13 #[.pointer (some ⟨gd, 0, none⟩), .string key, en.v] w fun e w' => e = .returned (.tuple #[.bool (noteR key en l), .int .i64 (errK key)]) ∧ w.grownBy w' (some gd) ∧ DirAt D w' gd (noteP key en l) := by
  unfold errK noteP noteR
  by_cases hok : okKey key = true
  · rw [if_pos hok, hok, Bool.true_and]
    obtain ⟨h1, h2⟩ := okKey_size hok
    exact noteOf key en w hD h h1 h2 hl
  · have hb : okKey key = false := by simpa using hok
    rw [if_neg hok, hb, Bool.false_and]
    exact (noteBad key en w h hk hb (ha.find hb)).mono fun e w' ⟨q1, q2⟩ => ⟨q1, below_grow q2 _, h.later q2⟩
end Go.Proofs.Ytjhbaplnkigifaa

/-! keydir: the law's world; told. -/
namespace Go.Proofs.Ytjhbaplnkigifaa
open Go.RowKit Plain
set_option linter.unusedVariables false
set_option linter.unusedSimpArgs false

/-- Blocks of the law's own: the world, its three rows, the lists' rows. -/
def LawB (gw : Nat) (rd rx rl : Option Nat) (hs : List Ho) (g : Nat) : Prop := g = gw ∨ rd = some g ∨ rx = some g ∨ rl = some g ∨ ∃ k, k < hs.length ∧ (hs.getD k Ho.zero).r = some g
/-- They lie apart. -/
structure LawSep (gw : Nat) (rd rx rl : Option Nat) (hs : List Ho) : Prop where
  d : rd ≠ some gw
  x : rx ≠ some gw
  l : rl ≠ some gw
  h : ∀ k, k < hs.length → (hs.getD k Ho.zero).r ≠ some gw
  dx : ∀ g, rd = some g → rx ≠ some g
  dl : ∀ g, rl = some g → rd ≠ some g ∧ rx ≠ some g ∧ ∀ k, k < hs.length → (hs.getD k Ho.zero).r ≠ some g
  hd : ∀ k, k < hs.length → ∀ g, (hs.getD k Ho.zero).r = some g → rd ≠ some g ∧ rx ≠ some g
/-- The law's world. -/
structure WdAt (D : Nat → Prop) (w : World) (gw : Nat) (vd vx vl : Value) (rd rx rl : Option Nat) (ps : List Dp) (hs : List Ho) : Prop where
  c0 : w.cell? ⟨gw, 0, none⟩ = some vd
  c1 : w.cell? ⟨gw, 1, none⟩ = some vx
  c2 : w.cell? ⟨gw, 2, none⟩ = some vl
  fz : ∀ j, w.frozen? ⟨gw, j, none⟩ = false
  rowd : OwnV w vd (ps.map ptrD) rd
  rowx : OwnV w vx (ps.map ptrX) rx
  lists : LsAt w vl hs rl
  dw : DW D w ps
  inD : ∀ g, LawB gw rd rx rl hs g → D g
  notp : ∀ g, LawB gw rd rx rl hs g → ∀ i, i < ps.length → ¬ (ps.getD i Dp.zero).own g
  some2 : 1 ≤ ps.length ∧ ps.length ≤ 8
  sep : LawSep gw rd rx rl hs
theorem LsAt.of_block {w w' : World} {v : Value} {hs : List Ho} {r : Option Nat} (h : LsAt w v hs r) (hs' : w.heap.size ≤ w'.heap.size) (hb : ∀ g, (r = some g ∨ ∃ k, k < hs.length ∧ (hs.getD k Ho.zero).r = some g) → w'.heap[g]? = w.heap[g]?) : LsAt w' v hs r :=
  ⟨h.row.of_block hs' (fun g e => hb g (.inl e)), fun k hk => (h.each k hk).of_block hs' (fun g e => hb g (.inr ⟨k, hk, e⟩)), h.len, h.lens⟩
theorem WdAt.lt {D : Nat → Prop} {w : World} {gw : Nat} {vd vx vl : Value} {rd rx rl : Option Nat} {ps : List Dp} {hs : List Ho} (h : WdAt D w gw vd vx vl rd rx rl ps hs) : ∀ g, LawB gw rd rx rl hs g → g < w.heap.size := fun g hg => h.dw.bnd g (h.inD g hg)
/-- Where the law's blocks stand as they stood. -/
theorem WdAt.kept {D D' : Nat → Prop} {w w' : World} {gw : Nat} {vd vx vl : Value} {rd rx rl : Option Nat} {ps ps' : List Dp} {hs : List Ho} (h : WdAt D w gw vd vx vl rd rx rl ps hs) (hs' : w.heap.size ≤ w'.heap.size) (hb : ∀ g, LawB gw rd rx rl hs g → w'.heap[g]? = w.heap[g]?) (hdw : DW D' w' ps') (hD : ∀ g, D g → D' g)
    (hp1 : ps'.map ptrD = ps.map ptrD) (hp2 : ps'.map ptrX = ps.map ptrX) (hn : ∀ g, LawB gw rd rx rl hs g → ∀ i, i < ps'.length → ¬ (ps'.getD i Dp.zero).own g) : WdAt D' w' gw vd vx vl rd rx rl ps' hs := by
  have hg := hb gw (.inl rfl)
  have hl : ps'.length = ps.length := by have := congrArg List.length hp1; simpa using this
  have hce : ∀ j, w'.cell? ⟨gw, j, none⟩ = w.cell? ⟨gw, j, none⟩ := fun j => World.cell?_of_block (w := w) (a := ⟨gw, j, none⟩) hg
  exact ⟨(hce 0).trans h.c0, (hce 1).trans h.c1, (hce 2).trans h.c2, fun j => (World.frozen?_of_block (w := w) (a := ⟨gw, j, none⟩) hg).trans (h.fz j), by rw [hp1]; exact h.rowd.of_block hs' (fun g e => hb g (.inr (.inl e))), by rw [hp2]; exact h.rowx.of_block hs' (fun g e => hb g (.inr (.inr (.inl e)))), h.lists.of_block hs' (fun g e => hb g (e.elim (fun e => .inr (.inr (.inr (.inl e)))) (fun e => .inr (.inr (.inr (.inr e)))))), hdw, fun g hg => hD g (h.inD g hg), hn, by rw [hl]; exact h.some2, h.sep⟩
theorem WdAt.later {D : Nat → Prop} {w w' : World} {gw : Nat} {vd vx vl : Value} {rd rx rl : Option Nat} {ps : List Dp} {hs : List Ho} (h : WdAt D w gw vd vx vl rd rx rl ps hs) (hb : Below w.heap.size w w') : WdAt D w' gw vd vx vl rd rx rl ps hs :=
  h.kept hb.size (fun g hg => hb.block g (h.lt g hg)) (h.dw.later hb) (fun g hg => hg) rfl rfl h.notp
theorem map_set_same {ps : List Dp} {i : Nat} (f : Dp → Value) (p : Dp) (hi : i < ps.length) (e : f p = f (ps.getD i Dp.zero)) : (ps.set i p).map f = ps.map f := by
  rw [List.map_set]
  apply List.ext_getElem?
  intro j
  by_cases hj : i = j
  · subst hj
    rw [List.getElem?_set_self (by simpa using hi), ptr_at f hi, e]
  · rw [List.getElem?_set_ne hj]
/-- The law's blocks and the pairs'. -/
def WOwn (gw : Nat) (rd rx rl : Option Nat) (ps : List Dp) (hs : List Ho) (g : Nat) : Prop := LawB gw rd rx rl hs g ∨ ∃ i, i < ps.length ∧ (ps.getD i Dp.zero).own g
/-- Only blocks of O have turned; O and D have got only new ones. -/
def Fr3 (D D' O O' : Nat → Prop) (w w' : World) : Prop := Chg O w w' ∧ (∀ g, O' g → O g ∨ w.heap.size ≤ g) ∧ (∀ g, D' g → D g ∨ w.heap.size ≤ g) ∧ ∀ g, D g → D' g
theorem Fr3.below {D O : Nat → Prop} {w w' : World} (h : Below w.heap.size w w') : Fr3 D D O O w w' := ⟨Chg.ofBelow h, fun g h => .inl h, fun g h => .inl h, fun g h => h⟩
theorem Fr3.trans {D D' D'' O O' O'' : Nat → Prop} {a b c : World} (h : Fr3 D D' O O' a b) (k : Fr3 D' D'' O' O'' b c) : Fr3 D D'' O O'' a c :=
  ⟨h.1.trans' k.1 h.2.1, fun g hg => (k.2.1 g hg).elim (fun e => h.2.1 g e) (fun e => .inr (Nat.le_trans h.1.size e)), fun g hg => (k.2.2.1 g hg).elim (fun e => h.2.2.1 g e) (fun e => .inr (Nat.le_trans h.1.size e)), fun g hg => k.2.2.2 g (h.2.2.2 g hg)⟩
/-- One pair's change. -/
theorem WdAt.step {D : Nat → Prop} {w w1 w2 : World} {gw : Nat} {vd vx vl : Value} {rd rx rl : Option Nat} {ps : List Dp} {hs : List Ho} {i : Nat} {l' : List Ke} {v' : Value} {r' : Option Nat} (h : WdAt D w gw vd vx vl rd rx rl ps hs) (hi : i < ps.length)
    (hg : w.grownBy w1 (some (ps.getD i Dp.zero).gd)) (hd : DirAt D w1 (ps.getD i Dp.zero).gd l') (hx : XPut w1 w2 (ps.getD i Dp.zero).gx (ps.getD i Dp.zero).r l' v' r') (ha : AllK l') (hk : ∀ k ∈ l', k.r.Ok) :
    ∃ D', Fr3 D D' (WOwn gw rd rx rl ps hs) (WOwn gw rd rx rl (ps.set i ⟨(ps.getD i Dp.zero).gd, (ps.getD i Dp.zero).gx, v', r', l'⟩) hs) w w2 ∧ WdAt D' w2 gw vd vx vl rd rx rl (ps.set i ⟨(ps.getD i Dp.zero).gd, (ps.getD i Dp.zero).gx, v', r', l'⟩) hs := by
  have hS := h.dw.step hi hg hd hx ha hk
  have hsz1 := hg.size
  have hsz2 := hx.chg.size
  have hp := h.dw.pr i hi
  have hfr : Fr3 D (fun g => D g ∨ r' = some g) (WOwn gw rd rx rl ps hs) (WOwn gw rd rx rl (ps.set i ⟨(ps.getD i Dp.zero).gd, (ps.getD i Dp.zero).gx, v', r', l'⟩) hs) w w2 := ⟨((Chg.refl _ w).grown hg (fun g e => .inl (by cases e; exact .inr ⟨i, hi, .inl rfl⟩))).trans' hx.chg (fun x hs => .inl (.inr ⟨i, hi, hs.elim (fun e => .inr (.inl e)) (fun e => .inr (.inr e))⟩)), fun g hg => by
    rcases hg with e | ⟨j, hj, ho⟩
    · exact .inl (.inl e)
    · rw [List.length_set] at hj
      by_cases e : i = j
      · subst e
        rw [getD_set_self _ hi] at ho
        rcases ho with e | e | e
        · exact .inl (.inr ⟨i, hi, .inl e⟩)
        · exact .inl (.inr ⟨i, hi, .inr (.inl e)⟩)
        · exact hx.new.elim (fun e2 => .inl (.inr ⟨i, hi, .inr (.inr (by rw [← e2]; exact e))⟩)) (fun hh => .inr (by have := hh g e; omega))
      · rw [getD_set_ne _ e] at ho
        exact .inl (.inr ⟨j, hj, ho⟩), fun g hg => hg.elim .inl (fun e => hx.new.elim (fun e2 => .inl (hp.own g (.inr (.inr (by rw [← e2]; exact e))))) (fun hh => .inr (by have := hh g e; omega))), fun g hg => .inl hg⟩
  refine ⟨_, hfr, h.kept (by omega) (fun g hgl => ?_) hS (fun g hg => .inl hg) (map_set_same ptrD _ hi rfl) (map_set_same ptrX _ hi rfl) (fun g hgl j hj ho => ?_)⟩
  · have hno := h.notp g hgl i hi
    have hlt := h.lt g hgl
    exact (hx.chg.block g (by omega) (fun hs => hno (hs.elim (fun e => .inr (.inl e)) (fun e => .inr (.inr e))))).trans (hg.block g hlt (fun e => hno (.inl (by cases e; rfl))))
  · rw [List.length_set] at hj
    by_cases e : i = j
    · subst e
      rw [getD_set_self _ hi] at ho
      have hno := h.notp g hgl i hi
      rcases ho with e | e | e
      · exact hno (.inl e)
      · exact hno (.inr (.inl e))
      · rcases hx.new with e2 | e2
        · exact hno (.inr (.inr (by rw [← e2]; exact e)))
        · have := e2 g e; have := h.lt g hgl; omega
    · rw [getD_set_ne _ e] at ho
      exact h.notp g hgl j hj ho
end Go.Proofs.Ytjhbaplnkigifaa

/-! keydir: told: Put. -/
namespace Go.Proofs.Ytjhbaplnkigifaa
open Go.RowKit Plain
set_option linter.unusedVariables false
set_option linter.unusedSimpArgs false

theorem WdAt.pick {D : Nat → Prop} {w : World} {gw : Nat} {ad ax : Option Addr} {nd cd nx cx : Nat} {vl : Value} {rd rx rl : Option Nat} {ps : List Dp} {hs : List Ho} (h : WdAt D w gw (.slice ad nd cd) (.slice ax nx cx) vl rd rx rl ps hs) {k : Nat} (hk : k < ps.length) :
    ∃ g1 g2, ad = some ⟨g1, 0, none⟩ ∧ ax = some ⟨g2, 0, none⟩ ∧ w.cell? ⟨g1, k, none⟩ = some (.pointer (some ⟨(ps.getD k Dp.zero).gd, 0, none⟩)) ∧ w.cell? ⟨g2, k, none⟩ = some (.pointer (some ⟨(ps.getD k Dp.zero).gx, 0, none⟩)) := by
  obtain ⟨g1, _, e1, e2⟩ := h.rowd.get (ptr_at ptrD hk)
  obtain ⟨g2, _, e3, e4⟩ := h.rowx.get (ptr_at ptrX hk)
  exact ⟨g1, g2, e1, e3, e2, e4⟩
theorem PairAt.xd1 {D : Nat → Prop} {w w1 : World} {p : Dp} (h : PairAt D w p) (hg : w.grownBy w1 (some p.gd)) : XDirAt w1 p.gx p.v p.l p.r := by
  have hx := h.xd
  have hb : w1.heap[p.gx]? = w.heap[p.gx]? := hg.block p.gx hx.lt (fun e => h.ne.1 (by have := Option.some.inj e; omega))
  exact ⟨(World.cell?_of_block (w := w) (a := ⟨p.gx, 0, none⟩) hb).trans hx.cell, (World.frozen?_of_block (w := w) (a := ⟨p.gx, 0, none⟩) hb).trans hx.froz, hx.row.kept hg (.inr h.ne.2), hx.ne, hx.srt, hx.short, hx.len⟩
theorem putL_ok {key : ByteArray} {en : En} {l : List Ke} (h : ∀ k ∈ l, k.r.Ok) (hk : key.size ≤ maxLen) (he : (Ke.r ⟨⟨#[]⟩, en⟩).Ok) : ∀ k ∈ putL key en l, k.r.Ok := fun k hm => by
  unfold putL at hm
  split at hm
  · have hc : ∀ {l : List Ke} {z : Ke}, z ∈ insL key en l → z ∈ l ∨ (z.e = en ∧ z.key.size ≤ maxLen ∨ z ∈ l) := fun {l z} hz => by
      induction l with
      | nil => simp [insL] at hz; rw [hz]; exact .inr (.inl ⟨rfl, hk⟩)
      | cons x xs ih =>
        unfold insL at hz
        split at hz
        · simp at hz
          rcases hz with e | e | e
          · rw [e]; exact .inr (.inl ⟨rfl, hk⟩)
          · rw [e]; exact .inl (by simp)
          · exact .inl (by simp [e])
        · split at hz
          · rename_i h0
            simp at hz
            rcases hz with e | e
            · rw [e]; exact .inr (.inl ⟨rfl, by rw [← kc_zero h0]; exact hk⟩)
            · exact .inl (by simp [e])
          · simp at hz
            rcases hz with e | e
            · rw [e]; exact .inl (by simp)
            · rcases ih e with q | q | q
              · exact .inl (by simp [q])
              · exact .inr (.inl q)
              · exact .inl (by simp [q])
    rcases hc hm with q | ⟨q1, q2⟩ | q
    · exact h k q
    · obtain ⟨kk, ke⟩ := k
      simp only at q1 q2
      subst q1
      exact ⟨q2, he.seg, he.pos, he.size, he.off, he.time, trivial⟩
    · exact h k q
  · exact h k hm
/-- No list has grown by more than one. -/
def Grew (ps ps' : List Dp) : Prop := ∀ B, (∀ i, i < ps.length → (ps.getD i Dp.zero).l.length ≤ B) → ∀ i, i < ps'.length → (ps'.getD i Dp.zero).l.length ≤ B + 1
theorem Grew.refl (ps : List Dp) : Grew ps ps := fun B h i hi => Nat.le_succ_of_le (h i hi)
theorem Grew.set {ps : List Dp} {k : Nat} {p : Dp} (hk : k < ps.length) (h : p.l.length ≤ (ps.getD k Dp.zero).l.length + 1) : Grew ps (ps.set k p) := fun B hB i hi => by
  rw [List.length_set] at hi
  by_cases e : k = i
  · subst e; rw [getD_set_self _ hk]; have := hB k hk; omega
  · rw [getD_set_ne _ e]; have := hB i hi; omega
theorem Grew.push {ps : List Dp} {k : Nat} {p : Dp} (hk : k < ps.length) (h : p.l.length ≤ (ps.getD k Dp.zero).l.length) : Grew ps (ps ++ [p]) := fun B hB i hi => by
  by_cases e : i < ps.length
  · rw [getD_app_lt p e]; have := hB i e; omega
  · have e2 : i = ps.length := by simp at hi; omega
    rw [e2, getD_app_eq]; have := hB k hk; omega
theorem noteP_len (key : ByteArray) (en : En) (l : List Ke) : (noteP key en l).length ≤ l.length + 1 := by
  unfold noteP
  split
  · exact insL_len key en l
  · omega
/-- A move's cells in its box. -/
structure MvAt (w : World) (b : Nat) (m : Mv) : Prop where
  c : ∀ j u, m.cells[j]? = some u → w.cell? ⟨b, j, none⟩ = some u
theorem MvAt.later {w w' : World} {b : Nat} {m : Mv} (h : MvAt w b m) (hb : Below w.heap.size w w') : MvAt w' b m := ⟨fun j u hj => (hb.cell (p := ⟨b, j, none⟩) (cell_lt (h.c j u hj))).trans (h.c j u hj)⟩
theorem MvAt.of_block {w w' : World} {b : Nat} {m : Mv} (h : MvAt w b m) (hb : w'.heap[b]? = w.heap[b]?) : MvAt w' b m := ⟨fun j u hj => (World.cell?_of_block (w := w) (a := ⟨b, j, none⟩) hb).trans (h.c j u hj)⟩
theorem MvAt.new (w : World) (m : Mv) : MvAt (w.alloc (.cells #[.int .i64 m.dir, .int .i64 m.kind, .string m.key, .string m.hi, .int .i64 m.e.seg, .int .i64 m.e.pos, .int .i64 m.e.size, .int .i64 m.e.off, .int .i64 m.e.time, .bool m.e.tomb, .int .i64 m.n] 40)) w.heap.size m := ⟨fun j u hj => by
  rw [World.cell?_alloc_at _ _ _ _ rfl, ← hj]
  simp [Mv.cells]⟩
set_option maxHeartbeats 16000000 in
set_option maxRecDepth 100000 in
theorem toldPut {D : Nat → Prop} {w : World} {gw : Nat} {vd vx vl : Value} {rd rx rl : Option Nat} {ps : List Dp} {hs : List Ho} (m : Mv) (h : WdAt D w gw vd vx vl rd rx rl ps hs) (hk : m.kind = 0) (hkey : m.key.size ≤ maxLen) (hdir : I64 m.dir) (hok : ∀ i, i < ps.length → (ps.getD i Dp.zero).l.length < 2199023255000) (hE : (Ke.r ⟨⟨#[]⟩, m.e⟩).Ok) :
    Calls Try.prog 6 #[.pointer (some ⟨gw, 0, none⟩), m.v] w fun e w' => e = .returned (.bool true) ∧ ∃ D' ps', Grew ps ps' ∧ Fr3 D D' (WOwn gw rd rx rl ps hs) (WOwn gw rd rx rl ps' hs) w w' ∧ WdAt D' w' gw vd vx vl rd rx rl ps' hs := by
  obtain ⟨mdir, mkind, key, hi, me, lim⟩ := m
  simp only at hk hkey hdir hE
  subst hk
  obtain ⟨ad, capd, e, hd1, hd2⟩ := h.rowd.shape
  obtain ⟨ax, capx, e2, hx1, hx2⟩ := h.rowx.shape
  rw [List.length_map] at e e2 hd2 hx2
  subst e e2
  obtain ⟨w0, hw0⟩ : ∃ w0, w.alloc (.cells #[.int .i64 mdir, .int .i64 0, .string key, .string hi, .int .i64 me.seg, .int .i64 me.pos, .int .i64 me.size, .int .i64 me.off, .int .i64 me.time, .bool me.tomb, .int .i64 lim] 40) = w0 := ⟨_, rfl⟩
  have hb0 : Below w.heap.size w w0 := by rw [← hw0]; exact (Below.refl _ _).alloc (Nat.le_refl _) _
  have HM0 : Hid (MvAt w0 w.heap.size ⟨mdir, 0, key, hi, me, lim⟩) := by unfold Hid; rw [← hw0]; exact MvAt.new w ⟨mdir, 0, key, hi, me, lim⟩
  have HW0 : Hid (WdAt D w0 gw (.slice ad ps.length capd) (.slice ax ps.length capx) vl rd rx rl ps hs) := h.later hb0
  have HB00 : Hid (Below w.heap.size w w0) := hb0
  have c0 := HW0.out.c0
  have c1 := HW0.out.c1
  obtain ⟨hp1, hp8⟩ := h.some2
  have HMO : Hid (∀ u, Calls Try.prog 10 #[.int .i64 mdir, .int .i64 ps.length] u fun e w' => (∃ k : Nat, k < ps.length ∧ e = .returned (.int .i64 k)) ∧ w' = u) := fun u => modOf mdir ps.length u hp1 (by omega) hdir
  have m0 := HM0.out.c 0 _ rfl
  have m1 := HM0.out.c 1 _ rfl
  have m2 := HM0.out.c 2 _ rfl
  have m4 := HM0.out.c 4 _ rfl
  have m5 := HM0.out.c 5 _ rfl
  have m6 := HM0.out.c 6 _ rfl
  have m7 := HM0.out.c 7 _ rfl
  have m8 := HM0.out.c 8 _ rfl
  have m9 := HM0.out.c 9 _ rfl
  have HDB : Hid (∀ g, D g → g < w.heap.size) := h.dw.bnd
  clear h hb0
  go_enter Try.func6, Try.ntmps6
  go_wp2
  go_region_held3 (fun w' => w'.cell? ⟨gw, 0, none⟩ = some (.slice ad ps.length capd) ∧ w'.cell? ⟨w.heap.size, 0, none⟩ = some (.int .i64 mdir)) (go_keep) (first
    | (go_at_call 10
       refine (HMO.out _).mono ?_
       rintro e w' ⟨⟨k, hkl, rfl⟩, hw'⟩
       rcases hw' with rfl))
  have hbd : Below w0.heap.size w0 w0.drew := Below.drew (Below.refl _ _)
  have HW1 : Hid (WdAt D w0.drew gw (.slice ad ps.length capd) (.slice ax ps.length capx) vl rd rx rl ps hs) := HW0.out.later hbd
  have HB01 : Hid (Below w.heap.size w w0.drew) := Below.drew HB00.out
  have HM1 : Hid (MvAt w0.drew w.heap.size ⟨mdir, 0, key, hi, me, lim⟩) := HM0.out.later hbd
  clear hbd c0 c1 m0 m1 m2 m4 m5 m6 m7 m8 m9 HW0 HM0 HMO
  generalize w0.drew = w1 at HW1 HM1 HB01 ⊢
  have c0 := HW1.out.c0
  have c1 := HW1.out.c1
  have m1 := HM1.out.c 1 _ rfl
  have m2 := HM1.out.c 2 _ rfl
  have m4 := HM1.out.c 4 _ rfl
  have m5 := HM1.out.c 5 _ rfl
  have m6 := HM1.out.c 6 _ rfl
  have m7 := HM1.out.c 7 _ rfl
  have m8 := HM1.out.c 8 _ rfl
  have m9 := HM1.out.c 9 _ rfl
  simp only at m1 m2 m4 m5 m6 m7 m8 m9
  obtain ⟨g1, g2, rfl, rfl, q1, q2⟩ := HW1.out.pick hkl
  have hki : (k : Int) < (ps.length : Int) := by omega
  have HPA : Hid (PairAt D w1 (ps.getD k Dp.zero)) := HW1.out.dw.pr k hkl
  have hll := hok k hkl
  have HST : Hid (∀ w3 w4 v' r', w1.grownBy w3 (some (ps.getD k Dp.zero).gd) → DirAt D w3 (ps.getD k Dp.zero).gd (putL key me (ps.getD k Dp.zero).l) → XPut w3 w4 (ps.getD k Dp.zero).gx (ps.getD k Dp.zero).r (putL key me (ps.getD k Dp.zero).l) v' r' → ∀ w5, Below w4.heap.size w4 w5 → ∃ D' ps', Grew ps ps' ∧ Fr3 D D' (WOwn gw rd rx rl ps hs) (WOwn gw rd rx rl ps' hs) w w5 ∧ WdAt D' w5 gw (.slice (some ⟨g1, 0, none⟩) ps.length capd) (.slice (some ⟨g2, 0, none⟩) ps.length capx) vl rd rx rl ps' hs) := fun w3 w4 v' r' a1 a2 a3 w5 a4 => by
    obtain ⟨D', hfr, hw⟩ := HW1.out.step hkl a1 a2 a3 (HPA.out.all.put key me) (putL_ok HPA.out.ok hkey hE)
    exact ⟨D', _, Grew.set hkl (putL_len key me _), (Fr3.below HB01.out).trans (hfr.trans (Fr3.below a4)), hw.later a4⟩
  have HDB1 : Hid (∀ g, D g → g < w1.heap.size) := HW1.out.dw.bnd
  obtain ⟨p, hp⟩ : ∃ p, ps.getD k Dp.zero = p := ⟨_, rfl⟩
  rw [hp] at q1 q2 HPA hll HST
  have hgdD : D p.gd := HPA.out.own _ (.inl rfl)
  have hgdl := HDB.out p.gd hgdD
  have HPU : Hid (Calls Try.prog 11 #[.pointer (some ⟨p.gd, 0, none⟩), .string key, me.v] w1 fun e w' => e = .returned (.tuple #[(gotE (findL key p.l)).v, .bool (findL key p.l).isSome, .int .i64 (errK key)]) ∧ w1.grownBy w' (some p.gd) ∧ DirAt D w' p.gd (putL key me p.l)) := putWhat key me w1 (fun g hg hd => by have := HDB1.out g hd; omega) HPA.out.dir HPA.out.all hkey (by omega)
  clear hp
  go_wp2_with fail
  refine HPU.out.mono ?_
  rintro e w3 ⟨rfl, hg3, hd3⟩
  obtain ⟨old, hold⟩ : ∃ old, gotE (findL key p.l) = old := ⟨_, rfl⟩
  obtain ⟨had, hhad⟩ : ∃ had, (findL key p.l).isSome = had := ⟨_, rfl⟩
  obtain ⟨er, her⟩ : ∃ er, errK key = er := ⟨_, rfl⟩
  obtain ⟨w4, hw4⟩ : ∃ w4, w3.alloc (.cells #[.int .i64 old.seg, .int .i64 old.pos, .int .i64 old.size, .int .i64 old.off, .int .i64 old.time, .bool old.tomb] 38) = w4 := ⟨_, rfl⟩
  have hb34 : Below w3.heap.size w3 w4 := by rw [← hw4]; exact (Below.refl _ _).alloc (Nat.le_refl _) _
  have hs34 : w4.heap.size = w3.heap.size + 1 := by rw [← hw4]; simp
  have hs13 := hg3.size
  have hmb : w4.heap[w.heap.size]? = w1.heap[w.heap.size]? := (hb34.block _ (by have := cell_lt m1; simp at this; omega)).trans (hg3.block _ (cell_lt m1) (fun e => by have := Option.some.inj e; omega))
  have HM4 : Hid (MvAt w4 w.heap.size ⟨mdir, 0, key, hi, me, lim⟩) := HM1.out.of_block hmb
  have HXP : Hid (Calls Try.prog 12 #[.pointer (some ⟨p.gx, 0, none⟩), .string key, me.v] w4 fun e w' => e = .returned (.tuple #[old.v, .bool had, .int .i64 er]) ∧ ∃ v' r', XPut w4 w' p.gx p.r (putL key me p.l) v' r') := by
    have := xputAny p.gx p.v p.l p.r key me w4 ((HPA.out.xd1 hg3).later hb34) HPA.out.all hkey (by omega)
    rw [hold, hhad, her] at this
    exact this
  have HG3 : Hid (w1.grownBy w3 (some p.gd) ∧ DirAt D w3 p.gd (putL key me p.l) ∧ Below w3.heap.size w3 w4) := ⟨hg3, hd3, hb34⟩
  have HOL : Hid (EnAt w4 w3.heap.size old) := by unfold Hid; rw [← hw4]; exact EnAt.new w3 old
  have hgx3 : ¬ p.gx = w3.heap.size := by have := HPA.out.xd.lt; omega
  have hr3 : ∀ g, p.r = some g → ¬ g = w3.heap.size := fun g e => by have := HPA.out.xd.row.lt' g e; omega
  have HGX : Hid (p.gx < w3.heap.size) := by unfold Hid; have := HPA.out.xd.lt; omega
  rw [hold, hhad, her]
  have m2 := HM4.out.c 2 _ rfl
  have m4 := HM4.out.c 4 _ rfl
  have m5 := HM4.out.c 5 _ rfl
  have m6 := HM4.out.c 6 _ rfl
  have m7 := HM4.out.c 7 _ rfl
  have m8 := HM4.out.c 8 _ rfl
  have m9 := HM4.out.c 9 _ rfl
  simp only at m2 m4 m5 m6 m7 m8 m9
  clear hg3 hd3 hb34 hold hhad her hmb
  go_wp2_with fail
  refine HXP.out.mono ?_
  rintro e w5 ⟨rfl, v', r', hx5⟩
  obtain ⟨w6, hw6⟩ : ∃ w6, w5.alloc (.cells #[.int .i64 old.seg, .int .i64 old.pos, .int .i64 old.size, .int .i64 old.off, .int .i64 old.time, .bool old.tomb] 38) = w6 := ⟨_, rfl⟩
  have hb56 : Below w5.heap.size w5 w6 := by rw [← hw6]; exact (Below.refl _ _).alloc (Nat.le_refl _) _
  have hbo : w6.heap[w3.heap.size]? = w4.heap[w3.heap.size]? := (hb56.block _ (by have := hx5.chg.size; omega)).trans (hx5.chg.block _ (by omega) (fun hs => hs.elim (fun e => hgx3 e.symm) (fun e => hr3 _ e rfl)))
  obtain ⟨o0, o1, o2, o3, o4, o5⟩ := HOL.out.block hbo
  obtain ⟨y0, y1, y2, y3, y4, y5⟩ : EnAt w6 w5.heap.size old := by rw [← hw6]; exact EnAt.new w5 old
  have HFI : Hid (∀ w7, Below w6.heap.size w6 w7 → ∃ D' ps', Grew ps ps' ∧ Fr3 D D' (WOwn gw rd rx rl ps hs) (WOwn gw rd rx rl ps' hs) w w7 ∧ WdAt D' w7 gw (.slice (some ⟨g1, 0, none⟩) ps.length capd) (.slice (some ⟨g2, 0, none⟩) ps.length capx) vl rd rx rl ps' hs) := fun w7 hw7 => HST.out w3 w5 v' r' HG3.out.1 HG3.out.2.1 (hx5.grow HG3.out.2.2 HGX.out) w7 (hb56.trans (hw7.mono hb56.size))
  clear hx5 hb56 hbo HG3 HST HXP HPU
  go_wp2
  go_ret
  exact ⟨rfl, HFI.out w6 (Below.refl _ _)⟩
end Go.Proofs.Ytjhbaplnkigifaa
