import Derived.Test.YtjhbaplnkigifaaQk20
import Derived.Deep.RegionHeld3
import Derived.Test.YtjhbaplnkigifaaQk07
import Derived.Test.YtjhbaplnkigifaaQk06
/-! keydir: the program's dirs and the document's side by side. -/
namespace Go.Proofs.Ytjhbaplnkigifaa
open Go.RowKit Plain
set_option linter.unusedVariables false
set_option linter.unusedSimpArgs false

/-- A dir of the program's, and the document's of the same number. -/
structure Dp where
  gd : Nat
  gx : Nat
  v : Value
  r : Option Nat
  l : List Ke
def Dp.zero : Dp := ⟨0, 0, .slice none 0 0, none, []⟩
/-- Their blocks, the tree's nodes aside. -/
def Dp.own (p : Dp) (g : Nat) : Prop := g = p.gd ∨ g = p.gx ∨ p.r = some g
structure PairAt (D : Nat → Prop) (w : World) (p : Dp) : Prop where
  dir : DirAt D w p.gd p.l
  xd : XDirAt w p.gx p.v p.l p.r
  own : ∀ g, p.own g → D g
  ne : p.gd ≠ p.gx ∧ p.r ≠ some p.gd
  all : AllK p.l
  ok : ∀ k ∈ p.l, k.r.Ok
theorem PairAt.lt {D : Nat → Prop} {w : World} {p : Dp} (h : PairAt D w p) : ∀ g, p.own g → g < w.heap.size := fun g hg => by
  rcases hg with e | e | e
  · rw [e]; exact h.dir.lt
  · rw [e]; exact h.xd.lt
  · exact h.xd.row.lt' g e
theorem DirAt.widen {D D' : Nat → Prop} {w : World} {gd : Nat} {l : List Ke} (h : DirAt D w gd l) (h1 : ∀ g, D g → D' g) (h2 : ∀ g, D' g → D g ∨ w.heap.size ≤ g) : DirAt D' w gd l := by
  obtain ⟨q1, q2, q3, n, p, q4, q5⟩ := h
  refine ⟨h1 _ q1, q2, q3, n, p, q4, TreeAt.tight (fun g hg hl hd => ?_) q5⟩
  rcases h2 g hd with e | e
  · exact hg e
  · omega
/-- What is kept of a pair where neither its own blocks nor any block outside of D has turned. -/
theorem PairAt.kept {D : Nat → Prop} {w w' : World} {p : Dp} (h : PairAt D w p) (hs : w.heap.size ≤ w'.heap.size) (ho : ∀ g, p.own g → w'.heap[g]? = w.heap[g]?) (hd : ∀ g, g < w.heap.size → ¬ D g → w'.heap[g]? = w.heap[g]?) : PairAt D w' p := by
  have hx := h.xd
  refine ⟨h.dir.kept (ho _ (.inl rfl)) hd, ?_, h.own, h.ne, h.all, h.ok⟩
  have hb := ho p.gx (.inr (.inl rfl))
  exact ⟨(World.cell?_of_block (w := w) (a := ⟨p.gx, 0, none⟩) hb).trans hx.cell, (World.frozen?_of_block (w := w) (a := ⟨p.gx, 0, none⟩) hb).trans hx.froz, hx.row.of_block hs (fun g e => ho g (.inr (.inr e))), hx.ne, hx.srt, hx.short, hx.len⟩
theorem PairAt.widen {D D' : Nat → Prop} {w : World} {p : Dp} (h : PairAt D w p) (h1 : ∀ g, D g → D' g) (h2 : ∀ g, D' g → D g ∨ w.heap.size ≤ g) : PairAt D' w p :=
  ⟨h.dir.widen h1 h2, h.xd, fun g hg => h1 g (h.own g hg), h.ne, h.all, h.ok⟩
/-- All of them. -/
structure DW (D : Nat → Prop) (w : World) (ps : List Dp) : Prop where
  bnd : ∀ g, D g → g < w.heap.size
  pr : ∀ i, i < ps.length → PairAt D w (ps.getD i Dp.zero)
  ap : ∀ i j, i < ps.length → j < ps.length → i ≠ j → ∀ g, (ps.getD i Dp.zero).own g → ¬ (ps.getD j Dp.zero).own g
theorem DW.later {D : Nat → Prop} {w w' : World} {ps : List Dp} (h : DW D w ps) (hb : Below w.heap.size w w') : DW D w' ps :=
  ⟨fun g hg => Nat.lt_of_lt_of_le (h.bnd g hg) hb.size, fun i hi => (h.pr i hi).kept hb.size (fun g hg => hb.block g ((h.pr i hi).lt g hg)) (fun g hg _ => hb.block g hg), h.ap⟩
/-- New blocks of the law's own. -/
theorem DW.more {D D' : Nat → Prop} {w w' : World} {ps : List Dp} (h : DW D w ps) (hb : Below w.heap.size w w') (h1 : ∀ g, D g → D' g) (h2 : ∀ g, D' g → D g ∨ (w.heap.size ≤ g ∧ g < w'.heap.size)) : DW D' w' ps := by
  have hL := h.later hb
  refine ⟨fun g hg => ?_, fun i hi => ?_, h.ap⟩
  · rcases h2 g hg with e | e
    · exact hL.bnd g e
    · exact e.2
  · have hw := (h.pr i hi).widen h1 (fun g hg => (h2 g hg).imp id (fun e => e.1))
    exact hw.kept hb.size (fun g hg => hb.block g (hw.lt g hg)) (fun g hg _ => hb.block g hg)
/-- Blocks of D that belong to no pair may turn. -/
theorem DW.free {D S : Nat → Prop} {w w' : World} {ps : List Dp} (h : DW D w ps) (hc : Chg S w w') (hS : ∀ g, S g → D g) (hn : ∀ g, S g → ∀ i, i < ps.length → ¬ (ps.getD i Dp.zero).own g) : DW D w' ps :=
  ⟨fun g hg => Nat.lt_of_lt_of_le (h.bnd g hg) hc.size, fun i hi => (h.pr i hi).kept hc.size (fun g hg => hc.block g ((h.pr i hi).lt g hg) (fun hs => hn g hs i hi hg)) (fun g hg hd => hc.block g hg (fun hs => hd (hS g hs))), h.ap⟩
theorem getD_set_self {ps : List Dp} {i : Nat} (p : Dp) (hi : i < ps.length) : (ps.set i p).getD i Dp.zero = p := by
  rw [List.getD_eq_getElem?_getD, List.getElem?_set_self hi]; rfl
theorem getD_set_ne {ps : List Dp} {i j : Nat} (p : Dp) (h : i ≠ j) : (ps.set i p).getD j Dp.zero = ps.getD j Dp.zero := by
  rw [List.getD_eq_getElem?_getD, List.getD_eq_getElem?_getD, List.getElem?_set_ne h]
/-- One pair's change: the program's dir, then the document's. -/
theorem DW.step {D : Nat → Prop} {w w1 w2 : World} {ps : List Dp} {i : Nat} {l' : List Ke} {v' : Value} {r' : Option Nat} (h : DW D w ps) (hi : i < ps.length)
    (hg : w.grownBy w1 (some (ps.getD i Dp.zero).gd)) (hd : DirAt D w1 (ps.getD i Dp.zero).gd l') (hx : XPut w1 w2 (ps.getD i Dp.zero).gx (ps.getD i Dp.zero).r l' v' r') (ha : AllK l') (hk : ∀ k ∈ l', k.r.Ok) :
    DW (fun g => D g ∨ r' = some g) w2 (ps.set i ⟨(ps.getD i Dp.zero).gd, (ps.getD i Dp.zero).gx, v', r', l'⟩) := by
  have hp := h.pr i hi
  generalize hpi : ps.getD i Dp.zero = p at *
  have hsz1 := hg.size
  have hsz2 := hx.chg.size
  have hrlt : ∀ g, r' = some g → g < w2.heap.size := hx.dir.row.lt'
  have hnew : ∀ g, r' = some g → p.r = some g ∨ w1.heap.size ≤ g := fun g e => hx.new.imp (fun e2 => by rw [← e2]; exact e) (fun hh => hh g e)
  -- what has turned
  have hblk : ∀ g, g < w.heap.size → ¬ p.own g → w2.heap[g]? = w.heap[g]? := fun g hl hn =>
    (hx.chg.block g (by omega) (fun hs => hn (hs.elim (fun e => .inr (.inl e)) (fun e => .inr (.inr e))))).trans (hg.block g hl (fun e => hn (.inl (by cases e; rfl))))
  have hWid : ∀ q, PairAt D w q → (∀ g, q.own g → ¬ p.own g) → PairAt (fun g => D g ∨ r' = some g) w2 q := fun q hq hn => by
    have h1 : PairAt D w2 q := hq.kept (by omega) (fun g hg => hblk g (hq.lt g hg) (hn g hg)) (fun g hl hd => hblk g hl (fun ho => hd (hp.own g ho)))
    have h3 : PairAt (fun g => D g ∨ r' = some g) w q := hq.widen (fun g hg => .inl hg) (fun g hg => hg.elim .inl (fun e => by
      rcases hnew g e with e2 | e2
      · exact .inl (hp.own g (.inr (.inr e2)))
      · exact .inr (by omega)))
    exact h3.kept (by omega) (fun g hg => hblk g (hq.lt g hg) (hn g hg)) (fun g hl hd => hblk g hl (fun ho => hd (.inl (hp.own g ho))))
  refine ⟨fun g hg => ?_, fun j hj => ?_, fun j k hj hk2 hjk => ?_⟩
  · rcases hg with e | e
    · have := h.bnd g e; omega
    · exact hrlt g e
  · rw [List.length_set] at hj
    by_cases e : i = j
    · subst e
      rw [getD_set_self _ hi]
      have hd1 : DirAt (fun g => D g ∨ r' = some g) w1 p.gd l' := hd.widen (fun g hg => .inl hg) (fun g hg => hg.elim .inl (fun e => by
        rcases hnew g e with e2 | e2
        · exact .inl (hp.own g (.inr (.inr e2)))
        · exact .inr e2))
      have hbx : ∀ g, g < w1.heap.size → ¬ XB p.gx p.r g → w2.heap[g]? = w1.heap[g]? := fun g hl hn => hx.chg.block g hl hn
      refine ⟨hd1.kept (hbx p.gd hd.lt (fun hs => hs.elim (fun e => hp.ne.1 e) (fun e => hp.ne.2 e))) (fun g hl hnd => hbx g hl (fun hs => hnd (.inl (hp.own g (hs.elim (fun e => .inr (.inl e)) (fun e => .inr (.inr e))))))), hx.dir, fun g hg => ?_, ⟨hp.ne.1, fun e => ?_⟩, ha, hk⟩
      · rcases hg with e | e | e
        · exact .inl (hp.own g (.inl e))
        · exact .inl (hp.own g (.inr (.inl e)))
        · exact .inr e
      · rcases hnew _ e with e2 | e2
        · exact hp.ne.2 e2
        · exact absurd hd.lt (Nat.not_lt.mpr e2)
    · rw [getD_set_ne _ e]
      exact hWid _ (h.pr j hj) (fun g hg ho => h.ap j i hj hi (fun e2 => e e2.symm) g hg (by rw [hpi]; exact ho))
  · rw [List.length_set] at hj hk2
    have hfr : ∀ m, m < ps.length → ∀ g, (ps.getD m Dp.zero).own g → r' = some g → p.r = some g := fun m hm g hg e => by
      rcases hnew g e with e2 | e2
      · exact e2
      · have := (h.pr m hm).lt g hg; omega
    intro g hgj hgk
    by_cases e : i = j
    · subst e
      rw [getD_set_self _ hi] at hgj
      rw [getD_set_ne _ hjk] at hgk
      refine h.ap i k hi hk2 hjk g ?_ hgk
      rw [hpi]
      rcases hgj with e | e | e
      · exact .inl e
      · exact .inr (.inl e)
      · exact .inr (.inr (hfr k hk2 g hgk e))
    · rw [getD_set_ne _ e] at hgj
      by_cases e2 : i = k
      · subst e2
        rw [getD_set_self _ hi] at hgk
        refine h.ap j i hj hi hjk g hgj ?_
        rw [hpi]
        rcases hgk with e | e | e
        · exact .inl e
        · exact .inr (.inl e)
        · exact .inr (.inr (hfr j hj g hgj e))
      · rw [getD_set_ne _ e2] at hgk
        exact h.ap j k hj hk2 hjk g hgj hgk
theorem getD_app_lt {ps : List Dp} {j : Nat} (p : Dp) (h : j < ps.length) : (ps ++ [p]).getD j Dp.zero = ps.getD j Dp.zero := by
  rw [List.getD_eq_getElem?_getD, List.getD_eq_getElem?_getD, List.getElem?_append_left h]
theorem getD_app_eq {ps : List Dp} (p : Dp) : (ps ++ [p]).getD ps.length Dp.zero = p := by
  rw [List.getD_eq_getElem?_getD, List.getElem?_append_right (Nat.le_refl _)]
  simp
/-- One pair more, all of whose blocks are of D and of no other pair. -/
theorem DW.push {D : Nat → Prop} {w : World} {ps : List Dp} {p : Dp} (h : DW D w ps) (hp : PairAt D w p) (hn : ∀ i, i < ps.length → ∀ g, (ps.getD i Dp.zero).own g → ¬ p.own g) : DW D w (ps ++ [p]) := by
  have hsplit : ∀ i, i < (ps ++ [p]).length → i < ps.length ∨ i = ps.length := fun i hi => by simp at hi; omega
  refine ⟨h.bnd, fun i hi => ?_, fun i j hi hj hij g hg1 hg2 => ?_⟩
  · rcases hsplit i hi with e | e
    · rw [getD_app_lt p e]; exact h.pr i e
    · rw [e, getD_app_eq]; exact hp
  · rcases hsplit i hi with e | e <;> rcases hsplit j hj with e2 | e2
    · rw [getD_app_lt p e] at hg1; rw [getD_app_lt p e2] at hg2; exact h.ap i j e e2 hij g hg1 hg2
    · rw [getD_app_lt p e] at hg1; rw [e2, getD_app_eq] at hg2; exact hn i e g hg1 hg2
    · rw [e, getD_app_eq] at hg1; rw [getD_app_lt p e2] at hg2; exact hn j e2 g hg2 hg1
    · exact hij (by omega)
end Go.Proofs.Ytjhbaplnkigifaa

/-! keydir: the law's whole. -/
namespace Go.Proofs.Ytjhbaplnkigifaa
open Go.RowKit Plain
set_option linter.unusedVariables false
set_option linter.unusedSimpArgs false

theorem cmpL_nil' (xs : List UInt8) : cmpL xs [] ≠ -1 := by cases xs <;> simp [cmpL]
theorem rng_whole (l : List Ke) : rngL ⟨#[]⟩ ⟨#[]⟩ l = l := by
  unfold rngL
  rw [List.filter_eq_self]
  intro x _
  have h : kc x.key ⟨#[]⟩ ≠ -1 := cmpL_nil' _
  have h2 : (⟨#[]⟩ : ByteArray).size = 0 := rfl
  simp [rngB, h, h2]
theorem OwnV.later {w w' : World} {v : Value} {vs : List Value} {r : Option Nat} (h : OwnV w v vs r) (hb : Below w.heap.size w w') : OwnV w' v vs r := h.of_block hb.size (fun g e => hb.block g (by subst e; exact h.lt))
theorem quiet_s {P : Program} {f : FuncId} {args : Array Value} {w : World} {x : Nat} {v : Value}
    (h : Calls P f args (w.drewN x) fun e w' => e = .returned v ∧ w' = w.drewN x) : Calls P f args (w.drewN x) fun e w'' => e = .returned v ∧ ∃ n, w'' = w.drewN n :=
  h.mono fun _ _ ⟨he, hm⟩ => ⟨he, x, hm⟩
abbrev ptrD (p : Dp) : Value := .pointer (some ⟨p.gd, 0, none⟩)
abbrev ptrX (p : Dp) : Value := .pointer (some ⟨p.gx, 0, none⟩)
theorem ptr_at {ps : List Dp} {k : Nat} (f : Dp → Value) (h : k < ps.length) : (ps.map f)[k]? = some (f (ps.getD k Dp.zero)) := by
  rw [List.getElem?_map, List.getElem?_eq_getElem h, List.getD_eq_getElem?_getD, List.getElem?_eq_getElem h]; rfl
theorem krs_row {w : World} {v : Value} {l : List Ke} {r : Option Nat} (h : OwnKr w v (rowK l) r) (hl : l.length ≤ 2199023255500) (hok : ∀ k ∈ l, k.r.Ok) : KrsAt w v (rowK l) := h.recs (by simpa using hl) (fun x hx => by
  obtain ⟨k, hk, rfl⟩ := List.mem_map.mp hx
  exact hok k hk)
set_option maxHeartbeats 16000000 in
set_option maxRecDepth 100000 in
theorem wholeOf {D : Nat → Prop} (gw : Nat) (vd vx : Value) (rd rx : Option Nat) (ps : List Dp) (w : World) (hc0 : w.cell? ⟨gw, 0, none⟩ = some vd) (hc1 : w.cell? ⟨gw, 1, none⟩ = some vx) (hd : OwnV w vd (ps.map ptrD) rd) (hx : OwnV w vx (ps.map ptrX) rx) (h : DW D w ps) (hn : ps.length ≤ 8) :
    Calls Try.prog 8 #[.pointer (some ⟨gw, 0, none⟩)] w fun e w' => e = .returned (.bool true) ∧ Below w.heap.size w w' := by
  obtain ⟨ad, capd, e, hd1, hd2⟩ := hd.shape
  obtain ⟨ax, capx, e2, hx1, hx2⟩ := hx.shape
  rw [List.length_map] at e e2 hd2 hx2
  subst e e2
  have hgl := cell_lt hc0
  have HP : Hid (∀ u k, Below w.heap.size w u → k < ps.length → (∃ g, ad = some ⟨g, 0, none⟩ ∧ u.cell? ⟨g, k, none⟩ = some (.pointer (some ⟨(ps.getD k Dp.zero).gd, 0, none⟩))) ∧ (∃ g, ax = some ⟨g, 0, none⟩ ∧ u.cell? ⟨g, k, none⟩ = some (.pointer (some ⟨(ps.getD k Dp.zero).gx, 0, none⟩))) ∧ PairAt D u (ps.getD k Dp.zero)) := fun u k hu hk => by
    obtain ⟨g1, _, e1, e2⟩ := (hd.later hu).get (ptr_at ptrD hk)
    obtain ⟨g2, _, e3, e4⟩ := (hx.later hu).get (ptr_at ptrX hk)
    exact ⟨⟨g1, e1, e2⟩, ⟨g2, e3, e4⟩, (h.later hu).pr k hk⟩
  have HC : Hid (∀ u, Below w.heap.size w u → u.cell? ⟨gw, 0, none⟩ = some (.slice ad ps.length capd) ∧ u.cell? ⟨gw, 1, none⟩ = some (.slice ax ps.length capx)) := fun u hu => ⟨(hu.cell (p := ⟨gw, 0, none⟩) hgl).trans hc0, (hu.cell (p := ⟨gw, 1, none⟩) hgl).trans hc1⟩
  clear h hd hx hc0 hc1
  go_enter Try.func8, Try.ntmps8
  go_wp2
  go_loopw [3] (fun i wr => ∃ k : Nat, k ≤ ps.length ∧ i = .int .i64 k ∧ Hid (Below w.heap.size w wr)) (fun i _ => ps.length - (intOf i).toNat)
  case atStart => exact ⟨0, by omega, rfl, Below.refl _ _⟩
  case round =>
    obtain ⟨k, hk, rfl, HB⟩ := hrel
    obtain ⟨c0, c1⟩ := HC.out wr HB.out
    by_cases hlt : k < ps.length
    · have hki : (k : Int) < (ps.length : Int) := by omega
      obtain ⟨⟨g1, rfl, q1⟩, ⟨g2, rfl, q2⟩, hp⟩ := HP.out wr k HB.out hlt
      have HPA : Hid (∀ u, Below wr.heap.size wr u → PairAt D u (ps.getD k Dp.zero)) := fun u hu => (HP.out u k (HB.out.trans (hu.mono HB.out.size)) hlt).2.2
      have HQ : Hid (∀ u, Below wr.heap.size wr u → u.cell? ⟨g1, k, none⟩ = some (.pointer (some ⟨(ps.getD k Dp.zero).gd, 0, none⟩)) ∧ u.cell? ⟨g2, k, none⟩ = some (.pointer (some ⟨(ps.getD k Dp.zero).gx, 0, none⟩)) ∧ u.cell? ⟨gw, 0, none⟩ = some (.slice (some ⟨g1, 0, none⟩) ps.length capd) ∧ u.cell? ⟨gw, 1, none⟩ = some (.slice (some ⟨g2, 0, none⟩) ps.length capx)) := fun u hu => by
        obtain ⟨⟨g1', e1, q1'⟩, ⟨g2', e2, q2'⟩, _⟩ := HP.out u k (HB.out.trans (hu.mono HB.out.size)) hlt
        cases e1
        cases e2
        exact ⟨q1', q2', HC.out u (HB.out.trans (hu.mono HB.out.size))⟩
      generalize ps.getD k Dp.zero = p at *
      have hll := hp.xd.len
      have HXL : Hid (∀ u, Below wr.heap.size wr u → Calls Try.prog 24 #[.pointer (some ⟨p.gx, 0, none⟩)] u fun e w' => e = .returned (.int .i64 p.l.length) ∧ w' = u) := fun u hu => xlenOf p.gx p.v p.l p.r u (HPA.out u hu).xd
      have HDL : Hid (∀ u, Below wr.heap.size wr u → Calls Try.prog 23 #[.pointer (some ⟨p.gd, 0, none⟩)] u fun e w' => e = .returned (.int .i64 p.l.length) ∧ w' = u) := fun u hu => lenOf u (HPA.out u hu).dir
      have hwr : IntKind.i64.wrap ((p.l.length : Int) + 1) = (p.l.length : Int) + 1 := IntWalk.i64_in _ (by omega)
      have HRG : Hid (∀ u, Below wr.heap.size wr u → Calls Try.prog 27 #[.pointer (some ⟨p.gd, 0, none⟩), .string ⟨#[]⟩, .string ⟨#[]⟩, .int .i64 (IntKind.i64.wrap ((p.l.length : Int) + 1))] u fun e w' => ∃ v r, e = .returned v ∧ KrsAt w' v (rowK p.l) ∧ Below u.heap.size u w') := fun u hu => by
        rw [hwr]
        exact (rangeOf ⟨#[]⟩ ⟨#[]⟩ (p.l.length + 1) u (HPA.out u hu).dir (by decide) (by decide) (by omega)).mono fun e w' ⟨v, r, h1, h2, h3, h4⟩ => ⟨v, r, h1, krs_row (by
        have e1 : rngL ⟨#[]⟩ ⟨#[]⟩ p.l = p.l := rng_whole p.l
        rw [e1, List.take_of_length_le (by omega)] at h2
        exact h2) (by omega) hp.ok, h4⟩
      clear hp hwr
      go_wp2
      go_region_held3 (fun w' => w'.cell? ⟨gw, 0, none⟩ = some (.slice (some ⟨g1, 0, none⟩) ps.length capd) ∧ w'.cell? ⟨gw, 1, none⟩ = some (.slice (some ⟨g2, 0, none⟩) ps.length capx) ∧ w'.cell? ⟨g1, k, none⟩ = some (.pointer (some ⟨p.gd, 0, none⟩)) ∧ w'.cell? ⟨g2, k, none⟩ = some (.pointer (some ⟨p.gx, 0, none⟩))) (go_keep) (first
        | (go_at_call 24
           refine (HXL.out _ (by first | exact Below.refl _ _ | exact Below.drew (Below.refl _ _))).mono ?_
           rintro e w3 ⟨rfl, hw3⟩
           rcases hw3 with rfl)
        | (go_at_call 27
           refine (HRG.out _ (by first | exact Below.refl _ _ | exact Below.drew (Below.refl _ _))).mono ?_
           rintro e w4 ⟨v4, r4, rfl, hk4, hb4⟩
           have hb4' : Below wr.heap.size wr w4 := (by first | exact hb4 | exact (Below.drew (Below.refl _ wr)).trans hb4)
           have hq4 := HQ.out w4 hb4'
           rcases hq4 with ⟨e1, e2, e3, e4⟩
           have HB4 : Hid (Below wr.heap.size wr w4) := hb4'
           have HK4 : Hid (KrsAt w4 v4 (rowK p.l)) := hk4
           clear hk4 hb4 hb4'))
      have HP4 := HPA.out w4 HB4.out
      have x4 := HP4.xd.cell
      obtain ⟨xa, xc, exv, hxc1, hxc2⟩ := HP4.xd.shape
      have hXK : KrsAt w4 p.v (rowK p.l) := krs_row HP4.xd.row (by omega) HP4.ok
      have HSA : Hid (∀ n, Calls Try.prog 28 #[v4, p.v] (w4.drewN n) fun e w' => e = .returned (.bool true) ∧ ∃ m, w' = (w4.drewN n).drewN m) := fun n => sameOf v4 p.v (rowK p.l) _ (HK4.out.later (below_drewN (Below.refl _ _) n)) (hXK.later (below_drewN (Below.refl _ _) n))
      have HXL4 : Hid (∀ n, Calls Try.prog 24 #[.pointer (some ⟨p.gx, 0, none⟩)] (w4.drewN n) fun e w' => e = .returned (.int .i64 p.l.length) ∧ w' = w4.drewN n) := fun n => HXL.out _ (HB4.out.trans (below_drewN (Below.refl _ w4) n |>.mono HB4.out.size))
      have HDL4 : Hid (∀ n, Calls Try.prog 23 #[.pointer (some ⟨p.gd, 0, none⟩)] (w4.drewN n) fun e w' => e = .returned (.int .i64 p.l.length) ∧ w' = w4.drewN n) := fun n => HDL.out _ (HB4.out.trans (below_drewN (Below.refl _ w4) n |>.mono HB4.out.size))
      have HBN : Hid (∀ n, Below w.heap.size w (w4.drewN n)) := fun n => below_drewN (HB.out.trans (HB4.out.mono HB.out.size)) n
      clear hXK HP4 exv hxc1 hxc2 HXL HDL HRG
      go_wp2
      go_quiet ((first
        | (go_at_call 28; exact quiet_k (HSA.out _))
        | (go_at_call 24; exact quiet_s (HXL4.out _))
        | (go_at_call 23; exact quiet_s (HDL4.out _))))
      go_wp2
      go_roundw
      case rel => exact ⟨k + 1, by omega, by go_num, HBN.out _⟩
      case measure => simp [intOf]; omega
    · go_wp2
      go_ret
      exact ⟨rfl, HB.out⟩
end Go.Proofs.Ytjhbaplnkigifaa

/-! keydir: entries that are noted, in whatever order. -/
namespace Go.Proofs.Ytjhbaplnkigifaa
open Go.RowKit Plain
set_option linter.unusedVariables false
set_option linter.unusedSimpArgs false

theorem isSome_ke' (o : Option Kr) : (o.map Kr.ke).isSome = o.isSome := by cases o <;> rfl
theorem findL_mem {l : List Ke} (hs : Srt l) {x : Ke} (hx : x ∈ l) : findL x.key l = some x := by
  obtain ⟨ll, lr, e⟩ := List.append_of_mem hx
  subst e
  exact findL_eq hs (kc_self _)
/-- Rising lists that tell the same of each key are one. -/
theorem Srt.ext : ∀ {l1 l2 : List Ke}, Srt l1 → Srt l2 → (∀ key, findL key l1 = findL key l2) → l1 = l2
  | [], [], _, _, _ => rfl
  | [], y :: ys, h1, h2, h => by
    have e := h y.key
    rw [findL_mem h2 (by simp)] at e
    simp [findL] at e
  | x :: xs, [], h1, h2, h => by
    have e := h x.key
    rw [findL_mem h1 (by simp)] at e
    simp [findL] at e
  | x :: xs, y :: ys, h1, h2, h => by
    have p1 := h1.parts (ll := [])
    have p2 := h2.parts (ll := [])
    have ex := h x.key
    rw [findL_mem h1 (by simp)] at ex
    have ey := h y.key
    rw [findL_mem h2 (by simp)] at ey
    have mx := (findL_is ex.symm).1
    have my := (findL_is ey).1
    have hxy : x = y := by
      simp at mx my
      rcases mx with mx | mx
      · exact mx
      · rcases my with my | my
        · exact my.symm
        · have k1 := p2.2.2.2.1 x mx
          have k2 := p1.2.2.2.1 y my
          have k3 := kc_trans k1 k2
          rw [kc_self] at k3
          omega
    subst hxy
    have ht : ∀ key, findL key xs = findL key ys := fun key => by
      by_cases hk : kc key x.key = 0
      · rw [findL_none (l := xs) (fun z hz => by
          have h3 := p1.2.2.2.1 z hz
          rw [kc_zero hk]; omega), findL_none (l := ys) (fun z hz => by
          have h3 := p2.2.2.2.1 z hz
          rw [kc_zero hk]; omega)]
      · have e := h key
        rw [findL_cons, findL_cons, if_neg hk, if_neg hk] at e
        exact e
    rw [Srt.ext p1.2.1 p2.2.1 ht]

def noteK (l : List Ke) (x : Kr) : List Ke := if okKey x.key then noteL x.key x.ke.e l else l
/-- o is the one of the items with that key whose offset is the greatest. -/
def Best (key : ByteArray) (S : List Kr) (o : Option Kr) : Prop := match o with
  | none => ∀ x ∈ S, okKey x.key = true → x.key ≠ key
  | some r => r ∈ S ∧ okKey r.key = true ∧ r.key = key ∧ ∀ x ∈ S, okKey x.key = true → x.key = key → x.off ≤ r.off
/-- l is what stands when the items S have been noted. -/
def NotedBy (S : List Kr) (l : List Ke) : Prop := Srt l ∧ ∀ key, ∃ o, Best key S o ∧ findL key l = o.map Kr.ke
theorem NotedBy.nil : NotedBy [] [] := ⟨Srt.nil, fun key => ⟨none, by intro x hx; simp at hx, rfl⟩⟩
theorem noteL_srt {key : ByteArray} {e : En} {l : List Ke} (h : Srt l) : Srt (noteL key e l) := by
  unfold noteL
  split
  · exact h.ins key e
  · exact h
theorem find_note (key k : ByteArray) (e : En) (l : List Ke) : findL key (noteL k e l) = if kc key k = 0 ∧ noteB k e l = true then some ⟨k, e⟩ else findL key l := by
  unfold noteL
  by_cases hb : noteB k e l = true
  · rw [if_pos hb, findL_ins]
    by_cases hk : kc key k = 0
    · rw [if_pos hk, if_pos ⟨hk, hb⟩]
    · rw [if_neg hk, if_neg (fun h => hk h.1)]
  · rw [if_neg hb, if_neg (fun h => hb h.2)]
theorem NotedBy.note {S : List Kr} {l : List Ke} (h : NotedBy S l) (x : Kr) : NotedBy (x :: S) (noteK l x) := by
  obtain ⟨hs, hf⟩ := h
  unfold noteK
  by_cases hx : okKey x.key = true
  · rw [if_pos hx]
    refine ⟨noteL_srt hs, fun key => ?_⟩
    obtain ⟨o, ho, hfo⟩ := hf key
    rw [find_note]
    by_cases hk : kc key x.key = 0
    · have hke := kc_zero hk
      subst hke
      have hnb : noteB x.key x.ke.e l = !(o.isSome && decide (x.off ≤ (gotE (o.map Kr.ke)).off)) := by
        unfold noteB
        rw [hfo, isSome_ke']
        rfl
      cases o with
      | none =>
        rw [hnb]
        refine ⟨some x, ⟨by simp, hx, rfl, fun y hy hyo hyk => ?_⟩, by simp [kc_self]; rfl⟩
        simp at hy
        rcases hy with hy | hy
        · rw [hy]; omega
        · exact absurd hyk (ho y hy hyo)
      | some r =>
        obtain ⟨r1, r2, r3, r4⟩ := ho
        have hgo : (gotE (some r.ke)).off = r.off := rfl
        by_cases hle : x.off ≤ r.off
        · have e : noteB x.key x.ke.e l = false := by rw [hnb]; simp [hgo, hle]
          refine ⟨some r, ⟨by simp [r1], r2, r3, fun y hy hyo hyk => ?_⟩, by simp [e, hfo]⟩
          simp at hy
          rcases hy with hy | hy
          · rw [hy]; exact hle
          · exact r4 y hy hyo hyk
        · have e : noteB x.key x.ke.e l = true := by rw [hnb]; simp [hgo]; omega
          refine ⟨some x, ⟨by simp, hx, rfl, fun y hy hyo hyk => ?_⟩, by simp [e, kc_self]; rfl⟩
          simp at hy
          rcases hy with hy | hy
          · rw [hy]; omega
          · have := r4 y hy hyo hyk; omega
    · rw [if_neg (fun h => hk h.1)]
      have hne : x.key ≠ key := fun e => hk (by rw [← e]; exact kc_self _)
      refine ⟨o, ?_, hfo⟩
      cases o with
      | none =>
        intro y hy hyo
        simp at hy
        rcases hy with hy | hy
        · rw [hy]; exact hne
        · exact ho y hy hyo
      | some r =>
        obtain ⟨r1, r2, r3, r4⟩ := ho
        refine ⟨by simp [r1], r2, r3, fun y hy hyo hyk => ?_⟩
        simp at hy
        rcases hy with hy | hy
        · rw [hy] at hyk; exact absurd hyk hne
        · exact r4 y hy hyo hyk
  · rw [if_neg hx]
    refine ⟨hs, fun key => ?_⟩
    obtain ⟨o, ho, hfo⟩ := hf key
    refine ⟨o, ?_, hfo⟩
    cases o with
    | none =>
      intro y hy hyo
      simp at hy
      rcases hy with hy | hy
      · rw [hy] at hyo; exact absurd hyo hx
      · exact ho y hy hyo
    | some r =>
      obtain ⟨r1, r2, r3, r4⟩ := ho
      refine ⟨by simp [r1], r2, r3, fun y hy hyo hyk => ?_⟩
      simp at hy
      rcases hy with hy | hy
      · rw [hy] at hyo; exact absurd hyo hx
      · exact r4 y hy hyo hyk
theorem Best.mem {key : ByteArray} {S T : List Kr} {o : Option Kr} (h : Best key S o) (hm : ∀ x, x ∈ S ↔ x ∈ T) : Best key T o := by
  cases o with
  | none => exact fun x hx => h x ((hm x).mpr hx)
  | some r => exact ⟨(hm r).mp h.1, h.2.1, h.2.2.1, fun x hx => h.2.2.2 x ((hm x).mpr hx)⟩
/-- Items of unlike offsets: the best one is one. -/
theorem Best.unique {key : ByteArray} {S : List Kr} {o o' : Option Kr} (h : Best key S o) (h' : Best key S o') (hu : ∀ x ∈ S, ∀ y ∈ S, x.off = y.off → x = y) : o = o' := by
  cases o with
  | none =>
    cases o' with
    | none => rfl
    | some r => exact absurd h'.2.2.1 (h r h'.1 h'.2.1)
  | some r =>
    cases o' with
    | none => exact absurd h.2.2.1 (h' r h.1 h.2.1)
    | some r' =>
      have h1 := h.2.2.2 r' h'.1 h'.2.1 h'.2.2.1
      have h2 := h'.2.2.2 r h.1 h.2.1 h.2.2.1
      rw [hu r h.1 r' h'.1 (by omega)]
theorem NotedBy.unique {S T : List Kr} {l l' : List Ke} (h : NotedBy S l) (h' : NotedBy T l') (hm : ∀ x, x ∈ S ↔ x ∈ T) (hu : ∀ x ∈ S, ∀ y ∈ S, x.off = y.off → x = y) : l = l' :=
  Srt.ext h.1 h'.1 fun key => by
    obtain ⟨o, ho, e⟩ := h.2 key
    obtain ⟨o', ho', e'⟩ := h'.2 key
    rw [e, e', ho.unique (ho'.mem fun x => (hm x).symm) hu]
end Go.Proofs.Ytjhbaplnkigifaa

/-! keydir: Note of whatever key; the law's mod. -/
namespace Go.Proofs.Ytjhbaplnkigifaa
open Go.RowKit Plain
set_option linter.unusedVariables false
set_option linter.unusedSimpArgs false

set_option maxHeartbeats 4000000 in
theorem noteBad {D : Nat → Prop} {gd : Nat} {l : List Ke} (key : ByteArray) (en : En) (w : World) (h : DirAt D w gd l) (hk : key.size ≤ maxLen) (hn : okKey key = false) (hf : findL key l = none) : Calls Try.prog 13 #[.pointer (some ⟨gd, 0, none⟩), .string key, en.v] w fun e w' => e = .returned (.tuple #[.bool false, .int .i64 42]) ∧ Below w.heap.size w w' := by
  obtain ⟨w0, hw0⟩ : ∃ w0, w.alloc (.cells #[.int .i64 en.seg, .int .i64 en.pos, .int .i64 en.size, .int .i64 en.off, .int .i64 en.time, .bool en.tomb] 38) = w0 := ⟨_, rfl⟩
  have hb0 : Below w.heap.size w w0 := by rw [← hw0]; exact (Below.refl _ _).alloc (Nat.le_refl _) _
  have HEN : Hid (∀ u, Below w0.heap.size w0 u → EnAt u w.heap.size en) := fun u hu => by
    have h : EnAt w0 w.heap.size en := by rw [← hw0]; exact EnAt.new w en
    exact h.block (hu.block _ h.lt)
  have HG : Hid (Calls Try.prog 17 #[.pointer (some ⟨gd, 0, none⟩), .string key] w0 fun e w' => e = .returned (.tuple #[En.zero.v, .bool false]) ∧ Below w0.heap.size w0 w') := by
    have h2 := getOf key w0 (h.later hb0) hk
    rw [hf] at h2
    exact h2
  have HP : Hid (∀ u, Calls Try.prog 11 #[.pointer (some ⟨gd, 0, none⟩), .string key, en.v] u fun e w' => e = .returned (.tuple #[En.zero.v, .bool false, .int .i64 42]) ∧ Below u.heap.size u w') := fun u => putBad key en u hk hn
  obtain ⟨old, hold⟩ : ∃ old, En.zero = old := ⟨_, rfl⟩
  rw [hold] at HG HP
  clear hold h hf hn
  go_enter Try.func13, Try.ntmps13
  go_wp2_with fail
  refine HG.out.mono ?_
  rintro e w1 ⟨rfl, hb1⟩
  obtain ⟨w2, hw2⟩ : ∃ w2, w1.alloc (.cells #[.int .i64 old.seg, .int .i64 old.pos, .int .i64 old.size, .int .i64 old.off, .int .i64 old.time, .bool old.tomb] 38) = w2 := ⟨_, rfl⟩
  have hb12 : Below w1.heap.size w1 w2 := by rw [← hw2]; exact (Below.refl _ _).alloc (Nat.le_refl _) _
  have hb02 : Below w0.heap.size w0 w2 := below_step' hb1 hb12
  have HB2 : Hid (Below w.heap.size w w2) := below_step' hb0 hb02
  obtain ⟨d0, d1, d2, d3, d4, d5⟩ := HEN.out w2 hb02
  clear hb1 hb12 hb02
  go_wp2_with fail
  refine (HP.out w2).mono ?_
  rintro e w3 ⟨rfl, hb3⟩
  have HB3 : Hid (Below w.heap.size w w3) := below_step' HB2.out hb3
  clear hb3
  go_wp2
  refine bodyPost_ret (v := .tuple #[.bool false, .int .i64 42]) ?_ rfl ⟨rfl, ?_⟩
  · simp only [results, hresNote]
    go_simp
  · exact HB3.out.alloc HB3.out.size _

/-- Note of whatever key, where every key that stands there is one. -/
theorem noteAny {D : Nat → Prop} {gd : Nat} {l : List Ke} (x : Kr) (u : World) (hD : ∀ g, u.heap.size ≤ g → ¬ D g) (h : DirAt D u gd l) (hx : x.key.size ≤ maxLen) (hl : l.length ≤ 1125899906842600) (hf : okKey x.key = false → findL x.key l = none) :
    Calls Try.prog 13 #[.pointer (some ⟨gd, 0, none⟩), .string x.key, x.ke.e.v] u fun e w' => e = .returned (.tuple #[.bool (okKey x.key && noteB x.key x.ke.e l), .int .i64 (if okKey x.key then 0 else 42)]) ∧ u.grownBy w' (some gd) ∧ DirAt D w' gd (noteK l x) := by
  unfold noteK
  by_cases hk : okKey x.key = true
  · have hsz : 1 ≤ x.key.size ∧ x.key.size ≤ 64 := by simpa [okKey] using hk
    rw [if_pos hk, if_pos hk, hk, Bool.true_and]
    exact noteOf x.key x.ke.e u hD h hsz.1 hsz.2 hl
  · have hk' : okKey x.key = false := by simpa using hk
    rw [if_neg hk, if_neg hk, hk', Bool.false_and]
    exact (noteBad x.key x.ke.e u h hx hk' (hf hk')).mono fun e w' ⟨h1, h2⟩ => ⟨h1, below_grow h2 _, h.later h2⟩
theorem NotedBy.bad {S : List Kr} {l : List Ke} (h : NotedBy S l) {key : ByteArray} (hk : okKey key = false) : findL key l = none := by
  obtain ⟨o, ho, e⟩ := h.2 key
  cases o with
  | none => exact e
  | some r =>
    have h1 := ho.2.1
    rw [ho.2.2.1, hk] at h1
    cases h1
theorem noteK_len (l : List Ke) (x : Kr) : (noteK l x).length ≤ l.length + 1 := by
  unfold noteK noteL
  split
  · split
    · exact insL_len _ _ _
    · omega
  · omega

theorem modOf (x : Int) (n : Nat) (w : World) (hn : 1 ≤ n) (hn2 : n ≤ 1099511627776) (hx : I64 x) : Calls Try.prog 10 #[.int .i64 x, .int .i64 n] w fun e w' => (∃ k : Nat, k < n ∧ e = .returned (.int .i64 k)) ∧ w' = w := by
  have hp : (0 : Int) < (n : Int) := by omega
  have h1 := Int.tmod_lt_of_pos x hp
  have h2 := Int.lt_tmod_of_pos x hp
  have H1 : Hid (x.tmod n < n ∧ -(n : Int) < x.tmod n) := ⟨h1, h2⟩
  clear h1 h2
  go_enter Try.func10, Try.ntmps10
  go_wp2
  · have h3 : x.tmod (n : Int) < 0 := by assumption
    go_ret
    refine ⟨⟨(x.tmod (n : Int) + n).toNat, by have := H1.out; omega, ?_⟩, rfl⟩
    have e : wrap64 (x.tmod (n : Int) + n) = ((x.tmod (n : Int) + n).toNat : Int) := by
      have h4 := H1.out
      unfold wrap64
      omega
    exact congrArg (fun z => Ending.returned (.int .i64 z)) e
  · have h3 : 0 ≤ x.tmod (n : Int) := by assumption
    go_ret
    refine ⟨⟨(x.tmod (n : Int)).toNat, by have := H1.out; omega, ?_⟩, rfl⟩
    have e : x.tmod (n : Int) = ((x.tmod (n : Int)).toNat : Int) := by omega
    exact congrArg (fun z => Ending.returned (.int .i64 z)) e
end Go.Proofs.Ytjhbaplnkigifaa
