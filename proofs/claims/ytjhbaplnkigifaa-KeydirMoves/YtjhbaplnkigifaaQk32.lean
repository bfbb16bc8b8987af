import Derived.Test.YtjhbaplnkigifaaQk22
import Derived.Test.YtjhbaplnkigifaaQk14
import Derived.Sort.QuietIn
/-! keydir: whatever change of one pair; what a going through leaves alone. -/
namespace Go.Proofs.Ytjhbaplnkigifaa
open Go.RowKit Plain
set_option linter.unusedVariables false
set_option linter.unusedSimpArgs false

/-- One pair has turned: its own blocks alone; D and they have got only new ones. -/
structure Ev (D : Nat → Prop) (w : World) (p : Dp) (D' : Nat → Prop) (w' : World) (p' : Dp) : Prop where
  gd : p'.gd = p.gd
  gx : p'.gx = p.gx
  pr : PairAt D' w' p'
  bnd : ∀ g, D' g → g < w'.heap.size
  fr : Fr3 D D' p.own p'.own w w'
  kp : KeepsOthers w w'
theorem Ev.refl {D : Nat → Prop} {w : World} {p : Dp} (h : PairAt D w p) (hb : ∀ g, D g → g < w.heap.size) : Ev D w p D w p := ⟨rfl, rfl, h, hb, Fr3.below (Below.refl _ _), KeepsOthers.refl _⟩
theorem Ev.trans {D D' D'' : Nat → Prop} {w w' w'' : World} {p p' p'' : Dp} (h : Ev D w p D' w' p') (k : Ev D' w' p' D'' w'' p'') : Ev D w p D'' w'' p'' :=
  ⟨k.gd.trans h.gd, k.gx.trans h.gx, k.pr, k.bnd, h.fr.trans k.fr, h.kp.trans k.kp⟩
theorem PairAt.later {D : Nat → Prop} {w w' : World} {p : Dp} (h : PairAt D w p) (hb : Below w.heap.size w w') : PairAt D w' p := h.kept hb.size (fun g hg => hb.block g (h.lt g hg)) (fun g hg _ => hb.block g hg)
theorem Ev.later {D D' : Nat → Prop} {w w' u : World} {p p' : Dp} (h : Ev D w p D' w' p') (hb : Below w'.heap.size w' u) : Ev D w p D' u p' :=
  ⟨h.gd, h.gx, h.pr.later hb, fun g hg => Nat.lt_of_lt_of_le (h.bnd g hg) hb.size, h.fr.trans (Fr3.below hb), h.kp.trans (keeps_below hb)⟩
theorem Ev.ahead {D D' : Nat → Prop} {w u w' : World} {p p' : Dp} (hb : Below w.heap.size w u) (h : Ev D u p D' w' p') : Ev D w p D' w' p' :=
  ⟨h.gd, h.gx, h.pr, h.bnd, (Fr3.below hb).trans h.fr, (keeps_below hb).trans h.kp⟩
/-- The program's dir, then the document's. -/
theorem PairAt.step {D : Nat → Prop} {w w1 w2 : World} {p : Dp} {l' : List Ke} {v' : Value} {r' : Option Nat} (h : PairAt D w p) (hb : ∀ g, D g → g < w.heap.size)
    (hg : w.grownBy w1 (some p.gd)) (hd : DirAt D w1 p.gd l') (hx : XPut w1 w2 p.gx p.r l' v' r') (ha : AllK l') (hk : ∀ k ∈ l', k.r.Ok) :
    Ev D w p (fun g => D g ∨ r' = some g) w2 ⟨p.gd, p.gx, v', r', l'⟩ := by
  have hD : DW D w [p] := ⟨hb, fun i hi => by
    have : i = 0 := by simpa using hi
    subst this; exact h, fun i j hi hj hij => by simp at hi hj; omega⟩
  have hS := hD.step (i := 0) (by simp) hg hd hx ha hk
  have hsz1 := hg.size
  obtain ⟨q1, q2, q3, n, pp, hc, q5⟩ := h.dir
  refine ⟨rfl, rfl, hS.pr 0 (by simp), hS.bnd, ⟨((Chg.refl _ w).grown hg (fun g e => .inl (by cases e; exact .inl rfl))).trans' hx.chg (fun x hs => .inl (hs.elim (fun e => .inr (.inl e)) (fun e => .inr (.inr e)))), fun g hg => ?_, fun g hg => hg.elim .inl (fun e => hx.new.elim (fun e2 => .inl (h.own g (.inr (.inr (by rw [← e2]; exact e))))) (fun hh => .inr (by have := hh g e; omega))), fun g hg => .inl hg⟩, (keeps_cell hg hc).trans hx.kp⟩
  rcases hg with e | e | e
  · exact .inl (.inl e)
  · exact .inl (.inr (.inl e))
  · exact hx.new.elim (fun e2 => .inl (.inr (.inr (by rw [← e2]; exact e)))) (fun hh => .inr (by have := hh g e; omega))
/-- The same, of blocks alone. -/
structure Ev0 (D : Nat → Prop) (w : World) (p : Dp) (D' : Nat → Prop) (w' : World) (p' : Dp) : Prop where
  gd : p'.gd = p.gd
  gx : p'.gx = p.gx
  pr : PairAt D' w' p'
  bnd : ∀ g, D' g → g < w'.heap.size
  fr : Fr3 D D' p.own p'.own w w'
theorem Ev0.ahead {D D' : Nat → Prop} {w u w' : World} {p p' : Dp} (hb : Below w.heap.size w u) (h : Ev0 D u p D' w' p') : Ev0 D w p D' w' p' := ⟨h.gd, h.gx, h.pr, h.bnd, (Fr3.below hb).trans h.fr⟩
theorem Ev0.later {D D' : Nat → Prop} {w w' u : World} {p p' : Dp} (h : Ev0 D w p D' w' p') (hb : Below w'.heap.size w' u) : Ev0 D w p D' u p' :=
  ⟨h.gd, h.gx, h.pr.later hb, fun g hg => Nat.lt_of_lt_of_le (h.bnd g hg) hb.size, h.fr.trans (Fr3.below hb)⟩
/-- In the law's world. -/
theorem WdAt.stepG {D D' : Nat → Prop} {w w2 : World} {gw : Nat} {vd vx vl : Value} {rd rx rl : Option Nat} {ps : List Dp} {hs : List Ho} {i : Nat} {p' : Dp} (h : WdAt D w gw vd vx vl rd rx rl ps hs) (hi : i < ps.length) (he : Ev0 D w (ps.getD i Dp.zero) D' w2 p') :
    Fr3 D D' (WOwn gw rd rx rl ps hs) (WOwn gw rd rx rl (ps.set i p') hs) w w2 ∧ WdAt D' w2 gw vd vx vl rd rx rl (ps.set i p') hs := by
  have hp := h.dw.pr i hi
  have hsz := he.fr.1.size
  obtain ⟨f1, f2, f3, f4⟩ := he.fr
  have hDW : DW D' w2 (ps.set i p') := by
    refine ⟨he.bnd, fun j hj => ?_, fun j k hj hk hjk g hgj hgk => ?_⟩
    · rw [List.length_set] at hj
      by_cases e : i = j
      · subst e
        rw [getD_set_self _ hi]; exact he.pr
      · rw [getD_set_ne _ e]
        have hq := h.dw.pr j hj
        have hq2 : PairAt D' w (ps.getD j Dp.zero) := hq.widen f4 f3
        exact hq2.kept hsz (fun g hg => f1.block g (hq.lt g hg) (fun ho => h.dw.ap j i hj hi (fun e2 => e e2.symm) g hg ho)) (fun g hl hd => f1.block g hl (fun ho => hd (f4 g (hp.own g ho))))
    · rw [List.length_set] at hj hk
      by_cases e : i = j
      · subst e
        rw [getD_set_self _ hi] at hgj
        rw [getD_set_ne _ hjk] at hgk
        rcases f2 g hgj with q | q
        · exact h.dw.ap i k hi hk hjk g q hgk
        · have := (h.dw.pr k hk).lt g hgk; omega
      · rw [getD_set_ne _ e] at hgj
        by_cases e2 : i = k
        · subst e2
          rw [getD_set_self _ hi] at hgk
          rcases f2 g hgk with q | q
          · exact h.dw.ap j i hj hi hjk g hgj q
          · have := (h.dw.pr j hj).lt g hgj; omega
        · rw [getD_set_ne _ e2] at hgk
          exact h.dw.ap j k hj hk hjk g hgj hgk
  refine ⟨⟨f1.mono (fun g hg => .inr ⟨i, hi, hg⟩), fun g hg => ?_, f3, f4⟩, h.kept hsz (fun g hg => f1.block g (h.lt g hg) (h.notp g hg i hi)) hDW f4 (map_set_same ptrD _ hi (by unfold ptrD; rw [he.gd])) (map_set_same ptrX _ hi (by unfold ptrX; rw [he.gx])) (fun g hg j hj ho => ?_)⟩
  · rcases hg with e | ⟨j, hj, ho⟩
    · exact .inl (.inl e)
    · rw [List.length_set] at hj
      by_cases e : i = j
      · subst e
        rw [getD_set_self _ hi] at ho
        exact (f2 g ho).imp (fun q => .inr ⟨i, hi, q⟩) id
      · rw [getD_set_ne _ e] at ho
        exact .inl (.inr ⟨j, hj, ho⟩)
  · rw [List.length_set] at hj
    by_cases e : i = j
    · subst e
      rw [getD_set_self _ hi] at ho
      rcases f2 g ho with q | q
      · exact h.notp g hg i hi q
      · have := h.lt g hg; omega
    · rw [getD_set_ne _ e] at ho
      exact h.notp g hg j hj ho
/-- What erode leaves of a list. -/
def zeroB : ByteArray := ⟨#[0]⟩
def erodeL (me : En) (pre l : List Ke) : List Ke := pre.foldl (fun l x => putL (x.key ++ zeroB) me (delL x.key l)) l
theorem erodeL_snoc (me : En) (pre l : List Ke) (x : Ke) : erodeL me (pre ++ [x]) l = putL (x.key ++ zeroB) me (delL x.key (erodeL me pre l)) := by simp [erodeL]
theorem del_short1 {k : ByteArray} {l : List Ke} {y : Ke} (hy : y ∈ l) (hk : y.key = k) : (delL k l).length + 1 ≤ l.length := by
  unfold delL
  induction l with
  | nil => simp at hy
  | cons x xs ih =>
    by_cases hx : kc k x.key = 0
    · rw [List.filter_cons_of_neg (by simp [hx])]
      have := List.length_filter_le (fun x : Ke => decide (kc k x.key ≠ 0)) xs
      simp only [List.length_cons]; omega
    · rw [List.filter_cons_of_pos (by simp [hx])]
      rcases List.mem_cons.mp hy with e | e
      · subst e; exact absurd (by rw [hk]; exact kc_self k) hx
      · have := ih e; simp only [List.length_cons]; omega
theorem ins_keys {k : ByteArray} {en : En} : ∀ {l : List Ke} {z : Ke}, z ∈ l → ∃ z' ∈ insL k en l, z'.key = z.key
  | [], z, h => by simp at h
  | x :: xs, z, h => by
    unfold insL
    split
    · exact ⟨z, by simp only [List.mem_cons] at h ⊢; exact .inr h, rfl⟩
    · split
      · rcases List.mem_cons.mp h with e | e
        · subst e; exact ⟨⟨z.key, en⟩, by simp, rfl⟩
        · exact ⟨z, by simp [e], rfl⟩
      · rcases List.mem_cons.mp h with e | e
        · subst e; exact ⟨z, by simp, rfl⟩
        · obtain ⟨z', h1, h2⟩ := ins_keys (k := k) (en := en) e
          exact ⟨z', by simp [h1], h2⟩
theorem putL_keys {k : ByteArray} {en : En} {l : List Ke} {z : Ke} (h : z ∈ l) : ∃ z' ∈ putL k en l, z'.key = z.key := by
  unfold putL
  split
  · exact ins_keys h
  · exact ⟨z, h, rfl⟩
theorem erode_len (me : En) : ∀ (pre l : List Ke), pre.Pairwise (fun a b => kc a.key b.key = -1) → (∀ x ∈ pre, ∃ z ∈ l, z.key = x.key) → (erodeL me pre l).length ≤ l.length
  | [], l, _, _ => Nat.le_refl _
  | x :: xs, l, hp, hk => by
    obtain ⟨hx, hxs⟩ := List.pairwise_cons.mp hp
    obtain ⟨z, hz, hzk⟩ := hk x (by simp)
    have h1 := del_short1 hz hzk
    have h2 := putL_len (x.key ++ zeroB) me (delL x.key l)
    refine Nat.le_trans (erode_len me xs (putL (x.key ++ zeroB) me (delL x.key l)) hxs fun y hy => ?_) (by omega)
    obtain ⟨z, hz, hzk⟩ := hk y (by simp [hy])
    have hm : z ∈ delL x.key l := List.mem_filter.mpr ⟨hz, by
      have := hx y hy
      rw [hzk]
      simp [this]⟩
    obtain ⟨z', h3, h4⟩ := putL_keys (k := x.key ++ zeroB) (en := me) hm
    exact ⟨z', h3, h4.trans hzk⟩
/-- .. of keys that a going through has given. -/
theorem erode_short (me : En) {lo hi : ByteArray} {l pre : List Ke} (hs : Srt l) (h : pre <+: rngL lo hi l) : (erodeL me pre l).length ≤ l.length := by
  have h1 : pre.Sublist l := h.sublist.trans List.filter_sublist
  exact erode_len me pre l (List.Pairwise.sublist h1 hs) fun x hx => ⟨x, h1.mem hx, rfl⟩
theorem AllK.del {l : List Ke} (h : AllK l) (key : ByteArray) : AllK (delL key l) := fun k hm => h k (List.mem_filter.mp hm).1
theorem del_ok {l : List Ke} (h : ∀ k ∈ l, k.r.Ok) (key : ByteArray) : ∀ k ∈ delL key l, k.r.Ok := fun k hm => h k (List.mem_filter.mp hm).1
/-- Where a block that is no cells has turned. -/
theorem cells_ne {w : World} {g o : Nat} {u : Value} (hc : w.cell? ⟨g, o, none⟩ = some u) {k : Nat} {ob : Obj} (hk : w.heap[k]? = some ob) (hn : ob.isCells = false) : g ≠ k := by
  rintro rfl
  cases ob <;> first | (exfalso; simp [World.cell?, hk] at hc; done) | cases hn
theorem steady_block {w w' : World} {row : Option Nat} (hg : w.grownBy w' row) (hr : ∀ k, row = some k → ∃ ob : Obj, w.heap[k]? = some ob ∧ ob.isCells = false) {g o : Nat} {u : Value} (hc : w.cell? ⟨g, o, none⟩ = some u) : w'.heap[g]? = w.heap[g]? :=
  hg.block g (cell_lt hc) (fun e => by
    obtain ⟨ob, h1, h2⟩ := hr g e.symm
    exact cells_ne hc h1 h2 rfl)
theorem TreeAt.steady {P : Nat → Prop} {w w' : World} {row : Option Nat} (hg : w.grownBy w' row) (hr : ∀ k, row = some k → ∃ ob : Obj, w.heap[k]? = some ob ∧ ob.isCells = false) : ∀ {n : Nat} {p : Option Addr} {l : List Ke}, TreeAt P w n p l → TreeAt P w' n p l
  | 0, p, l, h => h
  | n + 1, p, l, h => by
    rcases h with h | ⟨g, k, pl, pr, ll, lr, e, hp, hk, hn, rfl, h1, h2⟩
    · exact .inl h
    · exact .inr ⟨g, k, pl, pr, ll, lr, e, hp, hk, hn.block (steady_block hg hr hn.c0), rfl, TreeAt.steady hg hr h1, TreeAt.steady hg hr h2⟩
theorem DirAt.steady {D : Nat → Prop} {w w' : World} {row : Option Nat} (hg : w.grownBy w' row) (hr : ∀ k, row = some k → ∃ ob : Obj, w.heap[k]? = some ob ∧ ob.isCells = false) {gd : Nat} {l : List Ke} (h : DirAt D w gd l) : DirAt D w' gd l := by
  obtain ⟨h1, h2, h3, n, p, h4, h5⟩ := h
  have hb := steady_block hg hr h4
  exact ⟨h1, h2, (World.frozen?_of_block (w := w) (a := ⟨gd, 0, none⟩) hb).trans h3, n, p, (World.cell?_of_block (w := w) (a := ⟨gd, 0, none⟩) hb).trans h4, TreeAt.steady hg hr h5⟩
theorem OwnKr.steadyAll {w w' : World} {row : Option Nat} (hg : w.grownBy w' row) (hr : ∀ k, row = some k → ∃ ob : Obj, w.heap[k]? = some ob ∧ ob.isCells = false) {v : Value} {ts : List Kr} {r : Option Nat} (h : OwnKr w v ts r) : OwnKr w' v ts r := by
  rcases h with h0 | ⟨g, cap, rfl, rfl, hgl, h1, h2, h3, h4, h5⟩
  · exact .inl h0
  · by_cases h0 : cap = 0
    · subst h0
      have ht : ts = [] := List.eq_nil_of_length_eq_zero (by omega)
      subst ht
      exact .inr ⟨g, 0, rfl, rfl, Nat.lt_of_lt_of_le hgl hg.size, by simp, h2, fun j hj => by omega, fun j hj => by omega, fun j hj => by simp at hj⟩
    · obtain ⟨u, hu⟩ := Option.isSome_iff_exists.mp (h4 0 (by omega))
      have hb := steady_block hg hr hu
      refine .inr ⟨g, cap, rfl, rfl, Nat.lt_of_lt_of_le hgl hg.size, h1, h2, fun j hj => ?_, fun j hj => ?_, fun j hj => ?_⟩
      · rw [World.frozen?_of_block (w := w) (a := ⟨g, j, none⟩) hb]; exact h3 j hj
      · rw [World.cell?_of_block (w := w) (a := ⟨g, j, none⟩) hb]; exact h4 j hj
      · rw [World.cell?_of_block (w := w) (a := ⟨g, j, none⟩) hb]; exact h5 j hj
theorem PairAt.steady {D : Nat → Prop} {w w' : World} {row : Option Nat} (hg : w.grownBy w' row) (hr : ∀ k, row = some k → ∃ ob : Obj, w.heap[k]? = some ob ∧ ob.isCells = false) {p : Dp} (h : PairAt D w p) : PairAt D w' p := by
  have hx := h.xd
  have hb := steady_block hg hr hx.cell
  exact ⟨h.dir.steady hg hr, ⟨(World.cell?_of_block (w := w) (a := ⟨p.gx, 0, none⟩) hb).trans hx.cell, (World.frozen?_of_block (w := w) (a := ⟨p.gx, 0, none⟩) hb).trans hx.froz, hx.row.steadyAll hg hr, hx.ne, hx.srt, hx.short, hx.len⟩, h.own, h.ne, h.all, h.ok⟩
end Go.Proofs.Ytjhbaplnkigifaa

/-! keydir: a loop over All in whose rounds only the tree's own blocks are kept. -/
namespace Go.Proofs.Ytjhbaplnkigifaa
open Go.RowKit Go.Shelf Plain
attribute [local go_sem] Oper.semAt_some
set_option linter.unusedVariables false
set_option linter.unusedSimpArgs false

theorem rangeAllP (P : Nat → Prop) (F : Ke → Nat → Act) {n n₀ : Nat} {g : Operand} {ps : Array Tmp} {assign body : Code} {Q : Exit → Act → World → Prop} {a : Act} {w : World} {gf : Nat} {lb : Array Value} {L : List Ke} (h1 : 1 ≤ n)
    (hg : a.eval g = .func (.func gf) #[] lb) (eg : ∀ args w, (callFunc gf args).run Try.prog w = .ok (.enter gf args) w) (hn₀ : n₀ ≤ w.heap.size)
    (hseq : SeqStopsK Fence.wide (n - 1) Try.prog gf lb kencs (KpP n₀ P) (fun ys => ys = L) (fun pre => pre <+: L) L.length w) (hps : ∀ x, (kencs x).size = ps.size)
    (I Ix : List Ke → World → Prop) (hI : OwnFrom w.heap.size I) (hIx : OwnFrom w.heap.size Ix) (h0 : I [] w)
    (hassign : ∀ (l : Nat) (x : Ke) (W : World) (K : Act → World → Prop), (∀ a', a' = F x W.heap.size → K a' (W.alloc (.cells #[.int .i64 x.e.seg, .int .i64 x.e.pos, .int .i64 x.e.size, .int .i64 x.e.off, .int .i64 x.e.time, .bool x.e.tomb] 38))) →
      assign.wpIn (Fence.wide.inRound l) (n - 1 - 1) Try.prog (Exit.then K (fun _ _ _ => False)) { tmps := (ps.zip (kencs x)).foldl (fun t (p, v) => t.setIfInBounds p v) a.tmps, defers := [] } W)
    (hbody : ∀ (l : Nat) (pre : List Ke) (x : Ke) (Bx : Nat) (W : World), I pre W → n₀ ≤ W.heap.size → EnAt W Bx x.e → w.heap.size ≤ Bx → body.wpIn (Fence.wide.inRound l) (n - 1 - 1) Try.prog (ownPostG w.heap.size (KpP n₀ P) I (fun c xs W => c = .ret ∧ Ix xs W) (pre ++ [x]) W) (F x Bx) W)
    (hsz : ∀ s W, I s W → w.heap.size ≤ W.heap.size)
    (hdone : ∀ (D : Nat) (W : World), w.heap.size ≤ D → I L W → W.heap[D]? = some (.deferred (some [])) → Q .normal { a with defers := { target := .collected D, args := #[] } :: a.defers } W)
    (hstop : ∀ (pre : List Ke) (W : World), pre <+: L → Ix pre W → False) : (Code.rangeFunc g ps assign body).wpIn Fence.wide n Try.prog Q a w := by
  refine wpIn_rangeFunc_ownH rfl h1 hg trivial eg hseq (fun h k => h.trans k) (fun W l o o' hl _ _ _ => KpP.putB hn₀ W l o o' hl) (Below.refl _ _) hps I (fun c xs W => c = .ret ∧ Ix xs W) hI (fun c s A A' row h hg hr => ⟨h.1, hIx s A A' row h.2 hg hr⟩) h0 (fun x a' V => ∃ Bx, EnAt V Bx x.e ∧ w.heap.size ≤ Bx ∧ a' = F x Bx)
    (fun x a' s A A' row ⟨Bx, ⟨k0, k1, k2, k3, k4, k5⟩, h3, h2⟩ hg hr => ⟨Bx, ⟨cell_kept k0 hg (fun k e => (hr k e).2), cell_kept k1 hg (fun k e => (hr k e).2), cell_kept k2 hg (fun k e => (hr k e).2), cell_kept k3 hg (fun k e => (hr k e).2), cell_kept k4 hg (fun k e => (hr k e).2), cell_kept k5 hg (fun k e => (hr k e).2)⟩, h3, h2⟩) ?_ ?_ ?_ ?_
  · intro l pre x W K hi hK
    refine hassign l x W K fun a' ha => hK _ _ ((KeepsOthers.alloc _ _).from _) (KpP.of ((Below.refl _ W).alloc (Nat.le_refl _) _) (Nat.le_trans hn₀ (hsz _ _ hi))) (hI.alloc _ hi) ⟨W.heap.size, EnAt.new W x.e, hsz _ _ hi, ha⟩
  · rintro l pre x a' W - - hi ⟨Bx, hen, hbx, rfl⟩ -
    exact hbody l pre x Bx W hi (Nat.le_trans hn₀ (hsz _ _ hi)) hen hbx
  · rintro D xs W hD rfl hi hK
    exact hdone D W hD hi hK
  · rintro D c pre W hD hpre ⟨rfl, hx⟩ hK
    exact (hstop pre W hpre hx).elim
/-- A loop over All, of no more rounds than there are keys. -/
theorem rangeAllN (F : Ke → Nat → Act) {n n₀ : Nat} {g : Operand} {ps : Array Tmp} {assign body : Code} {Q : Exit → Act → World → Prop} {a : Act} {w : World} {gf : Nat} {lb : Array Value} {L : List Ke} (h1 : 1 ≤ n)
    (hg : a.eval g = .func (.func gf) #[] lb) (eg : ∀ args w, (callFunc gf args).run Try.prog w = .ok (.enter gf args) w) (hn₀ : n₀ ≤ w.heap.size)
    (hseq : SeqStopsK Fence.wide (n - 1) Try.prog gf lb kencs (Below n₀) (fun ys => ys = L) (fun pre => pre <+: L) L.length w) (hps : ∀ x, (kencs x).size = ps.size)
    (I Ix : List Ke → World → Prop) (hI : OwnFrom w.heap.size I) (hIx : OwnFrom w.heap.size Ix) (h0 : I [] w)
    (hassign : ∀ (l : Nat) (x : Ke) (W : World) (K : Act → World → Prop), (∀ a', a' = F x W.heap.size → K a' (W.alloc (.cells #[.int .i64 x.e.seg, .int .i64 x.e.pos, .int .i64 x.e.size, .int .i64 x.e.off, .int .i64 x.e.time, .bool x.e.tomb] 38))) →
      assign.wpIn (Fence.wide.inRound l) (n - 1 - 1) Try.prog (Exit.then K (fun _ _ _ => False)) { tmps := (ps.zip (kencs x)).foldl (fun t (p, v) => t.setIfInBounds p v) a.tmps, defers := [] } W)
    (hbody : ∀ (l : Nat) (pre : List Ke) (x : Ke) (Bx : Nat) (W : World), I pre W → n₀ ≤ W.heap.size → EnAt W Bx x.e → pre.length < L.length → body.wpIn (Fence.wide.inRound l) (n - 1 - 1) Try.prog (ownPostG w.heap.size (Below n₀) I (fun c xs W => c = .ret ∧ Ix xs W) (pre ++ [x]) W) (F x Bx) W)
    (hsz : ∀ s W, I s W → n₀ ≤ W.heap.size)
    (hdone : ∀ (D : Nat) (W : World), w.heap.size ≤ D → I L W → W.heap[D]? = some (.deferred (some [])) → Q .normal { a with defers := { target := .collected D, args := #[] } :: a.defers } W)
    (hstop : ∀ (pre : List Ke) (W : World), pre <+: L → Ix pre W → False) : (Code.rangeFunc g ps assign body).wpIn Fence.wide n Try.prog Q a w := by
  refine wpIn_rangeFunc_ownH rfl h1 hg trivial eg hseq belowK_t (belowK_b hn₀) (Below.refl _ _) hps I (fun c xs W => c = .ret ∧ Ix xs W) hI (fun c s A A' row h hg hr => ⟨h.1, hIx s A A' row h.2 hg hr⟩) h0 (fun x a' V => ∃ Bx, EnAt V Bx x.e ∧ a' = F x Bx)
    (fun x a' s A A' row ⟨Bx, ⟨k0, k1, k2, k3, k4, k5⟩, h2⟩ hg hr => ⟨Bx, ⟨cell_kept k0 hg (fun k e => (hr k e).2), cell_kept k1 hg (fun k e => (hr k e).2), cell_kept k2 hg (fun k e => (hr k e).2), cell_kept k3 hg (fun k e => (hr k e).2), cell_kept k4 hg (fun k e => (hr k e).2), cell_kept k5 hg (fun k e => (hr k e).2)⟩, h2⟩) ?_ ?_ ?_ ?_
  · intro l pre x W K hi hK
    refine hassign l x W K fun a' ha => hK _ _ ((KeepsOthers.alloc _ _).from _) ((Below.refl _ W).alloc (hsz _ _ hi) _) (hI.alloc _ hi) ⟨W.heap.size, EnAt.new W x.e, ha⟩
  · rintro l pre x a' W - - hi ⟨Bx, hen, rfl⟩ hN
    exact hbody l pre x Bx W hi (hsz _ _ hi) hen hN
  · rintro D xs W hD rfl hi hK
    exact hdone D W hD hi hK
  · rintro D c pre W hD hpre ⟨rfl, hx⟩ hK
    exact (hstop pre W hpre hx).elim
end Go.Proofs.Ytjhbaplnkigifaa

/-! keydir: erode's first loop: what stands between two rounds. -/
namespace Go.Proofs.Ytjhbaplnkigifaa
open Go.RowKit Go.Shelf Plain
set_option linter.unusedVariables false
set_option linter.unusedSimpArgs false

theorem Hid.mkz {p : Prop} (h : p) : Hid p := h
theorem prefix_snocZ {R pre : List Ke} {x : Ke} (h : pre <+: R) (hl : pre.length < R.length) (hx : R.getD pre.length Ke.zero = x) : pre ++ [x] <+: R := by
  obtain ⟨t, rfl⟩ := h
  cases t with
  | nil => simp at hl
  | cons y t =>
    have e : y = x := by
      rw [← hx]
      simp [List.getD_eq_getElem?_getD]
    subst e
    exact ⟨t, by simp⟩
theorem prefix_lastZ {R pre : List Ke} {x : Ke} (h : pre ++ [x] <+: R) : pre.length < R.length ∧ R.getD pre.length Ke.zero = x := by
  obtain ⟨t, rfl⟩ := h
  refine ⟨by simp, ?_⟩
  simp [List.getD_eq_getElem?_getD]
theorem setN_keepsZ (B : Nat) (W : World) (nq : Nat) (p : Addr) (v : Value) : KeepsFrom B W ((W.drewN nq).setCell p v) := by
  have h1 : KeepsOthers W (W.drewN nq) := ⟨Nat.le_refl _, fun _ _ h _ => h⟩
  exact (h1.trans (KeepsOthers.setCell _ _ _)).from B
theorem keys_neZ {a b : ByteArray} (h : ¬ a = b) : (a.toList == b.toList) = false := by
  rw [ByteArray.toList_eq, ByteArray.toList_eq]
  simp only [beq_eq_false_iff_ne, ne_eq]
  intro e
  apply h
  obtain ⟨⟨x⟩⟩ := a
  obtain ⟨⟨y⟩⟩ := b
  simp at e
  rw [e]
/-- A post that lets nothing but ends and returns by. -/
def okPostZ (Q : Exit → Act → World → Prop) : Exit → Act → World → Prop
  | .normal, a, w => Q .normal a w
  | .ret, a, w => Q .ret a w
  | _, _, _ => False
theorem wp_okPostZ {P : Program} {c : Code} {Q : Exit → Act → World → Prop} {a : Act} {w : World} (h : c.wp P (okPostZ Q) a w) : c.wp P Q a w :=
  Code.wp_mono (fun e a w hq => by cases e <;> first | exact hq | exact hq.elim) h
theorem map_r_getDZ {l : List Ke} {j : Nat} (h : j < l.length) : (rowK l).getD j Kr.zero = (l.getD j Ke.zero).r := by
  simp [rowK, List.getD_eq_getElem?_getD, List.getElem?_eq_getElem h]

/-- The pair behind the first rounds, and the box of n. -/
structure ErS (D : Nat → Prop) (w1 : World) (p : Dp) (bn : Nat) (c : Nat) (L : List Ke) (W : World) (D' : Nat → Prop) (p' : Dp) : Prop where
  cell : W.cell? ⟨bn, 0, none⟩ = some (.int .i64 c)
  froz : W.frozen? ⟨bn, 0, none⟩ = false
  l : p'.l = L
  gd : p'.gd = p.gd
  gx : p'.gx = p.gx
  pr : PairAt D' W p'
  bnd : ∀ g, D' g → g < W.heap.size
  chg : Chg (fun g => p.own g ∨ g = bn) w1 W
  own : ∀ g, p'.own g → p.own g ∨ w1.heap.size ≤ g
  d1 : ∀ g, D' g → D g ∨ w1.heap.size ≤ g
  d2 : ∀ g, D g → D' g
/-- The box of n lies in D, and is none of the pair's. -/
structure ErB (D : Nat → Prop) (w1 : World) (p : Dp) (bn : Nat) : Prop where
  d : D bn
  o : ¬ p.own bn
  lt : bn < w1.heap.size
  sub : ∀ g, p.own g → D g
theorem ErS.not {D D' : Nat → Prop} {w1 W : World} {p p' : Dp} {bn c : Nat} {L : List Ke} (h : ErS D w1 p bn c L W D' p') (hb : ErB D w1 p bn) : ¬ p'.own bn := fun ho => by
  rcases h.own bn ho with e | e
  · exact hb.o e
  · have := hb.lt; omega
theorem ErS.steady {D D' : Nat → Prop} {w1 W W' : World} {p p' : Dp} {bn c : Nat} {L : List Ke} {row : Option Nat} (h : ErS D w1 p bn c L W D' p') (hg : W.grownBy W' row) (hr : ∀ k, row = some k → w1.heap.size ≤ k ∧ ∃ ob : Obj, W.heap[k]? = some ob ∧ ob.isCells = false) : ErS D w1 p bn c L W' D' p' :=
  ⟨cell_kept h.cell hg (fun k e => (hr k e).2), (frozen_kept h.cell hg (fun k e => (hr k e).2)).trans h.froz, h.l, h.gd, h.gx, h.pr.steady hg (fun k e => (hr k e).2), fun g hd => Nat.lt_of_lt_of_le (h.bnd g hd) hg.size, h.chg.grown hg (fun g e => .inr (hr g e).1), h.own, h.d1, h.d2⟩
theorem ErS.setN {D D' : Nat → Prop} {w1 W : World} {p p' : Dp} {bn c : Nat} {L : List Ke} (h : ErS D w1 p bn c L W D' p') (hb : ErB D w1 p bn) (nq c' : Nat) (v : Value) (hv : v = .int .i64 c') : ErS D w1 p bn c' L ((W.drewN nq).setCell ⟨bn, 0, none⟩ v) D' p' := by
  subst hv
  have hg := grow_setC (W.drewN nq) bn 0 (.int .i64 (c' : Int))
  have hno := h.not hb
  have hblk : ∀ g, g < W.heap.size → g ≠ bn → ((W.drewN nq).setCell ⟨bn, 0, none⟩ (.int .i64 (c' : Int))).heap[g]? = W.heap[g]? := fun g hl hn => hg.block g hl (fun e => hn (by cases e; rfl))
  refine ⟨World.cell?_setCell_same' _ _ _ (by show (W.cell? _).isSome = true; rw [h.cell]; rfl), by rw [World.frozen?_setCell]; exact h.froz, h.l, h.gd, h.gx, h.pr.kept hg.size (fun g ho => hblk g (h.pr.lt g ho) (fun e => hno (by rw [← e]; exact ho))) (fun g hl hd => hblk g hl (fun e => hd (by rw [e]; exact h.d2 bn hb.d))), fun g hd => Nat.lt_of_lt_of_le (h.bnd g hd) hg.size, ?_, h.own, h.d1, h.d2⟩
  exact (h.chg.more (below_drewN (Below.refl _ _) nq)).grown hg (fun g e => .inl (.inr (by cases e; rfl)))
theorem ErS.ev {D D' D'' : Nat → Prop} {w1 W W2 : World} {p p' p'' : Dp} {bn c : Nat} {L L' : List Ke} (h : ErS D w1 p bn c L W D' p') (hb : ErB D w1 p bn) (he : Ev D' W p' D'' W2 p'') (hl : p''.l = L') : ErS D w1 p bn c L' W2 D'' p'' := by
  obtain ⟨f1, f2, f3, f4⟩ := he.fr
  have hsz := h.chg.size
  have hblk : W2.heap[bn]? = W.heap[bn]? := f1.block bn (cell_lt h.cell) (h.not hb)
  refine ⟨(World.cell?_of_block (w := W) (a := ⟨bn, 0, none⟩) hblk).trans h.cell, (World.frozen?_of_block (w := W) (a := ⟨bn, 0, none⟩) hblk).trans h.froz, hl, he.gd.trans h.gd, he.gx.trans h.gx, he.pr, he.bnd, h.chg.trans' f1 (fun x hx => (h.own x hx).imp .inl id), fun g hg => ?_, fun g hg => ?_, fun g hg => f4 g (h.d2 g hg)⟩
  · rcases f2 g hg with e | e
    · exact h.own g e
    · exact .inr (by omega)
  · rcases f3 g hg with e | e
    · exact h.d1 g e
    · exact .inr (by omega)
theorem ErS.kpN {D D' : Nat → Prop} {w1 W : World} {p p' : Dp} {bn c : Nat} {L : List Ke} (h : ErS D w1 p bn c L W D' p') (hb : ErB D w1 p bn) (nq : Nat) (v : Value) : KpP w1.heap.size (fun g => ¬ D g) W ((W.drewN nq).setCell ⟨bn, 0, none⟩ v) := by
  have hg := grow_setC (W.drewN nq) bn 0 v
  have hsz := h.chg.size
  exact ⟨hg.size, fun g ⟨hl, hd⟩ => hg.block g (Nat.lt_of_lt_of_le hl hsz) (fun e => hd (by cases e; exact hb.d))⟩
theorem ErS.kpE {D D' D'' : Nat → Prop} {w1 W W2 : World} {p p' p'' : Dp} {bn c : Nat} {L : List Ke} (h : ErS D w1 p bn c L W D' p') (hb : ErB D w1 p bn) (he : Ev D' W p' D'' W2 p'') : KpP w1.heap.size (fun g => ¬ D g) W W2 := by
  have hsz := h.chg.size
  refine ⟨he.fr.1.size, fun g ⟨hl, hd⟩ => he.fr.1.block g (Nat.lt_of_lt_of_le hl hsz) (fun ho => ?_)⟩
  rcases h.own g ho with e | e
  · exact hd (hb.sub g e)
  · omega
end Go.Proofs.Ytjhbaplnkigifaa

/-! Regions that draw their order, within a round. -/
namespace Go.Proofs.Ytjhbaplnkigifaa
open Go.RowKit Go.Shelf Plain
set_option linter.unusedVariables false

/-- No operation of these puts a call off. -/
def noDefer (l : List Oper) : Bool := l.all fun o => match o.op with
  | .defer _ => false
  | _ => true
theorem noDefer_at {l : List Oper} (h : noDefer l = true) {i : Nat} {o : Oper} (ho : l.toArray[i]? = some o) : ∀ c, o.op ≠ .defer c := by
  intro c e
  have hm : o ∈ l := by
    rw [List.getElem?_toArray] at ho
    exact List.mem_of_getElem? ho
  have h1 := List.all_eq_true.mp h o hm
  rw [e] at h1
  cases h1
theorem uponIn_round {o : Oper} {n l : Nat} {a : Act} {K : Act → World → Prop} {Q : Exit → Act → World → Prop} {r : Result Next} (h : o.uponIn Fence.wide n Try.prog a K Q r) : o.uponIn (Fence.wide.inRound l) n Try.prog a K Q r := by
  unfold Oper.uponIn at h ⊢
  exact h
theorem wpAnyIn_round {ops : List Oper} {n l : Nat} {md : Region.Mode} {Q : Exit → Act → World → Prop} (hnd : noDefer ops = true) : ∀ (fuel : Nat) (listed : Array Bool) (a : Act) (w : World), wpAnyIn Fence.wide n Try.prog md ops.toArray Q fuel listed a w → wpAnyIn (Fence.wide.inRound l) n Try.prog md ops.toArray Q fuel listed a w
  | 0, _, _, _, h => h
  | fuel + 1, listed, a, w, h => by
    refine ⟨h.1, fun i hi => ?_⟩
    have h2 := h.2 i hi
    unfold wpOpIn at h2 ⊢
    cases ho : ops.toArray[i]? with
    | none =>
      simp only [ho] at h2 ⊢
      exact wpAnyIn_round hnd fuel _ _ _ h2
    | some o =>
      simp only [ho] at h2 ⊢
      by_cases hw : Region.wanted o (yielded ops.toArray a.tmps) = true
      · rw [if_pos hw] at h2 ⊢
        have h3 := Oper.wpIn_mono (fun a' w' hq => wpAnyIn_round (l := l) hnd fuel (listed.setIfInBounds i true) a' w' hq) h2
        refine ⟨h3.1, ?_⟩
        have h4 := h3.2
        rw [Oper.semAt_eq _ _ _ (noDefer_at hnd ho)] at h4 ⊢
        exact uponIn_round h4
      · rw [if_neg hw] at h2 ⊢
        exact ⟨h2.1, wpAnyIn_round hnd fuel _ _ _ h2.2⟩
/-- A region that only reads, within a round: one order serves all. -/
theorem quietRound {ops : List Oper} {id n l : Nat} {Q : Exit → Act → World → Prop} {a : Act} {w : World} (hm : Try.prog.follows .mixedOrders = true) (hB : Region.lexB .any ops.toArray = true) (hnd : noDefer ops = true)
    (h : wpQuietIn Fence.wide n Try.prog ops.toArray (fun w' => ∃ n, w' = w.drewN n) (fun a' => ∀ w', (∃ n, w' = w.drewN n) → Q .normal a' w') ops a) : (Code.region id ops.toArray true).wpIn (Fence.wide.inRound l) n Try.prog Q a w := by
  refine wpIn_region_any hm (wpAnyIn_round hnd _ _ _ _ ?_)
  refine wpAnyIn_of_quiet (C := fun w' => ∃ n, w' = w.drewN n) (Q := fun a' => ∀ w', (∃ n, w' = w.drewN n) → Q .normal a' w') rfl (fun _ w' hw' h => h w' hw') _ _ _ _ ⟨1, rfl⟩ ?_
  have hb := (Bool.and_eq_true _ _).mp hB
  have h5 := wpAnyQIn_lex (F := Fence.wide) (n := n) (md := .any) hb.1 ops 0 (Array.replicate ops.toArray.size false) a (fun j => by simp) (by simpa using hb.2) h
  simpa using h5
end Go.Proofs.Ytjhbaplnkigifaa
