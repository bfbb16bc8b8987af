import Derived.Test.YtlnppgjppfkocaaDoorXvR
import Derived.Test.YtlnppgjppfkocaaDoorXvL
import Derived.Test.YtlnppgjppfkocaaDoorXsBx
import Derived.Test.YtlnppgjppfkocaaDoorXsT0
/-! ShellShows: a response of the law's own, whose lists are made, written over and written back. -/
namespace Go.Proofs.YtlnppgjppfkocaaDoor.Xs
open Go.RowKit Plain
set_option linter.unusedVariables false
set_option linter.unusedSimpArgs false

/-! ### Rows -/
def strV (l : List By) : List Value := l.map fun x => .string (ba x)
theorem strV_len (l : List By) : (strV l).length = l.length := by simp [strV]
theorem strV_app (l k : List By) : strV (l ++ k) = strV l ++ strV k := by simp [strV]
theorem strV_get {l : List By} {j : Nat} (h : j < l.length) : (strV l)[j]? = some (.string (ba (l.getD j []))) := by simp [strV, h]
theorem strV_set (l : List By) (i : Nat) (y : By) : (strV l).set i (.string (ba y)) = strV (l.set i y) := by
  unfold strV
  rw [List.map_set]
def swOf (x : Sr) : Sw := ⟨x.kind, x.offset, x.time, x.pid, x.seq, ba x.key, ba x.value⟩
def swL (l : List Sr) : List Sw := l.map swOf
theorem swL_len (l : List Sr) : (swL l).length = l.length := by simp [swL]
theorem swL_app (l k : List Sr) : swL (l ++ k) = swL l ++ swL k := by simp [swL]
theorem swL_get {l : List Sr} {j : Nat} (h : j < l.length) : (swL l).getD j Sw.zero = swOf (l.getD j Sr.none) := by
  simp [swL, List.getD_eq_getElem?_getD, h]
theorem swL_set (l : List Sr) (i : Nat) (y : Sr) : (swL l).set i (swOf y) = swL (l.set i y) := by
  unfold swL
  rw [List.map_set]
theorem sr_of_sw {w : World} {b o : Nat} {x : Sr} (h : Sw.CellsAt w b o (swOf x)) : SrAt w b o x := ⟨h.c0, h.c1, h.c2, h.c3, h.c4, h.c5, h.c6⟩
theorem opt_someV {r r0 : Option Nat} {n : Nat} (hr : r = r0 ∨ r = some n) (h0 : r0 ≠ none) : ∃ g, r = some g := by
  rcases hr with e | e
  · cases r0 with
    | none => exact absurd rfl h0
    | some g => exact ⟨g, e⟩
  · exact ⟨n, e⟩
theorem Bx.grownV {W u u' : World} {X : Nat} {l : List Value} {r : Option Nat} (h : Bx W u X l) (hg : u.grownBy u' r) (hne : r ≠ some X) : Bx W u' X l := by
  have hb : u'.heap[X]? = u.heap[X]? := hg.block X h.lt (fun e => hne e.symm)
  exact ⟨fun j hj => (World.cell?_of_block (w := u) (a := ⟨X, j, none⟩) hb).trans (h.c j hj), fun j hj => by rw [World.frozen?_of_block (w := u) (a := ⟨X, j, none⟩) hb]; exact h.fz j hj, h.ge, Nat.lt_of_lt_of_le h.lt hg.size⟩
abbrev rpA (r : Rp) (vr vn : Value) : Array Value := #[.int .u32 r.id, .int .i64 r.op, .int .i64 r.code, .int .i64 r.offset, .int .i64 r.number, .bool r.more, vr, vn]
/-- The law's own response while its lists are made: its box Xc, the rows of names and of records. -/
structure ShS (W u : World) (Xc : Nat) (r : Rp) (vr vn : Value) (L : List By) (R : List Sr) (rn rr : Option Nat) : Prop where
  box : Bx W u Xc (rpA r vr vn).toList
  n : OwnV u vn (strV L) rn
  rc : OwnSw u vr (swL R) rr
  be : Below W.heap.size W u
  nB : ∀ g, rn = some g → Xc < g ∧ g < u.heap.size
  rB : ∀ g, rr = some g → Xc < g ∧ g < u.heap.size
  ne : rn = none ∨ rn ≠ rr
theorem ShS.later {W u u' : World} {Xc : Nat} {r : Rp} {vr vn : Value} {L : List By} {R : List Sr} {rn rr : Option Nat} (h : ShS W u Xc r vr vn L R rn rr) (hb : Below u.heap.size u u') : ShS W u' Xc r vr vn L R rn rr :=
  ⟨h.box.later hb, h.n.of_block hb.size (fun g e => hb.block g (h.nB g e).2), h.rc.later hb, h.be.trans (hb.mono h.be.size), fun g e => ⟨(h.nB g e).1, Nat.lt_of_lt_of_le (h.nB g e).2 hb.size⟩, fun g e => ⟨(h.rB g e).1, Nat.lt_of_lt_of_le (h.rB g e).2 hb.size⟩, h.ne⟩
/-- Its cells. -/
theorem ShS.cells {W u : World} {Xc : Nat} {r : Rp} {vr vn : Value} {L : List By} {R : List Sr} {rn rr : Option Nat} (h : ShS W u Xc r vr vn L R rn rr) :
    u.cell? ⟨Xc, 0, none⟩ = some (.int .u32 r.id) ∧ u.cell? ⟨Xc, 1, none⟩ = some (.int .i64 r.op) ∧ u.cell? ⟨Xc, 2, none⟩ = some (.int .i64 r.code) ∧ u.cell? ⟨Xc, 3, none⟩ = some (.int .i64 r.offset) ∧ u.cell? ⟨Xc, 4, none⟩ = some (.int .i64 r.number) ∧ u.cell? ⟨Xc, 5, none⟩ = some (.bool r.more) ∧ u.cell? ⟨Xc, 6, none⟩ = some vr ∧ u.cell? ⟨Xc, 7, none⟩ = some vn ∧ u.frozen? ⟨Xc, 6, none⟩ = false ∧ u.frozen? ⟨Xc, 7, none⟩ = false :=
  ⟨h.box.c 0 (by simp), h.box.c 1 (by simp), h.box.c 2 (by simp), h.box.c 3 (by simp), h.box.c 4 (by simp), h.box.c 5 (by simp), h.box.c 6 (by simp), h.box.c 7 (by simp), h.box.fz 6 (by simp), h.box.fz 7 (by simp)⟩
theorem ShS.shapeN {W u : World} {Xc : Nat} {r : Rp} {vr vn : Value} {L : List By} {R : List Sr} {rn rr : Option Nat} (h : ShS W u Xc r vr vn L R rn rr) : ∃ a c, vn = .slice a L.length c := by
  obtain ⟨a, c, e, _, _⟩ := h.n.shape
  rw [strV_len] at e
  exact ⟨a, c, e⟩
theorem ShS.shapeR {W u : World} {Xc : Nat} {r : Rp} {vr vn : Value} {L : List By} {R : List Sr} {rn rr : Option Nat} (h : ShS W u Xc r vr vn L R rn rr) : ∃ a c, vr = .slice a R.length c := by
  obtain ⟨a, c, e, _, _⟩ := h.rc.shape
  rw [swL_len] at e
  exact ⟨a, c, e⟩
/-- A name more, which is not in the box yet. -/
structure ShN (W u : World) (Xc : Nat) (r : Rp) (vr vn vn' : Value) (L : List By) (R : List Sr) (g : Nat) (rr : Option Nat) : Prop where
  box : Bx W u Xc (rpA r vr vn).toList
  n : OwnV u vn' (strV L) (some g)
  rc : OwnSw u vr (swL R) rr
  be : Below W.heap.size W u
  nB : Xc < g
  rB : ∀ h, rr = some h → Xc < h ∧ h < u.heap.size
  ne : rr ≠ some g
theorem ShS.pushN {W u u1 u' : World} {Xc : Nat} {r : Rp} {vr vn v' : Value} {L : List By} {R : List Sr} {rn rr : Option Nat} {y : By} {g : Nat} (h : ShS W u Xc r vr vn L R rn rr) (hu1 : Below u.heap.size u u1)
    (ho : OwnV u' v' (strV L ++ [.string (ba y)]) (some g)) (hg : u1.grownBy u' rn) (hr : some g = rn ∨ g = u1.heap.size) : ShN W u' Xc r vr vn v' (L ++ [y]) R g rr := by
  have h1 := h.later hu1
  have hX := h.box.lt
  have hW := h.box.ge
  have hs := hu1.size
  have hgs := hg.size
  refine ⟨h1.box.grownV hg (fun e => by have := (h.nB _ e).1; omega), by rw [strV_app]; exact ho, h1.rc.kept hg ?_, h1.be.trans (grow_below hg h1.be.size (fun g' e => by have := (h.nB g' e).1; omega)), ?_, fun g' e => ⟨(h1.rB g' e).1, Nat.lt_of_lt_of_le (h1.rB g' e).2 hgs⟩, ?_⟩
  · rcases h.ne with e | e
    · subst e
      cases rr with
      | none => exact .inl rfl
      | some g' => exact .inr (by simp)
    · exact .inr (fun e2 => e e2.symm)
  · rcases hr with e | e
    · exact (h.nB g e.symm).1
    · omega
  · intro e
    rcases hr with e2 | e2
    · rcases h.ne with e3 | e3
      · rw [e3] at e2; cases e2
      · exact e3 (e2.symm.trans e.symm)
    · have := (h1.rB g e).2; omega
/-- It is put into the box. -/
theorem ShN.put {W u : World} {Xc : Nat} {r : Rp} {vr vn vn' : Value} {L : List By} {R : List Sr} {g : Nat} {rr : Option Nat} (h : ShN W u Xc r vr vn vn' L R g rr) : ShS W (u.setCell ⟨Xc, 7, none⟩ vn') Xc r vr vn' L R (some g) rr := by
  have hg := grow_setCells u Xc 7 [vn']
  have hX := h.box.lt
  have hW := h.box.ge
  have hs := hg.size
  have hs' : u.heap.size ≤ (u.setCell ⟨Xc, 7, none⟩ vn').heap.size := hs
  have hnb := h.nB
  refine ⟨h.box.set (i := 7) (by simp) vn' rfl, h.n.kept hg (.inr (by simp; omega)), h.rc.kept hg ?_, h.be.trans (grow_below hg h.be.size (fun g' e => by cases e; exact hW)), fun g' e => ?_, fun g' e => ⟨(h.rB g' e).1, by have := (h.rB g' e).2; omega⟩, .inr (fun e => h.ne e.symm)⟩
  · cases rr with
    | none => exact .inl rfl
    | some g' => exact .inr (by have := (h.rB g' rfl).1; simp; omega)
  · cases e; exact ⟨hnb, Nat.lt_of_lt_of_le h.n.lt hs'⟩
/-- A record more, which is not in the box yet. -/
structure ShR (W u : World) (Xc : Nat) (r : Rp) (vr vn vr' : Value) (L : List By) (R : List Sr) (rn : Option Nat) (g : Nat) : Prop where
  box : Bx W u Xc (rpA r vr vn).toList
  n : OwnV u vn (strV L) rn
  rc : OwnSw u vr' (swL R) (some g)
  be : Below W.heap.size W u
  nB : ∀ h, rn = some h → Xc < h ∧ h < u.heap.size
  rB : Xc < g
  ne : rn ≠ some g
theorem ShS.pushR {W u u1 u' : World} {Xc : Nat} {r : Rp} {vr vn v' : Value} {L : List By} {R : List Sr} {rn rr : Option Nat} {y : Sr} {g : Nat} (h : ShS W u Xc r vr vn L R rn rr) (hu1 : Below u.heap.size u u1)
    (ho : OwnSw u' v' (swL R ++ [swOf y]) (some g)) (hg : u1.grownBy u' rr) (hr : some g = rr ∨ g = u1.heap.size) : ShR W u' Xc r vr vn v' L (R ++ [y]) rn g := by
  have h1 := h.later hu1
  have hX := h.box.lt
  have hW := h.box.ge
  have hs := hu1.size
  have hgs := hg.size
  refine ⟨h1.box.grownV hg (fun e => by have := (h.rB _ e).1; omega), h1.n.kept hg h.ne, by rw [swL_app]; exact ho, h1.be.trans (grow_below hg h1.be.size (fun g' e => by have := (h.rB g' e).1; omega)), fun g' e => ⟨(h1.nB g' e).1, Nat.lt_of_lt_of_le (h1.nB g' e).2 hgs⟩, ?_, ?_⟩
  · rcases hr with e | e
    · exact (h.rB g e.symm).1
    · omega
  · intro e
    rcases hr with e2 | e2
    · rcases h.ne with e3 | e3
      · rw [e3] at e; cases e
      · exact e3 (e.trans e2)
    · have := (h1.nB g e).2; omega
theorem ShR.put {W u : World} {Xc : Nat} {r : Rp} {vr vn vr' : Value} {L : List By} {R : List Sr} {rn : Option Nat} {g : Nat} (h : ShR W u Xc r vr vn vr' L R rn g) : ShS W (u.setCell ⟨Xc, 6, none⟩ vr') Xc r vr' vn L R rn (some g) := by
  have hg := grow_setCells u Xc 6 [vr']
  have hX := h.box.lt
  have hW := h.box.ge
  have hs := hg.size
  have hs' : u.heap.size ≤ (u.setCell ⟨Xc, 6, none⟩ vr').heap.size := hs
  have hrb := h.rB
  refine ⟨h.box.set (i := 6) (by simp) vr' rfl, h.n.kept hg ?_, h.rc.kept hg (.inr (by simp; omega)), h.be.trans (grow_below hg h.be.size (fun g' e => by cases e; exact hW)), fun g' e => ⟨(h.nB g' e).1, by have := (h.nB g' e).2; omega⟩, fun g' e => ?_, .inr h.ne⟩
  · cases rn with
    | none => exact .inl rfl
    | some g' => exact .inr (by have := (h.nB g' rfl).1; simp; omega)
  · cases e; exact ⟨hrb, Nat.lt_of_lt_of_le h.rc.lt hs'⟩
end Go.Proofs.YtlnppgjppfkocaaDoor.Xs
