import Derived.Test.YtlnppgjppfkocaaDoorXvA
/-! ShellShows: both lists made, a mark behind each. -/
namespace Go.Proofs.YtlnppgjppfkocaaDoor.Xs
open Go.RowKit Plain
set_option linter.unusedVariables false
set_option linter.unusedSimpArgs false

def mkR : Sw := ⟨-77, 0, 0, 0, 0, ⟨#[]⟩, ⟨#[]⟩⟩
theorem cellset_some {w : World} {a p : Addr} {x u : Value} (h : w.cell? a = some u) : ∃ u', (w.setCell p x).cell? a = some u' := by
  by_cases e : a = p
  · subst e; exact ⟨x, World.cell?_setCell_same _ _ _ h⟩
  · exact ⟨u, by rw [World.cell?_setCell_other _ _ _ _ (Ne.symm e)]; exact h⟩
theorem ownv_putV {w : World} {g N c i : Nat} {vs : List Value} (h : OwnV w (.slice (some ⟨g, 0, none⟩) N c) vs (some g)) (hi : i < N) (x : Value) : w.frozen? ⟨g, i, none⟩ = false ∧ OwnV (w.setCell ⟨g, i, none⟩ x) (.slice (some ⟨g, 0, none⟩) N c) (vs.set i x) (some g) := by
  obtain ⟨e, _, _⟩ | ⟨g', cap, e1, e2, hg, h1, h2, h3, h4, h5⟩ := h
  · cases e
  · cases e1
    simp only [Value.slice.injEq] at e2
    obtain ⟨_, rfl, rfl⟩ := e2
    refine ⟨h3 i (by omega), .inr ⟨g, c, rfl, by rw [List.length_set], by simpa using hg, by rw [List.length_set]; exact h1, h2, fun j hj => ?_, fun j hj => ?_, fun j hj => ?_⟩⟩
    · rw [World.frozen?_setCell]; exact h3 j hj
    · obtain ⟨u, hu⟩ := Option.isSome_iff_exists.mp (h4 j hj)
      obtain ⟨u', hu'⟩ := cellset_some (p := ⟨g, i, none⟩) (x := x) hu
      rw [hu']; rfl
    · rw [List.length_set] at hj
      by_cases e : j = i
      · subst e
        obtain ⟨u, hu⟩ := Option.isSome_iff_exists.mp (h4 j (by omega))
        rw [World.cell?_setCell_same _ _ _ hu]
        simp [hj]
      · rw [World.cell?_setCell_other _ _ _ _ (by simp only [ne_eq, Addr.mk.injEq]; omega), h5 j hj]
        simp [Ne.symm e]
/-- The law's own response, its lists with a mark behind each. -/
structure ShT (W u : World) (Xc : Nat) (r : Rp) (gN cN gR cR : Nat) (L : List By) (R : List Sr) : Prop where
  box : Bx W u Xc (rpA r (.slice (some ⟨gR, 0, none⟩) R.length cR) (.slice (some ⟨gN, 0, none⟩) L.length cN)).toList
  n : OwnV u (.slice (some ⟨gN, 0, none⟩) (L.length + 1) cN) (strV L ++ [.string ⟨#[47]⟩]) (some gN)
  rc : OwnSw u (.slice (some ⟨gR, 0, none⟩) (R.length + 1) cR) (swL R ++ [mkR]) (some gR)
  be : Below W.heap.size W u
  nB : Xc < gN
  rB : Xc < gR
  ne : gN ≠ gR
theorem ShT.later {W u u' : World} {Xc : Nat} {r : Rp} {gN cN gR cR : Nat} {L : List By} {R : List Sr} (h : ShT W u Xc r gN cN gR cR L R) (hb : Below u.heap.size u u') : ShT W u' Xc r gN cN gR cR L R :=
  ⟨h.box.later hb, h.n.of_block hb.size (fun g e => hb.block g (by cases e; exact h.n.lt)), h.rc.later hb, h.be.trans (hb.mono h.be.size), h.nB, h.rB, h.ne⟩
theorem ShT.drew {W u : World} {Xc : Nat} {r : Rp} {gN cN gR cR : Nat} {L : List By} {R : List Sr} (h : ShT W u Xc r gN cN gR cR L R) : ShT W u.drew Xc r gN cN gR cR L R := h.later (Below.refl _ u).drew
theorem ShT.cells {W u : World} {Xc : Nat} {r : Rp} {gN cN gR cR : Nat} {L : List By} {R : List Sr} (h : ShT W u Xc r gN cN gR cR L R) :
    u.cell? ⟨Xc, 0, none⟩ = some (.int .u32 r.id) ∧ u.cell? ⟨Xc, 1, none⟩ = some (.int .i64 r.op) ∧ u.cell? ⟨Xc, 2, none⟩ = some (.int .i64 r.code) ∧ u.cell? ⟨Xc, 3, none⟩ = some (.int .i64 r.offset) ∧ u.cell? ⟨Xc, 4, none⟩ = some (.int .i64 r.number) ∧ u.cell? ⟨Xc, 5, none⟩ = some (.bool r.more) ∧ u.cell? ⟨Xc, 6, none⟩ = some (.slice (some ⟨gR, 0, none⟩) R.length cR) ∧ u.cell? ⟨Xc, 7, none⟩ = some (.slice (some ⟨gN, 0, none⟩) L.length cN) :=
  ⟨h.box.c 0 (by simp), h.box.c 1 (by simp), h.box.c 2 (by simp), h.box.c 3 (by simp), h.box.c 4 (by simp), h.box.c 5 (by simp), h.box.c 6 (by simp), h.box.c 7 (by simp)⟩
theorem ShT.capN {W u : World} {Xc : Nat} {r : Rp} {gN cN gR cR : Nat} {L : List By} {R : List Sr} (h : ShT W u Xc r gN cN gR cR L R) : L.length + 1 ≤ cN ∧ R.length + 1 ≤ cR := by
  have h2 := h.rc.capP
  refine ⟨?_, h2.2⟩
  obtain ⟨e, _, _⟩ | ⟨g', cap, e1, e2, hg, h1, _⟩ := h.n
  · cases e
  · simp only [Value.slice.injEq] at e2
    obtain ⟨_, _, rfl⟩ := e2
    rw [List.length_append, strV_len] at h1
    exact h1
theorem ShT.atN {W u : World} {Xc : Nat} {r : Rp} {gN cN gR cR : Nat} {L : List By} {R : List Sr} (h : ShT W u Xc r gN cN gR cR L R) {i : Nat} (hi : i < L.length) : u.cell? ⟨gN, i, none⟩ = some (.string (ba (L.getD i []))) ∧ u.frozen? ⟨gN, i, none⟩ = false := by
  refine ⟨?_, (ownv_putV h.n (by omega : i < L.length + 1) (.bool true)).1⟩
  obtain ⟨e, _, _⟩ | ⟨g', cap, e1, e2, hg, h1, h2, h3, h4, h5⟩ := h.n
  · cases e
  · cases e1
    rw [h5 i (by rw [List.length_append, strV_len]; omega), List.getElem?_append_left (by rw [strV_len]; exact hi), strV_get hi]
theorem ShT.markN {W u : World} {Xc : Nat} {r : Rp} {gN cN gR cR : Nat} {L : List By} {R : List Sr} (h : ShT W u Xc r gN cN gR cR L R) : u.cell? ⟨gN, L.length, none⟩ = some (.string ⟨#[47]⟩) := by
  obtain ⟨e, _, _⟩ | ⟨g', cap, e1, e2, hg, h1, h2, h3, h4, h5⟩ := h.n
  · cases e
  · cases e1
    rw [h5 L.length (by rw [List.length_append, strV_len]; simp), List.getElem?_append_right (by rw [strV_len]; exact Nat.le_refl _), strV_len, Nat.sub_self]
    rfl
theorem ShT.atR {W u : World} {Xc : Nat} {r : Rp} {gN cN gR cR : Nat} {L : List By} {R : List Sr} (h : ShT W u Xc r gN cN gR cR L R) {i : Nat} (hi : i < R.length) : SrAt u gR (i * 7) (R.getD i Sr.none) ∧ ∀ j, j < 7 → u.frozen? ⟨gR, i * 7 + j, none⟩ = false := by
  have h0 := h.rc.at (j := i) (by rw [List.length_append, swL_len]; omega)
  have e : (swL R ++ [mkR]).getD i Sw.zero = swOf (R.getD i Sr.none) := by
    rw [← swL_get hi, List.getD_eq_getElem?_getD, List.getD_eq_getElem?_getD, List.getElem?_append_left (by rw [swL_len]; exact hi)]
  rw [e] at h0
  refine ⟨sr_of_sw h0, fun j hj => ?_⟩
  obtain ⟨e, _, _⟩ | ⟨g', cap, e1, e2, hg, h1, h2, h3, h4, h5⟩ := h.rc
  · cases e
  · cases e1
    rw [List.length_append, swL_len] at h1
    exact h3 _ (by omega)
theorem ShT.markR {W u : World} {Xc : Nat} {r : Rp} {gN cN gR cR : Nat} {L : List By} {R : List Sr} (h : ShT W u Xc r gN cN gR cR L R) : u.cell? ⟨gR, R.length * 7, none⟩ = some (.int .i64 (-77)) := by
  have h0 := h.rc.at (j := R.length) (by rw [List.length_append, swL_len]; simp)
  have e : (swL R ++ [mkR]).getD R.length Sw.zero = mkR := by
    rw [List.getD_eq_getElem?_getD, List.getElem?_append_right (by rw [swL_len]; exact Nat.le_refl _), swL_len, Nat.sub_self]; rfl
  rw [e] at h0
  exact h0.c0
theorem ShT.setN {W u : World} {Xc : Nat} {r : Rp} {gN cN gR cR : Nat} {L : List By} {R : List Sr} (h : ShT W u Xc r gN cN gR cR L R) {i : Nat} (hi : i < L.length) (y : By) : ShT W (u.setCell ⟨gN, i, none⟩ (.string (ba y))) Xc r gN cN gR cR (L.set i y) R := by
  have hg := grow_setCells u gN i [.string (ba y)]
  have hX := h.box.ge
  have hnb := h.nB
  have h2 := (ownv_putV h.n (by omega : i < L.length + 1) (.string (ba y))).2
  have e : (strV L ++ [Value.string ⟨#[47]⟩]).set i (.string (ba y)) = strV (L.set i y) ++ [.string ⟨#[47]⟩] := by
    rw [List.set_append_left _ _ (by rw [strV_len]; exact hi), strV_set]
  rw [e] at h2
  refine ⟨by rw [List.length_set]; exact h.box.other (by omega) i _, by rw [List.length_set]; exact h2, h.rc.kept hg (.inr (by have := h.ne; simp; omega)), h.be.trans (grow_below hg h.be.size (fun g' e => by cases e; omega)), h.nB, h.rB, h.ne⟩
theorem ShT.setR {W u : World} {Xc : Nat} {r : Rp} {gN cN gR cR : Nat} {L : List By} {R : List Sr} (h : ShT W u Xc r gN cN gR cR L R) {i : Nat} (hi : i < R.length) (y : Sr) : ShT W (u.setCells gR (i * 7) (swOf y).cells) Xc r gN cN gR cR L (R.set i y) := by
  have hg := grow_setCells u gR (i * 7) (swOf y).cells
  have hX := h.box.ge
  have hrb := h.rB
  have h2 := h.rc.putAll (j := i) (by rw [List.length_append, swL_len]; omega) (swOf y)
  have e : (swL R ++ [mkR]).set i (swOf y) = swL (R.set i y) ++ [mkR] := by
    rw [List.set_append_left _ _ (by rw [swL_len]; exact hi), swL_set]
  rw [e] at h2
  refine ⟨by rw [List.length_set]; exact h.box.grownV hg (by simp; omega), h.n.kept hg (.inr (by have := h.ne; simp; omega)), by rw [List.length_set]; exact h2, h.be.trans (grow_below hg h.be.size (fun g' e => by cases e; omega)), h.nB, h.rB, h.ne⟩
/-- What is read of it. -/
theorem ShT.nms {W u : World} {Xc : Nat} {r : Rp} {gN cN gR cR : Nat} {L : List By} {R : List Sr} (h : ShT W u Xc r gN cN gR cR L R) (hl : L.length ≤ 8796093022000) (hx : ∀ x ∈ L, x.length ≤ 1125899906842624) : NmsAt u (.slice (some ⟨gN, 0, none⟩) L.length cN) L :=
  ⟨_, cN, rfl, by have := h.capN.1; omega, hl, hx, fun _ => ⟨gN, 0, rfl, fun j hj => by rw [Nat.zero_add]; exact (h.atN hj).1⟩⟩
theorem ShT.srs {W u : World} {Xc : Nat} {r : Rp} {gN cN gR cR : Nat} {L : List By} {R : List Sr} (h : ShT W u Xc r gN cN gR cR L R) (hl : R.length ≤ 1954687338000) (hx : ∀ x ∈ R, x.Ok) : SrsAt u (.slice (some ⟨gR, 0, none⟩) R.length cR) R :=
  ⟨_, cR, rfl, by have := h.capN.2; omega, hl, hx, fun _ => ⟨gR, 0, rfl, fun j hj => by rw [Nat.zero_add]; exact (h.atR hj).1⟩⟩
/-- Both marks are there; the box is given the lists without them. -/
theorem ShN.toT {W u u1 u' : World} {Xc : Nat} {r : Rp} {vr vn : Value} {L : List By} {R : List Sr} {gN cN gR cR : Nat} {rr : Option Nat} (h : ShN W u Xc r vr vn (.slice (some ⟨gN, 0, none⟩) (L.length + 1) cN) (L ++ [[47]]) R gN rr) (hu1 : Below u.heap.size u u1)
    (ho : OwnSw u' (.slice (some ⟨gR, 0, none⟩) (R.length + 1) cR) (swL R ++ [mkR]) (some gR)) (hg : u1.grownBy u' rr) (hr : some gR = rr ∨ gR = u1.heap.size) :
    Bx W u' Xc (rpA r vr vn).toList ∧ Below W.heap.size W u' ∧ ShT W ((u'.setCell ⟨Xc, 7, none⟩ (.slice (some ⟨gN, 0, none⟩) L.length cN)).setCell ⟨Xc, 6, none⟩ (.slice (some ⟨gR, 0, none⟩) R.length cR)) Xc r gN cN gR cR L R := by
  have hX := h.box.lt
  have hW := h.box.ge
  have hs := hu1.size
  have hgs := hg.size
  have hnl := h.n.lt
  have hbx : Bx W u' Xc (rpA r vr vn).toList := (h.box.later hu1).grownV hg (fun e => by have := (h.rB _ e).1; omega)
  have hbe : Below W.heap.size W u' := (h.be.trans (hu1.mono h.be.size)).trans (grow_below hg (Nat.le_trans h.be.size hs) (fun g' e => by have := (h.rB g' e).1; omega))
  have hgR : Xc < gR := by
    rcases hr with e | e
    · exact (h.rB gR e.symm).1
    · omega
  have hne : gN ≠ gR := by
    rcases hr with e | e
    · exact fun e2 => h.ne (by rw [e2]; exact e.symm)
    · omega
  have hn : OwnV u' (.slice (some ⟨gN, 0, none⟩) (L.length + 1) cN) (strV L ++ [.string ⟨#[47]⟩]) (some gN) := by
    have h1 : OwnV u1 (.slice (some ⟨gN, 0, none⟩) (L.length + 1) cN) (strV (L ++ [[47]])) (some gN) := h.n.of_block hs (fun g e => hu1.block g (by cases e; exact hnl))
    rw [strV_app] at h1
    exact h1.kept hg (.inr (fun e => h.ne e.symm))
  have g7 := grow_setCells u' Xc 7 [Value.slice (some ⟨gN, 0, none⟩) L.length cN]
  have g6 := grow_setCells (u'.setCell ⟨Xc, 7, none⟩ (.slice (some ⟨gN, 0, none⟩) L.length cN)) Xc 6 [Value.slice (some ⟨gR, 0, none⟩) R.length cR]
  have hnB := h.nB
  refine ⟨hbx, hbe, ?_, (hn.kept g7 (.inr (by simp; omega))).kept g6 (.inr (by simp; omega)), (ho.kept g7 (.inr (by simp; omega))).kept g6 (.inr (by simp; omega)), (hbe.trans (grow_below g7 hbe.size (fun g' e => by cases e; exact hW))).trans (grow_below g6 (Nat.le_trans hbe.size g7.size) (fun g' e => by cases e; exact hW)), hnB, hgR, hne⟩
  exact (hbx.set (i := 7) (by simp) _ rfl).set (i := 6) (by simp) _ rfl
end Go.Proofs.YtlnppgjppfkocaaDoor.Xs
