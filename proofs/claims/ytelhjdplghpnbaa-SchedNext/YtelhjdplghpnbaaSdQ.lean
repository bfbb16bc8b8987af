import Derived.Test.YtelhjdplghpnbaaSdP
import Derived.BigRegion
/-! The document's Next. -/
namespace Go.Proofs.Ytelhjdplghpnbaa
open Go.RowKit Plain
set_option linter.unusedVariables false
set_option linter.unusedSimpArgs false

/-- What a Next answers, in memory. -/
def NxtP (t : Tr) (w : World) (e : Ending) (w' : World) : Prop := ∃ a N c t' id k ok, e = .returned (.tuple #[.agg #[.slice a N c, .int .i64 t'.at', .bool t'.fresh], .int .i64 id, .int .i64 k, .bool ok]) ∧ TrAt w' (.slice a N c) t' ∧ Nxt t t' id k ok ∧ Below w.heap.size w w'
theorem QsAt.nil (w : World) : QsAt w (.slice none 0 0) [] := ⟨[], ⟨none, 0, rfl, by simp, by simp, by simp⟩, rfl, fun j hj => by simp at hj⟩
theorem TrAt.zero (w : World) : TrAt w (.slice none 0 0) Tr.zero := ⟨QsAt.nil w, by constructor <;> simp [Tr.zero]⟩
/-- The answer is stored. -/
theorem NxL.answer {w u : World} {base C R : Nat} {cv : Value} {vs : List Qv} {r : Nat} {fl : List (List Int)} {rs : List (Option Nat)} {z : Nat} {f : Bool} (h : NxL w u base C R cv vs r fl rs z f) (hn : vs.length ≤ 32) (hz : z < vs.length) (x0 x1 x2 : Value) (U : World) (hU : ((u.setCell ⟨R, 0, none⟩ x0).setCell ⟨R, 1, none⟩ x1).setCell ⟨R, 2, none⟩ x2 = U) :
    U.cell? ⟨R, 0, none⟩ = some x0 ∧ U.cell? ⟨R, 1, none⟩ = some x1 ∧ U.cell? ⟨R, 2, none⟩ = some x2 ∧ (∀ m, TrAt (U.drewN m) cv ⟨quL vs fl, z, f⟩) ∧ (∀ m, Below w.heap.size w (U.drewN m)) ∧ ∀ g, g < u.heap.size → g ≠ R → U.heap[g]? = u.heap[g]? := by
  have ot : ∀ (x : World) (i j : Nat) (v : Value), i ≠ j → (x.setCell ⟨R, i, none⟩ v).cell? ⟨R, j, none⟩ = x.cell? ⟨R, j, none⟩ := fun x i j v e => World.cell?_setCell_other _ _ _ _ (by simp only [ne_eq, Addr.mk.injEq]; omega)
  obtain ⟨v0, r0⟩ := Option.isSome_iff_exists.mp (h.rr 0 (by omega)).1
  obtain ⟨v1, r1⟩ := Option.isSome_iff_exists.mp (h.rr 1 (by omega)).1
  obtain ⟨v2, r2⟩ := Option.isSome_iff_exists.mp (h.rr 2 (by omega)).1
  have kk : u.grownBy U (some R) := by rw [← hU]; exact grow_setCells u R 0 [x0, x1, x2]
  obtain ⟨n1, n2, n3⟩ := h.cr
  obtain ⟨l1, l2, l3, l4, l5⟩ := h.lt
  have hm : QMem base U cv vs (some r) fl rs := h.mem.kept kk (fun g e e2 => by simp at e e2; omega) (fun j hj g e e2 => by have := (h.crs j hj).2; rw [e] at this; simp at this e2; omega)
  have ht : TrAt U cv ⟨quL vs fl, z, f⟩ := ⟨hm.reads h.full h.sl (by omega) (fun x hx => by
    obtain ⟨j, hj, rfl⟩ := List.mem_iff_getElem.mp hx
    have := h.ok j hj
    simpa [List.getD_eq_getElem?_getD, hj] using this) h.cok, by constructor <;> (simp only; omega)⟩
  have hb : Below w.heap.size w U := h.below.grown kk h.below.size (fun g e => by simp at e; omega)
  refine ⟨?_, ?_, ?_, fun m => ht.later (below_drawn U m), fun m => below_of hb (below_drawn U m), fun g hg hne => kk.block g hg (by simp; omega)⟩
  · rw [← hU, ot _ 2 0 _ (by omega), ot _ 1 0 _ (by omega), World.cell?_setCell_same _ _ _ r0]
  · rw [← hU, ot _ 2 1 _ (by omega), World.cell?_setCell_same (h := by rw [ot _ 0 1 _ (by omega)]; exact r1)]
  · rw [← hU, World.cell?_setCell_same (h := by rw [ot _ 1 2 _ (by omega), ot _ 0 2 _ (by omega)]; exact r2)]
/-- Copied turns are the turns. -/
theorem cop_quL {l : List Qu} {vs : List Qv} (hl : vs.length = l.length) (hs : ∀ j, j < l.length → (vs.getD j Qv.zero).id = (l.getD j Qu.zero).id ∧ (vs.getD j Qv.zero).quantum = (l.getD j Qu.zero).quantum ∧ (vs.getD j Qv.zero).deficit = (l.getD j Qu.zero).deficit ∧ (vs.getD j Qv.zero).sl.2.1 = (l.getD j Qu.zero).costs.length) : quL vs (l.map (·.costs)) = l := by
  refine List.ext_getElem (by simp [quL, hl]) (fun j h1 h2 => ?_)
  have hj : j < vs.length := by omega
  obtain ⟨e1, e2, e3, -⟩ := hs j h2
  simp [List.getD_eq_getElem?_getD, hj, h2] at e1 e2 e3
  simp [quL, List.getElem_zipWith, e1, e2, e3]
theorem waits_at {t : Tr} (h : waitsT t = true) : ∃ x, x < t.qs.length ∧ (t.qs.getD x Qu.zero).costs ≠ [] := by
  unfold waitsT at h
  rw [List.any_eq_true] at h
  obtain ⟨q, hq, hc⟩ := h
  obtain ⟨j, hj, rfl⟩ := List.mem_iff_getElem.mp hq
  refine ⟨j, hj, ?_⟩
  simp [List.getD_eq_getElem?_getD, hj]
  simpa using hc
/-- All that stands within the loop. -/
structure NxI (w u : World) (base C R : Nat) (cv : Value) (r : Nat) (rs : List (Option Nat)) (t0 : Tu) (x n : Nat) (vs : List Qv) (fl : List (List Int)) (z : Nat) (f : Bool) : Prop where
  m : NxL w u base C R cv vs r fl rs z f
  len : vs.length = n
  ok : OkT ⟨quL vs fl, z, f⟩
  to : RunTo t0 ⟨quL vs fl, z, f⟩
  wait : ((⟨quL vs fl, z, f⟩ : Tu).q x).costs ≠ []
  hx : x < n
/-- The turn goes on. -/
theorem NxI.next {w u u' : World} {base C R : Nat} {cv : Value} {r : Nat} {rs : List (Option Nat)} {t0 : Tu} {x n : Nat} {vs vs' : List Qv} {fl fl' : List (List Int)} {z z' : Nat} {f f' : Bool} (h : NxI w u base C R cv r rs t0 x n vs fl z f) (hm : micro ⟨quL vs fl, z, f⟩ = .inl ⟨quL vs' fl', z', f'⟩) (hl : NxL w u' base C R cv vs' r fl' rs z' f') (hlen : vs'.length = n) : NxI w u' base C R cv r rs t0 x n vs' fl' z' f' ∧ mu ⟨quL vs' fl', z', f'⟩ x < mu ⟨quL vs fl, z, f⟩ x := by
  have hx : x < (⟨quL vs fl, z, f⟩ : Tu).qs.length := by simp only; rw [quL_len h.m.full, h.len]; exact h.hx
  obtain ⟨h1, h2, h3⟩ := mu_less h.ok hx h.wait hm
  exact ⟨⟨hl, hlen, (OkT.micro h.ok).1 _ hm, h.to.step hm, by rw [h2]; exact h.wait, h.hx⟩, h1⟩
theorem map_costs (l : List Qu) {j : Nat} (h : j < l.length) : (l.map (·.costs)).getD j [] = (l.getD j Qu.zero).costs := by simp [List.getD_eq_getElem?_getD, h]
set_option maxHeartbeats 8000000 in
set_option maxRecDepth 100000 in
theorem rnextOf (t : Tr) (v : Value) (w : World) (h : TrAt w v t) : Calls Try.prog 16 #[turV v t] w (NxtP t w) := by
  have HT := Hid.mkT h
  obtain ⟨l, z, f⟩ := t
  obtain ⟨hrow, hz1, hz2⟩ := h
  simp only at hrow hz1 hz2
  obtain ⟨a, cap, rfl, hl⟩ := hrow.shape
  have HROW := Hid.mkT hrow
  clear hrow
  unfold turV
  simp only
  obtain ⟨w1, hw1⟩ : ∃ w1, w.alloc (.cells #[.slice a l.length cap, .int .i64 z, .bool f] 34) = w1 := ⟨_, rfl⟩
  obtain ⟨w2, hw2⟩ : ∃ w2, w1.alloc (.cells #[.slice none 0 0, .int .i64 0, .bool false] 34) = w2 := ⟨_, rfl⟩
  obtain ⟨B, hB⟩ : ∃ B, w.heap.size = B := ⟨_, rfl⟩
  have s1 : w1.heap.size = B + 1 := by rw [← hw1, ← hB]; simp
  have s2 : w2.heap.size = B + 1 + 1 := by rw [← hw2]; simp [s1]
  have x1 : w1.heap[B]? = some (.cells #[.slice a l.length cap, .int .i64 z, .bool f] 34) := by rw [← hw1, ← hB]; show (w.heap.push _)[w.heap.size]? = _; simp
  have e1 : Below w.heap.size w w1 := by rw [← hw1]; exact (Below.refl _ _).alloc (Nat.le_refl _) _
  have e2 : Below w1.heap.size w1 w2 := by rw [← hw2]; exact (Below.refl _ _).alloc (Nat.le_refl _) _
  have x2 : w2.heap[B + 1]? = some (.cells #[.slice none 0 0, .int .i64 0, .bool false] 34) := by rw [← hw2, ← s1]; show (w1.heap.push _)[w1.heap.size]? = _; simp
  have y1 := (e2.block B (by omega)).trans x1
  have HBX : Hid (∀ u, Below w2.heap.size w2 u → u.cell? ⟨B, 0, none⟩ = some (.slice a l.length cap) ∧ u.cell? ⟨B, 1, none⟩ = some (.int .i64 z) ∧ u.cell? ⟨B, 2, none⟩ = some (.bool f) ∧ (u.cell? ⟨B + 1, 0, none⟩ = some (.slice none 0 0) ∧ u.cell? ⟨B + 1, 1, none⟩ = some (.int .i64 0) ∧ u.cell? ⟨B + 1, 2, none⟩ = some (.bool false)) ∧ u.frozen? ⟨B + 1, 0, none⟩ = false ∧ u.frozen? ⟨B + 1, 1, none⟩ = false ∧ u.frozen? ⟨B + 1, 2, none⟩ = false) := fun u hu => by
    have z1 := (hu.block B (by omega)).trans y1
    have z2 := (hu.block (B + 1) (by omega)).trans x2
    simp [World.cell?, World.frozen?, z1, z2]
  have HB2 : Hid (Below w.heap.size w w2) := below_of e1 e2
  have HCK : Hid (∀ u, Below w2.heap.size w2 u → Calls Try.prog 33 #[.agg #[.slice a l.length cap, .int .i64 z, .bool f]] u fun e w' => e = .returned (.int .i64 (chkT ⟨l, z, f⟩)) ∧ Below u.heap.size u w') := fun u hu => rcheckOf ⟨l, z, f⟩ _ u (HT.out.later (below_of HB2.out hu))
  have HCP : Hid (∀ u, Below w2.heap.size w2 u → Calls Try.prog 28 #[.agg #[.slice a l.length cap, .int .i64 z, .bool f]] u (CopP ⟨l, z, f⟩ u)) := fun u hu => rcopiedOf ⟨l, z, f⟩ _ u (HT.out.later (below_of HB2.out hu))
  have HRB : Hid (∀ (u : World) (x0 x1 x2 : Value), Below w2.heap.size w2 u → (((u.setCell ⟨B + 1, 0, none⟩ x0).setCell ⟨B + 1, 1, none⟩ x1).setCell ⟨B + 1, 2, none⟩ x2).cell? ⟨B + 1, 0, none⟩ = some x0 ∧ (((u.setCell ⟨B + 1, 0, none⟩ x0).setCell ⟨B + 1, 1, none⟩ x1).setCell ⟨B + 1, 2, none⟩ x2).cell? ⟨B + 1, 1, none⟩ = some x1 ∧ (((u.setCell ⟨B + 1, 0, none⟩ x0).setCell ⟨B + 1, 1, none⟩ x1).setCell ⟨B + 1, 2, none⟩ x2).cell? ⟨B + 1, 2, none⟩ = some x2 ∧ u.grownBy (((u.setCell ⟨B + 1, 0, none⟩ x0).setCell ⟨B + 1, 1, none⟩ x1).setCell ⟨B + 1, 2, none⟩ x2) (some (B + 1))) := fun u x0 x1 x2 hu => by
    obtain ⟨-, -, -, ⟨r0, r1, r2⟩, -⟩ := HBX.out u hu
    have ot : ∀ (x : World) (i j : Nat) (v : Value), i ≠ j → (x.setCell ⟨B + 1, i, none⟩ v).cell? ⟨B + 1, j, none⟩ = x.cell? ⟨B + 1, j, none⟩ := fun x i j v e => World.cell?_setCell_other _ _ _ _ (by simp only [ne_eq, Addr.mk.injEq]; omega)
    refine ⟨?_, ?_, ?_, grow_setCells u (B + 1) 0 [x0, x1, x2]⟩
    · rw [ot _ 2 0 _ (by omega), ot _ 1 0 _ (by omega), World.cell?_setCell_same _ _ _ r0]
    · rw [ot _ 2 1 _ (by omega), World.cell?_setCell_same (h := by rw [ot _ 0 1 _ (by omega)]; exact r1)]
    · rw [World.cell?_setCell_same (h := by rw [ot _ 1 2 _ (by omega), ot _ 0 2 _ (by omega)]; exact r2)]
  obtain ⟨m0, m1, m2, ⟨r0, r1, r2⟩, rf0, rf1, rf2⟩ := HBX.out w2 (Below.refl _ _)
  clear x1 x2 y1 e1 e2
  go_enter Try.func16, Try.ntmps16
  go_wp2_with fail
  refine (HCK.out w2 (Below.refl _ _)).mono ?_
  rintro e w3 ⟨rfl, hb3⟩
  have HB3 := Hid.mkT hb3
  clear m0 m1 m2 r0 r1 r2 rf0 rf1 rf2
  obtain ⟨m0, m1, m2, ⟨r0, r1, r2⟩, rf0, rf1, rf2⟩ := HBX.out w3 hb3
  clear hb3
  by_cases hck : chkT ⟨l, z, f⟩ = 0
  · have HC0 := Hid.mkT hck
    rw [hck]
    clear hck
    go_wp2_with fail
    refine (HCP.out w3 HB3.out).mono ?_
    rintro e w4 ⟨a4, N4, c4, vs, r, rs, rfl, hm4, hl4, hs4, hb4⟩
    simp only at hm4 hl4 hs4
    obtain ⟨a5, c5, e5, -, -⟩ := hm4.row.shape
    rw [hl4] at e5
    cases e5
    have HOKJ : Hid (∀ j, j < l.length → (vs.getD j Qv.zero).Ok ∧ ((l.map (·.costs)).getD j []).length ≤ 17592186044000 ∧ ∀ y ∈ (l.map (·.costs)).getD j [], I64 y) := fun j hj => by
      obtain ⟨b, off, ca, cc, -, hh, o1, o2, o3⟩ := HROW.out.at hj
      obtain ⟨e1, e2, e3, -⟩ := hs4 j hj
      have hi := (hh w (Below.refl _ _)).2
      obtain ⟨_, _, _, _, k1, k2, _⟩ := hi
      rw [map_costs l hj]
      exact ⟨⟨by rw [e1]; exact o1, by rw [e2]; exact o2, by rw [e3]; exact o3, trivial⟩, k1, k2⟩
    have HRD : Hid (∀ u, QMem w3.heap.size u (.slice a4 l.length c4) vs r (l.map (·.costs)) rs → TrAt u (.slice a4 l.length c4) ⟨l, z, f⟩) := fun u hu => by
      refine ⟨?_, hz1, hz2⟩
      have := hu.reads (by simp [hl4]) (fun j hj => by rw [map_costs l (by omega)]; exact (hs4 j (by omega)).2.2.2) (by omega) (fun x hx => by
        obtain ⟨j, hj, rfl⟩ := List.mem_iff_getElem.mp hx
        have := (HOKJ.out j (by omega)).1
        simpa [List.getD_eq_getElem?_getD, hj] using this) (fun j hj => (HOKJ.out j (by simpa using hj)).2)
      rw [cop_quL hl4 hs4] at this
      exact this
    have HM4 := Hid.mkT hm4
    have HS4 := Hid.mkT hs4
    have HL4 := Hid.mkT hl4
    have HB4 := Hid.mkT hb4
    obtain ⟨w5, hw5⟩ : ∃ w5, w4.alloc (.cells #[.slice a4 l.length c4, .int .i64 z, .bool f] 34) = w5 := ⟨_, rfl⟩
    obtain ⟨C, hC⟩ : ∃ C, w4.heap.size = C := ⟨_, rfl⟩
    obtain ⟨tb1, tb2⟩ := turBox w4 (.slice a4 l.length c4) z f
    rw [hw5] at tb1 tb2
    rw [hC] at tb2
    have HTB := Hid.mkT tb2
    have HB5 := Hid.mkT tb1
    have hfz : ∀ i, i < 3 → w5.frozen? ⟨C, i, none⟩ = false := fun i hi => by rw [← hw5]; exact World.frozen?_alloc_at _ _ _ _ hC.symm
    have HFZ := Hid.mkT hfz
    obtain ⟨n0, n1, n2⟩ := HTB.out w5 (Below.refl _ _)
    have HWT : Hid (Calls Try.prog 34 #[.agg #[.slice a4 l.length c4, .int .i64 z, .bool f]] w5 fun e w' => e = .returned (.bool (waitsT ⟨l, z, f⟩)) ∧ Below w5.heap.size w5 w') := rwaitsOf ⟨l, z, f⟩ _ w5 (HRD.out w5 (hm4.later tb1))
    clear m0 m1 m2 r0 r1 r2 rf0 rf1 rf2 hm4 hs4 hl4 hb4 tb1 tb2 hfz
    have HB35 : Hid (Below w3.heap.size w3 w5) := below_of HB4.out HB5.out
    go_wp2_with fail
    refine HWT.out.mono ?_
    rintro e w6 ⟨rfl, hb6⟩
    have HB6 := Hid.mkT hb6
    clear hb6 HWT n0 n1 n2
    obtain ⟨n0, n1, n2⟩ := HTB.out w6 HB6.out
    have HB26 : Hid (Below w2.heap.size w2 w6) := below_of HB3.out (below_of HB35.out HB6.out)
    obtain ⟨-, -, -, ⟨r0, r1, r2⟩, rf0, rf1, rf2⟩ := HBX.out w6 HB26.out
    cases hwt : waitsT ⟨l, z, f⟩ with
    | false =>
      have HF : Hid (NxtP ⟨l, z, f⟩ w (.returned (.tuple #[.agg #[.slice a4 l.length c4, .int .i64 z, .bool f], .int .i64 0, .int .i64 0, .bool false])) (((w6.setCell ⟨B + 1, 0, none⟩ (.slice a4 l.length c4)).setCell ⟨B + 1, 1, none⟩ (.int .i64 z)).setCell ⟨B + 1, 2, none⟩ (.bool f))) := by
        obtain ⟨-, -, -, zg⟩ := HRB.out w6 (.slice a4 l.length c4) (.int .i64 z) (.bool f) HB26.out
        have hbw := below_of HB2.out HB26.out
        have hB3 := HB3.out.size
        have hm := ((HM4.out.later HB5.out).later HB6.out).kept zg (fun g e e2 => by have := HM4.out.new g e; simp at e2; omega) (fun j hj g e e2 => by have := HM4.out.newc j hj g e; simp at e2; omega)
        exact ⟨a4, l.length, c4, ⟨l, z, f⟩, 0, 0, false, rfl, HRD.out _ hm, ⟨fun e => absurd HC0.out e, fun _ _ => ⟨rfl, rfl, rfl, rfl⟩, fun _ e => by rw [hwt] at e; cases e⟩, hbw.grown zg hbw.size (fun g e => by simp at e; omega)⟩
      obtain ⟨z0, z1, z2, -⟩ := HRB.out w6 (.slice a4 l.length c4) (.int .i64 z) (.bool f) HB26.out
      clear hwt
      go_wp2
      refine bodyPost_ret (v := .tuple #[.agg #[.slice a4 l.length c4, .int .i64 z, .bool f], .int .i64 0, .int .i64 0, .bool false]) ?hres rfl ?_
      case hres =>
        rw [results_cell4 rfl]
        go_simp
      exact HF.out
    | true =>
      obtain ⟨x, hx, hxw⟩ := waits_at hwt
      simp only at hx hxw
      have hokr : OkR ⟨l, z, f⟩ := chk_ok.mp HC0.out
      have hne : l ≠ [] := by rintro rfl; simp at hx
      obtain ⟨Z, rfl⟩ : ∃ Z : Nat, z = (Z : Int) := ⟨z.toNat, by have := hokr.lo; simp only at this; omega⟩
      have hokt : OkT ⟨l, Z, f⟩ := by have := hokr.u hne; simpa [Tr.u] using this
      obtain ⟨r, rfl⟩ : ∃ r', r = some r' := by
        rcases HM4.out.row with ⟨_, e, _⟩ | ⟨g, cap', e, _⟩
        · have := HL4.out; rw [e] at this; simp at this; omega
        · exact ⟨g, e⟩
      have ha4 : a4 = some ⟨r, 0, none⟩ := by
        rcases HM4.out.row with ⟨_, _, e⟩ | ⟨g, cap', e, e2, _⟩
        · cases e
        · cases e; simp at e2; exact e2.1
      subst ha4
      have hn32 := hokt.few
      simp only at hn32
      have hrl : (∀ g, some r = some g → g < w4.heap.size) ∧ ∀ j, j < (l.map (·.costs)).length → ∀ g, rs.getD j none = some g → g < w4.heap.size := HM4.out.lts
      have HI0 : Hid (NxI w w6 w3.heap.size C (B + 1) (.slice (some ⟨r, 0, none⟩) l.length c4) r rs ⟨l, Z, f⟩ x l.length vs (l.map (·.costs)) Z f) := by
        have h3 := HB3.out.size
        have hr3 := HM4.out.new r rfl
        have hr4 := hrl.1 r rfl
        have h43 := HB4.out.size
        have h56 := HB6.out.size
        have h5 := HB5.out.size
        have h55 : w5.heap.size = w4.heap.size + 1 := by rw [← hw5]; simp
        have hCl : C < w6.heap.size := by omega
        refine ⟨⟨n0, n1, n2, fun i hi => ?_, fun i hi => ?_, (HM4.out.later HB5.out).later HB6.out, by simp [HL4.out], fun j hj => ?_, fun j hj => (HOKJ.out j (by rw [← HL4.out]; exact hj)).1, fun j hj => (HOKJ.out j (by simpa using hj)).2, ⟨by omega, by omega, by omega⟩, fun j hj => ⟨fun e => ?_, fun e => ?_⟩, ⟨hCl, by omega, by omega, by omega, by omega⟩, below_of HB2.out HB26.out⟩, HL4.out, ?_, ?_, ?_, hx⟩
        · rw [World.frozen?_of_block (w := w5) (a := ⟨C, i, none⟩) (HB6.out.block C (by omega))]; exact HFZ.out i hi
        · have : i = 0 ∨ i = 1 ∨ i = 2 := by omega
          rcases this with rfl | rfl | rfl
          · exact ⟨by rw [r0]; rfl, rf0⟩
          · exact ⟨by rw [r1]; rfl, rf1⟩
          · exact ⟨by rw [r2]; rfl, rf2⟩
        · rw [map_costs l (by rw [← HL4.out]; exact hj)]; exact (HS4.out j (by rw [← HL4.out]; exact hj)).2.2.2
        · have := hrl.2 j hj _ e; omega
        · have := HM4.out.newc j hj _ e; omega
        · rw [cop_quL HL4.out HS4.out]; exact hokt
        · rw [cop_quL HL4.out HS4.out]; exact RunTo.refl _
        · rw [cop_quL HL4.out HS4.out]; exact hxw
      have HNX : Hid (∀ (u : Tu) (id c : Int) (w' : World) (aa : Option Addr) (N cc : Nat), (∃ k, run k ⟨l, Z, f⟩ = some (u, id, c)) → TrAt w' (.slice aa N cc) u.r → Below w.heap.size w w' → NxtP ⟨l, (Z : Int), f⟩ w (.returned (.tuple #[.agg #[.slice aa N cc, .int .i64 (u.at' : Int), .bool u.fresh], .int .i64 id, .int .i64 c, .bool true])) w') := fun u id c w' aa N cc hr ht hb => by
        refine ⟨aa, N, cc, u.r, id, c, true, rfl, ht, ⟨fun e => absurd HC0.out e, fun _ e => (by rw [hwt] at e; cases e), fun _ _ => ⟨rfl, ?_⟩⟩, hb⟩
        obtain ⟨k, hk⟩ := hr
        exact ⟨k, u, by simpa [Tr.u] using hk, rfl⟩
      clear hrl hxw hokr hokt hne hwt HRD HOKJ HS4 HM4 n0 n1 n2 r0 r1 r2 rf0 rf1 rf2 HROW HCK HCP HT HL4
      go_wp2
      go_loopg [8] (mu ⟨quL vs (l.map (·.costs)), Z, f⟩ x) (fun gk s8 wx => Hid (∃ vs fl Zc fc, NxI w wx w3.heap.size C (B + 1) (.slice (some ⟨r, 0, none⟩) l.length c4) r rs ⟨l, Z, f⟩ x l.length vs fl Zc fc ∧ mu ⟨quL vs fl, Zc, fc⟩ x = gk))
      case atStart => exact ⟨_, _, _, _, HI0.out, rfl⟩
      case round =>
        obtain ⟨vs1, fl1, Zc, fc, hi, hmu⟩ := hrel.out
        have hzl : Zc < l.length := by have := hi.ok.lt; simp only at this; rw [quL_len hi.m.full, hi.len] at this; exact this
        have hzv : Zc < vs1.length := by rw [hi.len]; exact hzl
        have hcell := hi.m.mem.row.at hzv
        have hsl := hi.m.sl Zc hzv
        have hokx := hi.m.ok Zc hzv
        have hcr := hi.m.mem.cost Zc (by rw [hi.m.full]; exact hzv)
        have hck := hi.m.cok Zc (by rw [hi.m.full]; exact hzv)
        have hq : (⟨quL vs1 fl1, Zc, fc⟩ : Tu).q Zc = _ := quL_get hi.m.full hzv
        have hzq : Zc < (quL vs1 fl1).length := by rw [quL_len hi.m.full]; exact hzv
        have hd := hi.ok.def_ Zc hzq
        have hqq := hi.ok.quantum Zc hzq
        have hcc := hi.ok.cost Zc hzq
        have hdd := OkT.d_ok hi.ok
        unfold Tu.d at hdd
        simp only at hdd
        rw [hq] at hd hqq hcc hdd
        obtain ⟨X, hX⟩ : ∃ X, vs1.getD Zc Qv.zero = X := ⟨_, rfl⟩
        obtain ⟨cs, hcs⟩ : ∃ cs, fl1.getD Zc [] = cs := ⟨_, rfl⟩
        rw [hX] at hcell hsl hokx hcr hq hd hqq hcc hdd
        rw [hcs] at hsl hcr hck hq hcc
        obtain ⟨xi, xq, xd, ca, cn, cc⟩ := X
        obtain ⟨q0, q1, q2, q3⟩ := hcell
        simp only at q0 q1 q2 q3 hsl hokx hcr hd hqq hcc hq hdd
        subst hsl
        have HI := Hid.mkT hi
        have HMU := Hid.mkT hmu
        have HQ := Hid.mkT hq
        have HCR := Hid.mkT hcr
        have HCKK := Hid.mkT hck
        have HOKX := Hid.mkT hokx
        have HXS : Hid (vs1.getD Zc Qv.zero = ⟨xi, xq, xd, (ca, cs.length, cc)⟩ ∧ fl1.getD Zc [] = cs) := ⟨hX, hcs⟩
        have n0 := hi.m.c0
        have n1 := hi.m.c1
        have n2 := hi.m.c2
        have hCl := hi.m.lt.1
        have hrl : r < wr.heap.size := hi.m.mem.lts.1 r rfl
        have hzi : (Zc : Int) < (l.length : Int) := by omega
        have HON : Hid (∀ (fd : Bool) (u : World), Calls Try.prog 35 #[.agg #[.slice (some ⟨r, 0, none⟩) l.length c4, .int .i64 (Zc : Int), .bool fd]] u fun e w' => e = .returned (.agg #[.slice (some ⟨r, 0, none⟩) l.length c4, .int .i64 (((Zc + 1) % l.length : Nat) : Int), .bool false]) ∧ Below u.heap.size u w') := fun fd u => ronOf _ _ _ _ fd u hzl hn32
        have HLQ : Hid ((quL vs1 fl1).length = l.length) := by unfold Hid; rw [quL_len hi.m.full, hi.len]
        clear hi hmu hq hcr hck hokx hX hcs hzq hrel
        generalize hY : (Zc + 1) % l.length = Y at *
        have HY := Hid.mkT hY
        clear hY
        cases cs with
        | nil =>
          have HM1 : Hid (micro ⟨quL vs1 fl1, Zc, fc⟩ = .inl ⟨quL vs1 fl1, Y, false⟩) := by
            unfold Hid micro; simp only; rw [HQ.out]; simp only [Tu.on]; rw [HLQ.out, HY.out]
          simp only [List.length_nil] at q3
          have HLa := Hid.mkT (HI.out.m.later ((Below.refl wr.heap.size wr).alloc (Nat.le_refl _) (.cells #[.int .i64 xi, .int .i64 xq, .int .i64 xd, .slice ca 0 cc] 47)))
          have k0 := HLa.out.c0
          have k1 := HLa.out.c1
          have k2 := HLa.out.c2
          go_wp2_with fail
          refine (HON.out _ _).mono ?_
          rintro e w7 ⟨rfl, hb7⟩
          have HL7 := Hid.mkT (HLa.out.later hb7)
          have p0 := HL7.out.c0
          have p1 := HL7.out.c1
          have p2 := HL7.out.c2
          have pf0 := HL7.out.cf 0 (by omega)
          have pf1 := HL7.out.cf 1 (by omega)
          have pf2 := HL7.out.cf 2 (by omega)
          obtain ⟨hn1, hn2⟩ := HI.out.next HM1.out (HL7.out.turn Y false) HI.out.len
          have HN1 := Hid.mkT hn1
          have HN2 : Hid (mu ⟨quL vs1 fl1, Y, false⟩ x < gk) := by rw [← HMU.out]; exact hn2
          clear hn1 hn2 hb7
          go_wp2
          go_roundg (mu ⟨quL vs1 fl1, Y, false⟩ x)
          case measure => exact HN2.out
          case rel => exact ⟨_, _, _, _, HN1.out, rfl⟩
        | cons c cs =>
          simp only [List.length_cons] at q3 hcc
          obtain ⟨hc1, hc2⟩ := hcc c (by simp)
          have hcl := HCKK.out.1
          simp only [List.length_cons] at hcl
          have HCR2 := HCR
          simp only [List.length_cons] at HCR2
          obtain ⟨g, off, hca, hrs, -, hNc, htail⟩ := HCR2.out.tail
          subst hca
          have HTL := Hid.mkT htail
          have HRS := Hid.mkT hrs
          obtain ⟨g', off', hge, hy0, -⟩ := (HCR2.out.reads (by simpa using hcl) HCKK.out.2).cell (i := 0) (by simp)
          simp only [Option.some.injEq, Addr.mk.injEq, and_true] at hge
          obtain ⟨rfl, rfl⟩ := hge
          simp only [Nat.add_zero] at hy0
          have hy : wr.cell? ⟨g, off, none⟩ = some (.int .i64 c) := by simpa using hy0
          have hgl : g < wr.heap.size := by have := HCR.out; rw [hrs] at this; exact this.lt
          have hgC : g ≠ C := by have := (HI.out.m.crs Zc (by rw [HI.out.m.full]; exact hzv)).1; rw [hrs] at this; simpa using this
          have hgR : g ≠ r := by have := HI.out.m.mem.ap Zc (by rw [HI.out.m.full]; exact hzv) g hrs; simp at this; omega
          have hrC : r ≠ C := HI.out.m.cr.2.1
          clear htail hrs hy0 HCR2
          generalize hN : cs.length = N at *
          have HN := Hid.mkT hN
          clear hN
          cases fc with
          | false =>
            simp only [Bool.false_eq_true, if_false] at hdd
            obtain ⟨d, hd'⟩ : ∃ d, xd + xq = d := ⟨_, rfl⟩
            rw [hd'] at hdd
            have HD9 : Hid ((⟨quL vs1 fl1, Zc, false⟩ : Tu).d = d) := by unfold Hid Tu.d; rw [HQ.out]; simpa using hd'
            obtain ⟨wf, hwf⟩ : ∃ wf, wr.setCell ⟨C, 2, none⟩ (.bool true) = wf := ⟨_, rfl⟩
            have HLf := Hid.mkT HI.out.m.fresh
            rw [hwf] at HLf
            have kf : wr.grownBy wf (some C) := by rw [← hwf]; exact grow_setT wr C 2 (.bool true)
            have hyf : wf.cell? ⟨g, off, none⟩ = some (.int .i64 c) := by rw [World.cell?_of_block (w := wr) (a := ⟨g, off, none⟩) (kf.block g hgl (by simp; omega))]; exact hy
            have hwfs : wf.heap.size = wr.heap.size := by rw [← hwf]; exact setCells_size C [.bool true] 2 wr
            have cf2 := HI.out.m.cf 2 (by omega)
            clear kf
            obtain ⟨D, hD⟩ : ∃ D, wr.heap.size = D := ⟨_, rfl⟩
            have hCD : C < D := by omega
            have hgD : g < D := by omega
            have hrD : r < D := by omega
            rw [hD] at hwfs
            obtain ⟨wa, hwa⟩ : ∃ wa, wf.alloc (.cells #[.int .i64 xi, .int .i64 xq, .int .i64 d, .slice (some ⟨g, off, none⟩) (N + 1) cc] 47) = wa := ⟨_, rfl⟩
            obtain ⟨qb1, qb2⟩ := queBox wf xi xq d (.slice (some ⟨g, off, none⟩) (N + 1) cc)
            rw [hwa] at qb1 qb2
            rw [hwfs] at qb2
            obtain ⟨d0, d1, d2, d3⟩ := qb2 wa (Below.refl _ _)
            have HLa := Hid.mkT (HLf.out.later qb1)
            have k0 := HLa.out.c0
            have k1 := HLa.out.c1
            have k2 := HLa.out.c2
            have y0a : wa.cell? ⟨g, off, none⟩ = some (.int .i64 c) := by rw [qb1.cell (p := ⟨g, off, none⟩) (cell_lt hyf)]; exact hyf
            have hca := HLa.out.mem.row.at hzv
            rw [HXS.out.1] at hca
            obtain ⟨qa0, qa1, qa2, qa3⟩ := hca
            simp only [List.length_cons] at qa0 qa1 qa2 qa3
            rw [HN.out] at qa3
            have fz0 := HLa.out.mem.row.fz (j := Zc * 4) (by omega)
            have fz1 := HLa.out.mem.row.fz (j := Zc * 4 + 1) (by omega)
            have fz2 := HLa.out.mem.row.fz (j := Zc * 4 + 2) (by omega)
            have fz3 := HLa.out.mem.row.fz (j := Zc * 4 + 3) (by omega)
            have HRA : Hid (RowO wa (.slice (some ⟨g, off, none⟩) (c :: cs).length cc) (c :: cs) (rs.getD Zc none)) := by
              have := HLa.out.mem.cost Zc (by rw [HLa.out.full]; exact hzv)
              rw [HXS.out.1, HXS.out.2] at this
              exact this
            clear qb1 qb2
            by_cases hlt : d < c
            · obtain ⟨wp, hwp⟩ : ∃ wp, (((wa.setCell ⟨r, Zc * 4, none⟩ (.int .i64 xi)).setCell ⟨r, Zc * 4 + 1, none⟩ (.int .i64 xq)).setCell ⟨r, Zc * 4 + 2, none⟩ (.int .i64 d)).setCell ⟨r, Zc * 4 + 3, none⟩ (.slice (some ⟨g, off, none⟩) (N + 1) cc) = wp := ⟨_, rfl⟩
              have HLp := Hid.mkT (HLa.out.put hzv ⟨xi, xq, d, (some ⟨g, off, none⟩, N + 1, cc)⟩ (c :: cs) HRA.out (by simp [HN.out]) ⟨HOKX.out.id, HOKX.out.quantum, by constructor <;> (simp only; omega), trivial⟩ HCKK.out)
              simp only at HLp
              rw [hwp] at HLp
              have HM2 : Hid (micro ⟨quL vs1 fl1, Zc, false⟩ = .inl ⟨quL (vs1.set Zc ⟨xi, xq, d, (some ⟨g, off, none⟩, N + 1, cc)⟩) (fl1.set Zc (c :: cs)), Y, false⟩) := by
                unfold Hid micro
                simp only
                rw [HQ.out]
                simp only
                rw [HD9.out, if_pos hlt, quL_set HI.out.m.full hzv]
                simp only [Tu.put, Tu.on, List.length_set]
                rw [HLQ.out, HY.out]
              have p0 := HLp.out.c0
              have p1 := HLp.out.c1
              have p2 := HLp.out.c2
              go_wp2_with fail
              refine (HON.out _ _).mono ?_
              rintro e w7 ⟨rfl, hb7⟩
              have HL7 := Hid.mkT (HLp.out.later hb7)
              have s0 := HL7.out.c0
              have s1' := HL7.out.c1
              have s2' := HL7.out.c2
              have pf0 := HL7.out.cf 0 (by omega)
              have pf1 := HL7.out.cf 1 (by omega)
              have pf2 := HL7.out.cf 2 (by omega)
              obtain ⟨hn1, hn2⟩ := HI.out.next HM2.out (HL7.out.turn Y false) (by rw [List.length_set]; exact HI.out.len)
              have HN1 := Hid.mkT hn1
              have HN2 : Hid (mu ⟨quL (vs1.set Zc ⟨xi, xq, d, (some ⟨g, off, none⟩, N + 1, cc)⟩) (fl1.set Zc (c :: cs)), Y, false⟩ x < gk) := by rw [← HMU.out]; exact hn2
              clear hn1 hn2 hb7
              go_wp2
              go_roundg (mu ⟨quL (vs1.set Zc ⟨xi, xq, d, (some ⟨g, off, none⟩, N + 1, cc)⟩) (fl1.set Zc (c :: cs)), Y, false⟩ x)
              case measure => exact HN2.out
              case rel => exact ⟨_, _, _, _, HN1.out, rfl⟩
            · clear hwa d0 d1 d2 d3 k0 k1 k2 y0a qa0 qa1 qa2 qa3 fz0 fz1 fz2 fz3 HRA HLa wa
              obtain ⟨f0, f1, f2⟩ := And.intro HLf.out.c0 (And.intro HLf.out.c1 HLf.out.c2)
              have hle : ¬ d < c := hlt
              obtain ⟨d9, hd9⟩ : ∃ d9, d - c = d9 := ⟨_, rfl⟩
              have hd9b : 0 ≤ d9 ∧ d9 ≤ 1114111 := by omega
              obtain ⟨cc1, hcc1⟩ : ∃ cc1, cc - 1 = cc1 := ⟨_, rfl⟩
              have hNc2 : 1 ≤ N + 1 := by omega
              have hcc3 : 1 ≤ cc := by omega
              by_cases hN0 : N = 0
              · subst hN0
                by_cases hc1' : cc = 1
                · subst hc1'
                  have hcc9 : cc1 = 0 := by omega
                  subst hcc9
                  clear hcc1
                  obtain ⟨wa, hwa⟩ : ∃ wa, wf.alloc (.cells #[.int .i64 xi, .int .i64 xq, .int .i64 0, .slice (some ⟨g, off, none⟩) 0 0] 47) = wa := ⟨_, rfl⟩
                  obtain ⟨qb1, qb2⟩ := queBox wf xi xq 0 (.slice (some ⟨g, off, none⟩) 0 0)
                  rw [hwa] at qb1 qb2
                  rw [hwfs] at qb2
                  obtain ⟨d0, d1, d2, d3⟩ := qb2 wa (Below.refl _ _)
                  have HLa := Hid.mkT (HLf.out.later qb1)
                  have k0 := HLa.out.c0
                  have k1 := HLa.out.c1
                  have k2 := HLa.out.c2
                  have hca := HLa.out.mem.row.at hzv
                  rw [HXS.out.1] at hca
                  obtain ⟨qa0, qa1, qa2, qa3⟩ := hca
                  simp only [List.length_cons] at qa0 qa1 qa2 qa3
                  rw [HN.out] at qa3
                  have fz0 := HLa.out.mem.row.fz (j := Zc * 4) (by omega)
                  have fz1 := HLa.out.mem.row.fz (j := Zc * 4 + 1) (by omega)
                  have fz2 := HLa.out.mem.row.fz (j := Zc * 4 + 2) (by omega)
                  have fz3 := HLa.out.mem.row.fz (j := Zc * 4 + 3) (by omega)
                  have hcs0 : cs = [] := List.length_eq_zero_iff.mp HN.out
                  have HCS := Hid.mkT hcs0
                  clear hcs0
                  have HRA : Hid (RowO wa (.slice (some ⟨g, off, none⟩) ([] : List Int).length 0) [] (rs.getD Zc none)) := by
                    refine .inr ⟨g, off, 0, HRS.out, rfl, ?_, by simp, by simp [maxLen], fun j hj => by omega, fun j hj => by omega, fun j hj => by simp at hj⟩
                    have h1 := qb1.size
                    have h2 := cell_lt hyf
                    show g < wa.heap.size
                    exact Nat.lt_of_lt_of_le h2 h1
                  obtain ⟨wp, hwp⟩ : ∃ wp, (((wa.setCell ⟨r, Zc * 4, none⟩ (.int .i64 xi)).setCell ⟨r, Zc * 4 + 1, none⟩ (.int .i64 xq)).setCell ⟨r, Zc * 4 + 2, none⟩ (.int .i64 0)).setCell ⟨r, Zc * 4 + 3, none⟩ (.slice (some ⟨g, off, none⟩) 0 0) = wp := ⟨_, rfl⟩
                  have HLp := Hid.mkT (HLa.out.put hzv ⟨xi, xq, 0, (some ⟨g, off, none⟩, 0, 0)⟩ [] HRA.out rfl ⟨HOKX.out.id, HOKX.out.quantum, by constructor <;> simp, trivial⟩ ⟨by simp, by simp⟩)
                  simp only at HLp
                  rw [hwp] at HLp
                  have HM3 : Hid (micro ⟨quL vs1 fl1, Zc, false⟩ = .inr (⟨quL (vs1.set Zc ⟨xi, xq, 0, (some ⟨g, off, none⟩, 0, 0)⟩) (fl1.set Zc []), Y, false⟩, xi, c)) := by
                    unfold Hid micro
                    simp only
                    rw [HQ.out]
                    simp only
                    rw [HD9.out, if_neg hle, if_pos HCS.out, HCS.out, quL_set HI.out.m.full hzv]
                    simp only [Tu.put, Tu.on, List.length_set]
                    rw [HLQ.out, HY.out]
                  have p0 := HLp.out.c0
                  have p1 := HLp.out.c1
                  have p2 := HLp.out.c2
                  have kp : wa.grownBy wp (some r) := by rw [← hwp, setQ4 wa r (Zc * 4) ⟨xi, xq, 0, (some ⟨g, off, none⟩, 0, 0)⟩]; exact grow_setCells wa r (Zc * 4) _
                  have hDa : D < wa.heap.size := cell_lt d0
                  have hbD := kp.block D hDa (by simp; omega)
                  have dp0 : wp.cell? ⟨D, 0, none⟩ = some (.int .i64 xi) := by rw [World.cell?_of_block (w := wa) (a := ⟨D, 0, none⟩) hbD]; exact d0
                  have dp3 : wp.cell? ⟨D, 3, none⟩ = some (.slice (some ⟨g, off, none⟩) 0 0) := by rw [World.cell?_of_block (w := wa) (a := ⟨D, 3, none⟩) hbD]; exact d3
                  clear kp hbD
                  go_wp2_with fail
                  refine (HON.out _ _).mono ?_
                  rintro e w7 ⟨rfl, hb7⟩
                  have HL7 := Hid.mkT (HLp.out.later hb7)
                  have s0 := HL7.out.c0
                  have s1' := HL7.out.c1
                  have s2' := HL7.out.c2
                  have pf0 := HL7.out.cf 0 (by omega)
                  have pf1 := HL7.out.cf 1 (by omega)
                  have pf2 := HL7.out.cf 2 (by omega)
                  obtain ⟨wt, hwt⟩ : ∃ wt, ((w7.setCell ⟨C, 0, none⟩ (.slice (some ⟨r, 0, none⟩) l.length c4)).setCell ⟨C, 1, none⟩ (.int .i64 (Y : Int))).setCell ⟨C, 2, none⟩ (.bool false) = wt := ⟨_, rfl⟩
                  have HLt := Hid.mkT (HL7.out.turn Y false)
                  rw [hwt] at HLt
                  have hwpD : D < wp.heap.size := cell_lt dp0
                  have dp7 : w7.cell? ⟨D, 0, none⟩ = some (.int .i64 xi) := by rw [hb7.cell (p := ⟨D, 0, none⟩) hwpD]; exact dp0
                  have kt : w7.grownBy wt (some C) := by rw [← hwt]; exact grow_setCells w7 C 0 [.slice (some ⟨r, 0, none⟩) l.length c4, .int .i64 (Y : Int), .bool false]
                  have dpt : wt.cell? ⟨D, 0, none⟩ = some (.int .i64 xi) := by rw [World.cell?_of_block (w := w7) (a := ⟨D, 0, none⟩) (kt.block D (cell_lt dp7) (by simp; omega))]; exact dp7
                  have t0 := HLt.out.c0
                  have t1 := HLt.out.c1
                  have t2 := HLt.out.c2
                  obtain ⟨⟨r0s, r0f⟩, ⟨r1s, r1f⟩, ⟨r2s, r2f⟩⟩ := And.intro (HLt.out.rr 0 (by omega)) (And.intro (HLt.out.rr 1 (by omega)) (HLt.out.rr 2 (by omega)))
                  obtain ⟨y0, r0c⟩ := Option.isSome_iff_exists.mp r0s
                  obtain ⟨y1, r1c⟩ := Option.isSome_iff_exists.mp r1s
                  obtain ⟨y2, r2c⟩ := Option.isSome_iff_exists.mp r2s
                  obtain ⟨U, hU⟩ : ∃ U, ((wt.setCell ⟨B + 1, 0, none⟩ (.slice (some ⟨r, 0, none⟩) l.length c4)).setCell ⟨B + 1, 1, none⟩ (.int .i64 (Y : Int))).setCell ⟨B + 1, 2, none⟩ (.bool false) = U := ⟨_, rfl⟩
                  have hYl : Y < l.length := by rw [← HY.out]; exact Nat.mod_lt _ (by omega)
                  obtain ⟨z0, z1, z2, zt, zb, zk⟩ := HLt.out.answer (by rw [List.length_set, HI.out.len]; exact hn32) (by rw [List.length_set, HI.out.len]; exact hYl) _ _ _ U hU
                  have hBD : D ≠ B + 1 := by have h1 := HLf.out.lt.2.1; omega
                  have zd : U.cell? ⟨D, 0, none⟩ = some (.int .i64 xi) := by rw [World.cell?_of_block (w := wt) (a := ⟨D, 0, none⟩) (zk D (cell_lt dpt) hBD)]; exact dpt
                  have HF : Hid (∀ m, NxtP ⟨l, (Z : Int), f⟩ w (.returned (.tuple #[.agg #[.slice (some ⟨r, 0, none⟩) l.length c4, .int .i64 (Y : Int), .bool false], .int .i64 xi, .int .i64 c, .bool true])) (U.drewN m)) := fun m => HNX.out _ xi c _ _ _ _ (HI.out.to.ends HM3.out) (zt m) (zb m)
                  clear r0s r1s r2s zt zb zk HLp HLa HM3 HNX HRA HLt HL7 kt dp7 hb7
                  go_wp2
                  go_region
                  go_wp2
                  refine bodyPost_ret (v := .tuple #[.agg #[.slice (some ⟨r, 0, none⟩) l.length c4, .int .i64 (Y : Int), .bool false], .int .i64 xi, .int .i64 c, .bool true]) ?hres rfl ?_
                  case hres =>
                    rw [results_cell4 rfl]
                    go_simp
                  exact HF.out 1
                · have hcc4 : ¬ cc = 1 := hc1'
                  obtain ⟨wa, hwa⟩ : ∃ wa, wf.alloc (.cells #[.int .i64 xi, .int .i64 xq, .int .i64 0, .slice (some ⟨g, off + 1, none⟩) 0 cc1] 47) = wa := ⟨_, rfl⟩
                  obtain ⟨qb1, qb2⟩ := queBox wf xi xq 0 (.slice (some ⟨g, off + 1, none⟩) 0 cc1)
                  rw [hwa] at qb1 qb2
                  rw [hwfs] at qb2
                  obtain ⟨d0, d1, d2, d3⟩ := qb2 wa (Below.refl _ _)
                  have HLa := Hid.mkT (HLf.out.later qb1)
                  have k0 := HLa.out.c0
                  have k1 := HLa.out.c1
                  have k2 := HLa.out.c2
                  have hca := HLa.out.mem.row.at hzv
                  rw [HXS.out.1] at hca
                  obtain ⟨qa0, qa1, qa2, qa3⟩ := hca
                  simp only [List.length_cons] at qa0 qa1 qa2 qa3
                  rw [HN.out] at qa3
                  have fz0 := HLa.out.mem.row.fz (j := Zc * 4) (by omega)
                  have fz1 := HLa.out.mem.row.fz (j := Zc * 4 + 1) (by omega)
                  have fz2 := HLa.out.mem.row.fz (j := Zc * 4 + 2) (by omega)
                  have fz3 := HLa.out.mem.row.fz (j := Zc * 4 + 3) (by omega)
                  have hcs0 : cs = [] := List.length_eq_zero_iff.mp HN.out
                  have HCS := Hid.mkT hcs0
                  clear hcs0
                  have HRA : Hid (RowO wa (.slice (some ⟨g, off + 1, none⟩) ([] : List Int).length cc1) [] (rs.getD Zc none)) := by
                    have := HLa.out.mem.cost Zc (by rw [HLa.out.full]; exact hzv)
                    rw [HXS.out.1, HXS.out.2, HCS.out] at this
                    obtain ⟨g2, off2, e2, -, -, -, ht⟩ := this.tail
                    simp only [Option.some.injEq, Addr.mk.injEq, and_true] at e2
                    obtain ⟨rfl, rfl⟩ := e2
                    rw [hcc1] at ht
                    exact ht
                  obtain ⟨wp, hwp⟩ : ∃ wp, (((wa.setCell ⟨r, Zc * 4, none⟩ (.int .i64 xi)).setCell ⟨r, Zc * 4 + 1, none⟩ (.int .i64 xq)).setCell ⟨r, Zc * 4 + 2, none⟩ (.int .i64 0)).setCell ⟨r, Zc * 4 + 3, none⟩ (.slice (some ⟨g, off + 1, none⟩) 0 cc1) = wp := ⟨_, rfl⟩
                  have HLp := Hid.mkT (HLa.out.put hzv ⟨xi, xq, 0, (some ⟨g, off + 1, none⟩, 0, cc1)⟩ [] HRA.out rfl ⟨HOKX.out.id, HOKX.out.quantum, by constructor <;> simp, trivial⟩ ⟨by simp, by simp⟩)
                  simp only at HLp
                  rw [hwp] at HLp
                  have HM3 : Hid (micro ⟨quL vs1 fl1, Zc, false⟩ = .inr (⟨quL (vs1.set Zc ⟨xi, xq, 0, (some ⟨g, off + 1, none⟩, 0, cc1)⟩) (fl1.set Zc []), Y, false⟩, xi, c)) := by
                    unfold Hid micro
                    simp only
                    rw [HQ.out]
                    simp only
                    rw [HD9.out, if_neg hle, if_pos HCS.out, HCS.out, quL_set HI.out.m.full hzv]
                    simp only [Tu.put, Tu.on, List.length_set]
                    rw [HLQ.out, HY.out]
                  have p0 := HLp.out.c0
                  have p1 := HLp.out.c1
                  have p2 := HLp.out.c2
                  have kp : wa.grownBy wp (some r) := by rw [← hwp, setQ4 wa r (Zc * 4) ⟨xi, xq, 0, (some ⟨g, off + 1, none⟩, 0, cc1)⟩]; exact grow_setCells wa r (Zc * 4) _
                  have hDa : D < wa.heap.size := cell_lt d0
                  have hbD := kp.block D hDa (by simp; omega)
                  have dp0 : wp.cell? ⟨D, 0, none⟩ = some (.int .i64 xi) := by rw [World.cell?_of_block (w := wa) (a := ⟨D, 0, none⟩) hbD]; exact d0
                  have dp3 : wp.cell? ⟨D, 3, none⟩ = some (.slice (some ⟨g, off + 1, none⟩) 0 cc1) := by rw [World.cell?_of_block (w := wa) (a := ⟨D, 3, none⟩) hbD]; exact d3
                  clear kp hbD
                  go_wp2_with fail
                  refine (HON.out _ _).mono ?_
                  rintro e w7 ⟨rfl, hb7⟩
                  have HL7 := Hid.mkT (HLp.out.later hb7)
                  have s0 := HL7.out.c0
                  have s1' := HL7.out.c1
                  have s2' := HL7.out.c2
                  have pf0 := HL7.out.cf 0 (by omega)
                  have pf1 := HL7.out.cf 1 (by omega)
                  have pf2 := HL7.out.cf 2 (by omega)
                  obtain ⟨wt, hwt⟩ : ∃ wt, ((w7.setCell ⟨C, 0, none⟩ (.slice (some ⟨r, 0, none⟩) l.length c4)).setCell ⟨C, 1, none⟩ (.int .i64 (Y : Int))).setCell ⟨C, 2, none⟩ (.bool false) = wt := ⟨_, rfl⟩
                  have HLt := Hid.mkT (HL7.out.turn Y false)
                  rw [hwt] at HLt
                  have hwpD : D < wp.heap.size := cell_lt dp0
                  have dp7 : w7.cell? ⟨D, 0, none⟩ = some (.int .i64 xi) := by rw [hb7.cell (p := ⟨D, 0, none⟩) hwpD]; exact dp0
                  have kt : w7.grownBy wt (some C) := by rw [← hwt]; exact grow_setCells w7 C 0 [.slice (some ⟨r, 0, none⟩) l.length c4, .int .i64 (Y : Int), .bool false]
                  have dpt : wt.cell? ⟨D, 0, none⟩ = some (.int .i64 xi) := by rw [World.cell?_of_block (w := w7) (a := ⟨D, 0, none⟩) (kt.block D (cell_lt dp7) (by simp; omega))]; exact dp7
                  have t0 := HLt.out.c0
                  have t1 := HLt.out.c1
                  have t2 := HLt.out.c2
                  obtain ⟨⟨r0s, r0f⟩, ⟨r1s, r1f⟩, ⟨r2s, r2f⟩⟩ := And.intro (HLt.out.rr 0 (by omega)) (And.intro (HLt.out.rr 1 (by omega)) (HLt.out.rr 2 (by omega)))
                  obtain ⟨y0, r0c⟩ := Option.isSome_iff_exists.mp r0s
                  obtain ⟨y1, r1c⟩ := Option.isSome_iff_exists.mp r1s
                  obtain ⟨y2, r2c⟩ := Option.isSome_iff_exists.mp r2s
                  obtain ⟨U, hU⟩ : ∃ U, ((wt.setCell ⟨B + 1, 0, none⟩ (.slice (some ⟨r, 0, none⟩) l.length c4)).setCell ⟨B + 1, 1, none⟩ (.int .i64 (Y : Int))).setCell ⟨B + 1, 2, none⟩ (.bool false) = U := ⟨_, rfl⟩
                  have hYl : Y < l.length := by rw [← HY.out]; exact Nat.mod_lt _ (by omega)
                  obtain ⟨z0, z1, z2, zt, zb, zk⟩ := HLt.out.answer (by rw [List.length_set, HI.out.len]; exact hn32) (by rw [List.length_set, HI.out.len]; exact hYl) _ _ _ U hU
                  have hBD : D ≠ B + 1 := by have h1 := HLf.out.lt.2.1; omega
                  have zd : U.cell? ⟨D, 0, none⟩ = some (.int .i64 xi) := by rw [World.cell?_of_block (w := wt) (a := ⟨D, 0, none⟩) (zk D (cell_lt dpt) hBD)]; exact dpt
                  have HF : Hid (∀ m, NxtP ⟨l, (Z : Int), f⟩ w (.returned (.tuple #[.agg #[.slice (some ⟨r, 0, none⟩) l.length c4, .int .i64 (Y : Int), .bool false], .int .i64 xi, .int .i64 c, .bool true])) (U.drewN m)) := fun m => HNX.out _ xi c _ _ _ _ (HI.out.to.ends HM3.out) (zt m) (zb m)
                  clear r0s r1s r2s zt zb zk HLp HLa HM3 HNX HRA HLt HL7 kt dp7 hb7
                  go_wp2
                  go_region
                  go_wp2
                  refine bodyPost_ret (v := .tuple #[.agg #[.slice (some ⟨r, 0, none⟩) l.length c4, .int .i64 (Y : Int), .bool false], .int .i64 xi, .int .i64 c, .bool true]) ?hres rfl ?_
                  case hres =>
                    rw [results_cell4 rfl]
                    go_simp
                  exact HF.out 1
              · obtain ⟨wa, hwa⟩ : ∃ wa, wf.alloc (.cells #[.int .i64 xi, .int .i64 xq, .int .i64 d9, .slice (some ⟨g, off + 1, none⟩) N cc1] 47) = wa := ⟨_, rfl⟩
                obtain ⟨qb1, qb2⟩ := queBox wf xi xq d9 (.slice (some ⟨g, off + 1, none⟩) N cc1)
                rw [hwa] at qb1 qb2
                rw [hwfs] at qb2
                obtain ⟨d0, d1, d2, d3⟩ := qb2 wa (Below.refl _ _)
                have HLa := Hid.mkT (HLf.out.later qb1)
                have k0 := HLa.out.c0
                have k1 := HLa.out.c1
                have k2 := HLa.out.c2
                have hca := HLa.out.mem.row.at hzv
                rw [HXS.out.1] at hca
                obtain ⟨qa0, qa1, qa2, qa3⟩ := hca
                simp only [List.length_cons] at qa0 qa1 qa2 qa3
                rw [HN.out] at qa3
                have fz0 := HLa.out.mem.row.fz (j := Zc * 4) (by omega)
                have fz1 := HLa.out.mem.row.fz (j := Zc * 4 + 1) (by omega)
                have fz2 := HLa.out.mem.row.fz (j := Zc * 4 + 2) (by omega)
                have fz3 := HLa.out.mem.row.fz (j := Zc * 4 + 3) (by omega)
                have HRA : Hid (RowO wa (.slice (some ⟨g, off + 1, none⟩) cs.length cc1) cs (rs.getD Zc none)) := by
                  have := HLa.out.mem.cost Zc (by rw [HLa.out.full]; exact hzv)
                  rw [HXS.out.1, HXS.out.2] at this
                  obtain ⟨g2, off2, e2, -, -, -, ht⟩ := this.tail
                  simp only [Option.some.injEq, Addr.mk.injEq, and_true] at e2
                  obtain ⟨rfl, rfl⟩ := e2
                  rw [hcc1] at ht
                  exact ht
                obtain ⟨wp, hwp⟩ : ∃ wp, (((wa.setCell ⟨r, Zc * 4, none⟩ (.int .i64 xi)).setCell ⟨r, Zc * 4 + 1, none⟩ (.int .i64 xq)).setCell ⟨r, Zc * 4 + 2, none⟩ (.int .i64 d9)).setCell ⟨r, Zc * 4 + 3, none⟩ (.slice (some ⟨g, off + 1, none⟩) N cc1) = wp := ⟨_, rfl⟩
                have HLp := Hid.mkT (HLa.out.put hzv ⟨xi, xq, d9, (some ⟨g, off + 1, none⟩, N, cc1)⟩ cs HRA.out (by simp [HN.out]) ⟨HOKX.out.id, HOKX.out.quantum, by constructor <;> (simp only; omega), trivial⟩ ⟨by have := HN.out; omega, fun y hy => HCKK.out.2 y (List.mem_cons_of_mem _ hy)⟩)
                simp only at HLp
                rw [hwp] at HLp
                have HM3 : Hid (micro ⟨quL vs1 fl1, Zc, false⟩ = .inr (⟨quL (vs1.set Zc ⟨xi, xq, d9, (some ⟨g, off + 1, none⟩, N, cc1)⟩) (fl1.set Zc cs), Zc, true⟩, xi, c)) := by
                  unfold Hid micro
                  simp only
                  rw [HQ.out]
                  simp only
                  have hcs : cs ≠ [] := by rintro rfl; have := HN.out; simp at this; omega
                  rw [HD9.out, if_neg hle, if_neg hcs, quL_set HI.out.m.full hzv, hd9]
                  rfl
                have p0 := HLp.out.c0
                have p1 := HLp.out.c1
                have p2 := HLp.out.c2
                obtain ⟨⟨r0s, r0f⟩, ⟨r1s, r1f⟩, ⟨r2s, r2f⟩⟩ := And.intro (HLp.out.rr 0 (by omega)) (And.intro (HLp.out.rr 1 (by omega)) (HLp.out.rr 2 (by omega)))
                obtain ⟨y0, r0c⟩ := Option.isSome_iff_exists.mp r0s
                obtain ⟨y1, r1c⟩ := Option.isSome_iff_exists.mp r1s
                obtain ⟨y2, r2c⟩ := Option.isSome_iff_exists.mp r2s
                have kp : wa.grownBy wp (some r) := by rw [← hwp, setQ4 wa r (Zc * 4) ⟨xi, xq, d9, (some ⟨g, off + 1, none⟩, N, cc1)⟩]; exact grow_setCells wa r (Zc * 4) _
                have hDa : D < wa.heap.size := cell_lt d0
                have hbD := kp.block D hDa (by simp; omega)
                have dp0 : wp.cell? ⟨D, 0, none⟩ = some (.int .i64 xi) := by rw [World.cell?_of_block (w := wa) (a := ⟨D, 0, none⟩) hbD]; exact d0
                have dp3 : wp.cell? ⟨D, 3, none⟩ = some (.slice (some ⟨g, off + 1, none⟩) N cc1) := by rw [World.cell?_of_block (w := wa) (a := ⟨D, 3, none⟩) hbD]; exact d3
                clear r0s r1s r2s kp hbD
                have hNi : ¬ (N : Int) = 0 := by omega
                obtain ⟨U, hU⟩ : ∃ U, ((wp.setCell ⟨B + 1, 0, none⟩ (.slice (some ⟨r, 0, none⟩) l.length c4)).setCell ⟨B + 1, 1, none⟩ (.int .i64 (Zc : Int))).setCell ⟨B + 1, 2, none⟩ (.bool true) = U := ⟨_, rfl⟩
                obtain ⟨z0, z1, z2, zt, zb, zk⟩ := HLp.out.answer (by rw [List.length_set, HI.out.len]; exact hn32) (by rw [List.length_set]; exact hzv) _ _ _ U hU
                have hwpD : D < wp.heap.size := cell_lt dp0
                have hBD : D ≠ B + 1 := by have h1 := HLf.out.lt.2.1; omega
                have zd : U.cell? ⟨D, 0, none⟩ = some (.int .i64 xi) := by rw [World.cell?_of_block (w := wp) (a := ⟨D, 0, none⟩) (zk D hwpD hBD)]; exact dp0
                have HF : Hid (∀ m, NxtP ⟨l, (Z : Int), f⟩ w (.returned (.tuple #[.agg #[.slice (some ⟨r, 0, none⟩) l.length c4, .int .i64 (Zc : Int), .bool true], .int .i64 xi, .int .i64 c, .bool true])) (U.drewN m)) := fun m => HNX.out _ xi c _ _ _ _ (HI.out.to.ends HM3.out) (zt m) (zb m)
                clear zt zb zk HLp HLa HM3 HNX HRA
                go_wp2
                go_region
                go_wp2
                refine bodyPost_ret (v := .tuple #[.agg #[.slice (some ⟨r, 0, none⟩) l.length c4, .int .i64 (Zc : Int), .bool true], .int .i64 xi, .int .i64 c, .bool true]) ?hres rfl ?_
                case hres =>
                  rw [results_cell4 rfl]
                  go_simp
                exact HF.out 1
          | true =>
            simp only [if_true, Int.add_zero] at hdd
            obtain ⟨d, hd'⟩ : ∃ d, xd = d := ⟨_, rfl⟩
            subst hd'
            have HD9 : Hid ((⟨quL vs1 fl1, Zc, true⟩ : Tu).d = xd) := by unfold Hid Tu.d; rw [HQ.out]; simp
            have HLf := Hid.mkT HI.out.m
            have hyf := hy
            obtain ⟨D, hD⟩ : ∃ D, wr.heap.size = D := ⟨_, rfl⟩
            have hCD : C < D := by omega
            have hgD : g < D := by omega
            have hrD : r < D := by omega
            obtain ⟨wa, hwa⟩ : ∃ wa, wr.alloc (.cells #[.int .i64 xi, .int .i64 xq, .int .i64 xd, .slice (some ⟨g, off, none⟩) (N + 1) cc] 47) = wa := ⟨_, rfl⟩
            obtain ⟨qb1, qb2⟩ := queBox wr xi xq xd (.slice (some ⟨g, off, none⟩) (N + 1) cc)
            rw [hwa] at qb1 qb2
            rw [hD] at qb2
            obtain ⟨d0, d1, d2, d3⟩ := qb2 wa (Below.refl _ _)
            have HLa := Hid.mkT (HLf.out.later qb1)
            have k0 := HLa.out.c0
            have k1 := HLa.out.c1
            have k2 := HLa.out.c2
            have y0a : wa.cell? ⟨g, off, none⟩ = some (.int .i64 c) := by rw [qb1.cell (p := ⟨g, off, none⟩) (cell_lt hyf)]; exact hyf
            have hca := HLa.out.mem.row.at hzv
            rw [HXS.out.1] at hca
            obtain ⟨qa0, qa1, qa2, qa3⟩ := hca
            simp only [List.length_cons] at qa0 qa1 qa2 qa3
            rw [HN.out] at qa3
            have fz0 := HLa.out.mem.row.fz (j := Zc * 4) (by omega)
            have fz1 := HLa.out.mem.row.fz (j := Zc * 4 + 1) (by omega)
            have fz2 := HLa.out.mem.row.fz (j := Zc * 4 + 2) (by omega)
            have fz3 := HLa.out.mem.row.fz (j := Zc * 4 + 3) (by omega)
            have HRA : Hid (RowO wa (.slice (some ⟨g, off, none⟩) (c :: cs).length cc) (c :: cs) (rs.getD Zc none)) := by
              have := HLa.out.mem.cost Zc (by rw [HLa.out.full]; exact hzv)
              rw [HXS.out.1, HXS.out.2] at this
              exact this
            clear qb1 qb2
            by_cases hlt : xd < c
            · obtain ⟨wp, hwp⟩ : ∃ wp, (((wa.setCell ⟨r, Zc * 4, none⟩ (.int .i64 xi)).setCell ⟨r, Zc * 4 + 1, none⟩ (.int .i64 xq)).setCell ⟨r, Zc * 4 + 2, none⟩ (.int .i64 xd)).setCell ⟨r, Zc * 4 + 3, none⟩ (.slice (some ⟨g, off, none⟩) (N + 1) cc) = wp := ⟨_, rfl⟩
              have HLp := Hid.mkT (HLa.out.put hzv ⟨xi, xq, xd, (some ⟨g, off, none⟩, N + 1, cc)⟩ (c :: cs) HRA.out (by simp [HN.out]) ⟨HOKX.out.id, HOKX.out.quantum, by constructor <;> (simp only; omega), trivial⟩ HCKK.out)
              simp only at HLp
              rw [hwp] at HLp
              have HM2 : Hid (micro ⟨quL vs1 fl1, Zc, true⟩ = .inl ⟨quL (vs1.set Zc ⟨xi, xq, xd, (some ⟨g, off, none⟩, N + 1, cc)⟩) (fl1.set Zc (c :: cs)), Y, false⟩) := by
                unfold Hid micro
                simp only
                rw [HQ.out]
                simp only
                rw [HD9.out, if_pos hlt, quL_set HI.out.m.full hzv]
                simp only [Tu.put, Tu.on, List.length_set]
                rw [HLQ.out, HY.out]
              have p0 := HLp.out.c0
              have p1 := HLp.out.c1
              have p2 := HLp.out.c2
              go_wp2_with fail
              refine (HON.out _ _).mono ?_
              rintro e w7 ⟨rfl, hb7⟩
              have HL7 := Hid.mkT (HLp.out.later hb7)
              have s0 := HL7.out.c0
              have s1' := HL7.out.c1
              have s2' := HL7.out.c2
              have pf0 := HL7.out.cf 0 (by omega)
              have pf1 := HL7.out.cf 1 (by omega)
              have pf2 := HL7.out.cf 2 (by omega)
              obtain ⟨hn1, hn2⟩ := HI.out.next HM2.out (HL7.out.turn Y false) (by rw [List.length_set]; exact HI.out.len)
              have HN1 := Hid.mkT hn1
              have HN2 : Hid (mu ⟨quL (vs1.set Zc ⟨xi, xq, xd, (some ⟨g, off, none⟩, N + 1, cc)⟩) (fl1.set Zc (c :: cs)), Y, false⟩ x < gk) := by rw [← HMU.out]; exact hn2
              clear hn1 hn2 hb7
              go_wp2
              go_roundg (mu ⟨quL (vs1.set Zc ⟨xi, xq, xd, (some ⟨g, off, none⟩, N + 1, cc)⟩) (fl1.set Zc (c :: cs)), Y, false⟩ x)
              case measure => exact HN2.out
              case rel => exact ⟨_, _, _, _, HN1.out, rfl⟩
            · clear hwa d0 d1 d2 d3 k0 k1 k2 y0a qa0 qa1 qa2 qa3 fz0 fz1 fz2 fz3 HRA HLa wa
              obtain ⟨f0, f1, f2⟩ := And.intro HLf.out.c0 (And.intro HLf.out.c1 HLf.out.c2)
              have hle : ¬ xd < c := hlt
              obtain ⟨d9, hd9⟩ : ∃ d9, xd - c = d9 := ⟨_, rfl⟩
              have hd9b : 0 ≤ d9 ∧ d9 ≤ 1114111 := by omega
              obtain ⟨cc1, hcc1⟩ : ∃ cc1, cc - 1 = cc1 := ⟨_, rfl⟩
              have hNc2 : 1 ≤ N + 1 := by omega
              have hcc3 : 1 ≤ cc := by omega
              by_cases hN0 : N = 0
              · subst hN0
                by_cases hc1' : cc = 1
                · subst hc1'
                  have hcc9 : cc1 = 0 := by omega
                  subst hcc9
                  clear hcc1
                  obtain ⟨wa, hwa⟩ : ∃ wa, wr.alloc (.cells #[.int .i64 xi, .int .i64 xq, .int .i64 0, .slice (some ⟨g, off, none⟩) 0 0] 47) = wa := ⟨_, rfl⟩
                  obtain ⟨qb1, qb2⟩ := queBox wr xi xq 0 (.slice (some ⟨g, off, none⟩) 0 0)
                  rw [hwa] at qb1 qb2
                  rw [hD] at qb2
                  obtain ⟨d0, d1, d2, d3⟩ := qb2 wa (Below.refl _ _)
                  have HLa := Hid.mkT (HLf.out.later qb1)
                  have k0 := HLa.out.c0
                  have k1 := HLa.out.c1
                  have k2 := HLa.out.c2
                  have hca := HLa.out.mem.row.at hzv
                  rw [HXS.out.1] at hca
                  obtain ⟨qa0, qa1, qa2, qa3⟩ := hca
                  simp only [List.length_cons] at qa0 qa1 qa2 qa3
                  rw [HN.out] at qa3
                  have fz0 := HLa.out.mem.row.fz (j := Zc * 4) (by omega)
                  have fz1 := HLa.out.mem.row.fz (j := Zc * 4 + 1) (by omega)
                  have fz2 := HLa.out.mem.row.fz (j := Zc * 4 + 2) (by omega)
                  have fz3 := HLa.out.mem.row.fz (j := Zc * 4 + 3) (by omega)
                  have hcs0 : cs = [] := List.length_eq_zero_iff.mp HN.out
                  have HCS := Hid.mkT hcs0
                  clear hcs0
                  have HRA : Hid (RowO wa (.slice (some ⟨g, off, none⟩) ([] : List Int).length 0) [] (rs.getD Zc none)) := by
                    refine .inr ⟨g, off, 0, HRS.out, rfl, ?_, by simp, by simp [maxLen], fun j hj => by omega, fun j hj => by omega, fun j hj => by simp at hj⟩
                    have h1 := qb1.size
                    have h2 := cell_lt hyf
                    show g < wa.heap.size
                    exact Nat.lt_of_lt_of_le h2 h1
                  obtain ⟨wp, hwp⟩ : ∃ wp, (((wa.setCell ⟨r, Zc * 4, none⟩ (.int .i64 xi)).setCell ⟨r, Zc * 4 + 1, none⟩ (.int .i64 xq)).setCell ⟨r, Zc * 4 + 2, none⟩ (.int .i64 0)).setCell ⟨r, Zc * 4 + 3, none⟩ (.slice (some ⟨g, off, none⟩) 0 0) = wp := ⟨_, rfl⟩
                  have HLp := Hid.mkT (HLa.out.put hzv ⟨xi, xq, 0, (some ⟨g, off, none⟩, 0, 0)⟩ [] HRA.out rfl ⟨HOKX.out.id, HOKX.out.quantum, by constructor <;> simp, trivial⟩ ⟨by simp, by simp⟩)
                  simp only at HLp
                  rw [hwp] at HLp
                  have HM3 : Hid (micro ⟨quL vs1 fl1, Zc, true⟩ = .inr (⟨quL (vs1.set Zc ⟨xi, xq, 0, (some ⟨g, off, none⟩, 0, 0)⟩) (fl1.set Zc []), Y, false⟩, xi, c)) := by
                    unfold Hid micro
                    simp only
                    rw [HQ.out]
                    simp only
                    rw [HD9.out, if_neg hle, if_pos HCS.out, HCS.out, quL_set HI.out.m.full hzv]
                    simp only [Tu.put, Tu.on, List.length_set]
                    rw [HLQ.out, HY.out]
                  have p0 := HLp.out.c0
                  have p1 := HLp.out.c1
                  have p2 := HLp.out.c2
                  have kp : wa.grownBy wp (some r) := by rw [← hwp, setQ4 wa r (Zc * 4) ⟨xi, xq, 0, (some ⟨g, off, none⟩, 0, 0)⟩]; exact grow_setCells wa r (Zc * 4) _
                  have hDa : D < wa.heap.size := cell_lt d0
                  have hbD := kp.block D hDa (by simp; omega)
                  have dp0 : wp.cell? ⟨D, 0, none⟩ = some (.int .i64 xi) := by rw [World.cell?_of_block (w := wa) (a := ⟨D, 0, none⟩) hbD]; exact d0
                  have dp3 : wp.cell? ⟨D, 3, none⟩ = some (.slice (some ⟨g, off, none⟩) 0 0) := by rw [World.cell?_of_block (w := wa) (a := ⟨D, 3, none⟩) hbD]; exact d3
                  clear kp hbD
                  go_wp2_with fail
                  refine (HON.out _ _).mono ?_
                  rintro e w7 ⟨rfl, hb7⟩
                  have HL7 := Hid.mkT (HLp.out.later hb7)
                  have s0 := HL7.out.c0
                  have s1' := HL7.out.c1
                  have s2' := HL7.out.c2
                  have pf0 := HL7.out.cf 0 (by omega)
                  have pf1 := HL7.out.cf 1 (by omega)
                  have pf2 := HL7.out.cf 2 (by omega)
                  obtain ⟨wt, hwt⟩ : ∃ wt, ((w7.setCell ⟨C, 0, none⟩ (.slice (some ⟨r, 0, none⟩) l.length c4)).setCell ⟨C, 1, none⟩ (.int .i64 (Y : Int))).setCell ⟨C, 2, none⟩ (.bool false) = wt := ⟨_, rfl⟩
                  have HLt := Hid.mkT (HL7.out.turn Y false)
                  rw [hwt] at HLt
                  have hwpD : D < wp.heap.size := cell_lt dp0
                  have dp7 : w7.cell? ⟨D, 0, none⟩ = some (.int .i64 xi) := by rw [hb7.cell (p := ⟨D, 0, none⟩) hwpD]; exact dp0
                  have kt : w7.grownBy wt (some C) := by rw [← hwt]; exact grow_setCells w7 C 0 [.slice (some ⟨r, 0, none⟩) l.length c4, .int .i64 (Y : Int), .bool false]
                  have dpt : wt.cell? ⟨D, 0, none⟩ = some (.int .i64 xi) := by rw [World.cell?_of_block (w := w7) (a := ⟨D, 0, none⟩) (kt.block D (cell_lt dp7) (by simp; omega))]; exact dp7
                  have t0 := HLt.out.c0
                  have t1 := HLt.out.c1
                  have t2 := HLt.out.c2
                  obtain ⟨⟨r0s, r0f⟩, ⟨r1s, r1f⟩, ⟨r2s, r2f⟩⟩ := And.intro (HLt.out.rr 0 (by omega)) (And.intro (HLt.out.rr 1 (by omega)) (HLt.out.rr 2 (by omega)))
                  obtain ⟨y0, r0c⟩ := Option.isSome_iff_exists.mp r0s
                  obtain ⟨y1, r1c⟩ := Option.isSome_iff_exists.mp r1s
                  obtain ⟨y2, r2c⟩ := Option.isSome_iff_exists.mp r2s
                  obtain ⟨U, hU⟩ : ∃ U, ((wt.setCell ⟨B + 1, 0, none⟩ (.slice (some ⟨r, 0, none⟩) l.length c4)).setCell ⟨B + 1, 1, none⟩ (.int .i64 (Y : Int))).setCell ⟨B + 1, 2, none⟩ (.bool false) = U := ⟨_, rfl⟩
                  have hYl : Y < l.length := by rw [← HY.out]; exact Nat.mod_lt _ (by omega)
                  obtain ⟨z0, z1, z2, zt, zb, zk⟩ := HLt.out.answer (by rw [List.length_set, HI.out.len]; exact hn32) (by rw [List.length_set, HI.out.len]; exact hYl) _ _ _ U hU
                  have hBD : D ≠ B + 1 := by have h1 := HLf.out.lt.2.1; omega
                  have zd : U.cell? ⟨D, 0, none⟩ = some (.int .i64 xi) := by rw [World.cell?_of_block (w := wt) (a := ⟨D, 0, none⟩) (zk D (cell_lt dpt) hBD)]; exact dpt
                  have HF : Hid (∀ m, NxtP ⟨l, (Z : Int), f⟩ w (.returned (.tuple #[.agg #[.slice (some ⟨r, 0, none⟩) l.length c4, .int .i64 (Y : Int), .bool false], .int .i64 xi, .int .i64 c, .bool true])) (U.drewN m)) := fun m => HNX.out _ xi c _ _ _ _ (HI.out.to.ends HM3.out) (zt m) (zb m)
                  clear r0s r1s r2s zt zb zk HLp HLa HM3 HNX HRA HLt HL7 kt dp7 hb7
                  go_wp2
                  go_region
                  go_wp2
                  refine bodyPost_ret (v := .tuple #[.agg #[.slice (some ⟨r, 0, none⟩) l.length c4, .int .i64 (Y : Int), .bool false], .int .i64 xi, .int .i64 c, .bool true]) ?hres rfl ?_
                  case hres =>
                    rw [results_cell4 rfl]
                    go_simp
                  exact HF.out 1
                · have hcc4 : ¬ cc = 1 := hc1'
                  obtain ⟨wa, hwa⟩ : ∃ wa, wr.alloc (.cells #[.int .i64 xi, .int .i64 xq, .int .i64 0, .slice (some ⟨g, off + 1, none⟩) 0 cc1] 47) = wa := ⟨_, rfl⟩
                  obtain ⟨qb1, qb2⟩ := queBox wr xi xq 0 (.slice (some ⟨g, off + 1, none⟩) 0 cc1)
                  rw [hwa] at qb1 qb2
                  rw [hD] at qb2
                  obtain ⟨d0, d1, d2, d3⟩ := qb2 wa (Below.refl _ _)
                  have HLa := Hid.mkT (HLf.out.later qb1)
                  have k0 := HLa.out.c0
                  have k1 := HLa.out.c1
                  have k2 := HLa.out.c2
                  have hca := HLa.out.mem.row.at hzv
                  rw [HXS.out.1] at hca
                  obtain ⟨qa0, qa1, qa2, qa3⟩ := hca
                  simp only [List.length_cons] at qa0 qa1 qa2 qa3
                  rw [HN.out] at qa3
                  have fz0 := HLa.out.mem.row.fz (j := Zc * 4) (by omega)
                  have fz1 := HLa.out.mem.row.fz (j := Zc * 4 + 1) (by omega)
                  have fz2 := HLa.out.mem.row.fz (j := Zc * 4 + 2) (by omega)
                  have fz3 := HLa.out.mem.row.fz (j := Zc * 4 + 3) (by omega)
                  have hcs0 : cs = [] := List.length_eq_zero_iff.mp HN.out
                  have HCS := Hid.mkT hcs0
                  clear hcs0
                  have HRA : Hid (RowO wa (.slice (some ⟨g, off + 1, none⟩) ([] : List Int).length cc1) [] (rs.getD Zc none)) := by
                    have := HLa.out.mem.cost Zc (by rw [HLa.out.full]; exact hzv)
                    rw [HXS.out.1, HXS.out.2, HCS.out] at this
                    obtain ⟨g2, off2, e2, -, -, -, ht⟩ := this.tail
                    simp only [Option.some.injEq, Addr.mk.injEq, and_true] at e2
                    obtain ⟨rfl, rfl⟩ := e2
                    rw [hcc1] at ht
                    exact ht
                  obtain ⟨wp, hwp⟩ : ∃ wp, (((wa.setCell ⟨r, Zc * 4, none⟩ (.int .i64 xi)).setCell ⟨r, Zc * 4 + 1, none⟩ (.int .i64 xq)).setCell ⟨r, Zc * 4 + 2, none⟩ (.int .i64 0)).setCell ⟨r, Zc * 4 + 3, none⟩ (.slice (some ⟨g, off + 1, none⟩) 0 cc1) = wp := ⟨_, rfl⟩
                  have HLp := Hid.mkT (HLa.out.put hzv ⟨xi, xq, 0, (some ⟨g, off + 1, none⟩, 0, cc1)⟩ [] HRA.out rfl ⟨HOKX.out.id, HOKX.out.quantum, by constructor <;> simp, trivial⟩ ⟨by simp, by simp⟩)
                  simp only at HLp
                  rw [hwp] at HLp
                  have HM3 : Hid (micro ⟨quL vs1 fl1, Zc, true⟩ = .inr (⟨quL (vs1.set Zc ⟨xi, xq, 0, (some ⟨g, off + 1, none⟩, 0, cc1)⟩) (fl1.set Zc []), Y, false⟩, xi, c)) := by
                    unfold Hid micro
                    simp only
                    rw [HQ.out]
                    simp only
                    rw [HD9.out, if_neg hle, if_pos HCS.out, HCS.out, quL_set HI.out.m.full hzv]
                    simp only [Tu.put, Tu.on, List.length_set]
                    rw [HLQ.out, HY.out]
                  have p0 := HLp.out.c0
                  have p1 := HLp.out.c1
                  have p2 := HLp.out.c2
                  have kp : wa.grownBy wp (some r) := by rw [← hwp, setQ4 wa r (Zc * 4) ⟨xi, xq, 0, (some ⟨g, off + 1, none⟩, 0, cc1)⟩]; exact grow_setCells wa r (Zc * 4) _
                  have hDa : D < wa.heap.size := cell_lt d0
                  have hbD := kp.block D hDa (by simp; omega)
                  have dp0 : wp.cell? ⟨D, 0, none⟩ = some (.int .i64 xi) := by rw [World.cell?_of_block (w := wa) (a := ⟨D, 0, none⟩) hbD]; exact d0
                  have dp3 : wp.cell? ⟨D, 3, none⟩ = some (.slice (some ⟨g, off + 1, none⟩) 0 cc1) := by rw [World.cell?_of_block (w := wa) (a := ⟨D, 3, none⟩) hbD]; exact d3
                  clear kp hbD
                  go_wp2_with fail
                  refine (HON.out _ _).mono ?_
                  rintro e w7 ⟨rfl, hb7⟩
                  have HL7 := Hid.mkT (HLp.out.later hb7)
                  have s0 := HL7.out.c0
                  have s1' := HL7.out.c1
                  have s2' := HL7.out.c2
                  have pf0 := HL7.out.cf 0 (by omega)
                  have pf1 := HL7.out.cf 1 (by omega)
                  have pf2 := HL7.out.cf 2 (by omega)
                  obtain ⟨wt, hwt⟩ : ∃ wt, ((w7.setCell ⟨C, 0, none⟩ (.slice (some ⟨r, 0, none⟩) l.length c4)).setCell ⟨C, 1, none⟩ (.int .i64 (Y : Int))).setCell ⟨C, 2, none⟩ (.bool false) = wt := ⟨_, rfl⟩
                  have HLt := Hid.mkT (HL7.out.turn Y false)
                  rw [hwt] at HLt
                  have hwpD : D < wp.heap.size := cell_lt dp0
                  have dp7 : w7.cell? ⟨D, 0, none⟩ = some (.int .i64 xi) := by rw [hb7.cell (p := ⟨D, 0, none⟩) hwpD]; exact dp0
                  have kt : w7.grownBy wt (some C) := by rw [← hwt]; exact grow_setCells w7 C 0 [.slice (some ⟨r, 0, none⟩) l.length c4, .int .i64 (Y : Int), .bool false]
                  have dpt : wt.cell? ⟨D, 0, none⟩ = some (.int .i64 xi) := by rw [World.cell?_of_block (w := w7) (a := ⟨D, 0, none⟩) (kt.block D (cell_lt dp7) (by simp; omega))]; exact dp7
                  have t0 := HLt.out.c0
                  have t1 := HLt.out.c1
                  have t2 := HLt.out.c2
                  obtain ⟨⟨r0s, r0f⟩, ⟨r1s, r1f⟩, ⟨r2s, r2f⟩⟩ := And.intro (HLt.out.rr 0 (by omega)) (And.intro (HLt.out.rr 1 (by omega)) (HLt.out.rr 2 (by omega)))
                  obtain ⟨y0, r0c⟩ := Option.isSome_iff_exists.mp r0s
                  obtain ⟨y1, r1c⟩ := Option.isSome_iff_exists.mp r1s
                  obtain ⟨y2, r2c⟩ := Option.isSome_iff_exists.mp r2s
                  obtain ⟨U, hU⟩ : ∃ U, ((wt.setCell ⟨B + 1, 0, none⟩ (.slice (some ⟨r, 0, none⟩) l.length c4)).setCell ⟨B + 1, 1, none⟩ (.int .i64 (Y : Int))).setCell ⟨B + 1, 2, none⟩ (.bool false) = U := ⟨_, rfl⟩
                  have hYl : Y < l.length := by rw [← HY.out]; exact Nat.mod_lt _ (by omega)
                  obtain ⟨z0, z1, z2, zt, zb, zk⟩ := HLt.out.answer (by rw [List.length_set, HI.out.len]; exact hn32) (by rw [List.length_set, HI.out.len]; exact hYl) _ _ _ U hU
                  have hBD : D ≠ B + 1 := by have h1 := HLf.out.lt.2.1; omega
                  have zd : U.cell? ⟨D, 0, none⟩ = some (.int .i64 xi) := by rw [World.cell?_of_block (w := wt) (a := ⟨D, 0, none⟩) (zk D (cell_lt dpt) hBD)]; exact dpt
                  have HF : Hid (∀ m, NxtP ⟨l, (Z : Int), f⟩ w (.returned (.tuple #[.agg #[.slice (some ⟨r, 0, none⟩) l.length c4, .int .i64 (Y : Int), .bool false], .int .i64 xi, .int .i64 c, .bool true])) (U.drewN m)) := fun m => HNX.out _ xi c _ _ _ _ (HI.out.to.ends HM3.out) (zt m) (zb m)
                  clear r0s r1s r2s zt zb zk HLp HLa HM3 HNX HRA HLt HL7 kt dp7 hb7
                  go_wp2
                  go_region
                  go_wp2
                  refine bodyPost_ret (v := .tuple #[.agg #[.slice (some ⟨r, 0, none⟩) l.length c4, .int .i64 (Y : Int), .bool false], .int .i64 xi, .int .i64 c, .bool true]) ?hres rfl ?_
                  case hres =>
                    rw [results_cell4 rfl]
                    go_simp
                  exact HF.out 1
              · obtain ⟨wa, hwa⟩ : ∃ wa, wr.alloc (.cells #[.int .i64 xi, .int .i64 xq, .int .i64 d9, .slice (some ⟨g, off + 1, none⟩) N cc1] 47) = wa := ⟨_, rfl⟩
                obtain ⟨qb1, qb2⟩ := queBox wr xi xq d9 (.slice (some ⟨g, off + 1, none⟩) N cc1)
                rw [hwa] at qb1 qb2
                rw [hD] at qb2
                obtain ⟨d0, d1, d2, d3⟩ := qb2 wa (Below.refl _ _)
                have HLa := Hid.mkT (HLf.out.later qb1)
                have k0 := HLa.out.c0
                have k1 := HLa.out.c1
                have k2 := HLa.out.c2
                have hca := HLa.out.mem.row.at hzv
                rw [HXS.out.1] at hca
                obtain ⟨qa0, qa1, qa2, qa3⟩ := hca
                simp only [List.length_cons] at qa0 qa1 qa2 qa3
                rw [HN.out] at qa3
                have fz0 := HLa.out.mem.row.fz (j := Zc * 4) (by omega)
                have fz1 := HLa.out.mem.row.fz (j := Zc * 4 + 1) (by omega)
                have fz2 := HLa.out.mem.row.fz (j := Zc * 4 + 2) (by omega)
                have fz3 := HLa.out.mem.row.fz (j := Zc * 4 + 3) (by omega)
                have HRA : Hid (RowO wa (.slice (some ⟨g, off + 1, none⟩) cs.length cc1) cs (rs.getD Zc none)) := by
                  have := HLa.out.mem.cost Zc (by rw [HLa.out.full]; exact hzv)
                  rw [HXS.out.1, HXS.out.2] at this
                  obtain ⟨g2, off2, e2, -, -, -, ht⟩ := this.tail
                  simp only [Option.some.injEq, Addr.mk.injEq, and_true] at e2
                  obtain ⟨rfl, rfl⟩ := e2
                  rw [hcc1] at ht
                  exact ht
                obtain ⟨wp, hwp⟩ : ∃ wp, (((wa.setCell ⟨r, Zc * 4, none⟩ (.int .i64 xi)).setCell ⟨r, Zc * 4 + 1, none⟩ (.int .i64 xq)).setCell ⟨r, Zc * 4 + 2, none⟩ (.int .i64 d9)).setCell ⟨r, Zc * 4 + 3, none⟩ (.slice (some ⟨g, off + 1, none⟩) N cc1) = wp := ⟨_, rfl⟩
                have HLp := Hid.mkT (HLa.out.put hzv ⟨xi, xq, d9, (some ⟨g, off + 1, none⟩, N, cc1)⟩ cs HRA.out (by simp [HN.out]) ⟨HOKX.out.id, HOKX.out.quantum, by constructor <;> (simp only; omega), trivial⟩ ⟨by have := HN.out; omega, fun y hy => HCKK.out.2 y (List.mem_cons_of_mem _ hy)⟩)
                simp only at HLp
                rw [hwp] at HLp
                have HM3 : Hid (micro ⟨quL vs1 fl1, Zc, true⟩ = .inr (⟨quL (vs1.set Zc ⟨xi, xq, d9, (some ⟨g, off + 1, none⟩, N, cc1)⟩) (fl1.set Zc cs), Zc, true⟩, xi, c)) := by
                  unfold Hid micro
                  simp only
                  rw [HQ.out]
                  simp only
                  have hcs : cs ≠ [] := by rintro rfl; have := HN.out; simp at this; omega
                  rw [HD9.out, if_neg hle, if_neg hcs, quL_set HI.out.m.full hzv, hd9]
                  rfl
                have p0 := HLp.out.c0
                have p1 := HLp.out.c1
                have p2 := HLp.out.c2
                obtain ⟨⟨r0s, r0f⟩, ⟨r1s, r1f⟩, ⟨r2s, r2f⟩⟩ := And.intro (HLp.out.rr 0 (by omega)) (And.intro (HLp.out.rr 1 (by omega)) (HLp.out.rr 2 (by omega)))
                obtain ⟨y0, r0c⟩ := Option.isSome_iff_exists.mp r0s
                obtain ⟨y1, r1c⟩ := Option.isSome_iff_exists.mp r1s
                obtain ⟨y2, r2c⟩ := Option.isSome_iff_exists.mp r2s
                have kp : wa.grownBy wp (some r) := by rw [← hwp, setQ4 wa r (Zc * 4) ⟨xi, xq, d9, (some ⟨g, off + 1, none⟩, N, cc1)⟩]; exact grow_setCells wa r (Zc * 4) _
                have hDa : D < wa.heap.size := cell_lt d0
                have hbD := kp.block D hDa (by simp; omega)
                have dp0 : wp.cell? ⟨D, 0, none⟩ = some (.int .i64 xi) := by rw [World.cell?_of_block (w := wa) (a := ⟨D, 0, none⟩) hbD]; exact d0
                have dp3 : wp.cell? ⟨D, 3, none⟩ = some (.slice (some ⟨g, off + 1, none⟩) N cc1) := by rw [World.cell?_of_block (w := wa) (a := ⟨D, 3, none⟩) hbD]; exact d3
                clear r0s r1s r2s kp hbD
                have hNi : ¬ (N : Int) = 0 := by omega
                obtain ⟨U, hU⟩ : ∃ U, ((wp.setCell ⟨B + 1, 0, none⟩ (.slice (some ⟨r, 0, none⟩) l.length c4)).setCell ⟨B + 1, 1, none⟩ (.int .i64 (Zc : Int))).setCell ⟨B + 1, 2, none⟩ (.bool true) = U := ⟨_, rfl⟩
                obtain ⟨z0, z1, z2, zt, zb, zk⟩ := HLp.out.answer (by rw [List.length_set, HI.out.len]; exact hn32) (by rw [List.length_set]; exact hzv) _ _ _ U hU
                have hwpD : D < wp.heap.size := cell_lt dp0
                have hBD : D ≠ B + 1 := by have h1 := HLf.out.lt.2.1; omega
                have zd : U.cell? ⟨D, 0, none⟩ = some (.int .i64 xi) := by rw [World.cell?_of_block (w := wp) (a := ⟨D, 0, none⟩) (zk D hwpD hBD)]; exact dp0
                have HF : Hid (∀ m, NxtP ⟨l, (Z : Int), f⟩ w (.returned (.tuple #[.agg #[.slice (some ⟨r, 0, none⟩) l.length c4, .int .i64 (Zc : Int), .bool true], .int .i64 xi, .int .i64 c, .bool true])) (U.drewN m)) := fun m => HNX.out _ xi c _ _ _ _ (HI.out.to.ends HM3.out) (zt m) (zb m)
                clear zt zb zk HLp HLa HM3 HNX HRA
                go_wp2
                go_region
                go_wp2
                refine bodyPost_ret (v := .tuple #[.agg #[.slice (some ⟨r, 0, none⟩) l.length c4, .int .i64 (Zc : Int), .bool true], .int .i64 xi, .int .i64 c, .bool true]) ?hres rfl ?_
                case hres =>
                  rw [results_cell4 rfl]
                  go_simp
                exact HF.out 1
  · have HF : Hid (NxtP ⟨l, z, f⟩ w (.returned (.tuple #[.agg #[.slice none 0 0, .int .i64 0, .bool false], .int .i64 0, .int .i64 0, .bool false])) (((w3.setCell ⟨B + 1, 0, none⟩ (.slice none 0 0)).setCell ⟨B + 1, 1, none⟩ (.int .i64 0)).setCell ⟨B + 1, 2, none⟩ (.bool false))) := by
      obtain ⟨-, -, -, zg⟩ := HRB.out w3 (.slice none 0 0) (.int .i64 0) (.bool false) HB3.out
      have hbw := below_of HB2.out HB3.out
      exact ⟨none, 0, 0, Tr.zero, 0, 0, false, rfl, TrAt.zero _, ⟨fun _ => ⟨rfl, rfl, rfl, rfl⟩, fun e => absurd e hck, fun e => absurd e hck⟩, hbw.grown zg hbw.size (fun g e => by simp at e; omega)⟩
    obtain ⟨z0, z1, z2, -⟩ := HRB.out w3 (.slice none 0 0) (.int .i64 0) (.bool false) HB3.out
    have hck2 : (chkT ⟨l, z, f⟩ == 0) = false := by simpa using hck
    generalize chkT ⟨l, z, f⟩ = A at *
    go_wp2
    refine bodyPost_ret (v := .tuple #[.agg #[.slice none 0 0, .int .i64 0, .bool false], .int .i64 0, .int .i64 0, .bool false]) ?hres rfl ?_
    case hres =>
      rw [results_cell4 rfl]
      go_simp
    exact HF.out
end Go.Proofs.Ytelhjdplghpnbaa
