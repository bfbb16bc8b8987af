import Derived.Test.YtelhjdplghpnbabSeN
/-! The law's roomy: its walk. -/
namespace Go.Proofs.Ytelhjdplghpnbab
open Go.RowKit Plain
set_option linter.unusedVariables false
set_option linter.unusedSimpArgs false

/-- Within roomy's loop. -/
structure RoS (base : Nat) (w u : World) (C R : Nat) (a : Option Addr) (n cap : Nat) (t : Tr) (vs : List Qv) (r : Option Nat) (fl : List (List Int)) (rs : List (Option Nat)) (i : Nat) : Prop where
  mem : QMem base u (.slice a n cap) vs r fl rs
  cb : BoxT u C (.slice a n cap) t
  rb : BoxT u R (.slice none 0 0) Tr.zero
  below : Below w.heap.size w u
  lim : r ≠ some C ∧ ∀ j, j < fl.length → rs.getD j none ≠ some C
  lr : R < base ∧ w.heap.size ≤ R ∧ C ≠ R ∧ w.heap.size ≤ C ∧ base ≤ u.heap.size
  vl : vs.length = n
  fll : fl.length = n
  nt : n = t.qs.length
  same : ∀ j, j < n → (vs.getD j Qv.zero).id = (t.q j).id ∧ (vs.getD j Qv.zero).quantum = (t.q j).quantum ∧ (vs.getD j Qv.zero).deficit = (t.q j).deficit ∧ (vs.getD j Qv.zero).sl.2.1 = (t.q j).costs.length
  flj : ∀ j, j < n → fl.getD j [] = if j < i then (t.q j).costs ++ marks else (t.q j).costs
theorem RoS.later {base : Nat} {w u u' : World} {C R : Nat} {a : Option Addr} {n cap : Nat} {t : Tr} {vs : List Qv} {r : Option Nat} {fl : List (List Int)} {rs : List (Option Nat)} {i : Nat} (h : RoS base w u C R a n cap t vs r fl rs i) (k : Below u.heap.size u u') : RoS base w u' C R a n cap t vs r fl rs i := by
  obtain ⟨l1, l2, l3, l4, l5⟩ := h.lr
  exact ⟨h.mem.later k, h.cb.later k, h.rb.later k, below_of h.below k, h.lim, ⟨l1, l2, l3, l4, Nat.le_trans l5 k.size⟩, h.vl, h.fll, h.nt, h.same, h.flj⟩
/-- A queue's list gets its marks. -/
theorem RoS.step {base : Nat} {w u u' : World} {C R g : Nat} {a : Option Addr} {n cap : Nat} {t : Tr} {vs : List Qv} {fl : List (List Int)} {rs : List (Option Nat)} {i : Nat} (h : RoS base w u C R a n cap t vs (some g) fl rs i) (hi : i < n) {g6 c6 : Nat} {a6 : Option Addr} (ho : RowO u' (.slice a6 ((t.q i).costs.length + 2) c6) ((t.q i).costs ++ marks) (some g6)) (k : u.grownBy u' (rs.getD i none)) (hr : some g6 = rs.getD i none ∨ g6 = u.heap.size) :
    ∃ vs' fl' rs', RoS base w (u'.setCell ⟨g, i * 4 + 3, none⟩ (.slice a6 (t.q i).costs.length c6)).drew C R a n cap t vs' (some g) fl' rs' (i + 1) := by
  obtain ⟨r1, r2, r3, r4, r5⟩ := h.lr
  have hfl := h.fll
  have hvl := h.vl
  have hif : i < fl.length := by omega
  have hl2 : ((t.q i).costs ++ marks).length = (t.q i).costs.length + 2 := by rw [List.length_append]; rfl
  have hnew : ∀ q, rs.getD i none = some q → base ≤ q := fun q e => h.mem.newc i hif q e
  obtain ⟨hm, hrow⟩ := h.mem.regrow hif (c' := (t.q i).costs ++ marks) (g6 := g6) (N := (t.q i).costs.length) (c6 := c6) (a6 := a6) (by rw [hl2]; exact ho) k hr
  have kk : u'.grownBy (u'.setCell ⟨g, i * 4 + 3, none⟩ (.slice a6 (t.q i).costs.length c6)) (some g) := grow_setT u' g (i * 4 + 3) _
  have hd : Below (u'.setCell ⟨g, i * 4 + 3, none⟩ (.slice a6 (t.q i).costs.length c6)).heap.size (u'.setCell ⟨g, i * 4 + 3, none⟩ (.slice a6 (t.q i).costs.length c6)) (u'.setCell ⟨g, i * 4 + 3, none⟩ (.slice a6 (t.q i).costs.length c6)).drew := Below.drew (Below.refl _ _)
  have hCl := h.cb.lt
  have hRl := h.rb.lt
  have hgb := h.mem.new g rfl
  have ks := k.size
  have kks := kk.size
  have bC1 := k.block C hCl (fun e => h.lim.2 i hif (by first | exact e | exact e.symm))
  have bR1 := k.block R hRl (fun e => by have := hnew R (by first | exact e | exact e.symm); omega)
  have bC2 := kk.block C (by omega) (fun e => h.lim.1 (by first | exact e | exact e.symm))
  have bR2 := kk.block R (by omega) (fun e => by simp at e; omega)
  have hbel : Below w.heap.size w (u'.setCell ⟨g, i * 4 + 3, none⟩ (.slice a6 (t.q i).costs.length c6)) := (h.below.grown k h.below.size (fun q e => by have := hnew q e; omega)).grown kk (by have := h.below.size; omega) (fun q e => by simp at e; omega)
  have hiv : i < vs.length := by omega
  have hrl : i < rs.length := by have := h.mem.len; omega
  refine ⟨_, _, _, hm.later hd, ((h.cb.block bC1 ks).block bC2 kks).later hd, ((h.rb.block bR1 ks).block bR2 kks).later hd, below_of hbel hd, ⟨h.lim.1, fun j hj e => ?_⟩, ⟨r1, r2, r3, r4, by have := hd.size; omega⟩, by simp [hvl], by simp [hfl], h.nt, fun j hj => ?_, fun j hj => ?_⟩
  · rw [List.length_set] at hj
    rw [getD_setO _ _ _ _ hrl] at e
    by_cases e1 : j = i
    · rw [if_pos e1] at e
      rcases hr with e2 | e2
      · exact h.lim.2 i hif (by rw [← e2]; exact e)
      · simp at e; omega
    · rw [if_neg e1] at e; exact h.lim.2 j hj e
  · rw [getD_set _ _ _ _ _ hiv]
    by_cases e : j = i
    · subst e
      rw [if_pos rfl]
      obtain ⟨a1, a2, a3, a4⟩ := h.same j hj
      exact ⟨a1, a2, a3, rfl⟩
    · rw [if_neg e]; exact h.same j hj
  · rw [getD_set _ _ _ _ _ hif]
    by_cases e : j = i
    · subst e
      rw [if_pos rfl, if_pos (by omega)]
    · rw [if_neg e, h.flj j hj]
      by_cases e2 : j < i
      · rw [if_pos e2, if_pos (by omega)]
      · rw [if_neg e2, if_neg (by omega)]
/-- What roomy answers. -/
def RooP (t : Tr) (w : World) (e : Ending) (w' : World) : Prop := ∃ g cap vs rs, e = .returned (.agg #[.slice (some ⟨g, 0, none⟩) t.qs.length cap, .int .i64 t.at', .bool t.fresh]) ∧ Rm w.heap.size w' g t.qs.length cap t vs rs ∧ Below w.heap.size w w'
set_option maxHeartbeats 8000000 in
set_option maxRecDepth 100000 in
theorem lroomyOf (t : Tr) (v : Value) (w : World) (h : TrAt w v t) (hfew : t.qs.length ≤ 2932031007317) (hlc : ∀ j, j < t.qs.length → (t.q j).costs.length ≤ 17592186043904) : Calls Try.prog 4 #[turV v t] w (RooP t w) := by
  have HCOP : Hid (∀ u, Below w.heap.size w u → Calls Try.prog 18 #[turV v t] u (CopP t u)) := fun u hu => rcopiedOf t v u (h.later hu)
  have HOK : Hid (∀ j, j < t.qs.length → I64 (t.q j).id ∧ I64 (t.q j).quantum ∧ I64 (t.q j).deficit ∧ ∀ z ∈ (t.q j).costs, I64 z) := fun j hj => by
    obtain ⟨sa, sc, es, -⟩ := h.row.shape
    have hrow := h.row
    rw [es] at hrow
    obtain ⟨b, off, ca, cc, e, h1, h2, h3, h4⟩ := hrow.at hj
    obtain ⟨aa, cap', e2, x1, x2, x3, x4⟩ := (h1 w (Below.refl _ _)).2
    exact ⟨h2, h3, h4, x3⟩
  have HAT := h.at_
  obtain ⟨a, cap, rfl⟩ := h.shape
  obtain ⟨l, z, f⟩ := t
  unfold turV at *
  simp only at *
  clear h
  obtain ⟨w0, hw0⟩ : ∃ w0, w.alloc (.cells #[.slice a l.length cap, .int .i64 z, .bool f] 24) = w0 := ⟨_, rfl⟩
  obtain ⟨w1, hw1⟩ : ∃ w1, w0.alloc (.cells #[.slice none 0 0, .int .i64 0, .bool false] 24) = w1 := ⟨_, rfl⟩
  obtain ⟨B, hB⟩ : ∃ B, w.heap.size = B := ⟨_, rfl⟩
  have s0 : w0.heap.size = B + 1 := by rw [← hw0, ← hB]; simp
  obtain ⟨b0, x0⟩ := turBox w (.slice a l.length cap) z f
  have b1 := (turBox w0 (.slice none 0 0) 0 false).1
  have x1 := BoxT.new w0 (.slice none 0 0) Tr.zero 0 false rfl rfl
  rw [hw0] at b0 x0
  rw [hw1] at b1 x1
  rw [s0] at x1
  rw [hB] at x0
  have HB1 : Hid (Below w.heap.size w w1) := below_of b0 b1
  have HX1 : Hid (BoxT w1 (B + 1) (.slice none 0 0) Tr.zero) := x1
  obtain ⟨p0, p1, p2⟩ := x0 w1 b1
  clear b0 x0 b1 x1
  go_enter Try.func4, Try.ntmps4
  go_wp2_with fail
  refine (HCOP.out _ HB1.out).mono ?_
  rintro e w2 ⟨ca, cN, cc, vs, r, rs, rfl, hq, hvl, hsm, hb2⟩
  have hcN : cN = l.length := by
    obtain ⟨aa, cap', e, -, -⟩ := hq.row.shape
    simp only [Value.slice.injEq] at e
    have hvl' : vs.length = l.length := hvl
    omega
  subst hcN
  obtain ⟨w3, hw3⟩ : ∃ w3, w2.alloc (.cells #[.slice ca l.length cc, .int .i64 z, .bool f] 24) = w3 := ⟨_, rfl⟩
  obtain ⟨C, hC⟩ : ∃ C, w2.heap.size = C := ⟨_, rfl⟩
  have HRS : Hid (RoS w1.heap.size w w3 C (B + 1) ca l.length cc ⟨l, z, f⟩ vs r (l.map (·.costs)) rs 0) := by
    have b3 := (turBox w2 (.slice ca l.length cc) z f).1
    have x3 := BoxT.new w2 (.slice ca l.length cc) ⟨l, z, f⟩ z f rfl rfl
    rw [hw3] at b3 x3
    rw [hC] at x3
    obtain ⟨l1, l2⟩ := hq.lts
    have hR := HX1.out.lt
    have hs2 := hb2.size
    have hs3 := b3.size
    refine ⟨hq.later b3, x3, (HX1.out.later hb2).later b3, below_of HB1.out (below_of hb2 b3), ⟨fun e => by have := l1 C e; omega, fun j hj e => by have := l2 j hj C e; omega⟩, ⟨hR, by omega, by omega, by omega, by omega⟩, hvl, by simp, rfl, hsm, fun j hj => ?_⟩
    rw [if_neg (by omega)]
    simp [List.getD_eq_getElem?_getD, hj, Tr.q]
  clear hq hvl hsm hb2 HX1 p0 p1 p2
  generalize l.map (·.costs) = fl0 at *
  obtain ⟨n, hn⟩ : ∃ n, l.length = n := ⟨_, rfl⟩
  have HNL := Hid.mkT hn
  rw [hn] at HRS hfew hlc HOK
  obtain ⟨p0, p1, p2, -, -⟩ := HRS.out.cb
  simp only at p1 p2
  have HLC := Hid.mkT hlc
  rw [hn] at hw3
  clear hlc
  go_wp2
  go_loopw [4] (fun s4 u => ∃ (i : Nat) (vs' : List Qv) (fl' : List (List Int)) (rs' : List (Option Nat)), i ≤ n ∧ s4 = .int .i64 i ∧ Hid (RoS w1.heap.size w u C (B + 1) ca n cc ⟨l, z, f⟩ vs' r fl' rs' i)) (fun s4 _ => n - (intOf s4).toNat)
  case atStart => exact ⟨0, vs, fl0, rs, by omega, rfl, HRS.out⟩
  case round =>
    obtain ⟨i, vs1, fl1, rs1, hi, rfl, HM⟩ := hrel
    clear p0 p1 p2
    obtain ⟨p0, p1, p2, pf, -⟩ := HM.out.cb
    simp only at p1 p2
    by_cases hin : i < n
    · have hini : (i : Int) < (n : Int) := by omega
      have hiv : i < vs1.length := by rw [HM.out.vl]; exact hin
      obtain ⟨g, aa, rr⟩ : ∃ g, ca = some ⟨g, 0, none⟩ ∧ r = some g := by
        rcases HM.out.mem.row with ⟨_, e, _⟩ | ⟨g, cap', e, e2, _⟩
        · rw [e] at hiv; simp at hiv
        · simp only [Value.slice.injEq] at e2
          exact ⟨g, e2.1, e⟩
      subst aa rr
      obtain ⟨-, -, -, c3⟩ := HM.out.mem.row.at hiv
      obtain ⟨-, -, -, a4⟩ := HM.out.same i hin
      rw [a4] at c3
      have hrow := HM.out.mem.cost i (by rw [HM.out.fll]; exact hin)
      rw [HM.out.flj i hin, if_neg (by omega)] at hrow
      have f3 := HM.out.mem.row.fz (j := i * 4 + 3) (by omega)
      have hlc := HLC.out i hin
      have HSTEP := Hid.mkT (fun u' g6 c6 a6 ho k hr => HM.out.step (u' := u') hin (g6 := g6) (c6 := c6) (a6 := a6) ho k hr)
      obtain ⟨cs, hcs⟩ : ∃ cs, ((Tr.mk l z f).q i).costs = cs := ⟨_, rfl⟩
      rw [hcs] at c3 hrow hlc
      obtain ⟨sa, hsa⟩ : ∃ sa, (vs1.getD i Qv.zero).sl.1 = sa := ⟨_, rfl⟩
      obtain ⟨sc, hsc⟩ : ∃ sc, (vs1.getD i Qv.zero).sl.2.2 = sc := ⟨_, rfl⟩
      rw [hsa, hsc] at c3 hrow
      obtain ⟨rl, hrl⟩ : ∃ rl, rs1.getD i none = rl := ⟨_, rfl⟩
      rw [hrl] at hrow
      have HROW := Hid.mkT hrow
      have HRL := Hid.mkT hrl
      have HCS := Hid.mkT hcs
      clear a4 hrow hcs hsa hsc hrl hiv
      obtain ⟨wA, hwA⟩ : ∃ wA, wr.alloc (.cells #[.int .i64 (-77), .int .i64 (-78)] 3) = wA := ⟨_, rfl⟩
      obtain ⟨G, hG⟩ : ∃ G, wr.heap.size = G := ⟨_, rfl⟩
      have HBA : Hid (Below wr.heap.size wr wA) := by rw [← hwA]; exact (Below.refl _ _).alloc (Nat.le_refl _) _
      have HSR : Hid (Src Try.prog 1 35 (.slice (some ⟨G, 0, none⟩) 2 2) [(-77 : Int), -78].length (ints [-77, -78]) wA) := by have := srcTwo wr G hG (-77) (-78); rw [hwA] at this; exact this
      have HMA := Hid.mkT (HM.out.later HBA.out)
      have HRWA := Hid.mkT (HROW.out.later HBA.out)
      have HSTP : Hid (∀ u' g6 c6 a6, RowO u' (.slice a6 (cs.length + 2) c6) (cs ++ marks) (some g6) → wA.grownBy u' rl → (some g6 = rl ∨ g6 = wA.heap.size) → ∃ vs' fl' rs', RoS w1.heap.size w (u'.setCell ⟨g, i * 4 + 3, none⟩ (.slice a6 cs.length c6)).drew C (B + 1) (some ⟨g, 0, none⟩) n cc ⟨l, z, f⟩ vs' (some g) fl' rs' (i + 1)) := fun u' g6 c6 a6 ho k hr => by
        have := HMA.out.step (u' := u') hin (g6 := g6) (c6 := c6) (a6 := a6)
        rw [HRL.out, HCS.out] at this
        exact this ho k hr
      have HBX : Hid (BoxT wA C (.slice (some ⟨g, 0, none⟩) n cc) ⟨l, z, f⟩ ∧ rl ≠ some C ∧ rl ≠ some g ∧ OwnQv wA (.slice (some ⟨g, 0, none⟩) n cc) vs1 (some g)) := ⟨HMA.out.cb, by rw [← HRL.out]; exact HMA.out.lim.2 i (by rw [HMA.out.fll]; exact hin), fun e => HMA.out.mem.ap i (by rw [HMA.out.fll]; exact hin) g (by rw [HRL.out]; exact e) rfl, HMA.out.mem.row⟩
      have HVL : Hid (i < vs1.length) := by rw [Hid, HM.out.vl]; exact hin
      clear HSTEP HM HMA HROW HBA HRL HCS pf
      go_wp2_with (at_builtin; refine wpList_append_o _ rfl _ _ rfl _ _ cs [-77, -78] rl rfl rfl ?hOwn ?hSrc ?hLen (.inr (Nat.succ_pos _)) ?_)
      case hOwn => exact HRWA.out
      case hSrc => exact HSR.out
      case hLen => simp; omega
      intro v6 w6 g6 ho6 hg6 hr6
      obtain ⟨a6, c6, e6, -, hc6⟩ := ho6.shape
      have hl6 : (cs ++ [(-77 : Int), -78]).length = cs.length + 2 := by rw [List.length_append]; rfl
      rw [hl6] at e6 hc6
      subst e6
      obtain ⟨vs7, fl7, rs7, h7⟩ := HSTP.out w6 g6 c6 a6 ho6 hg6 (by first | exact hr6 | simpa using hr6)
      have H7 := Hid.mkT h7
      obtain ⟨hbx, n1, n2, hrw⟩ := HBX.out
      have hbx6 := hbx.block (hg6.block C hbx.lt (fun e => n1 (by first | exact e | exact e.symm))) hg6.size
      have hrw6 := hrw.kept hg6 (.inr (fun e => n2 e.symm))
      obtain ⟨k0, k1, k2, -, -⟩ := hbx6
      obtain ⟨-, -, -, m3⟩ := hrw6.at HVL.out
      have mf := hrw6.fz (j := i * 4 + 3) (by have := HVL.out; omega)
      simp only at k1 k2
      have hc6i : (cs.length : Int) ≤ (c6 : Int) := by omega
      have hc6n : cs.length ≤ c6 := by omega
      obtain ⟨csn, hcsn⟩ : ∃ csn, cs.length = csn := ⟨_, rfl⟩
      rw [hcsn] at hc6i hc6n H7
      clear ho6 hg6 hr6 h7 hbx hrw hrw6 HBX HSTP HRWA HSR p0 p1 p2 c3 f3
      go_wp2
      go_region
      go_wp2
      go_roundw
      case rel => exact ⟨i + 1, vs7, fl7, rs7, by omega, by go_num, H7.out⟩
      case measure => simp only [intOf]; omega
    · have hini : ¬ (i : Int) < (n : Int) := by omega
      have hie : i = n := by omega
      obtain ⟨wA, hwA⟩ : ∃ wA, wr.alloc (.cells #[.int .i64 (-77), .int .i64 0, .int .i64 0, .slice none 0 0, .int .i64 (-78), .int .i64 0, .int .i64 0, .slice none 0 0] 37) = wA := ⟨_, rfl⟩
      obtain ⟨G, hG⟩ : ∃ G, wr.heap.size = G := ⟨_, rfl⟩
      have HBA : Hid (Below wr.heap.size wr wA) := by rw [← hwA]; exact (Below.refl _ _).alloc (Nat.le_refl _) _
      have HSR : Hid (Src Try.prog 4 22 (.slice (some ⟨G, 0, none⟩) 2 2) [(⟨-77, 0, 0, (none, 0, 0)⟩ : Qv), ⟨-78, 0, 0, (none, 0, 0)⟩].length (vcells [⟨-77, 0, 0, (none, 0, 0)⟩, ⟨-78, 0, 0, (none, 0, 0)⟩]) wA) := by have := srcQ2 wr G hG ⟨-77, 0, 0, (none, 0, 0)⟩ ⟨-78, 0, 0, (none, 0, 0)⟩; simp only at this; rw [hwA] at this; exact this
      have HMA := Hid.mkT (HM.out.later HBA.out)
      have HIE := Hid.mkT hie
      clear hie pf
      go_wp2_with (at_builtin; refine wpList_append_v _ rfl _ _ rfl _ _ vs1 [⟨-77, 0, 0, (none, 0, 0)⟩, ⟨-78, 0, 0, (none, 0, 0)⟩] r rfl rfl ?hOwn ?hSrc ?hLen (.inr (Nat.succ_pos _)) ?_)
      case hOwn => exact HMA.out.mem.row
      case hSrc => exact HSR.out
      case hLen => rw [HMA.out.vl]; omega
      intro v7 w7 g7 ho7 hg7 hr7
      have hl7 : (vs1 ++ [(⟨-77, 0, 0, (none, 0, 0)⟩ : Qv), ⟨-78, 0, 0, (none, 0, 0)⟩]).length = n + 2 := by rw [List.length_append, HMA.out.vl]; rfl
      have hr7' : some g7 = r ∨ g7 = wA.heap.size := by first | exact hr7 | simpa using hr7
      obtain ⟨c7, e7, hc7⟩ : ∃ c7, v7 = .slice (some ⟨g7, 0, none⟩) (n + 2) c7 ∧ n + 2 ≤ c7 := by
        rcases ho7 with ⟨_, _, e⟩ | ⟨g', cap', e, e2, _, h1, _⟩
        · cases e
        · cases e
          rw [hl7] at e2 h1
          exact ⟨cap', e2, h1⟩
      subst e7
      have hRM : QMem w1.heap.size w7 (.slice (some ⟨g7, 0, none⟩) (n + 2) c7) (vs1 ++ [⟨-77, 0, 0, (none, 0, 0)⟩, ⟨-78, 0, 0, (none, 0, 0)⟩]) (some g7) fl1 rs1 := HMA.out.mem.wide ho7 hg7 hr7' HMA.out.lr.2.2.2.2
      obtain ⟨lr1, lr2, lr3, lr4, lr5⟩ := HMA.out.lr
      have hbC := HMA.out.cb.block (hg7.block C HMA.out.cb.lt (fun e => HMA.out.lim.1 (by first | exact e | exact e.symm))) hg7.size
      have hbR := HMA.out.rb.block (hg7.block (B + 1) HMA.out.rb.lt (fun e => by have := HMA.out.mem.new (B + 1) (by first | exact e | exact e.symm); omega)) hg7.size
      have hbel := HMA.out.below.grown hg7 HMA.out.below.size (fun q e => by have := HMA.out.mem.new q e; omega)
      have hCg : g7 ≠ C := by
        rcases hr7' with e | e
        · exact fun e2 => HMA.out.lim.1 (by rw [← e, e2])
        · have := HMA.out.cb.lt; omega
      have k8 : w7.grownBy (w7.setCell ⟨C, 0, none⟩ (.slice (some ⟨g7, 0, none⟩) n c7)) (some C) := grow_setT w7 C 0 _
      obtain ⟨w8, hw8⟩ : ∃ w8, w7.setCell ⟨C, 0, none⟩ (.slice (some ⟨g7, 0, none⟩) n c7) = w8 := ⟨_, rfl⟩
      have hb8 : BoxT w8 C (.slice (some ⟨g7, 0, none⟩) n c7) ⟨l, z, f⟩ := by
        rw [← hw8]
        refine ⟨World.cell?_setCell_same _ _ _ hbC.b0, ?_, ?_, fun j hj => by rw [World.frozen?_setCell]; exact hbC.bf j hj, Nat.lt_of_lt_of_le hbC.lt k8.size⟩
        · rw [World.cell?_setCell_other _ _ _ _ (by simp)]; exact hbC.b1
        · rw [World.cell?_setCell_other _ _ _ _ (by simp)]; exact hbC.b2
      rw [hw8] at k8
      have hR8 := hbR.block (k8.block (B + 1) hbR.lt (by simp; omega)) k8.size
      obtain ⟨hRs, k9⟩ := hR8.store (.slice (some ⟨g7, 0, none⟩) n c7) ⟨l, z, f⟩
      simp only at hRs k9
      obtain ⟨U, hU⟩ : ∃ U, ((w8.setCell ⟨B + 1, 0, none⟩ (.slice (some ⟨g7, 0, none⟩) n c7)).setCell ⟨B + 1, 1, none⟩ (.int .i64 z)).setCell ⟨B + 1, 2, none⟩ (.bool f) = U := ⟨_, rfl⟩
      have hU2 : storeT w8 (B + 1) (.slice (some ⟨g7, 0, none⟩) n c7) z f = U := hU
      rw [hU2] at hRs k9
      clear hU2
      have HF : Hid (RooP ⟨l, z, f⟩ w (.returned (.agg #[.slice (some ⟨g7, 0, none⟩) n c7, .int .i64 z, .bool f])) U) := by
        have m8 := hRM.kept k8 (fun q e e2 => by simp at e e2; omega) (fun j hj q e e2 => HMA.out.lim.2 j hj (by rw [e]; exact e2.symm))
        have m9 := m8.kept k9 (fun q e e2 => by have := hRM.new q e; simp at e2; omega) (fun j hj q e e2 => by have := hRM.newc j hj q e; simp at e2; omega)
        have hfl : fl1 = l.map fun q => q.costs ++ marks := by
          refine List.ext_getElem (by rw [HMA.out.fll]; simp [HNL.out]) (fun j h1 h2 => ?_)
          have hj : j < n := by rw [← HMA.out.fll]; exact h1
          have := HMA.out.flj j hj
          rw [if_pos (by have := HIE.out; omega)] at this
          have hjl : j < l.length := by rw [HNL.out]; exact hj
          simpa [List.getD_eq_getElem?_getD, h1, hjl, Tr.q] using this
        rw [hfl] at m9
        have gv : ∀ j, j < n → (vs1 ++ [(⟨-77, 0, 0, (none, 0, 0)⟩ : Qv), ⟨-78, 0, 0, (none, 0, 0)⟩]).getD j Qv.zero = vs1.getD j Qv.zero := fun j hj => by simp [List.getD_eq_getElem?_getD, List.getElem?_append_left (show j < vs1.length by rw [HMA.out.vl]; exact hj)]
        have g1 : ((vs1 ++ [(⟨-77, 0, 0, (none, 0, 0)⟩ : Qv), ⟨-78, 0, 0, (none, 0, 0)⟩]).getD n Qv.zero).id = -77 := by rw [List.getD_eq_getElem?_getD, List.getElem?_append_right (by rw [HMA.out.vl]; exact Nat.le_refl _), HMA.out.vl, Nat.sub_self]; rfl
        have g2 : ((vs1 ++ [(⟨-77, 0, 0, (none, 0, 0)⟩ : Qv), ⟨-78, 0, 0, (none, 0, 0)⟩]).getD (n + 1) Qv.zero).id = -78 := by rw [List.getD_eq_getElem?_getD, List.getElem?_append_right (by rw [HMA.out.vl]; omega), HMA.out.vl, show n + 1 - n = 1 by omega]; rfl
        have hb1 := HB1.out.size
        have hbU : Below w.heap.size w U := (hbel.grown k8 hbel.size (fun q e => by simp at e; omega)).grown k9 (by have := hbel.size; have := k8.size; omega) (fun q e => by simp at e; omega)
        refine ⟨g7, c7, vs1 ++ [⟨-77, 0, 0, (none, 0, 0)⟩, ⟨-78, 0, 0, (none, 0, 0)⟩], rs1, by simp only [HNL.out], ?_, hbU⟩
        simp only [HNL.out]
        refine ⟨m9.mono hb1, hl7, HNL.out.symm, fun j hj => ?_, g1, g2, fun x hx => ?_, fun j hj => ?_, hfew, HAT⟩
        · rw [gv j hj]; exact HMA.out.same j hj
        · rcases List.mem_append.mp hx with e | e
          · obtain ⟨j, hj, rfl⟩ := List.mem_iff_getElem.mp e
            have hj2 : j < n := by rw [← HMA.out.vl]; exact hj
            obtain ⟨a1, a2, a3, -⟩ := HMA.out.same j hj2
            obtain ⟨o1, o2, o3, -⟩ := HOK.out j hj2
            have ee : vs1.getD j Qv.zero = vs1[j] := by simp [List.getD_eq_getElem?_getD, hj]
            rw [ee] at a1 a2 a3
            exact ⟨by rw [a1]; exact o1, by rw [a2]; exact o2, by rw [a3]; exact o3, trivial⟩
          · simp only [List.mem_cons, List.not_mem_nil, or_false] at e
            rcases e with rfl | rfl
            · exact ⟨by constructor <;> simp, by constructor <;> simp, by constructor <;> simp, trivial⟩
            · exact ⟨by constructor <;> simp, by constructor <;> simp, by constructor <;> simp, trivial⟩
        · exact ⟨HLC.out j hj, (HOK.out j hj).2.2.2⟩
      obtain ⟨k0, k1, k2, kf, -⟩ := hbC
      have kf0 := kf 0 (by omega)
      obtain ⟨j0, j1, j2, -, -⟩ := hb8
      obtain ⟨q0, q1, q2, qf, -⟩ := hR8
      have qf0 := qf 0 (by omega)
      have qf1 := qf 1 (by omega)
      have qf2 := qf 2 (by omega)
      obtain ⟨z0, z1, z2, -, -⟩ := hRs
      simp only [Tr.zero] at q1 q2
      simp only at k1 k2 j1 j2 z1 z2
      have hcn : (n : Int) ≤ (c7 : Int) := by omega
      have hcn2 : n ≤ c7 := by omega
      clear ho7 hg7 hr7 hr7' hRM hbR hbel k8 k9 HM HMA HSR HBA kf qf p0 p1 p2
      go_wp2
      refine bodyPost_ret (v := .agg #[.slice (some ⟨g7, 0, none⟩) n c7, .int .i64 z, .bool f]) ?hres rfl ?_
      case hres =>
        rw [results_cell1 rfl]
        go_simp
      exact HF.out
end Go.Proofs.Ytelhjdplghpnbab
