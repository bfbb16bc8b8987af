import Derived.Test.YtlnppgjppfkocaaGreatDoorGq14
/-! The law's spoilt: its walk. -/
namespace Go.Proofs.YtlnppgjppfkocaaGreatDoor.Xs
open Go.RowKit Plain
set_option linter.unusedVariables false
set_option linter.unusedSimpArgs false

theorem SpS.shapeB {W w u : World} {X : Nat} {l : List Value} {vr vp : Value} {nr np : Nat} {r s : Option Nat} (h : SpS W w u X l vr vp nr np r s) : ∃ a c, vr = .slice a nr c := by
  obtain ⟨y, rfl, ho⟩ := h.b
  rcases ho.2 with ⟨e, e2, _⟩ | ⟨g, cap, _, e, _⟩
  · exact ⟨none, 0, by rw [e, e2]; rfl⟩
  · exact ⟨_, cap, e⟩
theorem SpS.shapeP {W w u : World} {X : Nat} {l : List Value} {vr vp : Value} {nr np : Nat} {r s : Option Nat} (h : SpS W w u X l vr vp nr np r s) : ∃ a c, vp = .slice a np c := by
  obtain ⟨y, rfl, ho⟩ := h.p
  rcases ho with ⟨e, e2, _⟩ | ⟨g, cap, _, e, _⟩
  · exact ⟨none, 0, by rw [e, e2]; rfl⟩
  · exact ⟨_, cap, e⟩
theorem SpA.shapeB {W w u : World} {vr vp : Value} {nr np : Nat} {r s : Option Nat} (h : SpA W w u vr vp nr np r s) : ∃ a c, vr = .slice a nr c := by
  obtain ⟨y, rfl, ho⟩ := h.b
  rcases ho.2 with ⟨e, e2, _⟩ | ⟨g, cap, _, e, _⟩
  · exact ⟨none, 0, by rw [e, e2]; rfl⟩
  · exact ⟨_, cap, e⟩
theorem SpA.shapeP {W w u : World} {vr vp : Value} {nr np : Nat} {r s : Option Nat} (h : SpA W w u vr vp nr np r s) : ∃ a c, vp = .slice a np c := by
  obtain ⟨y, rfl, ho⟩ := h.p
  rcases ho with ⟨e, e2, _⟩ | ⟨g, cap, _, e, _⟩
  · exact ⟨none, 0, by rw [e, e2]; rfl⟩
  · exact ⟨_, cap, e⟩

set_option maxHeartbeats 8000000 in
set_option maxRecDepth 100000 in
theorem lspoiltOf (c : Cm) (vr vp : Value) (W w : World) (hn : NewL W w c vr vp) (hl1 : c.raw.length ≤ 4096) (hl2 : c.picks.length ≤ 4096) (hW : W.heap.size ≤ w.heap.size) (hbW : Below W.heap.size W w) :
    Calls Tryz.prog 16 #[cmV c vr vp] w fun e w' => e = .returned (.int .i64 ((c.raw.length : Int) + (c.picks.length : Int) + 128)) ∧ Below W.heap.size w w' := by
  obtain ⟨W1, hW1⟩ : ∃ u, w.alloc (.cells (cmA c vr vp) 28) = u := ⟨_, rfl⟩
  obtain ⟨X, hX⟩ : ∃ X, w.heap.size = X := ⟨_, rfl⟩
  have HS : Hid (∃ r s, SpS W w W1 X (cmA c vr vp).toList vr vp c.raw.length c.picks.length r s) := by
    obtain ⟨r, s, h1, h2, h3, h4, h5⟩ := hn.ex
    have hb1 : Below w.heap.size w W1 := by rw [← hW1]; exact (Below.refl _ _).alloc (Nat.le_refl _) _
    refine ⟨r, s, by rw [← hW1, ← hX]; exact Bx.new (Nat.le_refl _) _ 28, ⟨_, nats_len _, h1.later hb1⟩, ⟨_, ints_len _, h2.of_block hb1.size (fun g e => hb1.block g (by subst e; exact h2.lt))⟩, hb1.mono hW, fun g e => ⟨h3 g e, by subst e; exact h1.lt⟩, fun g e => ⟨h4 g e, by subst e; exact h2.lt⟩, h5⟩
  obtain ⟨r, s, hS⟩ := HS.out
  obtain ⟨ar, cr, rfl⟩ := hS.shapeB
  obtain ⟨ap, cp, rfl⟩ := hS.shapeP
  obtain ⟨vb, cn, ⟨id, op, tp, ky, vl, fo, nu, pi, sq⟩, x, n, p⟩ := c
  simp only at *
  have HS1 := mkH hS
  generalize x.length = nr at *
  generalize p.length = np at *
  clear hn HS hS
  go_enter Tryz.func16, Tryz.ntmps16
  go_wp2_with fail
  go_loopw [3] (fun i wl => ∃ k : Nat, k ≤ nr ∧ i = .int .i64 k ∧ Hid (SpS W w wl X [.int .i64 vb, .int .i64 cn, .int .u32 id, .int .i64 op, .string (ba tp), .string (ba ky), .string (ba vl), .int .i64 fo, .int .i64 nu, .int .i64 pi, .int .i64 sq, .slice ar nr cr, .int .i64 n, .slice ap np cp] (.slice ar nr cr) (.slice ap np cp) nr np r s)) (fun i _ => nr - (intOf i).toNat)
  case atStart => exact ⟨0, Nat.zero_le _, rfl, HS1⟩
  case round =>
    clear HS1
    obtain ⟨k, hk, rfl, HS⟩ := hrel
    have z11 := HS.out.x.c 11 (by simp)
    have z13 := HS.out.x.c 13 (by simp)
    simp only [List.getD_cons_succ, List.getD_cons_zero] at z11 z13
    by_cases hp : k < nr
    · have hki : (k : Int) < (nr : Int) := by omega
      obtain ⟨g, rfl, q1, ⟨q2, q3⟩, hS2⟩ := HS.out.setB hp 165 (by omega)
      have HS2 := mkH hS2
      clear hS2 HS
      go_wp2
      go_roundw
      case rel => exact ⟨k + 1, by omega, by go_num, HS2⟩
      case measure => simp [intOf]; omega
    · have hki : ¬ (k : Int) < (nr : Int) := by omega
      have HSb := HS
      go_wp2
      clear HS z11 z13
      go_loopw [4] (fun i wl => ∃ k : Nat, k ≤ np ∧ i = .int .i64 k ∧ Hid (SpS W w wl X [.int .i64 vb, .int .i64 cn, .int .u32 id, .int .i64 op, .string (ba tp), .string (ba ky), .string (ba vl), .int .i64 fo, .int .i64 nu, .int .i64 pi, .int .i64 sq, .slice ar nr cr, .int .i64 n, .slice ap np cp] (.slice ar nr cr) (.slice ap np cp) nr np r s)) (fun i _ => np - (intOf i).toNat)
      case atStart => exact ⟨0, Nat.zero_le _, rfl, HSb⟩
      case round =>
        clear HSb
        obtain ⟨k, hk, rfl, HS⟩ := hrel
        have z11 := HS.out.x.c 11 (by simp)
        have z13 := HS.out.x.c 13 (by simp)
        simp only [List.getD_cons_succ, List.getD_cons_zero] at z11 z13
        by_cases hp : k < np
        · have hki : (k : Int) < (np : Int) := by omega
          obtain ⟨g, rfl, q1, ⟨q2, q3⟩, hS2⟩ := HS.out.setP hp (.int .i64 (-165))
          have HS2 := mkH hS2
          clear hS2 HS
          go_wp2
          go_roundw
          case rel => exact ⟨k + 1, by omega, by go_num, HS2⟩
          case measure => simp [intOf]; omega
        · have hki : ¬ (k : Int) < (np : Int) := by omega
          have HA : Hid (∃ r s a b c d, SpA W w wr (.slice a nr c) (.slice b np d) nr np r s ∧ Value.slice ar nr cr = .slice a nr c ∧ Value.slice ap np cp = .slice b np d) := by
            have h := HS.out
            have hl := h.be.size
            exact ⟨r, s, ar, ap, cr, cp, ⟨h.b, h.p, h.be, fun g e => ⟨(h.rB g e).1, by have := (h.rB g e).2; have := h.x.lt; have := h.x.ge; omega⟩, fun g e => ⟨(h.sB g e).1, by have := (h.sB g e).2; have := h.x.lt; have := h.x.ge; omega⟩, h.ne⟩, rfl, rfl⟩
          clear HS
          go_wp2
          clear z11 z13
          go_loopw [5, 6, 7] (fun v5 v6 i wl => ∃ (k : Nat) (r s : Option Nat) (a b : Option Addr) (c d : Nat), k ≤ 64 ∧ i = .int .i64 k ∧ v5 = .slice a (nr + k) c ∧ v6 = .slice b (np + k) d ∧ Hid (SpA W w wl (.slice a (nr + k) c) (.slice b (np + k) d) (nr + k) (np + k) r s)) (fun _ _ i _ => 64 - (intOf i).toNat)
          case atStart =>
            obtain ⟨r, s, a, b, c, d, h, e1, e2⟩ := HA.out
            exact ⟨0, r, s, a, b, c, d, Nat.zero_le _, rfl, e1, e2, h⟩
          case round =>
            clear HA
            obtain ⟨k, r, s, a, b, c, d, hk, rfl, rfl, rfl, HS⟩ := hrel
            by_cases hp : k < 64
            · have hki : (k : Int) < 64 := by omega
              obtain ⟨yb, hyb, hob⟩ := HS.out.b
              have HOB := mkH hob
              have HYB := mkH hyb
              clear hyb hob
              go_wp2_with (at_builtin; refine wpList_append_row _ rfl _ _ 25 25 rfl Tryz.underlying25 _ _ yb [90] r rfl rfl ?hOwn ?hBy ?hSrc ?hLen ?_)
              case hOwn => exact HOB.out.later ((Below.refl _ _).alloc (Nat.le_refl _) _)
              case hBy => simp
              case hSrc => exact src_one wr 90 25 5 Tryz.underlying25
              case hLen => rw [HYB.out]; simp; omega
              intro v4 w4 r4 ho4 hg4 hr4 _
              have HS4 : Hid (SpA W w w4 v4 (.slice b (np + k) d) (nr + k + 1) (np + k) r4 s) := HS.out.pushB HYB.out hW ho4 hg4 (by simpa using hr4)
              obtain ⟨a4, c4, rfl⟩ := HS4.out.shapeB
              clear ho4 hg4 hr4 HOB HYB HS
              obtain ⟨yp, hyp, hop⟩ := HS4.out.p
              have HOP := mkH hop
              have HYP := mkH hyp
              clear hyp hop
              go_wp2_with (at_builtin; refine wpList_append_ints _ rfl _ _ rfl _ _ yp [.int .i64 (-90)] s rfl rfl ?hOwn ?hSrc ?hLen (.inr (by simp)) ?_)
              case hOwn => exact HOP.out.of_block (by simp) (fun g e => heap_alloc_old _ _ (by subst e; exact HOP.out.lt))
              case hSrc => exact srcOne w4 (-90)
              case hLen => rw [HYP.out]; simp; omega
              intro v6 w6 g6 ho6 hg6 hr6
              have HS6 : Hid (SpA W w w6 (.slice a4 (nr + k + 1) c4) v6 (nr + k + 1) (np + k + 1) r4 (some g6)) := HS4.out.pushP HYP.out hW ho6 hg6 (by simpa using hr6)
              obtain ⟨b6, d6, rfl⟩ := HS6.out.shapeP
              clear ho6 hg6 hr6 HOP HYP HS4
              go_wp2
              go_roundw
              case rel => exact ⟨k + 1, r4, some g6, a4, b6, c4, d6, by omega, by go_num, rfl, rfl, HS6⟩
              case measure => simp [intOf]; omega
            · have hki : ¬ (k : Int) < 64 := by omega
              have hk64 : k = 64 := by omega
              have HE : Hid (Below W.heap.size w wr) := HS.out.be
              clear HS
              go_wp2
              go_ret
              refine ⟨?_, HE.out⟩
              subst hk64
              exact congrArg (fun z => Ending.returned (Value.int .i64 z)) (by omega : (nr : Int) + 64 + ((np : Int) + 64) = (nr : Int) + (np : Int) + 128)
end Go.Proofs.YtlnppgjppfkocaaGreatDoor.Xs

/-! Lines: the document's readRequest. -/
namespace Go.Proofs.YtlnppgjppfkocaaGreatDoor.Xs
open Go.RowKit Plain
set_option linter.unusedVariables false
set_option linter.unusedSimpArgs false

set_option maxHeartbeats 16000000 in
set_option maxRecDepth 100000 in
theorem rreadReqOf (l : List By) (v : Value) (id : Int) (w : World) (hv : NmsAt w v l) (hl : l.length ≤ 100001) (hx : ∀ x ∈ l, x.length ≤ 100000) (hi1 : 0 ≤ id) (hi2 : id ≤ 4294967295) :
    Calls Tryz.prog 55 #[v, rqV ⟨id, 0, [], [], [], 0, 0, 0, 0⟩] w fun e w' => (∃ r, e = .returned (rqV r) ∧ RrP l id r) ∧ Below w.heap.size w w' := by
  obtain ⟨al, cl, rfl, q1, q2, q3, q4⟩ := hv
  have HV : Hid (NmsAt w (.slice al l.length cl) l) := ⟨al, cl, rfl, q1, q2, q3, q4⟩
  obtain ⟨W1, hW1⟩ : ∃ W1, w.alloc (.cells #[.int .u32 id, .int .i64 0, .string ⟨#[]⟩, .string ⟨#[]⟩, .string ⟨#[]⟩, .int .i64 0, .int .i64 0, .int .i64 0, .int .i64 0] 24) = W1 := ⟨_, rfl⟩
  have hb1 : Below w.heap.size w W1 := by rw [← hW1]; exact (Below.refl _ _).alloc (Nat.le_refl _) _
  have hX1 : Bx w W1 w.heap.size (rqLst ⟨id, 0, [], [], [], 0, 0, 0, 0⟩) := by rw [← hW1]; exact Bx.new (Nat.le_refl _) (rqLst ⟨id, 0, [], [], [], 0, 0, 0, 0⟩) 24
  obtain ⟨W2, hW2⟩ : ∃ W2, W1.alloc (.cells #[.int .u32 0, .int .i64 0, .string ⟨#[]⟩, .string ⟨#[]⟩, .string ⟨#[]⟩, .int .i64 0, .int .i64 0, .int .i64 0, .int .i64 0] 24) = W2 := ⟨_, rfl⟩
  have hb2 : Below W1.heap.size W1 W2 := by rw [← hW2]; exact (Below.refl _ _).alloc (Nat.le_refl _) _
  have hR2 : Bx w W2 W1.heap.size (rqLst Rq.zero) := by rw [← hW2]; exact Bx.new hb1.size (rqLst Rq.zero) 24
  have hlt1 := hX1.lt
  have hS0 : RqS w W2 w.heap.size W1.heap.size ⟨id, 0, [], [], [], 0, 0, 0, 0⟩ := ⟨hX1.later hb2, hR2, by omega, below_on hb1 hb2⟩
  have HS : Hid (RqS w W2 w.heap.size W1.heap.size ⟨id, 0, [], [], [], 0, 0, 0, 0⟩) := hS0
  clear hX1 hR2 hb2 hb1 hS0
  obtain ⟨X, hXd⟩ : ∃ X, w.heap.size = X := ⟨_, rfl⟩
  obtain ⟨R, hRd⟩ : ∃ R, W1.heap.size = R := ⟨_, rfl⟩
  rw [hXd, hRd] at HS
  have HXd : Hid (w.heap.size = X) := hXd
  have HRd : Hid (W1.heap.size = R) := hRd
  go_enter Tryz.func55, Tryz.ntmps55
  by_cases hl0 : l = []
  · subst hl0
    have i0 : I64 (0 : Int) := ⟨by omega, by omega⟩
    have HE : Hid (RrP [] id ⟨id, 0, [], [], [], 0, 0, 0, 0⟩) := ⟨⟨hi1, hi2, i0, i0, i0, i0, i0⟩, by simp, by simp, by simp, fun s _ _ _ e => by cases e⟩
    clear hW1 hW2 HS
    go_wp2
    refine bodyPost_ret (v := rqV ⟨id, 0, [], [], [], 0, 0, 0, 0⟩) ?hres rfl ?_
    case hres =>
      rw [results_cell1 rfl]
      go_simp
    exact ⟨⟨_, rfl, HE.out⟩, ((Below.refl _ _).alloc (Nat.le_refl _) _).alloc (by simp) _⟩
  · have hl1 : 0 < l.length := List.length_pos_iff.2 hl0
    have hlb : (((l.length : Nat) : Int) == 0) = false := by rw [beq_eq_false_iff_ne]; omega
    obtain ⟨bl, ol, rfl, hcl⟩ := q4 hl0
    have HCL : Hid (∀ u, Below w.heap.size w u → ∀ j, j < l.length → u.cell? ⟨bl, ol + j, none⟩ = some (.string (ba (l.getD j [])))) := fun u hu j hj => (hu.cell (cell_lt (hcl j hj))).trans (hcl j hj)
    clear q4 hcl
    obtain ⟨x0, hx0⟩ : ∃ x, l.getD 0 [] = x := ⟨_, rfl⟩
    have HX0 : Hid (∀ s : Rq, l = opT s.op :: (fldL s.op).map (fldT s) → x0 = opT s.op) := fun s e => by rw [← hx0, e]; rfl
    have HC0 : Hid (∀ u, Below w.heap.size w u → u.cell? ⟨bl, ol, none⟩ = some (.string (ba x0))) := fun u hu => by have := HCL.out u hu 0 hl1; rw [hx0] at this; exact this
    clear hx0
    go_wp2
    generalize rqV ⟨id, 0, [], [], [], 0, 0, 0, 0⟩ = V1 at *
    clear hW1 hW2 hXd hRd hlt1
    go_loopw [5] (fun i wl => ∃ (k : Nat) (o : Int), 1 ≤ k ∧ k ≤ 16 ∧ i = .int .i64 k ∧ Hid (OpF x0 k o) ∧ Hid (RqS w wl X R ⟨id, o, [], [], [], 0, 0, 0, 0⟩)) (fun i _ => 16 - (intOf i).toNat)
    case atStart => exact ⟨1, 0, Nat.le_refl _, by omega, rfl, OpF.start x0, HS⟩
    case round =>
      clear HS
      obtain ⟨k, o, hk1, hk2, rfl, HF, HS⟩ := hrel
      by_cases hp : k ≤ 15
      · have hki : (k : Int) ≤ 15 := by omega
        have c0 := cell_regrown (HC0.out _ HS.out.be)
        have kO : ∀ d os, Calls Tryz.prog 50 #[.int .i64 (k : Int)] (Go.Sort.grow (redrawn wr d) os) fun e w'' => e = .returned (.string (ba (opT k))) ∧ ∃ p : Regrown, w'' = Go.Sort.grow (redrawn wr p.d) p.os := fun d os => Calls.regrown_of (ropWordOf k (by omega) (by omega) _)
        have HHit : Hid (opT k = x0 → OpF x0 (k + 1) k) := fun e => HF.out.hit hk1 hp e
        have HMis : Hid (opT k ≠ x0 → OpF x0 (k + 1) o) := fun e => HF.out.miss e
        generalize opT (k : Int) = O at *
        go_wp2_with fail
        refine wp_region_quiet_below (by kernel_rfl) (by kernel_rfl) ?_
        repeat (go_big_quiet_step (with_reducible exact kO _ _))
        refine wpQuiet_nil ?_
        intro _ hw'
        obtain ⟨⟨dq, osq⟩, hw''⟩ := hw'
        subst hw''
        obtain ⟨w7, hw7⟩ : ∃ u, Go.Sort.grow (redrawn wr dq) osq = u := ⟨_, rfl⟩
        have HS7 : Hid (RqS w w7 X R ⟨id, o, [], [], [], 0, 0, 0, 0⟩) := by
          unfold Hid
          rw [← hw7]
          exact HS.out.later (below_regrown wr dq osq)
        rw [hw7]
        clear kO c0 hw7 HS
        have z1 := HS7.out.x.rq.c1
        have f1 := HS7.out.x.fz 1 (by simp [rqLst])
        simp only [Nat.zero_add] at z1
        by_cases he : O = x0
        · have heb : (O == x0) = true := by simpa using he
          have HF2 := mkH (HHit.out he)
          have HS8 : Hid (RqS w (w7.setCell ⟨X, 1, none⟩ (.int .i64 k)) X R ⟨id, k, [], [], [], 0, 0, 0, 0⟩) := HS7.out.put (by omega) _ rfl
          clear he HHit HMis
          rw [heb]
          go_wp2
          go_roundw
          case rel => exact ⟨k + 1, k, by omega, by omega, by go_num, HF2, HS8⟩
          case measure => simp [intOf]; omega
        · have heb : (O == x0) = false := by simpa using he
          have HF2 := mkH (HMis.out he)
          clear he HHit HMis
          rw [heb]
          go_wp2
          go_roundw
          case rel => exact ⟨k + 1, o, by omega, by omega, by go_num, HF2, HS7⟩
          case measure => simp [intOf]; omega
      · have hki : ¬ (k : Int) ≤ 15 := by omega
        have HFL : Hid (0 ≤ o ∧ o ≤ 15 ∧ ∀ s : Rq, OkR s → l = opT s.op :: (fldL s.op).map (fldT s) → o = s.op) := ⟨HF.out.lo, HF.out.hi, fun s hs e => by
          have h1 := hs.op1
          have h2 := hs.op2
          have := HF.out.is s.op.toNat (by omega) (by omega) (by rw [Int.toNat_of_nonneg (by omega)]; exact (HX0.out s e).symm)
          omega⟩
        clear HF
        have HFF : Hid (∀ u, Calls Tryz.prog 51 #[.int .i64 o] u fun e w' => e = .returned (.string (ba (fldL o))) ∧ w' = u) := rfieldsOf o
        have hfl := fld_len o
        have HND := mkH (fld_nodup o)
        have HLE := mkH (fld_letters o)
        have HQ0 : Hid (RdQ (fldL o) l 0 ⟨id, o, [], [], [], 0, 0, 0, 0⟩ ⟨id, o, [], [], [], 0, 0, 0, 0⟩) := RdQ.start _ _ _ _
        have HQD : Hid (∀ (r : Rq) (i : Nat), RdQ (fldL o) l i ⟨id, o, [], [], [], 0, 0, 0, 0⟩ r → ¬ (i < (fldL o).length ∧ i + 1 < l.length) → i ≤ (fldL o).length → ∀ s, OkR s → WfR s → s.id = id → l = opT s.op :: (fldL s.op).map (fldT s) → r = s) := fun r i hq hi hil s hs hw hid hl' => RdQ.done (r0 := ⟨id, o, [], [], [], 0, 0, 0, 0⟩) hq hi hil hs hw hid (HFL.out.2.2 s hs hl').symm hl'
        have hob : I64 o := ⟨by have := HFL.out.1; omega, by have := HFL.out.2.1; omega⟩
        have i0 : I64 (0 : Int) := ⟨by omega, by omega⟩
        generalize fldL o = U at *
        have sU : (ba U).size = U.length := rfl
        have z1 := HS.out.x.rq.c1
        simp only [Nat.zero_add] at z1
        go_wp2_with fail
        refine (HFF.out _).mono ?_
        rintro e w2 ⟨rfl, hw2⟩
        obtain rfl : wr = w2 := hw2.symm
        clear z1 HFF hw2
        go_wp2
        go_loopw [7, 8] (fun i _ wl => ∃ (k : Nat) (r : Rq), k ≤ U.length ∧ i = .int .i64 k ∧ Hid (RdQ U l k ⟨id, o, [], [], [], 0, 0, 0, 0⟩ r) ∧ Hid (WfR r ∧ r.topic.length ≤ 100000 ∧ r.key.length ≤ 100000 ∧ r.value.length ≤ 100000) ∧ Hid (RqS w wl X R r)) (fun i _ _ => U.length - (intOf i).toNat)
        case atStart => exact ⟨0, ⟨id, o, [], [], [], 0, 0, 0, 0⟩, Nat.zero_le _, rfl, HQ0, ⟨⟨hi1, hi2, hob, i0, i0, i0, i0⟩, by simp, by simp, by simp⟩, HS⟩
        case round =>
          clear HS HQ0
          obtain ⟨k, r, hk, rfl, HQ, HW, HS⟩ := hrel
          by_cases hp : k < U.length
          · have hki : (k : Int) < (U.length : Int) := by omega
            by_cases hq : k + 1 < l.length
            · have hqi : (k : Int) + 1 < (l.length : Int) := by omega
              have c0 := HCL.out _ HS.out.be (k + 1) hq
              have hxl : (l.getD (k + 1) []).length ≤ 100000 := hx _ (by rw [List.getD_eq_getElem?_getD, List.getElem?_eq_getElem hq]; exact List.getElem_mem hq)
              have HQN : Hid (∀ r', r'.id = r.id → r'.op = r.op → (∀ c, c ≠ U.getD k 0 → FEq r' r c) → FIs r' (U.getD k 0) (l.getD (k + 1) []) → RdQ U l (k + 1) ⟨id, o, [], [], [], 0, 0, 0, 0⟩ r') := fun r' a1 a2 a3 a4 => HQ.out.next HND.out hp a1 a2 a3 a4
              have hlt : U.getD k 0 = 84 ∨ U.getD k 0 = 75 ∨ U.getD k 0 = 86 ∨ U.getD k 0 = 79 ∨ U.getD k 0 = 78 ∨ U.getD k 0 = 80 ∨ U.getD k 0 = 83 := HLE.out _ (by rw [List.getD_eq_getElem?_getD, List.getElem?_eq_getElem hp]; exact List.getElem_mem hp)
              generalize l.getD (k + 1) [] = x at *
              have hkb : k < (ba U).size := hp
              have hbg := ba_get hkb
              obtain ⟨z, hz⟩ : ∃ z : Int, (((ba U)[k]'hkb).toNat : Int) = z := ⟨_, rfl⟩
              have HZ : Hid (z = ((U.getD k 0).toNat : Int)) := by unfold Hid; rw [← hz, hbg]
              clear hbg
              generalize U.getD k 0 = c at *
              have HT := mkH (rreadTextOf x hxl)
              have HN := mkH (rreadNumberOf x (by omega))
              obtain ⟨rid, rop, tp, ky, vl, fo, nu, pi, sq⟩ := r
              rcases hlt with hc | hc | hc | hc | hc | hc | hc
              · have hzc : z = 84 := by rw [HZ.out, hc]; rfl
                subst hc
                go_wp2_with fail
                refine (HT.out _).mono ?_
                rintro e w3 ⟨⟨y, rfl, hyl, hy⟩, hb⟩
                have HS3 := mkH (HS.out.later hb)
                have HR4 : Hid (RdQ U l (k + 1) ⟨id, o, [], [], [], 0, 0, 0, 0⟩ ⟨rid, rop, y, ky, vl, fo, nu, pi, sq⟩) := HQN.out ⟨rid, rop, y, ky, vl, fo, nu, pi, sq⟩ rfl rfl (fun c hc => ⟨fun h => absurd h hc, fun _ => rfl, fun _ => rfl, fun _ => rfl, fun _ => rfl, fun _ => rfl, fun _ => rfl⟩) ⟨fun _ => hy, fun h => absurd h (by decide), fun h => absurd h (by decide), fun h => absurd h (by decide), fun h => absurd h (by decide), fun h => absurd h (by decide), fun h => absurd h (by decide)⟩
                have HW4 : Hid (WfR ⟨rid, rop, y, ky, vl, fo, nu, pi, sq⟩ ∧ y.length ≤ 100000 ∧ ky.length ≤ 100000 ∧ vl.length ≤ 100000) := ⟨⟨HW.out.1.id1, HW.out.1.id2, HW.out.1.op, HW.out.1.offset, HW.out.1.number, HW.out.1.pid, HW.out.1.seq⟩, (by omega), HW.out.2.2.1, HW.out.2.2.2⟩
                clear c0 HS HQN HQ HT HN HW HZ hy
                have zc := HS3.out.x.c 2 (by simp [rqLst])
                have fc := HS3.out.x.fz 2 (by simp [rqLst])
                have HS4 := mkH (HS3.out.put (r' := ⟨rid, rop, y, ky, vl, fo, nu, pi, sq⟩) (i := 2) (by omega) (.string (ba y)) rfl)
                go_wp2
                go_roundw
                case rel => exact ⟨k + 1, ⟨rid, rop, y, ky, vl, fo, nu, pi, sq⟩, by omega, by go_num, HR4, HW4, HS4⟩
                case measure => simp [intOf]; omega
              · have hzc : z = 75 := by rw [HZ.out, hc]; rfl
                subst hc
                go_wp2_with fail
                refine (HT.out _).mono ?_
                rintro e w3 ⟨⟨y, rfl, hyl, hy⟩, hb⟩
                have HS3 := mkH (HS.out.later hb)
                have HR4 : Hid (RdQ U l (k + 1) ⟨id, o, [], [], [], 0, 0, 0, 0⟩ ⟨rid, rop, tp, y, vl, fo, nu, pi, sq⟩) := HQN.out ⟨rid, rop, tp, y, vl, fo, nu, pi, sq⟩ rfl rfl (fun c hc => ⟨fun _ => rfl, fun h => absurd h hc, fun _ => rfl, fun _ => rfl, fun _ => rfl, fun _ => rfl, fun _ => rfl⟩) ⟨fun h => absurd h (by decide), fun _ => hy, fun h => absurd h (by decide), fun h => absurd h (by decide), fun h => absurd h (by decide), fun h => absurd h (by decide), fun h => absurd h (by decide)⟩
                have HW4 : Hid (WfR ⟨rid, rop, tp, y, vl, fo, nu, pi, sq⟩ ∧ tp.length ≤ 100000 ∧ y.length ≤ 100000 ∧ vl.length ≤ 100000) := ⟨⟨HW.out.1.id1, HW.out.1.id2, HW.out.1.op, HW.out.1.offset, HW.out.1.number, HW.out.1.pid, HW.out.1.seq⟩, HW.out.2.1, (by omega), HW.out.2.2.2⟩
                clear c0 HS HQN HQ HT HN HW HZ hy
                have zc := HS3.out.x.c 3 (by simp [rqLst])
                have fc := HS3.out.x.fz 3 (by simp [rqLst])
                have HS4 := mkH (HS3.out.put (r' := ⟨rid, rop, tp, y, vl, fo, nu, pi, sq⟩) (i := 3) (by omega) (.string (ba y)) rfl)
                go_wp2
                go_roundw
                case rel => exact ⟨k + 1, ⟨rid, rop, tp, y, vl, fo, nu, pi, sq⟩, by omega, by go_num, HR4, HW4, HS4⟩
                case measure => simp [intOf]; omega
              · have hzc : z = 86 := by rw [HZ.out, hc]; rfl
                subst hc
                go_wp2_with fail
                refine (HT.out _).mono ?_
                rintro e w3 ⟨⟨y, rfl, hyl, hy⟩, hb⟩
                have HS3 := mkH (HS.out.later hb)
                have HR4 : Hid (RdQ U l (k + 1) ⟨id, o, [], [], [], 0, 0, 0, 0⟩ ⟨rid, rop, tp, ky, y, fo, nu, pi, sq⟩) := HQN.out ⟨rid, rop, tp, ky, y, fo, nu, pi, sq⟩ rfl rfl (fun c hc => ⟨fun _ => rfl, fun _ => rfl, fun h => absurd h hc, fun _ => rfl, fun _ => rfl, fun _ => rfl, fun _ => rfl⟩) ⟨fun h => absurd h (by decide), fun h => absurd h (by decide), fun _ => hy, fun h => absurd h (by decide), fun h => absurd h (by decide), fun h => absurd h (by decide), fun h => absurd h (by decide)⟩
                have HW4 : Hid (WfR ⟨rid, rop, tp, ky, y, fo, nu, pi, sq⟩ ∧ tp.length ≤ 100000 ∧ ky.length ≤ 100000 ∧ y.length ≤ 100000) := ⟨⟨HW.out.1.id1, HW.out.1.id2, HW.out.1.op, HW.out.1.offset, HW.out.1.number, HW.out.1.pid, HW.out.1.seq⟩, HW.out.2.1, HW.out.2.2.1, (by omega)⟩
                clear c0 HS HQN HQ HT HN HW HZ hy
                have zc := HS3.out.x.c 4 (by simp [rqLst])
                have fc := HS3.out.x.fz 4 (by simp [rqLst])
                have HS4 := mkH (HS3.out.put (r' := ⟨rid, rop, tp, ky, y, fo, nu, pi, sq⟩) (i := 4) (by omega) (.string (ba y)) rfl)
                go_wp2
                go_roundw
                case rel => exact ⟨k + 1, ⟨rid, rop, tp, ky, y, fo, nu, pi, sq⟩, by omega, by go_num, HR4, HW4, HS4⟩
                case measure => simp [intOf]; omega
              · have hzc : z = 79 := by rw [HZ.out, hc]; rfl
                subst hc
                go_wp2_with fail
                refine (HN.out _).mono ?_
                rintro e w3 ⟨⟨y, rfl, hyl, hy⟩, rfl⟩
                have HS3 := mkH HS.out
                have HR4 : Hid (RdQ U l (k + 1) ⟨id, o, [], [], [], 0, 0, 0, 0⟩ ⟨rid, rop, tp, ky, vl, y, nu, pi, sq⟩) := HQN.out ⟨rid, rop, tp, ky, vl, y, nu, pi, sq⟩ rfl rfl (fun c hc => ⟨fun _ => rfl, fun _ => rfl, fun _ => rfl, fun h => absurd h hc, fun _ => rfl, fun _ => rfl, fun _ => rfl⟩) ⟨fun h => absurd h (by decide), fun h => absurd h (by decide), fun h => absurd h (by decide), fun _ => hy, fun h => absurd h (by decide), fun h => absurd h (by decide), fun h => absurd h (by decide)⟩
                have HW4 : Hid (WfR ⟨rid, rop, tp, ky, vl, y, nu, pi, sq⟩ ∧ tp.length ≤ 100000 ∧ ky.length ≤ 100000 ∧ vl.length ≤ 100000) := ⟨⟨HW.out.1.id1, HW.out.1.id2, HW.out.1.op, hyl, HW.out.1.number, HW.out.1.pid, HW.out.1.seq⟩, HW.out.2⟩
                clear c0 HS HQN HQ HT HN HW HZ hy
                have zc := HS3.out.x.c 5 (by simp [rqLst])
                have fc := HS3.out.x.fz 5 (by simp [rqLst])
                have HS4 := mkH (HS3.out.put (r' := ⟨rid, rop, tp, ky, vl, y, nu, pi, sq⟩) (i := 5) (by omega) (.int .i64 y) rfl)
                go_wp2
                go_roundw
                case rel => exact ⟨k + 1, ⟨rid, rop, tp, ky, vl, y, nu, pi, sq⟩, by omega, by go_num, HR4, HW4, HS4⟩
                case measure => simp [intOf]; omega
              · have hzc : z = 78 := by rw [HZ.out, hc]; rfl
                subst hc
                go_wp2_with fail
                refine (HN.out _).mono ?_
                rintro e w3 ⟨⟨y, rfl, hyl, hy⟩, rfl⟩
                have HS3 := mkH HS.out
                have HR4 : Hid (RdQ U l (k + 1) ⟨id, o, [], [], [], 0, 0, 0, 0⟩ ⟨rid, rop, tp, ky, vl, fo, y, pi, sq⟩) := HQN.out ⟨rid, rop, tp, ky, vl, fo, y, pi, sq⟩ rfl rfl (fun c hc => ⟨fun _ => rfl, fun _ => rfl, fun _ => rfl, fun _ => rfl, fun h => absurd h hc, fun _ => rfl, fun _ => rfl⟩) ⟨fun h => absurd h (by decide), fun h => absurd h (by decide), fun h => absurd h (by decide), fun h => absurd h (by decide), fun _ => hy, fun h => absurd h (by decide), fun h => absurd h (by decide)⟩
                have HW4 : Hid (WfR ⟨rid, rop, tp, ky, vl, fo, y, pi, sq⟩ ∧ tp.length ≤ 100000 ∧ ky.length ≤ 100000 ∧ vl.length ≤ 100000) := ⟨⟨HW.out.1.id1, HW.out.1.id2, HW.out.1.op, HW.out.1.offset, hyl, HW.out.1.pid, HW.out.1.seq⟩, HW.out.2⟩
                clear c0 HS HQN HQ HT HN HW HZ hy
                have zc := HS3.out.x.c 6 (by simp [rqLst])
                have fc := HS3.out.x.fz 6 (by simp [rqLst])
                have HS4 := mkH (HS3.out.put (r' := ⟨rid, rop, tp, ky, vl, fo, y, pi, sq⟩) (i := 6) (by omega) (.int .i64 y) rfl)
                go_wp2
                go_roundw
                case rel => exact ⟨k + 1, ⟨rid, rop, tp, ky, vl, fo, y, pi, sq⟩, by omega, by go_num, HR4, HW4, HS4⟩
                case measure => simp [intOf]; omega
              · have hzc : z = 80 := by rw [HZ.out, hc]; rfl
                subst hc
                go_wp2_with fail
                refine (HN.out _).mono ?_
                rintro e w3 ⟨⟨y, rfl, hyl, hy⟩, rfl⟩
                have HS3 := mkH HS.out
                have HR4 : Hid (RdQ U l (k + 1) ⟨id, o, [], [], [], 0, 0, 0, 0⟩ ⟨rid, rop, tp, ky, vl, fo, nu, y, sq⟩) := HQN.out ⟨rid, rop, tp, ky, vl, fo, nu, y, sq⟩ rfl rfl (fun c hc => ⟨fun _ => rfl, fun _ => rfl, fun _ => rfl, fun _ => rfl, fun _ => rfl, fun h => absurd h hc, fun _ => rfl⟩) ⟨fun h => absurd h (by decide), fun h => absurd h (by decide), fun h => absurd h (by decide), fun h => absurd h (by decide), fun h => absurd h (by decide), fun _ => hy, fun h => absurd h (by decide)⟩
                have HW4 : Hid (WfR ⟨rid, rop, tp, ky, vl, fo, nu, y, sq⟩ ∧ tp.length ≤ 100000 ∧ ky.length ≤ 100000 ∧ vl.length ≤ 100000) := ⟨⟨HW.out.1.id1, HW.out.1.id2, HW.out.1.op, HW.out.1.offset, HW.out.1.number, hyl, HW.out.1.seq⟩, HW.out.2⟩
                clear c0 HS HQN HQ HT HN HW HZ hy
                have zc := HS3.out.x.c 7 (by simp [rqLst])
                have fc := HS3.out.x.fz 7 (by simp [rqLst])
                have HS4 := mkH (HS3.out.put (r' := ⟨rid, rop, tp, ky, vl, fo, nu, y, sq⟩) (i := 7) (by omega) (.int .i64 y) rfl)
                go_wp2
                go_roundw
                case rel => exact ⟨k + 1, ⟨rid, rop, tp, ky, vl, fo, nu, y, sq⟩, by omega, by go_num, HR4, HW4, HS4⟩
                case measure => simp [intOf]; omega
              · have hzc : z = 83 := by rw [HZ.out, hc]; rfl
                subst hc
                go_wp2_with fail
                refine (HN.out _).mono ?_
                rintro e w3 ⟨⟨y, rfl, hyl, hy⟩, rfl⟩
                have HS3 := mkH HS.out
                have HR4 : Hid (RdQ U l (k + 1) ⟨id, o, [], [], [], 0, 0, 0, 0⟩ ⟨rid, rop, tp, ky, vl, fo, nu, pi, y⟩) := HQN.out ⟨rid, rop, tp, ky, vl, fo, nu, pi, y⟩ rfl rfl (fun c hc => ⟨fun _ => rfl, fun _ => rfl, fun _ => rfl, fun _ => rfl, fun _ => rfl, fun _ => rfl, fun h => absurd h hc⟩) ⟨fun h => absurd h (by decide), fun h => absurd h (by decide), fun h => absurd h (by decide), fun h => absurd h (by decide), fun h => absurd h (by decide), fun h => absurd h (by decide), fun _ => hy⟩
                have HW4 : Hid (WfR ⟨rid, rop, tp, ky, vl, fo, nu, pi, y⟩ ∧ tp.length ≤ 100000 ∧ ky.length ≤ 100000 ∧ vl.length ≤ 100000) := ⟨⟨HW.out.1.id1, HW.out.1.id2, HW.out.1.op, HW.out.1.offset, HW.out.1.number, HW.out.1.pid, hyl⟩, HW.out.2⟩
                clear c0 HS HQN HQ HT HN HW HZ hy
                have zc := HS3.out.x.c 8 (by simp [rqLst])
                have fc := HS3.out.x.fz 8 (by simp [rqLst])
                have HS4 := mkH (HS3.out.put (r' := ⟨rid, rop, tp, ky, vl, fo, nu, pi, y⟩) (i := 8) (by omega) (.int .i64 y) rfl)
                go_wp2
                go_roundw
                case rel => exact ⟨k + 1, ⟨rid, rop, tp, ky, vl, fo, nu, pi, y⟩, by omega, by go_num, HR4, HW4, HS4⟩
                case measure => simp [intOf]; omega
            · have hqi : ¬ (k : Int) + 1 < (l.length : Int) := by omega
              have HE : Hid (RrP l id r) := ⟨HW.out.1, HW.out.2.1, HW.out.2.2.1, HW.out.2.2.2, HQD.out r k HQ.out (by omega) hk⟩
              clear HQ HW HQD
              obtain ⟨a0, a1, a2, a3, a4, a5, a6, a7, a8⟩ := HS.out.x.rq
              obtain ⟨b0, b1, b2, b3, b4, b5, b6, b7, b8⟩ := HS.out.r.rq
              simp only [Nat.zero_add] at a0 a1 a2 a3 a4 a5 a6 a7 a8 b0 b1 b2 b3 b4 b5 b6 b7 b8
              have f0 := HS.out.r.fz 0 (by simp [rqLst])
              have f1 := HS.out.r.fz 1 (by simp [rqLst])
              have f2 := HS.out.r.fz 2 (by simp [rqLst])
              have f3 := HS.out.r.fz 3 (by simp [rqLst])
              have f4 := HS.out.r.fz 4 (by simp [rqLst])
              have f5 := HS.out.r.fz 5 (by simp [rqLst])
              have f6 := HS.out.r.fz 6 (by simp [rqLst])
              have f7 := HS.out.r.fz 7 (by simp [rqLst])
              have f8 := HS.out.r.fz 8 (by simp [rqLst])
              obtain ⟨hB9, hb9⟩ := HS.out.r.putRq HS.out.be r
              obtain ⟨U9, hU9⟩ : ∃ u, rqPut wr R 0 r = u := ⟨_, rfl⟩
              rw [hU9] at hB9 hb9
              simp only [rqPut, Nat.zero_add] at hU9
              have HB9 := mkH hB9
              have HE9 : Hid (Below w.heap.size w U9) := hb9
              clear hB9 hb9 HS
              go_wp2
              clear a0 a1 a2 a3 a4 a5 a6 a7 a8 b0 b1 b2 b3 b4 b5 b6 b7 b8 f0 f1 f2 f3 f4 f5 f6 f7 f8
              try rw [hU9]
              obtain ⟨a0, a1, a2, a3, a4, a5, a6, a7, a8⟩ := HB9.out.rq
              simp only [Nat.zero_add] at a0 a1 a2 a3 a4 a5 a6 a7 a8
              clear hU9
              refine bodyPost_ret (v := rqV r) ?hres rfl ?_
              case hres =>
                rw [results_cell1 rfl]
                go_simp
              exact ⟨⟨r, rfl, HE.out⟩, HE9.out⟩
          · have hki : ¬ (k : Int) < (U.length : Int) := by omega
            have HE : Hid (RrP l id r) := ⟨HW.out.1, HW.out.2.1, HW.out.2.2.1, HW.out.2.2.2, HQD.out r k HQ.out (by omega) hk⟩
            clear HQ HW HQD
            obtain ⟨a0, a1, a2, a3, a4, a5, a6, a7, a8⟩ := HS.out.x.rq
            obtain ⟨b0, b1, b2, b3, b4, b5, b6, b7, b8⟩ := HS.out.r.rq
            simp only [Nat.zero_add] at a0 a1 a2 a3 a4 a5 a6 a7 a8 b0 b1 b2 b3 b4 b5 b6 b7 b8
            have f0 := HS.out.r.fz 0 (by simp [rqLst])
            have f1 := HS.out.r.fz 1 (by simp [rqLst])
            have f2 := HS.out.r.fz 2 (by simp [rqLst])
            have f3 := HS.out.r.fz 3 (by simp [rqLst])
            have f4 := HS.out.r.fz 4 (by simp [rqLst])
            have f5 := HS.out.r.fz 5 (by simp [rqLst])
            have f6 := HS.out.r.fz 6 (by simp [rqLst])
            have f7 := HS.out.r.fz 7 (by simp [rqLst])
            have f8 := HS.out.r.fz 8 (by simp [rqLst])
            obtain ⟨hB9, hb9⟩ := HS.out.r.putRq HS.out.be r
            obtain ⟨U9, hU9⟩ : ∃ u, rqPut wr R 0 r = u := ⟨_, rfl⟩
            rw [hU9] at hB9 hb9
            simp only [rqPut, Nat.zero_add] at hU9
            have HB9 := mkH hB9
            have HE9 : Hid (Below w.heap.size w U9) := hb9
            clear hB9 hb9 HS
            go_wp2
            clear a0 a1 a2 a3 a4 a5 a6 a7 a8 b0 b1 b2 b3 b4 b5 b6 b7 b8 f0 f1 f2 f3 f4 f5 f6 f7 f8
            try rw [hU9]
            obtain ⟨a0, a1, a2, a3, a4, a5, a6, a7, a8⟩ := HB9.out.rq
            simp only [Nat.zero_add] at a0 a1 a2 a3 a4 a5 a6 a7 a8
            clear hU9
            refine bodyPost_ret (v := rqV r) ?hres rfl ?_
            case hres =>
              rw [results_cell1 rfl]
              go_simp
            exact ⟨⟨r, rfl, HE.out⟩, HE9.out⟩
end Go.Proofs.YtlnppgjppfkocaaGreatDoor.Xs
