import Derived.Test.YtlnppgjppfkocaaGreatDoorGp14
import Derived.Test.YtlnppgjppfkocaaGreatDoorGp10
/-! Lines: the document's readRequest. -/
namespace Go.Proofs.YtlnppgjppfkocaaGreatDoor.Xs
open Go.RowKit Plain
set_option linter.unusedVariables false
set_option linter.unusedSimpArgs false

set_option maxHeartbeats 16000000 in
set_option maxRecDepth 100000 in
theorem rreadReqOf (l : List By) (v : Value) (id : Int) (w : World) (hv : NmsAt w v l) (hl : l.length ≤ 100001) (hx : ∀ x ∈ l, x.length ≤ 100000) (hi1 : 0 ≤ id) (hi2 : id ≤ 4294967295) :
    Calls Tryz.prog 55 #[v, rqV ⟨id, 0, [], [], [], 0, 0, 0, 0⟩] w fun e w' => (∃ r, e = .returned (rqV r) ∧ RrP l id r) ∧ Below w.heap.size w w' := by
  obtain ⟨al, cl, rfl, q1, q2, q3, q4⟩ := hv
  have HV : Hid (NmsAt w (.slice al l.length cl) l) := ⟨al, cl, rfl, q1, q2, q3, q4⟩
  obtain ⟨W1, hW1⟩ : ∃ W1, w.alloc (.cells #[.int .u32 id, .int .i64 0, .string ⟨#[]⟩, .string ⟨#[]⟩, .string ⟨#[]⟩, .int .i64 0, .int .i64 0, .int .i64 0, .int .i64 0] 24) = W1 := ⟨_, rfl⟩
  have hb1 : Below w.heap.size w W1 := by rw [← hW1]; exact (Below.refl _ _).alloc (Nat.le_refl _) _
  have hX1 : Bx w W1 w.heap.size (rqLst ⟨id, 0, [], [], [], 0, 0, 0, 0⟩) := by rw [← hW1]; exact Bx.new (Nat.le_refl _) (rqLst ⟨id, 0, [], [], [], 0, 0, 0, 0⟩) 24
  obtain ⟨W2, hW2⟩ : ∃ W2, W1.alloc (.cells #[.int .u32 0, .int .i64 0, .string ⟨#[]⟩, .string ⟨#[]⟩, .string ⟨#[]⟩, .int .i64 0, .int .i64 0, .int .i64 0, .int .i64 0] 24) = W2 := ⟨_, rfl⟩
  have hb2 : Below W1.heap.size W1 W2 := by rw [← hW2]; exact (Below.refl _ _).alloc (Nat.le_refl _) _
  have hR2 : Bx w W2 W1.heap.size (rqLst Rq.zero) := by rw [← hW2]; exact Bx.new hb1.size (rqLst Rq.zero) 24
  have hlt1 := hX1.lt
  have hS0 : RqS w W2 w.heap.size W1.heap.size ⟨id, 0, [], [], [], 0, 0, 0, 0⟩ := ⟨hX1.later hb2, hR2, by omega, below_on hb1 hb2⟩
  have HS : Hid (RqS w W2 w.heap.size W1.heap.size ⟨id, 0, [], [], [], 0, 0, 0, 0⟩) := hS0
  clear hX1 hR2 hb2 hb1 hS0
  obtain ⟨X, hXd⟩ : ∃ X, w.heap.size = X := ⟨_, rfl⟩
  obtain ⟨R, hRd⟩ : ∃ R, W1.heap.size = R := ⟨_, rfl⟩
  rw [hXd, hRd] at HS
  have HXd : Hid (w.heap.size = X) := hXd
  have HRd : Hid (W1.heap.size = R) := hRd
  go_enter Tryz.func55, Tryz.ntmps55
  by_cases hl0 : l = []
  · subst hl0
    have i0 : I64 (0 : Int) := ⟨by omega, by omega⟩
    have HE : Hid (RrP [] id ⟨id, 0, [], [], [], 0, 0, 0, 0⟩) := ⟨⟨hi1, hi2, i0, i0, i0, i0, i0⟩, by simp, by simp, by simp, fun s _ _ _ e => by cases e⟩
    clear hW1 hW2 HS
    go_wp2
    refine bodyPost_ret (v := rqV ⟨id, 0, [], [], [], 0, 0, 0, 0⟩) ?hres rfl ?_
    case hres =>
      rw [results_cell1 rfl]
      go_simp
    exact ⟨⟨_, rfl, HE.out⟩, ((Below.refl _ _).alloc (Nat.le_refl _) _).alloc (by simp) _⟩
  · have hl1 : 0 < l.length := List.length_pos_iff.2 hl0
    have hlb : (((l.length : Nat) : Int) == 0) = false := by rw [beq_eq_false_iff_ne]; omega
    obtain ⟨bl, ol, rfl, hcl⟩ := q4 hl0
    have HCL : Hid (∀ u, Below w.heap.size w u → ∀ j, j < l.length → u.cell? ⟨bl, ol + j, none⟩ = some (.string (ba (l.getD j [])))) := fun u hu j hj => (hu.cell (cell_lt (hcl j hj))).trans (hcl j hj)
    clear q4 hcl
    obtain ⟨x0, hx0⟩ : ∃ x, l.getD 0 [] = x := ⟨_, rfl⟩
    have HX0 : Hid (∀ s : Rq, l = opT s.op :: (fldL s.op).map (fldT s) → x0 = opT s.op) := fun s e => by rw [← hx0, e]; rfl
    have HC0 : Hid (∀ u, Below w.heap.size w u → u.cell? ⟨bl, ol, none⟩ = some (.string (ba x0))) := fun u hu => by have := HCL.out u hu 0 hl1; rw [hx0] at this; exact this
    clear hx0
    go_wp2
    generalize rqV ⟨id, 0, [], [], [], 0, 0, 0, 0⟩ = V1 at *
    clear hW1 hW2 hXd hRd hlt1
    go_loopw [5] (fun i wl => ∃ (k : Nat) (o : Int), 1 ≤ k ∧ k ≤ 16 ∧ i = .int .i64 k ∧ Hid (OpF x0 k o) ∧ Hid (RqS w wl X R ⟨id, o, [], [], [], 0, 0, 0, 0⟩)) (fun i _ => 16 - (intOf i).toNat)
    case atStart => exact ⟨1, 0, Nat.le_refl _, by omega, rfl, OpF.start x0, HS⟩
    case round =>
      clear HS
      obtain ⟨k, o, hk1, hk2, rfl, HF, HS⟩ := hrel
      by_cases hp : k ≤ 15
      · have hki : (k : Int) ≤ 15 := by omega
        have c0 := cell_regrown (HC0.out _ HS.out.be)
        have kO : ∀ d os, Calls Tryz.prog 50 #[.int .i64 (k : Int)] (Go.Sort.grow (redrawn wr d) os) fun e w'' => e = .returned (.string (ba (opT k))) ∧ ∃ p : Regrown, w'' = Go.Sort.grow (redrawn wr p.d) p.os := fun d os => Calls.regrown_of (ropWordOf k (by omega) (by omega) _)
        have HHit : Hid (opT k = x0 → OpF x0 (k + 1) k) := fun e => HF.out.hit hk1 hp e
        have HMis : Hid (opT k ≠ x0 → OpF x0 (k + 1) o) := fun e => HF.out.miss e
        generalize opT (k : Int) = O at *
        go_wp2_with fail
        refine wp_region_quiet_below (by kernel_rfl) (by kernel_rfl) ?_
        repeat (go_big_quiet_step (with_reducible exact kO _ _))
        refine wpQuiet_nil ?_
        intro _ hw'
        obtain ⟨⟨dq, osq⟩, hw''⟩ := hw'
        subst hw''
        obtain ⟨w7, hw7⟩ : ∃ u, Go.Sort.grow (redrawn wr dq) osq = u := ⟨_, rfl⟩
        have HS7 : Hid (RqS w w7 X R ⟨id, o, [], [], [], 0, 0, 0, 0⟩) := by
          unfold Hid
          rw [← hw7]
          exact HS.out.later (below_regrown wr dq osq)
        rw [hw7]
        clear kO c0 hw7 HS
        have z1 := HS7.out.x.rq.c1
        have f1 := HS7.out.x.fz 1 (by simp [rqLst])
        simp only [Nat.zero_add] at z1
        by_cases he : O = x0
        · have heb : (O == x0) = true := by simpa using he
          have HF2 := mkH (HHit.out he)
          have HS8 : Hid (RqS w (w7.setCell ⟨X, 1, none⟩ (.int .i64 k)) X R ⟨id, k, [], [], [], 0, 0, 0, 0⟩) := HS7.out.put (by omega) _ rfl
          clear he HHit HMis
          rw [heb]
          go_wp2
          go_roundw
          case rel => exact ⟨k + 1, k, by omega, by omega, by go_num, HF2, HS8⟩
          case measure => simp [intOf]; omega
        · have heb : (O == x0) = false := by simpa using he
          have HF2 := mkH (HMis.out he)
          clear he HHit HMis
          rw [heb]
          go_wp2
          go_roundw
          case rel => exact ⟨k + 1, o, by omega, by omega, by go_num, HF2, HS7⟩
          case measure => simp [intOf]; omega
      · have hki : ¬ (k : Int) ≤ 15 := by omega
        have HFL : Hid (0 ≤ o ∧ o ≤ 15 ∧ ∀ s : Rq, OkR s → l = opT s.op :: (fldL s.op).map (fldT s) → o = s.op) := ⟨HF.out.lo, HF.out.hi, fun s hs e => by
          have h1 := hs.op1
          have h2 := hs.op2
          have := HF.out.is s.op.toNat (by omega) (by omega) (by rw [Int.toNat_of_nonneg (by omega)]; exact (HX0.out s e).symm)
          omega⟩
        clear HF
        have HFF : Hid (∀ u, Calls Tryz.prog 51 #[.int .i64 o] u fun e w' => e = .returned (.string (ba (fldL o))) ∧ w' = u) := rfieldsOf o
        have hfl := fld_len o
        have HND := mkH (fld_nodup o)
        have HLE := mkH (fld_letters o)
        have HQ0 : Hid (RdQ (fldL o) l 0 ⟨id, o, [], [], [], 0, 0, 0, 0⟩ ⟨id, o, [], [], [], 0, 0, 0, 0⟩) := RdQ.start _ _ _ _
        have HQD : Hid (∀ (r : Rq) (i : Nat), RdQ (fldL o) l i ⟨id, o, [], [], [], 0, 0, 0, 0⟩ r → ¬ (i < (fldL o).length ∧ i + 1 < l.length) → i ≤ (fldL o).length → ∀ s, OkR s → WfR s → s.id = id → l = opT s.op :: (fldL s.op).map (fldT s) → r = s) := fun r i hq hi hil s hs hw hid hl' => RdQ.done (r0 := ⟨id, o, [], [], [], 0, 0, 0, 0⟩) hq hi hil hs hw hid (HFL.out.2.2 s hs hl').symm hl'
        have hob : I64 o := ⟨by have := HFL.out.1; omega, by have := HFL.out.2.1; omega⟩
        have i0 : I64 (0 : Int) := ⟨by omega, by omega⟩
        generalize fldL o = U at *
        have sU : (ba U).size = U.length := rfl
        have z1 := HS.out.x.rq.c1
        simp only [Nat.zero_add] at z1
        go_wp2_with fail
        refine (HFF.out _).mono ?_
        rintro e w2 ⟨rfl, hw2⟩
        obtain rfl : wr = w2 := hw2.symm
        clear z1 HFF hw2
        go_wp2
        go_loopw [7, 8] (fun i _ wl => ∃ (k : Nat) (r : Rq), k ≤ U.length ∧ i = .int .i64 k ∧ Hid (RdQ U l k ⟨id, o, [], [], [], 0, 0, 0, 0⟩ r) ∧ Hid (WfR r ∧ r.topic.length ≤ 100000 ∧ r.key.length ≤ 100000 ∧ r.value.length ≤ 100000) ∧ Hid (RqS w wl X R r)) (fun i _ _ => U.length - (intOf i).toNat)
        case atStart => exact ⟨0, ⟨id, o, [], [], [], 0, 0, 0, 0⟩, Nat.zero_le _, rfl, HQ0, ⟨⟨hi1, hi2, hob, i0, i0, i0, i0⟩, by simp, by simp, by simp⟩, HS⟩
        case round =>
          clear HS HQ0
          obtain ⟨k, r, hk, rfl, HQ, HW, HS⟩ := hrel
          by_cases hp : k < U.length
          · have hki : (k : Int) < (U.length : Int) := by omega
            by_cases hq : k + 1 < l.length
            · have hqi : (k : Int) + 1 < (l.length : Int) := by omega
              have c0 := HCL.out _ HS.out.be (k + 1) hq
              have hxl : (l.getD (k + 1) []).length ≤ 100000 := hx _ (by rw [List.getD_eq_getElem?_getD, List.getElem?_eq_getElem hq]; exact List.getElem_mem hq)
              have HQN : Hid (∀ r', r'.id = r.id → r'.op = r.op → (∀ c, c ≠ U.getD k 0 → FEq r' r c) → FIs r' (U.getD k 0) (l.getD (k + 1) []) → RdQ U l (k + 1) ⟨id, o, [], [], [], 0, 0, 0, 0⟩ r') := fun r' a1 a2 a3 a4 => HQ.out.next HND.out hp a1 a2 a3 a4
              have hlt : U.getD k 0 = 84 ∨ U.getD k 0 = 75 ∨ U.getD k 0 = 86 ∨ U.getD k 0 = 79 ∨ U.getD k 0 = 78 ∨ U.getD k 0 = 80 ∨ U.getD k 0 = 83 := HLE.out _ (by rw [List.getD_eq_getElem?_getD, List.getElem?_eq_getElem hp]; exact List.getElem_mem hp)
              generalize l.getD (k + 1) [] = x at *
              have hkb : k < (ba U).size := hp
              have hbg := ba_get hkb
              obtain ⟨z, hz⟩ : ∃ z : Int, (((ba U)[k]'hkb).toNat : Int) = z := ⟨_, rfl⟩
              have HZ : Hid (z = ((U.getD k 0).toNat : Int)) := by unfold Hid; rw [← hz, hbg]
              clear hbg
              generalize U.getD k 0 = c at *
              have HT := mkH (rreadTextOf x hxl)
              have HN := mkH (rreadNumberOf x (by omega))
              obtain ⟨rid, rop, tp, ky, vl, fo, nu, pi, sq⟩ := r
              rcases hlt with hc | hc | hc | hc | hc | hc | hc
              · have hzc : z = 84 := by rw [HZ.out, hc]; rfl
                subst hc
                go_wp2_with fail
                refine (HT.out _).mono ?_
                rintro e w3 ⟨⟨y, rfl, hyl, hy⟩, hb⟩
                have HS3 := mkH (HS.out.later hb)
                have HR4 : Hid (RdQ U l (k + 1) ⟨id, o, [], [], [], 0, 0, 0, 0⟩ ⟨rid, rop, y, ky, vl, fo, nu, pi, sq⟩) := HQN.out ⟨rid, rop, y, ky, vl, fo, nu, pi, sq⟩ rfl rfl (fun c hc => ⟨fun h => absurd h hc, fun _ => rfl, fun _ => rfl, fun _ => rfl, fun _ => rfl, fun _ => rfl, fun _ => rfl⟩) ⟨fun _ => hy, fun h => absurd h (by decide), fun h => absurd h (by decide), fun h => absurd h (by decide), fun h => absurd h (by decide), fun h => absurd h (by decide), fun h => absurd h (by decide)⟩
                have HW4 : Hid (WfR ⟨rid, rop, y, ky, vl, fo, nu, pi, sq⟩ ∧ y.length ≤ 100000 ∧ ky.length ≤ 100000 ∧ vl.length ≤ 100000) := ⟨⟨HW.out.1.id1, HW.out.1.id2, HW.out.1.op, HW.out.1.offset, HW.out.1.number, HW.out.1.pid, HW.out.1.seq⟩, (by omega), HW.out.2.2.1, HW.out.2.2.2⟩
                clear c0 HS HQN HQ HT HN HW HZ hy
                have zc := HS3.out.x.c 2 (by simp [rqLst])
                have fc := HS3.out.x.fz 2 (by simp [rqLst])
                have HS4 := mkH (HS3.out.put (r' := ⟨rid, rop, y, ky, vl, fo, nu, pi, sq⟩) (i := 2) (by omega) (.string (ba y)) rfl)
                go_wp2
                go_roundw
                case rel => exact ⟨k + 1, ⟨rid, rop, y, ky, vl, fo, nu, pi, sq⟩, by omega, by go_num, HR4, HW4, HS4⟩
                case measure => simp [intOf]; omega
              · have hzc : z = 75 := by rw [HZ.out, hc]; rfl
                subst hc
                go_wp2_with fail
                refine (HT.out _).mono ?_
                rintro e w3 ⟨⟨y, rfl, hyl, hy⟩, hb⟩
                have HS3 := mkH (HS.out.later hb)
                have HR4 : Hid (RdQ U l (k + 1) ⟨id, o, [], [], [], 0, 0, 0, 0⟩ ⟨rid, rop, tp, y, vl, fo, nu, pi, sq⟩) := HQN.out ⟨rid, rop, tp, y, vl, fo, nu, pi, sq⟩ rfl rfl (fun c hc => ⟨fun _ => rfl, fun h => absurd h hc, fun _ => rfl, fun _ => rfl, fun _ => rfl, fun _ => rfl, fun _ => rfl⟩) ⟨fun h => absurd h (by decide), fun _ => hy, fun h => absurd h (by decide), fun h => absurd h (by decide), fun h => absurd h (by decide), fun h => absurd h (by decide), fun h => absurd h (by decide)⟩
                have HW4 : Hid (WfR ⟨rid, rop, tp, y, vl, fo, nu, pi, sq⟩ ∧ tp.length ≤ 100000 ∧ y.length ≤ 100000 ∧ vl.length ≤ 100000) := ⟨⟨HW.out.1.id1, HW.out.1.id2, HW.out.1.op, HW.out.1.offset, HW.out.1.number, HW.out.1.pid, HW.out.1.seq⟩, HW.out.2.1, (by omega), HW.out.2.2.2⟩
                clear c0 HS HQN HQ HT HN HW HZ hy
                have zc := HS3.out.x.c 3 (by simp [rqLst])
                have fc := HS3.out.x.fz 3 (by simp [rqLst])
                have HS4 := mkH (HS3.out.put (r' := ⟨rid, rop, tp, y, vl, fo, nu, pi, sq⟩) (i := 3) (by omega) (.string (ba y)) rfl)
                go_wp2
                go_roundw
                case rel => exact ⟨k + 1, ⟨rid, rop, tp, y, vl, fo, nu, pi, sq⟩, by omega, by go_num, HR4, HW4, HS4⟩
                case measure => simp [intOf]; omega
              · have hzc : z = 86 := by rw [HZ.out, hc]; rfl
                subst hc
                go_wp2_with fail
                refine (HT.out _).mono ?_
                rintro e w3 ⟨⟨y, rfl, hyl, hy⟩, hb⟩
                have HS3 := mkH (HS.out.later hb)
                have HR4 : Hid (RdQ U l (k + 1) ⟨id, o, [], [], [], 0, 0, 0, 0⟩ ⟨rid, rop, tp, ky, y, fo, nu, pi, sq⟩) := HQN.out ⟨rid, rop, tp, ky, y, fo, nu, pi, sq⟩ rfl rfl (fun c hc => ⟨fun _ => rfl, fun _ => rfl, fun h => absurd h hc, fun _ => rfl, fun _ => rfl, fun _ => rfl, fun _ => rfl⟩) ⟨fun h => absurd h (by decide), fun h => absurd h (by decide), fun _ => hy, fun h => absurd h (by decide), fun h => absurd h (by decide), fun h => absurd h (by decide), fun h => absurd h (by decide)⟩
                have HW4 : Hid (WfR ⟨rid, rop, tp, ky, y, fo, nu, pi, sq⟩ ∧ tp.length ≤ 100000 ∧ ky.length ≤ 100000 ∧ y.length ≤ 100000) := ⟨⟨HW.out.1.id1, HW.out.1.id2, HW.out.1.op, HW.out.1.offset, HW.out.1.number, HW.out.1.pid, HW.out.1.seq⟩, HW.out.2.1, HW.out.2.2.1, (by omega)⟩
                clear c0 HS HQN HQ HT HN HW HZ hy
                have zc := HS3.out.x.c 4 (by simp [rqLst])
                have fc := HS3.out.x.fz 4 (by simp [rqLst])
                have HS4 := mkH (HS3.out.put (r' := ⟨rid, rop, tp, ky, y, fo, nu, pi, sq⟩) (i := 4) (by omega) (.string (ba y)) rfl)
                go_wp2
                go_roundw
                case rel => exact ⟨k + 1, ⟨rid, rop, tp, ky, y, fo, nu, pi, sq⟩, by omega, by go_num, HR4, HW4, HS4⟩
                case measure => simp [intOf]; omega
              · have hzc : z = 79 := by rw [HZ.out, hc]; rfl
                subst hc
                go_wp2_with fail
                refine (HN.out _).mono ?_
                rintro e w3 ⟨⟨y, rfl, hyl, hy⟩, rfl⟩
                have HS3 := mkH HS.out
                have HR4 : Hid (RdQ U l (k + 1) ⟨id, o, [], [], [], 0, 0, 0, 0⟩ ⟨rid, rop, tp, ky, vl, y, nu, pi, sq⟩) := HQN.out ⟨rid, rop, tp, ky, vl, y, nu, pi, sq⟩ rfl rfl (fun c hc => ⟨fun _ => rfl, fun _ => rfl, fun _ => rfl, fun h => absurd h hc, fun _ => rfl, fun _ => rfl, fun _ => rfl⟩) ⟨fun h => absurd h (by decide), fun h => absurd h (by decide), fun h => absurd h (by decide), fun _ => hy, fun h => absurd h (by decide), fun h => absurd h (by decide), fun h => absurd h (by decide)⟩
                have HW4 : Hid (WfR ⟨rid, rop, tp, ky, vl, y, nu, pi, sq⟩ ∧ tp.length ≤ 100000 ∧ ky.length ≤ 100000 ∧ vl.length ≤ 100000) := ⟨⟨HW.out.1.id1, HW.out.1.id2, HW.out.1.op, hyl, HW.out.1.number, HW.out.1.pid, HW.out.1.seq⟩, HW.out.2⟩
                clear c0 HS HQN HQ HT HN HW HZ hy
                have zc := HS3.out.x.c 5 (by simp [rqLst])
                have fc := HS3.out.x.fz 5 (by simp [rqLst])
                have HS4 := mkH (HS3.out.put (r' := ⟨rid, rop, tp, ky, vl, y, nu, pi, sq⟩) (i := 5) (by omega) (.int .i64 y) rfl)
                go_wp2
                go_roundw
                case rel => exact ⟨k + 1, ⟨rid, rop, tp, ky, vl, y, nu, pi, sq⟩, by omega, by go_num, HR4, HW4, HS4⟩
                case measure => simp [intOf]; omega
              · have hzc : z = 78 := by rw [HZ.out, hc]; rfl
                subst hc
                go_wp2_with fail
                refine (HN.out _).mono ?_
                rintro e w3 ⟨⟨y, rfl, hyl, hy⟩, rfl⟩
                have HS3 := mkH HS.out
                have HR4 : Hid (RdQ U l (k + 1) ⟨id, o, [], [], [], 0, 0, 0, 0⟩ ⟨rid, rop, tp, ky, vl, fo, y, pi, sq⟩) := HQN.out ⟨rid, rop, tp, ky, vl, fo, y, pi, sq⟩ rfl rfl (fun c hc => ⟨fun _ => rfl, fun _ => rfl, fun _ => rfl, fun _ => rfl, fun h => absurd h hc, fun _ => rfl, fun _ => rfl⟩) ⟨fun h => absurd h (by decide), fun h => absurd h (by decide), fun h => absurd h (by decide), fun h => absurd h (by decide), fun _ => hy, fun h => absurd h (by decide), fun h => absurd h (by decide)⟩
                have HW4 : Hid (WfR ⟨rid, rop, tp, ky, vl, fo, y, pi, sq⟩ ∧ tp.length ≤ 100000 ∧ ky.length ≤ 100000 ∧ vl.length ≤ 100000) := ⟨⟨HW.out.1.id1, HW.out.1.id2, HW.out.1.op, HW.out.1.offset, hyl, HW.out.1.pid, HW.out.1.seq⟩, HW.out.2⟩
                clear c0 HS HQN HQ HT HN HW HZ hy
                have zc := HS3.out.x.c 6 (by simp [rqLst])
                have fc := HS3.out.x.fz 6 (by simp [rqLst])
                have HS4 := mkH (HS3.out.put (r' := ⟨rid, rop, tp, ky, vl, fo, y, pi, sq⟩) (i := 6) (by omega) (.int .i64 y) rfl)
                go_wp2
                go_roundw
                case rel => exact ⟨k + 1, ⟨rid, rop, tp, ky, vl, fo, y, pi, sq⟩, by omega, by go_num, HR4, HW4, HS4⟩
                case measure => simp [intOf]; omega
              · have hzc : z = 80 := by rw [HZ.out, hc]; rfl
                subst hc
                go_wp2_with fail
                refine (HN.out _).mono ?_
                rintro e w3 ⟨⟨y, rfl, hyl, hy⟩, rfl⟩
                have HS3 := mkH HS.out
                have HR4 : Hid (RdQ U l (k + 1) ⟨id, o, [], [], [], 0, 0, 0, 0⟩ ⟨rid, rop, tp, ky, vl, fo, nu, y, sq⟩) := HQN.out ⟨rid, rop, tp, ky, vl, fo, nu, y, sq⟩ rfl rfl (fun c hc => ⟨fun _ => rfl, fun _ => rfl, fun _ => rfl, fun _ => rfl, fun _ => rfl, fun h => absurd h hc, fun _ => rfl⟩) ⟨fun h => absurd h (by decide), fun h => absurd h (by decide), fun h => absurd h (by decide), fun h => absurd h (by decide), fun h => absurd h (by decide), fun _ => hy, fun h => absurd h (by decide)⟩
                have HW4 : Hid (WfR ⟨rid, rop, tp, ky, vl, fo, nu, y, sq⟩ ∧ tp.length ≤ 100000 ∧ ky.length ≤ 100000 ∧ vl.length ≤ 100000) := ⟨⟨HW.out.1.id1, HW.out.1.id2, HW.out.1.op, HW.out.1.offset, HW.out.1.number, hyl, HW.out.1.seq⟩, HW.out.2⟩
                clear c0 HS HQN HQ HT HN HW HZ hy
                have zc := HS3.out.x.c 7 (by simp [rqLst])
                have fc := HS3.out.x.fz 7 (by simp [rqLst])
                have HS4 := mkH (HS3.out.put (r' := ⟨rid, rop, tp, ky, vl, fo, nu, y, sq⟩) (i := 7) (by omega) (.int .i64 y) rfl)
                go_wp2
                go_roundw
                case rel => exact ⟨k + 1, ⟨rid, rop, tp, ky, vl, fo, nu, y, sq⟩, by omega, by go_num, HR4, HW4, HS4⟩
                case measure => simp [intOf]; omega
              · have hzc : z = 83 := by rw [HZ.out, hc]; rfl
                subst hc
                go_wp2_with fail
                refine (HN.out _).mono ?_
                rintro e w3 ⟨⟨y, rfl, hyl, hy⟩, rfl⟩
                have HS3 := mkH HS.out
                have HR4 : Hid (RdQ U l (k + 1) ⟨id, o, [], [], [], 0, 0, 0, 0⟩ ⟨rid, rop, tp, ky, vl, fo, nu, pi, y⟩) := HQN.out ⟨rid, rop, tp, ky, vl, fo, nu, pi, y⟩ rfl rfl (fun c hc => ⟨fun _ => rfl, fun _ => rfl, fun _ => rfl, fun _ => rfl, fun _ => rfl, fun _ => rfl, fun h => absurd h hc⟩) ⟨fun h => absurd h (by decide), fun h => absurd h (by decide), fun h => absurd h (by decide), fun h => absurd h (by decide), fun h => absurd h (by decide), fun h => absurd h (by decide), fun _ => hy⟩
                have HW4 : Hid (WfR ⟨rid, rop, tp, ky, vl, fo, nu, pi, y⟩ ∧ tp.length ≤ 100000 ∧ ky.length ≤ 100000 ∧ vl.length ≤ 100000) := ⟨⟨HW.out.1.id1, HW.out.1.id2, HW.out.1.op, HW.out.1.offset, HW.out.1.number, HW.out.1.pid, hyl⟩, HW.out.2⟩
                clear c0 HS HQN HQ HT HN HW HZ hy
                have zc := HS3.out.x.c 8 (by simp [rqLst])
                have fc := HS3.out.x.fz 8 (by simp [rqLst])
                have HS4 := mkH (HS3.out.put (r' := ⟨rid, rop, tp, ky, vl, fo, nu, pi, y⟩) (i := 8) (by omega) (.int .i64 y) rfl)
                go_wp2
                go_roundw
                case rel => exact ⟨k + 1, ⟨rid, rop, tp, ky, vl, fo, nu, pi, y⟩, by omega, by go_num, HR4, HW4, HS4⟩
                case measure => simp [intOf]; omega
            · have hqi : ¬ (k : Int) + 1 < (l.length : Int) := by omega
              have HE : Hid (RrP l id r) := ⟨HW.out.1, HW.out.2.1, HW.out.2.2.1, HW.out.2.2.2, HQD.out r k HQ.out (by omega) hk⟩
              clear HQ HW HQD
              obtain ⟨a0, a1, a2, a3, a4, a5, a6, a7, a8⟩ := HS.out.x.rq
              obtain ⟨b0, b1, b2, b3, b4, b5, b6, b7, b8⟩ := HS.out.r.rq
              simp only [Nat.zero_add] at a0 a1 a2 a3 a4 a5 a6 a7 a8 b0 b1 b2 b3 b4 b5 b6 b7 b8
              have f0 := HS.out.r.fz 0 (by simp [rqLst])
              have f1 := HS.out.r.fz 1 (by simp [rqLst])
              have f2 := HS.out.r.fz 2 (by simp [rqLst])
              have f3 := HS.out.r.fz 3 (by simp [rqLst])
              have f4 := HS.out.r.fz 4 (by simp [rqLst])
              have f5 := HS.out.r.fz 5 (by simp [rqLst])
              have f6 := HS.out.r.fz 6 (by simp [rqLst])
              have f7 := HS.out.r.fz 7 (by simp [rqLst])
              have f8 := HS.out.r.fz 8 (by simp [rqLst])
              obtain ⟨hB9, hb9⟩ := HS.out.r.putRq HS.out.be r
              obtain ⟨U9, hU9⟩ : ∃ u, rqPut wr R 0 r = u := ⟨_, rfl⟩
              rw [hU9] at hB9 hb9
              simp only [rqPut, Nat.zero_add] at hU9
              have HB9 := mkH hB9
              have HE9 : Hid (Below w.heap.size w U9) := hb9
              clear hB9 hb9 HS
              go_wp2
              clear a0 a1 a2 a3 a4 a5 a6 a7 a8 b0 b1 b2 b3 b4 b5 b6 b7 b8 f0 f1 f2 f3 f4 f5 f6 f7 f8
              try rw [hU9]
              obtain ⟨a0, a1, a2, a3, a4, a5, a6, a7, a8⟩ := HB9.out.rq
              simp only [Nat.zero_add] at a0 a1 a2 a3 a4 a5 a6 a7 a8
              clear hU9
              refine bodyPost_ret (v := rqV r) ?hres rfl ?_
              case hres =>
                rw [results_cell1 rfl]
                go_simp
              exact ⟨⟨r, rfl, HE.out⟩, HE9.out⟩
          · have hki : ¬ (k : Int) < (U.length : Int) := by omega
            have HE : Hid (RrP l id r) := ⟨HW.out.1, HW.out.2.1, HW.out.2.2.1, HW.out.2.2.2, HQD.out r k HQ.out (by omega) hk⟩
            clear HQ HW HQD
            obtain ⟨a0, a1, a2, a3, a4, a5, a6, a7, a8⟩ := HS.out.x.rq
            obtain ⟨b0, b1, b2, b3, b4, b5, b6, b7, b8⟩ := HS.out.r.rq
            simp only [Nat.zero_add] at a0 a1 a2 a3 a4 a5 a6 a7 a8 b0 b1 b2 b3 b4 b5 b6 b7 b8
            have f0 := HS.out.r.fz 0 (by simp [rqLst])
            have f1 := HS.out.r.fz 1 (by simp [rqLst])
            have f2 := HS.out.r.fz 2 (by simp [rqLst])
            have f3 := HS.out.r.fz 3 (by simp [rqLst])
            have f4 := HS.out.r.fz 4 (by simp [rqLst])
            have f5 := HS.out.r.fz 5 (by simp [rqLst])
            have f6 := HS.out.r.fz 6 (by simp [rqLst])
            have f7 := HS.out.r.fz 7 (by simp [rqLst])
            have f8 := HS.out.r.fz 8 (by simp [rqLst])
            obtain ⟨hB9, hb9⟩ := HS.out.r.putRq HS.out.be r
            obtain ⟨U9, hU9⟩ : ∃ u, rqPut wr R 0 r = u := ⟨_, rfl⟩
            rw [hU9] at hB9 hb9
            simp only [rqPut, Nat.zero_add] at hU9
            have HB9 := mkH hB9
            have HE9 : Hid (Below w.heap.size w U9) := hb9
            clear hB9 hb9 HS
            go_wp2
            clear a0 a1 a2 a3 a4 a5 a6 a7 a8 b0 b1 b2 b3 b4 b5 b6 b7 b8 f0 f1 f2 f3 f4 f5 f6 f7 f8
            try rw [hU9]
            obtain ⟨a0, a1, a2, a3, a4, a5, a6, a7, a8⟩ := HB9.out.rq
            simp only [Nat.zero_add] at a0 a1 a2 a3 a4 a5 a6 a7 a8
            clear hU9
            refine bodyPost_ret (v := rqV r) ?hres rfl ?_
            case hres =>
              rw [results_cell1 rfl]
              go_simp
            exact ⟨⟨r, rfl, HE.out⟩, HE9.out⟩
end Go.Proofs.YtlnppgjppfkocaaGreatDoor.Xs

/-! Lines: what the document's read finds, plainly. -/
namespace Go.Proofs.YtlnppgjppfkocaaGreatDoor.Xs
open Go.RowKit Plain
set_option linter.unusedVariables false
set_option linter.unusedSimpArgs false

/-- What stands behind the connection's label. -/
def restA (d : Cm) : List By :=
  if d.verb = 2 then Lib.itoa d.req.id :: opT d.req.op :: (fldL d.req.op).map (fldT d.req)
  else if d.verb = 3 then [rawT d.raw]
  else if d.verb = 4 ∨ d.verb = 6 ∨ d.verb = 7 then [Lib.itoa d.n]
  else if d.verb = 5 ∨ d.verb = 8 then d.picks.map Lib.itoa
  else []
theorem args_rest {d : Cm} (h : OkC d) : argsL d = (if cnB d.verb = true then [Lib.itoa d.conn] else []) ++ restA d := by
  have h1 := h.v1
  have h2 := h.v2
  unfold argsL restA cnB
  have hcases : d.verb = 0 ∨ d.verb = 1 ∨ d.verb = 2 ∨ d.verb = 3 ∨ d.verb = 4 ∨ d.verb = 5 ∨ d.verb = 6 ∨ d.verb = 7 ∨ d.verb = 8 ∨ d.verb = 9 ∨ d.verb = 10 := by omega
  rcases hcases with e | e | e | e | e | e | e | e | e | e | e <;> simp [e]
/-- d is a command whose line this is. -/
def Of (line : By) (d : Cm) : Prop := WfC d ∧ OkC d ∧ lineL d = line
structure VbF (s : By) (k : Nat) (o : Int) : Prop where
  lo : -1 ≤ o
  hi : o ≤ 10
  is : ∀ j : Nat, j < k → verbT j = s → o = j
theorem VbF.start (s : By) : VbF s 0 (-1) := ⟨by omega, by omega, fun j h1 => by omega⟩
theorem VbF.hit {s : By} {k : Nat} {o : Int} (h : VbF s k o) (hk2 : k ≤ 10) (e : verbT k = s) : VbF s (k + 1) k :=
  ⟨by omega, by omega, fun j h2 e2 => by
    have := verb_inj (v := (k : Int)) (u := (j : Int)) (by omega) (by omega) (by omega) (by omega) (e.trans e2.symm); omega⟩
theorem VbF.miss {s : By} {k : Nat} {o : Int} (h : VbF s k o) (e : verbT k ≠ s) : VbF s (k + 1) o :=
  ⟨h.lo, h.hi, fun j h2 e2 => by
    by_cases hj : j = k
    · exact absurd (by rw [← hj]; exact e2) e
    · exact h.is j (by omega) e2⟩
theorem of_parts {line : By} {d : Cm} (h : Of line d) : cutL false [] line = verbT d.verb :: argsL d := by rw [← h.2.2]; exact line_cut d
theorem VbF.done {line x : By} {T : List By} {o : Int} (h : VbF x 11 o) (hP : cutL false [] line = x :: T) : ∀ d, Of line d → o = d.verb ∧ T = argsL d := fun d hd => by
  have e := hP.symm.trans (of_parts hd)
  have h1 := hd.2.1.v1
  have h2 := hd.2.1.v2
  refine ⟨?_, (List.cons.inj e).2⟩
  have := h.is d.verb.toNat (by omega) (by rw [Int.toNat_of_nonneg h1]; exact (List.cons.inj e).1.symm)
  omega
/-- Behind the label: the verb, the label, and the parts that are left. -/
def St2 (line : By) (vb z : Int) (T : List By) : Prop := ∀ d, Of line d → vb = d.verb ∧ z = d.conn ∧ T = restA d
theorem st2_conn {line x : By} {T : List By} {vb z : Int} (h : ∀ d, Of line d → vb = d.verb ∧ x :: T = argsL d) (hc : cnB vb = true) (hz : ∀ n, I64 n → x = Lib.itoa n → z = n) : St2 line vb z T := fun d hd => by
  obtain ⟨e1, e2⟩ := h d hd
  rw [args_rest hd.2.1, ← e1, if_pos hc] at e2
  have e3 := List.cons.inj e2
  exact ⟨e1, hz _ hd.1.conn e3.1, e3.2⟩
theorem st2_none {line : By} {T : List By} {vb : Int} (h : ∀ d, Of line d → vb = d.verb ∧ T = argsL d) (hc : cnB vb ≠ true) : St2 line vb 0 T := fun d hd => by
  obtain ⟨e1, e2⟩ := h d hd
  rw [args_rest hd.2.1, ← e1, if_neg hc] at e2
  refine ⟨e1, ?_, e2⟩
  rcases hd.2.1.conn with e | e
  · exact e.symm
  · exfalso
    apply hc
    rw [e1]
    unfold usesConn at e
    unfold cnB
    simp; omega
theorem st2_empty {line : By} {vb : Int} (h : ∀ d, Of line d → vb = d.verb ∧ ([] : List By) = argsL d) (hc : cnB vb = true) : St2 line vb 0 [] := fun d hd => by
  obtain ⟨e1, e2⟩ := h d hd
  rw [args_rest hd.2.1, ← e1, if_pos hc] at e2
  cases e2
/-- The command that was read is every command whose line this is. -/
def RdC (line : By) (c : Cm) : Prop := ∀ d, Of line d → c = d
theorem cm_ext {c d : Cm} (h1 : c.verb = d.verb) (h2 : c.conn = d.conn) (h3 : c.req = d.req) (h4 : c.raw = d.raw) (h5 : c.n = d.n) (h6 : c.picks = d.picks) : c = d := by
  cases c; cases d; simp_all
theorem rd_empty {line : By} {vb z : Int} (h : St2 line vb z []) : RdC line ⟨vb, z, Rq.zero, [], 0, []⟩ := fun d hd => by
  obtain ⟨e1, e2, e3⟩ := h d hd
  have ok := hd.2.1
  unfold restA at e3
  have n2 : d.verb ≠ 2 := fun e => by rw [if_pos e] at e3; cases e3
  rw [if_neg n2] at e3
  have n3 : d.verb ≠ 3 := fun e => by rw [if_pos e] at e3; cases e3
  rw [if_neg n3] at e3
  have n4 : ¬ (d.verb = 4 ∨ d.verb = 6 ∨ d.verb = 7) := fun e => by rw [if_pos e] at e3; cases e3
  rw [if_neg n4] at e3
  refine cm_ext e1 e2 (ok.req n2).symm (ok.raw.resolve_right n3).symm (ok.n (by omega) (by omega) (by omega)).symm ?_
  rcases ok.picks with e | e
  · exact e.symm
  · unfold usesPicks at e
    rw [if_pos e] at e3
    exact (List.map_eq_nil_iff.1 e3.symm).symm
theorem rd_say {line x : By} {T : List By} {z i : Int} {r : Rq} (h : St2 line 2 z (x :: T)) (hi : ∀ n, 0 ≤ n → n ≤ 4294967295 → x = Lib.itoa n → i = n) (hr : RrP T i r) : RdC line ⟨2, z, r, [], 0, []⟩ := fun d hd => by
  obtain ⟨e1, e2, e3⟩ := h d hd
  have ok := hd.2.1
  have wf := hd.1.req
  unfold restA at e3
  rw [if_pos e1.symm] at e3
  obtain ⟨e4, e5⟩ := List.cons.inj e3
  have hid := hi _ wf.id1 wf.id2 e4
  refine cm_ext e1 e2 (hr.is d.req (ok.say e1.symm) wf hid.symm e5) (ok.raw.resolve_right (by omega)).symm (ok.n (by omega) (by omega) (by omega)).symm (ok.picks.resolve_right (by unfold usesPicks; omega)).symm
theorem rd_raw {line x b : By} {T : List By} {z : Int} (h : St2 line 3 z (x :: T)) (hb : ∀ y, x = rawT y → b = y) : RdC line ⟨3, z, Rq.zero, b, 0, []⟩ := fun d hd => by
  obtain ⟨e1, e2, e3⟩ := h d hd
  have ok := hd.2.1
  unfold restA at e3
  rw [if_neg (by omega), if_pos e1.symm] at e3
  exact cm_ext e1 e2 (ok.req (by omega)).symm (hb _ (List.cons.inj e3).1) (ok.n (by omega) (by omega) (by omega)).symm (ok.picks.resolve_right (by unfold usesPicks; omega)).symm
/-- Numbers that the parts say. -/
structure PkR (T : List By) (k : Nat) (l : List Int) : Prop where
  len : l.length = k
  i64 : ∀ x ∈ l, I64 x
  is : ∀ j, j < k → ∀ n, I64 n → T.getD j [] = Lib.itoa n → l.getD j 0 = n
theorem PkR.start (T : List By) : PkR T 0 [] := ⟨rfl, fun x h => (by cases h), fun j h => absurd h (Nat.not_lt_zero _)⟩
theorem PkR.next {T : List By} {k : Nat} {l : List Int} {z : Int} (h : PkR T k l) (hz : I64 z) (hn : ∀ n, I64 n → T.getD k [] = Lib.itoa n → z = n) : PkR T (k + 1) (l ++ [z]) := by
  refine ⟨by rw [List.length_append, h.len]; rfl, fun x hx => ?_, fun j hj n h1 h2 => ?_⟩
  · rcases List.mem_append.1 hx with e | e
    · exact h.i64 x e
    · rw [List.mem_singleton.1 e]; exact hz
  · by_cases e : j = k
    · subst e
      rw [List.getD_eq_getElem?_getD, List.getElem?_append_right (by rw [h.len]; exact Nat.le_refl _), h.len, Nat.sub_self]
      exact hn n h1 h2
    · rw [List.getD_eq_getElem?_getD, List.getElem?_append_left (by rw [h.len]; omega), ← List.getD_eq_getElem?_getD]
      exact h.is j (by omega) n h1 h2
theorem PkR.all {T : List By} {l ps : List Int} (h : PkR T T.length l) (e : T = ps.map Lib.itoa) (hp : ∀ x ∈ ps, I64 x) : l = ps := by
  have hlen : l.length = ps.length := by rw [h.len, e, List.length_map]
  refine List.ext_getElem hlen fun j h1 h2 => ?_
  have := h.is j (by rw [e, List.length_map]; exact h2) ps[j] (hp _ (List.getElem_mem h2)) (by rw [e, List.getD_eq_getElem?_getD, List.getElem?_map, List.getElem?_eq_getElem h2]; rfl)
  rw [List.getD_eq_getElem?_getD, List.getElem?_eq_getElem h1] at this
  exact this
theorem rd_picks {line : By} {T : List By} {vb z : Int} {l : List Int} (h : St2 line vb z T) (hv : vb = 5 ∨ vb = 8) (hl : PkR T T.length l) : RdC line ⟨vb, z, Rq.zero, [], 0, l⟩ := fun d hd => by
  obtain ⟨e1, e2, e3⟩ := h d hd
  have ok := hd.2.1
  unfold restA at e3
  rw [if_neg (by omega), if_neg (by omega), if_neg (by omega), if_pos (by omega)] at e3
  exact cm_ext e1 e2 (ok.req (by omega)).symm (ok.raw.resolve_right (by omega)).symm (ok.n (by omega) (by omega) (by omega)).symm (hl.all e3 hd.1.picks)
theorem rd_n {line x : By} {T : List By} {vb z n : Int} (h : St2 line vb z (x :: T)) (h2 : vb ≠ 2) (h3 : vb ≠ 3) (h5 : vb ≠ 5) (h8 : vb ≠ 8) (hn : ∀ m, I64 m → x = Lib.itoa m → n = m) : RdC line ⟨vb, z, Rq.zero, [], n, []⟩ := fun d hd => by
  obtain ⟨e1, e2, e3⟩ := h d hd
  have ok := hd.2.1
  unfold restA at e3
  rw [if_neg (by omega), if_neg (by omega)] at e3
  by_cases hq : d.verb = 4 ∨ d.verb = 6 ∨ d.verb = 7
  · rw [if_pos hq] at e3
    exact cm_ext e1 e2 (ok.req (by omega)).symm (ok.raw.resolve_right (by omega)).symm (hn _ hd.1.n (List.cons.inj e3).1) (ok.picks.resolve_right (by unfold usesPicks; omega)).symm
  · rw [if_neg hq, if_neg (by omega)] at e3
    cases e3
end Go.Proofs.YtlnppgjppfkocaaGreatDoor.Xs
