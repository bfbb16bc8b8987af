import Derived.Test.YtlbofjeopbadhaaDoorJo
/-! dedupe: the law of clones: its walk. -/
namespace Go.Proofs.YtlbofjeopbadhaaDoor
open Go.RowKit Go.Maps Plain
set_option linter.unusedVariables false
set_option linter.unusedSimpArgs false

theorem wrap_ok {z : Int} (h : -9223372036854775808 ≤ z ∧ z ≤ 9223372036854775807) : I64 (IntKind.i64.wrap z) := by
  rw [IntWalk.i64_in z h]
  exact h
theorem PrsAt.same {w w' : World} {v : Value} {st : List Pr} (h : PrsAt w v st) (hb : Below w.heap.size w w') : PrsAt w' v st := h.later hb
set_option maxHeartbeats 8000000 in
set_option maxRecDepth 100000 in
theorem apartWalk (a0 : Option Addr) (cap0 : Nat) (ps : List Pr) (a1 : Option Addr) (cap1 : Nat) (xs : List Tr) (a2 : Option Addr) (cap2 : Nat) (ys : List Tr) (W : World) (hps : PrsAt W (.slice a0 ps.length cap0) ps) (hxs : TrsAt W (.slice a1 xs.length cap1) xs) (hys : TrsAt W (.slice a2 ys.length cap2) ys) (hF : Refs W) :
    Calls Tryd.prog 4 #[.slice a0 ps.length cap0, .slice a1 xs.length cap1, .slice a2 ys.length cap2] W fun e w' => e = .returned (.bool true) ∧ Below W.heap.size W w' := by
  have HRF : Hid (Refs W) := hF
  have HPS : Hid (PrsAt W (.slice a0 ps.length cap0) ps) := hps
  have hpl : ps.length ≤ 8796093022000 := by obtain ⟨_, _, _, h, _⟩ := hps; exact h
  have hpo : ∀ x ∈ ps, x.Ok := by obtain ⟨_, _, _, _, h, _⟩ := hps; exact h
  have hxl : xs.length ≤ 8796093022000 := by obtain ⟨_, _, _, h, _⟩ := hxs; exact h
  have hyl : ys.length ≤ 8796093022000 := by obtain ⟨_, _, _, h, _⟩ := hys; exact h
  have HX : Hid (∀ u m, Below W.heap.size W u → m < xs.length → ∃ b off, a1 = some ⟨b, off, none⟩ ∧ Tr.CellsAt u b (off + m * 2) (xs.getD m Tr.zero) ∧ (xs.getD m Tr.zero).Ok) := fun u m hu hm => by
    obtain ⟨a, c, e, _, hok, hc⟩ := hxs
    obtain ⟨b, off, e2, hc⟩ := hc (by intro e; rw [e] at hm; simp at hm)
    simp at e
    exact ⟨b, off, by rw [e.1, e2], (hc m hm).block (hu.block _ (hc m hm).lt), hok _ (by simp [hm])⟩
  have HY : Hid (∀ u m, Below W.heap.size W u → m < ys.length → ∃ b off, a2 = some ⟨b, off, none⟩ ∧ Tr.CellsAt u b (off + m * 2) (ys.getD m Tr.zero) ∧ (ys.getD m Tr.zero).Ok) := fun u m hu hm => by
    obtain ⟨a, c, e, _, hok, hc⟩ := hys
    obtain ⟨b, off, e2, hc⟩ := hc (by intro e; rw [e] at hm; simp at hm)
    simp at e
    exact ⟨b, off, by rw [e.1, e2], (hc m hm).block (hu.block _ (hc m hm).lt), hok _ (by simp [hm])⟩
  have HPO : Hid (∀ x ∈ ps, x.Ok) := hpo
  have HSRC : Hid (∀ u, Below W.heap.size W u → Src Tryd.prog 3 30 (.slice a0 ps.length cap0) ps.length (qcells ps) u) := fun u hu => src_qs (hps.later hu)
  clear hps hxs hys hF hpo
  by_cases hT : TabL ps
  · have HT : Hid (TabL ps) := hT
    go_enter Tryd.func4, Tryd.ntmps4
    go_wp2_with (at_builtin; refine wpList_append_q _ rfl _ _ rfl _ _ [] ps (some W.heap.size) rfl rfl ?hOwn ?hSrc ?hLen ?hR ?_)
    case hOwn => exact OwnPr.made W
    case hSrc => exact HSRC.out _ ((Below.refl _ _).alloc (Nat.le_refl _) _)
    case hLen => simp; omega
    case hR => exact .inl (by simp)
    intro v1 w1 g1 ho1 hg1 hr1
    have hb1 : Below W.heap.size W w1 := ((Below.refl _ W).alloc (Nat.le_refl _) _).trans (grow_below hg1 (by simp) (fun g e => by cases e; exact Nat.le_refl _))
    have HB1 : Hid (Below W.heap.size W w1) := hb1
    have HN1 : Hid (Calls Tryd.prog 12 #[v1] w1 fun e w' => ∃ t m, e = .returned (.tuple #[.pointer (some ⟨t, 0, none⟩), .int .i64 0]) ∧ NewAt w1 w' t m ps) := newOf v1 ps w1 (ho1.recs (by simpa using hpl) HPO.out) hT
    obtain ⟨b1, c1, rfl, -, -⟩ := ho1.shape
    clear ho1 hg1 hr1 hb1
    go_wp2_with fail
    refine HN1.out.mono ?_
    rintro e w2 ⟨t, m1, rfl, hn1⟩
    have HA : Hid (NewAt w1 w2 t m1 ps) := hn1
    have HB2 : Hid (Below W.heap.size W w2) := below_step HB1.out hn1.below
    clear hn1 HN1
    go_wp2_with (at_builtin; refine wpList_append_q _ rfl _ _ rfl _ _ [] ps (some w2.heap.size) rfl rfl ?hOwn ?hSrc ?hLen ?hR ?_)
    case hOwn => exact OwnPr.made w2
    case hSrc => exact HSRC.out _ (below_step HB2.out ((Below.refl _ _).alloc (Nat.le_refl _) _))
    case hLen => simp; omega
    case hR => exact .inl (by simp)
    intro v3 w3 g3 ho3 hg3 hr3
    have hb3 : Below w2.heap.size w2 w3 := ((Below.refl _ w2).alloc (Nat.le_refl _) _).trans (grow_below hg3 (by simp) (fun g e => by cases e; exact Nat.le_refl _))
    have HB3 : Hid (Below w2.heap.size w2 w3) := hb3
    have HN3 : Hid (Calls Tryd.prog 12 #[v3] w3 fun e w' => ∃ t m, e = .returned (.tuple #[.pointer (some ⟨t, 0, none⟩), .int .i64 0]) ∧ NewAt w3 w' t m ps) := newOf v3 ps w3 (ho3.recs (by simpa using hpl) HPO.out) hT
    obtain ⟨b3, c3, rfl, -, -⟩ := ho3.shape
    clear ho3 hg3 hr3 hb3
    go_wp2_with fail
    refine HN3.out.mono ?_
    rintro e w4 ⟨r, m2, rfl, hn4⟩
    have HR : Hid (NewAt w3 w4 r m2 ps) := hn4
    have HB4 : Hid (Below W.heap.size W w4) := below_step (below_step HB2.out HB3.out) hn4.below
    have HT4 : Hid (TabAt w4 t m1 ps) := (HA.out.tab.later HB3.out).later hn4.below
    clear hn4 HN3
    go_wp2_with fail
    refine (listOf t m1 ps w4 HT4.out).mono ?_
    rintro e w5 ⟨v5, r5, rfl, hl5⟩
    have HL5 : Hid (ListAt w4 w5 v5 ps r5) := hl5
    have HB5 : Hid (Below W.heap.size W w5) := below_step HB4.out hl5.below
    clear hl5
    go_wp2_with fail
    refine (sameB v5 (.slice a0 ps.length cap0) ps w5 (HL5.out.row.reads HT.out) (HPS.out.later HB5.out)).mono ?_
    rintro e w6 ⟨rfl, hb6⟩
    have HB46 : Hid (Below w4.heap.size w4 w6) := below_step HL5.out.below hb6
    clear hb6
    go_wp2_with fail
    refine (cloneOf t m1 ps w6 (HT4.out.later HB46.out)).mono ?_
    rintro e w7 ⟨c, m3, rfl, hn7⟩
    have HC7 : Hid (NewAt w6 w7 c m3 ps) := hn7
    have HB7 : Hid (Below W.heap.size W w7) := below_step (below_step HB4.out HB46.out) hn7.below
    clear hn7
    go_wp2_with fail
    refine (listOf c m3 ps w7 HC7.out.tab).mono ?_
    rintro e w8 ⟨v8, r8, rfl, hl8⟩
    have HL8 : Hid (ListAt w7 w8 v8 ps r8) := hl8
    have HB8 : Hid (Below W.heap.size W w8) := below_step HB7.out hl8.below
    clear hl8
    go_wp2_with fail
    refine (sameB v8 (.slice a0 ps.length cap0) ps w8 (HL8.out.row.reads HT.out) (HPS.out.later HB8.out)).mono ?_
    rintro e w9 ⟨rfl, hb9⟩
    have HTRI : Hid (Tri W w9 t r c m1 m2 m3 ps ps ps) := by
      have hb49 : Below w4.heap.size w4 w9 := below_step (below_step (below_step HB46.out HC7.out.below) HL8.out.below) hb9
      have hb79 : Below w7.heap.size w7 w9 := below_step HL8.out.below hb9
      have s1 := HB1.out.size
      have s2 := HB2.out.size
      have s3 := HB3.out.size
      have s4 := HB4.out.size
      have s46 := HB46.out.size
      have t1 := HA.out.tb
      have t1l := HA.out.tab.lt
      have t2 := HR.out.tb
      have t2l := HR.out.tab.lt
      have t3 := HC7.out.tb
      refine ⟨HT4.out.later hb49, HR.out.tab.later hb49, HC7.out.tab.later hb79, by omega, by omega, by omega, ?_, ?_, ?_, by omega, by omega, by omega, ?_, ?_, ?_, below_step HB8.out hb9⟩
      · intro b e e2; have h1 := HA.out.tab.mlt b e; have h2 := HR.out.mb b e2; omega
      · intro b e e2; have h1 := HA.out.tab.mlt b e; have h2 := HC7.out.mb b e2; omega
      · intro b e e2; have h1 := HR.out.tab.mlt b e; have h2 := HC7.out.mb b e2; omega
      · intro b e; have h1 := HA.out.mb b e; omega
      · intro b e; have h1 := HR.out.mb b e; omega
      · intro b e; have h1 := HC7.out.mb b e; omega
    clear hb9 HL8 HB8 HC7 HB7 HB46 HL5 HB5 HT4 HB4 HR HB3 HB2 HA HB1 HT hT
    go_wp2
    go_loopw [12] (fun i wr => ∃ (k : Nat) (m1 m2 m3 : Option Nat) (L M : List Pr), k ≤ 8796093022000 ∧ i = .int .i64 k ∧ Hid (Tri W wr t r c m1 m2 m3 L L M))
      (fun i _ => 8796093022000 - (intOf i).toNat)
    case atStart => exact ⟨0, m1, m2, m3, ps, ps, by omega, rfl, HTRI.out⟩
    case round =>
      clear HTRI m1 m2 m3
      obtain ⟨k, m1, m2, m3, L, M, hk, rfl, HTRI⟩ := hrel
      by_cases hA : k < xs.length
      · obtain ⟨bx, ox, rfl, hcx, hox⟩ := HX.out wr k HTRI.out.below hA
        have HCx : Hid (∀ u, Below W.heap.size W u → u.cell? ⟨bx, ox + k * 2, none⟩ = some (.int .i64 (xs.getD k Tr.zero).pid) ∧ u.cell? ⟨bx, ox + k * 2 + 1, none⟩ = some (.int .i64 (xs.getD k Tr.zero).seq)) := fun u hu => by
          obtain ⟨b', o', e, hc, _⟩ := HX.out u k hu hA
          simp at e
          obtain ⟨rfl, rfl⟩ := e
          exact ⟨hc.c0, hc.c1⟩
        generalize xs.getD k Tr.zero = xx at hcx hox HCx
        obtain ⟨xp, xq⟩ := xx
        obtain ⟨c0, c1⟩ := hcx
        simp only at c0 c1 HCx
        have hxi : (k : Int) < (xs.length : Int) := by omega
        have hoxp : I64 xp := hox.pid
        have hoxq : I64 xq := hox.seq
        have hok : I64 (k : Int) := by unfold I64; omega
        have HIX : Hid (I64 xp ∧ I64 xq ∧ I64 (k : Int)) := ⟨hoxp, hoxq, hok⟩
        clear hox hoxp hoxq hok
        have HN1 : Hid (Calls Tryd.prog 9 #[.pointer (some ⟨t, 0, none⟩), .int .i64 xp, .int .i64 xq, .int .i64 (k : Int)] wr.drew fun e w' => e = .returned (.int .i64 (noteE L xp xq k)) ∧ ∃ m1', Tri W w' t r c m1' m2 m3 (noteL L xp xq k) L M) := (HTRI.out.later (Below.refl _ wr).drew).note HRF.out xp xq k HIX.out.1 HIX.out.2.1 HIX.out.2.2
        have HN2 : Hid (∀ (u : World) (n1 : Option Nat), Tri W u t r c n1 m2 m3 (noteL L xp xq k) L M → Calls Tryd.prog 9 #[.pointer (some ⟨r, 0, none⟩), .int .i64 xp, .int .i64 xq, .int .i64 (k : Int)] u.drew fun e w' => e = .returned (.int .i64 (noteE L xp xq k)) ∧ ∃ m2', Tri W w' t r c n1 m2' m3 (noteL L xp xq k) (noteL L xp xq k) M) := fun u n1 hu => by
          refine ((hu.swap12.later (Below.refl _ u).drew).note HRF.out xp xq k HIX.out.1 HIX.out.2.1 HIX.out.2.2).mono ?_
          rintro e w' ⟨rfl, m', h⟩
          exact ⟨rfl, m', h.swap12⟩
        generalize noteE L xp xq k = E at HN1 HN2
        generalize noteL L xp xq k = L' at HN1 HN2
        go_wp2
        go_region_held3 (fun w' => w'.cell? ⟨bx, ox + k * 2, none⟩ = some (.int .i64 xp) ∧ w'.cell? ⟨bx, ox + k * 2 + 1, none⟩ = some (.int .i64 xq)) (go_keep) (first
          | (go_at_call 9
             refine HN1.out.mono ?_
             rintro e u1 ⟨rfl, n1, hn⟩
             have HU1 : Hid (Tri W u1 t r c n1 m2 m3 L' L M) := hn
             rcases HCx.out u1 hn.below with ⟨d0, d1⟩
             clear hn))
        clear c0 c1 HN1
        have HN2' := HN2.out u1 n1 HU1.out
        have HN3 : Hid (Calls Tryd.prog 9 #[.pointer (some ⟨r, 0, none⟩), .int .i64 xp, .int .i64 xq, .int .i64 (k : Int)] u1.drew fun e w' => e = .returned (.int .i64 E) ∧ ∃ m2', Tri W w' t r c n1 m2' m3 L' L' M) := HN2'
        clear HN2 HN2'
        go_wp2
        go_region_held3 (fun w' => w'.cell? ⟨bx, ox + k * 2, none⟩ = some (.int .i64 xp) ∧ w'.cell? ⟨bx, ox + k * 2 + 1, none⟩ = some (.int .i64 xq)) (go_keep) (first
          | (go_at_call 9
             refine HN3.out.mono ?_
             rintro e u2 ⟨rfl, n2, hn⟩
             have HU2 : Hid (Tri W u2 t r c n1 n2 m3 L' L' M) := hn
             rcases HCx.out u2 hn.below with ⟨j0, j1⟩
             clear hn))
        clear HN3 HU1 d0 d1
        by_cases hB : k < ys.length
        · clear j0 j1
          obtain ⟨by', oy, rfl, hcy, hoy⟩ := HY.out u2 k HU2.out.below hB
          have HCy : Hid (∀ u, Below W.heap.size W u → u.cell? ⟨by', oy + k * 2, none⟩ = some (.int .i64 (ys.getD k Tr.zero).pid) ∧ u.cell? ⟨by', oy + k * 2 + 1, none⟩ = some (.int .i64 (ys.getD k Tr.zero).seq)) := fun u hu => by
            obtain ⟨b', o', e, hc, _⟩ := HY.out u k hu hB
            simp at e
            obtain ⟨rfl, rfl⟩ := e
            exact ⟨hc.c0, hc.c1⟩
          generalize ys.getD k Tr.zero = yy at hcy hoy HCy
          obtain ⟨yp, yq⟩ := yy
          obtain ⟨k0, k1⟩ := hcy
          simp only at k0 k1 HCy
          have hyi : (k : Int) < (ys.length : Int) := by omega
          have HN4 : Hid (Calls Tryd.prog 9 #[.pointer (some ⟨c, 0, none⟩), .int .i64 yp, .int .i64 yq, .int .i64 (IntKind.i64.wrap (1000 + (k : Int)))] u2.drew fun e w' => (∃ v, e = .returned (.int .i64 v)) ∧ ∃ m3' M', Tri W w' t r c n1 n2 m3' L' L' M') := by
            refine ((HU2.out.swap13.later (Below.refl _ u2).drew).note HRF.out yp yq (IntKind.i64.wrap (1000 + (k : Int))) hoy.pid hoy.seq (wrap_ok (by omega))).mono ?_
            rintro e w' ⟨rfl, m', h⟩
            exact ⟨⟨_, rfl⟩, m', _, h.swap13⟩
          clear hoy
          go_wp2
          go_region_held3 (fun w' => w'.cell? ⟨by', oy + k * 2, none⟩ = some (.int .i64 yp) ∧ w'.cell? ⟨by', oy + k * 2 + 1, none⟩ = some (.int .i64 yq)) (go_keep) (first
            | (go_at_call 9
               refine HN4.out.mono ?_
               rintro e u3 ⟨⟨ev, rfl⟩, n3, M', hn⟩
               have HU3 : Hid (Tri W u3 t r c n1 n2 n3 L' L' M') := hn
               rcases HCy.out u3 hn.below with ⟨i0, i1⟩
               clear hn))
          clear HN4 k0 k1 i0 i1
          go_wp2_with fail
          refine (listOf t _ L' u3 HU3.out.ta).mono ?_
          rintro e u5 ⟨v5, r5, rfl, hl5⟩
          have HL5 : Hid (ListAt u3 u5 v5 L' r5) := hl5
          have HT5 : Hid (Tri W u5 t r c n1 n2 n3 L' L' M') := HU3.out.later hl5.below
          clear hl5
          go_wp2_with fail
          refine (listOf r _ L' u5 HT5.out.tb).mono ?_
          rintro e u6 ⟨v6, r6, rfl, hl6⟩
          have HT6 : Hid (Tri W u6 t r c n1 n2 n3 L' L' M') := HT5.out.later hl6.below
          have HP : Hid (PrsAt u6 v5 L' ∧ PrsAt u6 v6 L') := ⟨(HL5.out.row.reads HT5.out.ta.tab).later hl6.below, hl6.row.reads HT5.out.ta.tab⟩
          clear hl6
          go_wp2_with fail
          refine (sameB v5 v6 L' u6 HP.out.1 HP.out.2).mono ?_
          rintro e u7 ⟨rfl, hb7⟩
          have HT7 : Hid (Tri W u7 t r c n1 n2 n3 L' L' M') := HT6.out.later hb7
          clear hb7
          go_wp2
          go_roundw
          case rel => exact ⟨k + 1, _, _, _, _, _, by omega, by go_num, HT7.out⟩
          case measure => simp [intOf]; omega
        · have hBi : ¬ (k : Int) < (ys.length : Int) := by omega
          clear HY j0 j1
          go_wp2_with fail
          refine (listOf t _ L' u2 HU2.out.ta).mono ?_
          rintro e u5 ⟨v5, r5, rfl, hl5⟩
          have HL5 : Hid (ListAt u2 u5 v5 L' r5) := hl5
          have HT5 : Hid (Tri W u5 t r c n1 n2 m3 L' L' M) := HU2.out.later hl5.below
          clear hl5
          go_wp2_with fail
          refine (listOf r _ L' u5 HT5.out.tb).mono ?_
          rintro e u6 ⟨v6, r6, rfl, hl6⟩
          have HT6 : Hid (Tri W u6 t r c n1 n2 m3 L' L' M) := HT5.out.later hl6.below
          have HP : Hid (PrsAt u6 v5 L' ∧ PrsAt u6 v6 L') := ⟨(HL5.out.row.reads HT5.out.ta.tab).later hl6.below, hl6.row.reads HT5.out.ta.tab⟩
          clear hl6
          go_wp2_with fail
          refine (sameB v5 v6 L' u6 HP.out.1 HP.out.2).mono ?_
          rintro e u7 ⟨rfl, hb7⟩
          have HT7 : Hid (Tri W u7 t r c n1 n2 m3 L' L' M) := HT6.out.later hb7
          clear hb7
          go_wp2
          go_roundw
          case rel => exact ⟨k + 1, _, _, _, _, _, by omega, by go_num, HT7.out⟩
          case measure => simp [intOf]; omega
      · have hAi : ¬ (k : Int) < (xs.length : Int) := by omega
        by_cases hB : k < ys.length
        · obtain ⟨by', oy, rfl, hcy, hoy⟩ := HY.out wr k HTRI.out.below hB
          have HCy : Hid (∀ u, Below W.heap.size W u → u.cell? ⟨by', oy + k * 2, none⟩ = some (.int .i64 (ys.getD k Tr.zero).pid) ∧ u.cell? ⟨by', oy + k * 2 + 1, none⟩ = some (.int .i64 (ys.getD k Tr.zero).seq)) := fun u hu => by
            obtain ⟨b', o', e, hc, _⟩ := HY.out u k hu hB
            simp at e
            obtain ⟨rfl, rfl⟩ := e
            exact ⟨hc.c0, hc.c1⟩
          generalize ys.getD k Tr.zero = yy at hcy hoy HCy
          obtain ⟨yp, yq⟩ := yy
          obtain ⟨k0, k1⟩ := hcy
          simp only at k0 k1 HCy
          have hyi : (k : Int) < (ys.length : Int) := by omega
          have HN4 : Hid (Calls Tryd.prog 9 #[.pointer (some ⟨c, 0, none⟩), .int .i64 yp, .int .i64 yq, .int .i64 (IntKind.i64.wrap (1000 + (k : Int)))] wr.drew fun e w' => (∃ v, e = .returned (.int .i64 v)) ∧ ∃ m3' M', Tri W w' t r c m1 m2 m3' L L M') := by
            refine ((HTRI.out.swap13.later (Below.refl _ wr).drew).note HRF.out yp yq (IntKind.i64.wrap (1000 + (k : Int))) hoy.pid hoy.seq (wrap_ok (by omega))).mono ?_
            rintro e w' ⟨rfl, m', h⟩
            exact ⟨⟨_, rfl⟩, m', _, h.swap13⟩
          clear hoy
          go_wp2
          go_region_held3 (fun w' => w'.cell? ⟨by', oy + k * 2, none⟩ = some (.int .i64 yp) ∧ w'.cell? ⟨by', oy + k * 2 + 1, none⟩ = some (.int .i64 yq)) (go_keep) (first
            | (go_at_call 9
               refine HN4.out.mono ?_
               rintro e u3 ⟨⟨ev, rfl⟩, n3, M', hn⟩
               have HU3 : Hid (Tri W u3 t r c m1 m2 n3 L L M') := hn
               rcases HCy.out u3 hn.below with ⟨i0, i1⟩
               clear hn))
          clear HN4 k0 k1 i0 i1
          go_wp2_with fail
          refine (listOf t _ L u3 HU3.out.ta).mono ?_
          rintro e u5 ⟨v5, r5, rfl, hl5⟩
          have HL5 : Hid (ListAt u3 u5 v5 L r5) := hl5
          have HT5 : Hid (Tri W u5 t r c m1 m2 n3 L L M') := HU3.out.later hl5.below
          clear hl5
          go_wp2_with fail
          refine (listOf r _ L u5 HT5.out.tb).mono ?_
          rintro e u6 ⟨v6, r6, rfl, hl6⟩
          have HT6 : Hid (Tri W u6 t r c m1 m2 n3 L L M') := HT5.out.later hl6.below
          have HP : Hid (PrsAt u6 v5 L ∧ PrsAt u6 v6 L) := ⟨(HL5.out.row.reads HT5.out.ta.tab).later hl6.below, hl6.row.reads HT5.out.ta.tab⟩
          clear hl6
          go_wp2_with fail
          refine (sameB v5 v6 L u6 HP.out.1 HP.out.2).mono ?_
          rintro e u7 ⟨rfl, hb7⟩
          have HT7 : Hid (Tri W u7 t r c m1 m2 n3 L L M') := HT6.out.later hb7
          clear hb7
          go_wp2
          go_roundw
          case rel => exact ⟨k + 1, _, _, _, _, _, by omega, by go_num, HT7.out⟩
          case measure => simp [intOf]; omega
        · have hBi : ¬ (k : Int) < (ys.length : Int) := by omega
          have HBE : Hid (Below W.heap.size W wr) := HTRI.out.below
          clear HX HY
          go_wp2
          go_ret
          exact ⟨rfl, HBE.out⟩
  · have HN : Hid (∀ v w, PrsAt w v ps → Calls Tryd.prog 12 #[v] w fun e w' => e = .returned (.tuple #[.pointer none, .int .i64 92]) ∧ Below w.heap.size w w') := fun v w h => newBad v ps w h hT
    go_enter Tryd.func4, Tryd.ntmps4
    go_wp2_with (at_builtin; refine wpList_append_q _ rfl _ _ rfl _ _ [] ps (some W.heap.size) rfl rfl ?hOwn ?hSrc ?hLen ?hR ?_)
    case hOwn => exact OwnPr.made W
    case hSrc => exact HSRC.out _ ((Below.refl _ _).alloc (Nat.le_refl _) _)
    case hLen => simp; omega
    case hR => exact .inl (by simp)
    intro v1 w1 g1 ho1 hg1 hr1
    have hb1 : Below W.heap.size W w1 := ((Below.refl _ W).alloc (Nat.le_refl _) _).trans (grow_below hg1 (by simp) (fun g e => by cases e; exact Nat.le_refl _))
    have HB1 : Hid (Below W.heap.size W w1) := hb1
    have HN1 : Hid (Calls Tryd.prog 12 #[v1] w1 fun e w' => e = .returned (.tuple #[.pointer none, .int .i64 92]) ∧ Below w1.heap.size w1 w') := HN.out v1 w1 (ho1.recs (by simpa using hpl) HPO.out)
    obtain ⟨b1, c1, rfl, -, -⟩ := ho1.shape
    clear ho1 hg1 hr1 hb1
    go_wp2_with fail
    refine HN1.out.mono ?_
    rintro e w2 ⟨rfl, hb2⟩
    have HB2 : Hid (Below W.heap.size W w2) := below_step HB1.out hb2
    clear hb2 HN1
    go_wp2
    go_ret
    exact ⟨rfl, HB2.out⟩
end Go.Proofs.YtlbofjeopbadhaaDoor
