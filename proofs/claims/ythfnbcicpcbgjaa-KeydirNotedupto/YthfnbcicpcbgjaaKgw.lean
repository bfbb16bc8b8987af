import Derived.Test.YthfnbcicpcbgjaaKgd
/-! keydir: the walk of the law of noted entries. -/
namespace Go.Proofs.Ythfnbcicpcbgjaa
open Go.RowKit Plain
set_option linter.unusedVariables false
set_option linter.unusedSimpArgs false

theorem restTail {w : World} {v : Value} {rs : List Kr} {r : Option Nat} (h : OwnKr w v rs.tail r) : OwnKr w v (rs.take 0 ++ rs.drop (0 + 1)) r := by
  have e : rs.take 0 ++ rs.drop (0 + 1) = rs.tail := by simp
  rw [e]; exact h
theorem srcTail {w : World} {b off m c : Nat} {rs : List Kr} (h : ∀ j, j < rs.length → Kr.CellsAt w b (off + j * 7) (rs.getD j Kr.zero)) (hk : 1 ≤ rs.length) (hm : m = rs.length - 1) : Src Try.prog 7 24 (.slice (some ⟨b, off + 7, none⟩) m c) (rs.drop (0 + 1)).length (kcells (rs.drop (0 + 1))) w :=
  CellsAt.srcDrop (k := 1) (m := m) (c := c) h hk hm
theorem gotE_ke' (o : Option Kr) : gotE (o.map Kr.ke) = entR o := by cases o <;> rfl
set_option maxHeartbeats 16000000 in
set_option maxRecDepth 100000 in
theorem notedWalk (a0 : Option Addr) (cap0 : Nat) (ks : List ByteArray) (a1 : Option Addr) (len1 cap1 : Nat) (w : World) (h0 : TxtsAt w (.slice a0 ks.length cap0) ks) (hn0 : ks.length ≤ 10000000) (hn1 : len1 ≤ 10000000) (HT : Hid (∀ u m, Below w.heap.size w u → m < len1 → ∃ b off z, b < w.heap.size ∧ a1 = some ⟨b, off, none⟩ ∧ I64 z ∧ u.cell? ⟨b, off + m, none⟩ = some (.int .i64 z))) :
    Calls Try.prog 3 #[.slice a0 ks.length cap0, .slice a1 len1 cap1] w fun e w' => e = .returned (.bool true) ∧ Below w.heap.size w w' := by
  have HGC : Hid (∀ u m, Below w.heap.size w u → m < ks.length → ∃ b off, b < w.heap.size ∧ a0 = some ⟨b, off, none⟩ ∧ ∀ j, j < ks.length → u.cell? ⟨b, off + j, none⟩ = some (.string (ks.getD j ⟨#[]⟩))) := fun u m hu hm => by
    obtain ⟨a', c', e', _, _, hcells⟩ := h0
    obtain ⟨b, off, e, hc⟩ := hcells (by intro e; rw [e] at hm; simp at hm)
    cases e'
    exact ⟨b, off, cell_lt (hc m hm), e, fun j hj => (hu.cell (p := ⟨b, off + j, none⟩) (cell_lt (hc j hj))).trans (hc j hj)⟩
  have HGO : Hid (∀ m, m < ks.length → (ks.getD m ⟨#[]⟩).size ≤ maxLen) := fun m hm => by
    obtain ⟨_, _, _, _, hok, _⟩ := h0
    rw [List.getD_eq_getElem?_getD, List.getElem?_eq_getElem hm]
    exact hok _ (List.getElem_mem hm)
  clear h0
  go_enter Try.func3, Try.ntmps3
  go_wp2
  go_loopg [5, 6] ks.length (fun gk s5 s6 wx => ∃ (m : Nat) (a : Option Addr) (c : Nat) (r : Option Nat), m + gk = ks.length ∧ s6 = .int .i64 m ∧ s5 = .slice a m c ∧ Hid (OwnKr wx (.slice a m c) (itemsK ks m) r) ∧ Hid (∀ g, r = some g → w.heap.size ≤ g) ∧ Hid (Below w.heap.size w wx))
  case atStart => exact ⟨0, none, 0, none, by omega, rfl, rfl, OwnKr.nil _, fun g (e : none = some g) => (by cases e), Below.refl _ _⟩
  case round =>
    obtain ⟨m, a, c, r, hmg, rfl, rfl, HO, HRN, HB⟩ := hrel
    cases gk with
    | zero =>
      obtain ⟨W, rfl⟩ : ∃ W, W = wr := ⟨_, rfl⟩
      obtain rfl : m = ks.length := by omega
      have hlen := itemsK_len ks ks.length
      have HKR : Hid (∀ u, Below W.heap.size W u → KrsAt u (.slice a ks.length c) (itemsK ks ks.length)) := fun u hu => (HO.out.recs (by omega) (itemsK_ok hn0 HGO.out)).later hu
      have HCE : Hid (∀ u m, Below W.heap.size W u → m < ks.length → ∃ b off, b < W.heap.size ∧ a = some ⟨b, off, none⟩ ∧ Kr.CellsAt u b (off + m * 7) (itemK ks m)) := fun u m hu hm => by
        obtain ⟨a', c', e', _, _, hcells⟩ := HKR.out u hu
        obtain ⟨a2, c2, e2, _, _, hcells2⟩ := HKR.out W (Below.refl _ _)
        obtain ⟨b, off, e, hc⟩ := hcells (by intro e; rw [e] at hlen; simp at hlen; omega)
        obtain ⟨b2, off2, e3, hc2⟩ := hcells2 (by intro e; rw [e] at hlen; simp at hlen; omega)
        have h1 := hc m (by omega)
        have h2 := hc2 m (by omega)
        rw [itemsK_getD ks hm] at h1 h2
        injection e' with e4 _ _
        injection e2 with e5 _ _
        rw [← e4] at e
        rw [← e5, e] at e3
        cases e3
        exact ⟨b, off, h2.lt, e, h1⟩
      have HBW : Hid (Below w.heap.size w W) := HB
      have HCA : Hid (ks.length ≤ c ∧ c ≤ maxLen) := by
        obtain ⟨_, _, e, h1, h2⟩ := HO.out.shape
        rw [hlen] at e h2
        injection e with _ _ e3
        rw [e3]
        exact ⟨h2, h1⟩
      have HAB : Hid (∀ b off, a = some ⟨b, off, none⟩ → b ≠ W.heap.size + 1) := fun b off e => by
        have h1 := HO.out.addr e
        have h2 := HO.out
        rw [h1] at h2
        have h3 := h2.lt
        omega
      clear HB HO HRN HGC
      obtain ⟨w1, hw1⟩ : ∃ w1, W.alloc (.cells #[.pointer none] 63) = w1 := ⟨_, rfl⟩
      obtain ⟨w2, hw2⟩ : ∃ w2, w1.alloc (.cells #[.pointer none] 63) = w2 := ⟨_, rfl⟩
      have hs1 : w1.heap.size = W.heap.size + 1 := by rw [← hw1]; simp
      have hs2 : w2.heap.size = W.heap.size + 2 := by rw [← hw2]; simp [hs1]
      have hb1 : Below W.heap.size W w1 := by rw [← hw1]; exact (Below.refl _ _).alloc (Nat.le_refl _) _
      have hb2 : Below w1.heap.size w1 w2 := by rw [← hw2]; exact (Below.refl _ _).alloc (Nat.le_refl _) _
      have HN0 : Hid (Nd W w2 [] []) := by
        refine ⟨below_step' hb1 hb2, by omega, ?_, ?_⟩
        · have h := DirAt.new (ND W) W (.inl rfl)
          rw [hw1] at h
          exact h.later hb2
        · have h := DirAt.new (ND W) w1 (.inr hs1)
          rw [hw2, hs1] at h
          exact h
      have HN1 : Hid (Calls Try.prog 9 #[] W fun e w' => e = .returned (.pointer (some ⟨W.heap.size, 0, none⟩)) ∧ w' = w1) := by
        have h := newOf W
        rw [hw1] at h
        exact h
      have HN2 : Hid (Calls Try.prog 9 #[] w1 fun e w' => e = .returned (.pointer (some ⟨W.heap.size + 1, 0, none⟩)) ∧ w' = w2) := by
        have h := newOf w1
        rw [hw2, hs1] at h
        exact h
      clear hw1 hw2 hb1 hb2 hs1 hs2
      go_wp2_with fail
      refine HN1.out.mono ?_
      rintro e w1' ⟨rfl, rfl⟩
      go_wp2_with fail
      refine HN2.out.mono ?_
      rintro e w2' ⟨rfl, rfl⟩
      clear HN1 HN2
      go_wp2
      go_loopg [9] ks.length (fun gk s9 wx => ∃ (m : Nat) (la : List Ke), m + gk = ks.length ∧ s9 = .int .i64 m ∧ Hid (NotedBy (itemsK ks m) la ∧ la.length ≤ m) ∧ Hid (Nd W wx la []))
      case atStart => exact ⟨0, [], by omega, rfl, ⟨NotedBy.nil, by simp⟩, HN0.out⟩
      case round =>
        clear HN0
        obtain ⟨m, la, hmg, rfl, HNA, HND⟩ := hrel
        cases gk with
        | zero =>
          obtain rfl : m = ks.length := by omega
          have HNL : Hid (NotedBy (itemsK ks ks.length) la ∧ la.length ≤ ks.length) := HNA
          have HKR2 : Hid (KrsAt wr (.slice a ks.length c) (itemsK ks ks.length)) := HKR.out wr HND.out.bel
          clear HNA
          go_wp2
          go_loopg [12, 13] ks.length (fun gk s12 s13 wx => ∃ (i : Nat) (rs S : List Kr) (lb : List Ke) (a' : Option Addr) (c' : Nat), i + gk = ks.length ∧ rs.length = gk ∧ s13 = .int .i64 i ∧ s12 = .slice a' gk c' ∧ Hid (gk ≤ c' ∧ c' ≤ maxLen) ∧ Hid (KrsAt wx (.slice a' gk c') rs ∧ (∀ b off, a' = some ⟨b, off, none⟩ → b ≠ W.heap.size + 1)) ∧ Hid (NotedBy S lb ∧ lb.length ≤ i ∧ (∀ x, (x ∈ rs ∨ x ∈ S) ↔ x ∈ itemsK ks ks.length)) ∧ Hid (Nd W wx la lb))
          case atStart => exact ⟨0, itemsK ks ks.length, [], [], a, c, by omega, hlen, rfl, rfl, HCA.out, ⟨HKR2.out, HAB.out⟩, ⟨NotedBy.nil, by simp, fun x => by simp⟩, HND.out⟩
          case round =>
            clear HKR2 HND hmg
            obtain ⟨i, rs, S, lb, a', c', hmg, hrl, rfl, rfl, HCP, HRS, HNB, HND⟩ := hrel
            by_cases hgz : gk = 0
            · subst hgz
              have HMM : Hid (∀ x, x ∈ S ↔ x ∈ itemsK ks ks.length) := fun x => by
                have h := HNB.out.2.2 x
                rw [List.eq_nil_of_length_eq_zero hrl] at h
                simpa using h
              have HLB : Hid (lb = la) := NotedBy.unique HNB.out.1 HNL.out.1 HMM.out (fun x hx y hy => itemsK_off x ((HMM.out x).mp hx) y ((HMM.out y).mp hy))
              have HND4 : Hid (Nd W wr la la) := by
                have h := HND.out
                rw [HLB.out] at h
                exact h
              clear HMM HLB HNB HND HRS HCP
              go_wp2
              go_loopg [16] ks.length (fun gk s16 wx => ∃ (m : Nat), m + gk = ks.length ∧ s16 = .int .i64 m ∧ Hid (Nd W wx la la))
              case atStart => exact ⟨0, by omega, rfl, HND4.out⟩
              case round =>
                clear HND4 hmg
                obtain ⟨m, hmg, rfl, HND⟩ := hrel
                cases gk with
                | zero =>
                  have hla := HNL.out.2
                  go_wp2_with fail
                  refine (rangeRow _ wr HND.out.a (by omega)).mono ?_
                  rintro e u1 ⟨r1, rfl, hr1, hb1⟩
                  have HN1 : Hid (Nd W u1 la la) := HND.out.later hb1
                  have HR1 : Hid (∀ u, Below u1.heap.size u1 u → KrRow u r1 ((la.take ((ks.length : Int) + 1).toNat).map Ke.r)) := fun u hu => hr1.later hu
                  clear hr1 hb1
                  go_wp2_with fail
                  refine (rangeRow _ u1 HN1.out.b (by omega)).mono ?_
                  rintro e u2 ⟨r2, rfl, hr2, hb2⟩
                  have HN2 : Hid (Nd W u2 la la) := HN1.out.later hb2
                  have HSM : Hid (Calls Try.prog 15 #[r1, r2] u2 fun e w' => e = .returned (.bool true) ∧ ∃ n, w' = u2.drewN n) := sameRow r1 r2 _ u2 (HR1.out u2 hb2) hr2
                  clear hr2 hb2 HR1
                  go_wp2_with fail
                  refine HSM.out.mono ?_
                  rintro e u3 ⟨rfl, n3, hu3⟩
                  have HN3 : Hid (Nd W u3 la la) := HN2.out.later (by rw [hu3]; exact below_drewN (Below.refl _ _) _)
                  clear hu3 HSM
                  go_wp2_with fail
                  refine (headOf u3).mono ?_
                  rintro e u4 ⟨rfl, hb4⟩
                  have HF : Hid (Below w.heap.size w u4) := below_step' (below_step' HBW.out HN3.out.bel) hb4
                  clear hb4
                  go_wp2
                  go_ret
                  exact ⟨rfl, HF.out⟩
                | succ gk1 =>
                  obtain ⟨b, off, hbl, rfl, hc⟩ := HCE.out wr m HND.out.bel (by omega)
                  have hmi : (m : Int) < (ks.length : Int) := by omega
                  have hgk : (itemK ks m).key.size ≤ maxLen := HGO.out m (by omega)
                  have HCX : Hid (∀ u, Below W.heap.size W u → Kr.CellsAt u b (off + m * 7) (itemK ks m)) := fun u hu => by
                    obtain ⟨b', off', _, e, hc'⟩ := HCE.out u m hu (by omega)
                    cases e
                    exact hc'
                  have HLS : Hid (∀ u, Below W.heap.size W u → Calls Try.prog 13 #[.slice (some ⟨b, off, none⟩) ks.length c, .string (itemK ks m).key] u fun e w' => e = .returned (.tuple #[(entR (lastK (itemK ks m).key (itemsK ks ks.length))).v, .bool (lastK (itemK ks m).key (itemsK ks ks.length)).isSome]) ∧ Below u.heap.size u w') := fun u hu => lastOf _ (itemsK ks ks.length) _ u (HKR.out u hu) hgk
                  have HGA : Hid (∀ u, Nd W u la la → Calls Try.prog 14 #[.pointer (some ⟨W.heap.size, 0, none⟩), .string (itemK ks m).key] u fun e w' => e = .returned (.tuple #[(entR (lastK (itemK ks m).key (itemsK ks ks.length))).v, .bool (lastK (itemK ks m).key (itemsK ks ks.length)).isSome]) ∧ Below u.heap.size u w') := fun u hu => by
                    have h1 := getOf (itemK ks m).key u hu.a hgk
                    rw [HNL.out.1.last, gotE_ke', isSome_ke'] at h1
                    exact h1
                  have HGB : Hid (∀ u, Nd W u la la → Calls Try.prog 14 #[.pointer (some ⟨W.heap.size + 1, 0, none⟩), .string (itemK ks m).key] u fun e w' => e = .returned (.tuple #[(entR (lastK (itemK ks m).key (itemsK ks ks.length))).v, .bool (lastK (itemK ks m).key (itemsK ks ks.length)).isSome]) ∧ Below u.heap.size u w') := fun u hu => by
                    have h1 := getOf (itemK ks m).key u hu.b hgk
                    rw [HNL.out.1.last, gotE_ke', isSome_ke'] at h1
                    exact h1
                  generalize entR (lastK (itemK ks m).key (itemsK ks ks.length)) = en at HLS HGA HGB
                  generalize (lastK (itemK ks m).key (itemsK ks ks.length)).isSome = bo at HLS HGA HGB
                  generalize hxe : itemK ks m = x at hc HCX HLS HGA HGB
                  obtain ⟨g, xa, xb, xc, xd, xt, xm⟩ := x
                  obtain ⟨c0, c1, c2, c3, c4, c5, c6⟩ := hc
                  simp only at c0 c1 c2 c3 c4 c5 c6 HLS HGA HGB
                  clear hxe hgk
                  go_wp2_with fail
                  refine (HLS.out wr HND.out.bel).mono ?_
                  rintro e w2 ⟨rfl, hb2⟩
                  obtain ⟨w3, hw3⟩ : ∃ w3, w2.alloc (.cells #[.int .i64 en.seg, .int .i64 en.pos, .int .i64 en.size, .int .i64 en.off, .int .i64 en.time, .bool en.tomb] 26) = w3 := ⟨_, rfl⟩
                  have hb23 : Below w2.heap.size w2 w3 := by rw [← hw3]; exact (Below.refl _ _).alloc (Nat.le_refl _) _
                  have HX3 : Hid (EnAt w3 w2.heap.size en) := by rw [← hw3]; exact EnAt.new w2 en
                  have HN3 : Hid (Nd W w3 la la) := HND.out.later (below_step' hb2 hb23)
                  clear hb2 hb23 c0 c1 c2 c3 c4 c5 c6 HLS HND
                  obtain ⟨c0, c1, c2, c3, c4, c5, c6⟩ := HCX.out w3 HN3.out.bel
                  simp only at c0 c1 c2 c3 c4 c5 c6
                  go_wp2_with fail
                  refine (HGA.out w3 HN3.out).mono ?_
                  rintro e w4 ⟨rfl, hb4⟩
                  obtain ⟨w5, hw5⟩ : ∃ w5, w4.alloc (.cells #[.int .i64 en.seg, .int .i64 en.pos, .int .i64 en.size, .int .i64 en.off, .int .i64 en.time, .bool en.tomb] 26) = w5 := ⟨_, rfl⟩
                  have hb45 : Below w4.heap.size w4 w5 := by rw [← hw5]; exact (Below.refl _ _).alloc (Nat.le_refl _) _
                  have hb35 : Below w3.heap.size w3 w5 := below_step' hb4 hb45
                  have HX5 : Hid (EnAt w5 w2.heap.size en ∧ EnAt w5 w4.heap.size en) := ⟨HX3.out.block (hb35.block _ HX3.out.lt), by rw [← hw5]; exact EnAt.new w4 en⟩
                  have HN5 : Hid (Nd W w5 la la) := HN3.out.later hb35
                  clear hb4 hb45 hb35 c0 c1 c2 c3 c4 c5 c6 HGA HN3 HX3
                  obtain ⟨c0, c1, c2, c3, c4, c5, c6⟩ := HCX.out w5 HN5.out.bel
                  simp only at c0 c1 c2 c3 c4 c5 c6
                  go_wp2_with fail
                  refine (HGB.out w5 HN5.out).mono ?_
                  rintro e w6 ⟨rfl, hb6⟩
                  obtain ⟨w7, hw7⟩ : ∃ w7, w6.alloc (.cells #[.int .i64 en.seg, .int .i64 en.pos, .int .i64 en.size, .int .i64 en.off, .int .i64 en.time, .bool en.tomb] 26) = w7 := ⟨_, rfl⟩
                  have hb67 : Below w6.heap.size w6 w7 := by rw [← hw7]; exact (Below.refl _ _).alloc (Nat.le_refl _) _
                  have hb57 : Below w5.heap.size w5 w7 := below_step' hb6 hb67
                  obtain ⟨x0, x1, x2, x3, x4, x5⟩ := HX5.out.1.block (hb57.block _ HX5.out.1.lt)
                  obtain ⟨y0, y1, y2, y3, y4, y5⟩ := HX5.out.2.block (hb57.block _ HX5.out.2.lt)
                  obtain ⟨z0, z1, z2, z3, z4, z5⟩ : EnAt w7 w6.heap.size en := by rw [← hw7]; exact EnAt.new w6 en
                  have HN7 : Hid (Nd W w7 la la) := HN5.out.later hb57
                  clear hb6 hb67 hb57 c0 c1 c2 c3 c4 c5 c6 HGB HN5 HX5
                  go_wp2
                  go_roundg gk1
                  case rel => exact ⟨m + 1, by omega, by go_num, HN7.out⟩
                  case measure => exact Nat.lt_succ_self _
            · have hgi : (0 : Int) < (gk : Int) := by omega
              by_cases hit : i < len1
              · obtain ⟨bt, ot, z, hbt, rfl, hz, ct⟩ := HT.out wr i (below_step' HBW.out (HND.out.bel)) hit
                have hii : (i : Int) < (len1 : Int) := by omega
                go_wp2_with fail
                refine (modOf z gk wr (by omega) (by omega) hz).mono ?_
                rintro e w3 ⟨⟨k, hk, rfl⟩, hw3⟩
                have hw4 := hw3.symm
                subst hw4
                clear ct hz
                obtain ⟨b, off, rfl, hcs⟩ : ∃ b off, a' = some ⟨b, off, none⟩ ∧ ∀ j, j < rs.length → Kr.CellsAt wr b (off + j * 7) (rs.getD j Kr.zero) := by
                  obtain ⟨a2, c2, e, _, _, hc⟩ := HRS.out.1
                  injection e with e1 _ _
                  obtain ⟨b, off, e2, hc⟩ := hc (by intro e; rw [e] at hrl; simp at hrl; omega)
                  exact ⟨b, off, e1.trans e2, hc⟩
                have HOX : Hid (∀ x ∈ rs, x.Ok) := by obtain ⟨_, _, _, _, h, _⟩ := HRS.out.1; exact h
                have hbn : b ≠ W.heap.size + 1 := HRS.out.2 b off rfl
                have HXK : Hid ((rs.getD k Kr.zero).key.size ≤ maxLen) := by
                  refine (HOX.out (rs.getD k Kr.zero) ?_).key
                  rw [List.getD_eq_getElem?_getD, List.getElem?_eq_getElem (by omega : k < rs.length)]
                  exact List.getElem_mem (by omega : k < rs.length)
                have HDR : Hid (Nd W wr.drew la lb) := HND.out.later (Below.drew (Below.refl _ _))
                have HNT : Hid (Calls Try.prog 10 #[.pointer (some ⟨W.heap.size + 1, 0, none⟩), .string (rs.getD k Kr.zero).key, (rs.getD k Kr.zero).ke.e.v] wr.drew fun e w' => (∃ b z, e = .returned (.tuple #[.bool b, .int .i64 z])) ∧ Nd W w' la (noteK lb (rs.getD k Kr.zero)) ∧ wr.drew.grownBy w' (some (W.heap.size + 1))) := HDR.out.noteB HNB.out.1 (rs.getD k Kr.zero) HXK.out (by have := HNB.out.2.1; omega)
                have HCS : Hid (∀ u, wr.drew.grownBy u (some (W.heap.size + 1)) → ∀ j, j < rs.length → Kr.CellsAt u b (off + j * 7) (rs.getD j Kr.zero)) := fun u hu j hj => (hcs j hj).block (hu.block b (hcs j hj).lt (fun e => by cases e; exact hbn rfl))
                have hc := hcs k (by omega)
                have HRN : Hid (∀ (w3 w4 w5 : World) (v5 : Value) (r4 r5 : Option Nat), Nd W w3 la (noteK lb (rs.getD k Kr.zero)) → w3.grownBy w4 none → (r4 = none ∨ r4 = some w3.heap.size) → OwnKr w5 v5 (rs.take k ++ rs.drop (k + 1)) r5 → w4.grownBy w5 r4 → (r5 = r4 ∨ r5 = some w4.heap.size) → ∃ a' c', v5 = .slice a' (rs.length - 1) c' ∧ (rs.length - 1 ≤ c' ∧ c' ≤ maxLen) ∧ (KrsAt w5 (.slice a' (rs.length - 1) c') (rs.take k ++ rs.drop (k + 1)) ∧ (∀ b off, a' = some ⟨b, off, none⟩ → b ≠ W.heap.size + 1)) ∧ (NotedBy (rs.getD k Kr.zero :: S) (noteK lb (rs.getD k Kr.zero)) ∧ (noteK lb (rs.getD k Kr.zero)).length ≤ i + 1 ∧ (∀ x, (x ∈ rs.take k ++ rs.drop (k + 1) ∨ x ∈ rs.getD k Kr.zero :: S) ↔ x ∈ itemsK ks ks.length)) ∧ Nd W w5 la (noteK lb (rs.getD k Kr.zero))) := fun w3 w4 w5 v5 r4 r5 q1 q2 q3 q4 q5 q6 => restNext (v4 := v5) (by omega) (by omega) HOX.out HNB.out q1 q2 q3 q4 q5 q6
                clear hcs HOX HXK HDR HRS HNB HND
                generalize hxe : rs.getD k Kr.zero = x at hc HNT HRN
                obtain ⟨g, xa, xb, xc, xd, xt, xm⟩ := x
                obtain ⟨c0, c1, c2, c3, c4, c5, c6⟩ := hc
                simp only at c0 c1 c2 c3 c4 c5 c6
                simp only [Kr.ke] at HNT
                have hcp := HCP.out.1
                go_wp2
                go_region_held3 (fun w' => w'.cell? ⟨b, off + k * 7, none⟩ = some (.string g) ∧ w'.cell? ⟨b, off + k * 7 + 1, none⟩ = some (.int .i64 xa) ∧ w'.cell? ⟨b, off + k * 7 + 2, none⟩ = some (.int .i64 xb) ∧ w'.cell? ⟨b, off + k * 7 + 3, none⟩ = some (.int .i64 xc) ∧ w'.cell? ⟨b, off + k * 7 + 4, none⟩ = some (.int .i64 xd) ∧ w'.cell? ⟨b, off + k * 7 + 5, none⟩ = some (.int .i64 xt) ∧ w'.cell? ⟨b, off + k * 7 + 6, none⟩ = some (.bool xm)) (go_keep) (first
                  | (go_at_call 10
                     refine HNT.out.mono ?_
                     rintro e w3 ⟨⟨nb, nz, rfl⟩, hn3, hg3⟩
                     have HN3 : Hid (Nd W w3 la (noteK lb ⟨g, xa, xb, xc, xd, xt, xm⟩)) := hn3
                     have HC3 : Hid (∀ j, j < rs.length → Kr.CellsAt w3 b (off + j * 7) (rs.getD j Kr.zero)) := HCS.out w3 hg3
                     have hck := HC3.out k (by omega)
                     rw [hxe] at hck
                     rcases hck with ⟨d0, d1, d2, d3, d4, d5, d6⟩
                     simp only at d0 d1 d2 d3 d4 d5 d6
                     clear hn3 hg3))
                clear c0 c1 c2 c3 c4 c5 c6 d0 d1 d2 d3 d4 d5 d6 HNT HCS hxe
                go_wp2_with (at_builtin; refine wpList_append_ka _ rfl _ _ rfl _ _ [] (rs.take k) none rfl rfl ?hOwnA ?hSrcA ?hLenA ?_)
                case hOwnA => exact OwnKr.nil _
                case hSrcA => exact CellsAt.srcTake HC3.out (by omega)
                case hLenA => first | (simp; omega) | simp
                intro v4 w4 r4 ho4 hg4 hr4
                have HC4 : Hid (∀ j, j < rs.length → Kr.CellsAt w4 b (off + j * 7) (rs.getD j Kr.zero)) := fun j hj => (HC3.out j hj).block (hg4.block b (HC3.out j hj).lt (fun e => by cases e))
                have HO4 : Hid (OwnKr w4 v4 (rs.take k) r4) := ho4
                have HG4 : Hid (w3.grownBy w4 none ∧ (r4 = none ∨ r4 = some w3.heap.size)) := ⟨hg4, hr4⟩
                obtain ⟨a4, c4, rfl, -, -⟩ := ho4.shape
                have hlt : (rs.take k).length = k := by simp; omega
                rw [hlt] at HO4 ⊢
                clear ho4 hg4 hr4 HC3
                by_cases hck1 : c' = k + 1
                · go_wp2_with (at_builtin; refine wpList_append_ka _ rfl _ _ rfl _ _ (rs.take k) (rs.drop (k + 1)) r4 rfl rfl ?hOwnB ?hSrcB ?hLenB ?_)
                  case hOwnB => exact HO4.out
                  case hSrcB => first | exact CellsAt.srcDrop HC4.out (by omega) (by omega) | exact CellsAt.srcEnd (by omega) (by omega)
                  case hLenB => simp; omega
                  intro v5 w5 r5 ho5 hg5 hr5
                  obtain ⟨a5, c5, rfl, hca, hks5, hnb5, hnd5⟩ := HRN.out w3 w4 w5 v5 r4 r5 HN3.out HG4.out.1 HG4.out.2 ho5 hg5 hr5
                  rw [hrl] at hca hks5
                  have HF : Hid ((gk - 1 ≤ c5 ∧ c5 ≤ maxLen) ∧ (KrsAt w5 (.slice a5 (gk - 1) c5) (rs.take k ++ rs.drop (k + 1)) ∧ (∀ b off, a5 = some ⟨b, off, none⟩ → b ≠ W.heap.size + 1))) := ⟨hca, hks5⟩
                  have HF2 : Hid (NotedBy (⟨g, xa, xb, xc, xd, xt, xm⟩ :: S) (noteK lb ⟨g, xa, xb, xc, xd, xt, xm⟩) ∧ (noteK lb ⟨g, xa, xb, xc, xd, xt, xm⟩).length ≤ i + 1 ∧ (∀ x, (x ∈ rs.take k ++ rs.drop (k + 1) ∨ x ∈ ⟨g, xa, xb, xc, xd, xt, xm⟩ :: S) ↔ x ∈ itemsK ks ks.length)) := hnb5
                  have HF3 : Hid (Nd W w5 la (noteK lb ⟨g, xa, xb, xc, xd, xt, xm⟩)) := hnd5
                  clear hca hks5 hnb5 hnd5 ho5 hg5 hr5 HO4 HG4 HC4 HN3 HRN
                  rw [hrl]
                  go_wp2
                  go_roundg (gk - 1)
                  case rel => exact ⟨i + 1, rs.take k ++ rs.drop (k + 1), _, _, a5, c5, by omega, by simp; omega, by go_num, rfl, HF.out.1, HF.out.2, HF2.out, HF3.out⟩
                  case measure => omega
                · go_wp2_with (at_builtin; refine wpList_append_ka _ rfl _ _ rfl _ _ (rs.take k) (rs.drop (k + 1)) r4 rfl rfl ?hOwnB ?hSrcB ?hLenB ?_)
                  case hOwnB => exact HO4.out
                  case hSrcB => first | exact CellsAt.srcDrop HC4.out (by omega) (by omega) | exact CellsAt.srcEnd (by omega) (by omega)
                  case hLenB => simp; omega
                  intro v5 w5 r5 ho5 hg5 hr5
                  obtain ⟨a5, c5, rfl, hca, hks5, hnb5, hnd5⟩ := HRN.out w3 w4 w5 v5 r4 r5 HN3.out HG4.out.1 HG4.out.2 ho5 hg5 hr5
                  rw [hrl] at hca hks5
                  have HF : Hid ((gk - 1 ≤ c5 ∧ c5 ≤ maxLen) ∧ (KrsAt w5 (.slice a5 (gk - 1) c5) (rs.take k ++ rs.drop (k + 1)) ∧ (∀ b off, a5 = some ⟨b, off, none⟩ → b ≠ W.heap.size + 1))) := ⟨hca, hks5⟩
                  have HF2 : Hid (NotedBy (⟨g, xa, xb, xc, xd, xt, xm⟩ :: S) (noteK lb ⟨g, xa, xb, xc, xd, xt, xm⟩) ∧ (noteK lb ⟨g, xa, xb, xc, xd, xt, xm⟩).length ≤ i + 1 ∧ (∀ x, (x ∈ rs.take k ++ rs.drop (k + 1) ∨ x ∈ ⟨g, xa, xb, xc, xd, xt, xm⟩ :: S) ↔ x ∈ itemsK ks ks.length)) := hnb5
                  have HF3 : Hid (Nd W w5 la (noteK lb ⟨g, xa, xb, xc, xd, xt, xm⟩)) := hnd5
                  clear hca hks5 hnb5 hnd5 ho5 hg5 hr5 HO4 HG4 HC4 HN3 HRN
                  rw [hrl]
                  go_wp2
                  go_roundg (gk - 1)
                  case rel => exact ⟨i + 1, rs.take k ++ rs.drop (k + 1), _, _, a5, c5, by omega, by simp; omega, by go_num, rfl, HF.out.1, HF.out.2, HF2.out, HF3.out⟩
                  case measure => omega
              · have hii : ¬ (i : Int) < (len1 : Int) := by omega
                obtain ⟨b, off, rfl, hcs⟩ : ∃ b off, a' = some ⟨b, off, none⟩ ∧ ∀ j, j < rs.length → Kr.CellsAt wr b (off + j * 7) (rs.getD j Kr.zero) := by
                  obtain ⟨a2, c2, e, _, _, hc⟩ := HRS.out.1
                  injection e with e1 _ _
                  obtain ⟨b, off, e2, hc⟩ := hc (by intro e; rw [e] at hrl; simp at hrl; omega)
                  exact ⟨b, off, e1.trans e2, hc⟩
                have HOX : Hid (∀ x ∈ rs, x.Ok) := by obtain ⟨_, _, _, _, h, _⟩ := HRS.out.1; exact h
                have hbn : b ≠ W.heap.size + 1 := HRS.out.2 b off rfl
                have HXK : Hid ((rs.getD 0 Kr.zero).key.size ≤ maxLen) := by
                  refine (HOX.out (rs.getD 0 Kr.zero) ?_).key
                  rw [List.getD_eq_getElem?_getD, List.getElem?_eq_getElem (by omega : 0 < rs.length)]
                  exact List.getElem_mem (by omega : 0 < rs.length)
                have HDR : Hid (Nd W wr.drew la lb) := HND.out.later (Below.drew (Below.refl _ _))
                have HNT : Hid (Calls Try.prog 10 #[.pointer (some ⟨W.heap.size + 1, 0, none⟩), .string (rs.getD 0 Kr.zero).key, (rs.getD 0 Kr.zero).ke.e.v] wr.drew fun e w' => (∃ b z, e = .returned (.tuple #[.bool b, .int .i64 z])) ∧ Nd W w' la (noteK lb (rs.getD 0 Kr.zero)) ∧ wr.drew.grownBy w' (some (W.heap.size + 1))) := HDR.out.noteB HNB.out.1 (rs.getD 0 Kr.zero) HXK.out (by have := HNB.out.2.1; omega)
                have HCS : Hid (∀ u, wr.drew.grownBy u (some (W.heap.size + 1)) → ∀ j, j < rs.length → Kr.CellsAt u b (off + j * 7) (rs.getD j Kr.zero)) := fun u hu j hj => (hcs j hj).block (hu.block b (hcs j hj).lt (fun e => by cases e; exact hbn rfl))
                have hc := hcs 0 (by omega)
                have HRN : Hid (∀ (w3 w4 w5 : World) (v5 : Value) (r4 r5 : Option Nat), Nd W w3 la (noteK lb (rs.getD 0 Kr.zero)) → w3.grownBy w4 none → (r4 = none ∨ r4 = some w3.heap.size) → OwnKr w5 v5 (rs.take 0 ++ rs.drop (0 + 1)) r5 → w4.grownBy w5 r4 → (r5 = r4 ∨ r5 = some w4.heap.size) → ∃ a' c', v5 = .slice a' (rs.length - 1) c' ∧ (rs.length - 1 ≤ c' ∧ c' ≤ maxLen) ∧ (KrsAt w5 (.slice a' (rs.length - 1) c') (rs.take 0 ++ rs.drop (0 + 1)) ∧ (∀ b off, a' = some ⟨b, off, none⟩ → b ≠ W.heap.size + 1)) ∧ (NotedBy (rs.getD 0 Kr.zero :: S) (noteK lb (rs.getD 0 Kr.zero)) ∧ (noteK lb (rs.getD 0 Kr.zero)).length ≤ i + 1 ∧ (∀ x, (x ∈ rs.take 0 ++ rs.drop (0 + 1) ∨ x ∈ rs.getD 0 Kr.zero :: S) ↔ x ∈ itemsK ks ks.length)) ∧ Nd W w5 la (noteK lb (rs.getD 0 Kr.zero))) := fun w3 w4 w5 v5 r4 r5 q1 q2 q3 q4 q5 q6 => restNext (v4 := v5) (by omega) (by omega) HOX.out HNB.out q1 q2 q3 q4 q5 q6
                clear hcs HOX HXK HDR HRS HNB HND
                generalize hxe : rs.getD 0 Kr.zero = x at hc HNT HRN
                obtain ⟨g, xa, xb, xc, xd, xt, xm⟩ := x
                obtain ⟨c0, c1, c2, c3, c4, c5, c6⟩ := hc
                simp only [Nat.zero_mul, Nat.add_zero, Nat.zero_add] at c0 c1 c2 c3 c4 c5 c6
                simp only [Kr.ke] at HNT
                have hcp := HCP.out.1
                go_wp2
                go_region_held3 (fun w' => w'.cell? ⟨b, off, none⟩ = some (.string g) ∧ w'.cell? ⟨b, off + 1, none⟩ = some (.int .i64 xa) ∧ w'.cell? ⟨b, off + 2, none⟩ = some (.int .i64 xb) ∧ w'.cell? ⟨b, off + 3, none⟩ = some (.int .i64 xc) ∧ w'.cell? ⟨b, off + 4, none⟩ = some (.int .i64 xd) ∧ w'.cell? ⟨b, off + 5, none⟩ = some (.int .i64 xt) ∧ w'.cell? ⟨b, off + 6, none⟩ = some (.bool xm)) (go_keep) (first
                  | (go_at_call 10
                     refine HNT.out.mono ?_
                     rintro e w3 ⟨⟨nb, nz, rfl⟩, hn3, hg3⟩
                     have HN3 : Hid (Nd W w3 la (noteK lb ⟨g, xa, xb, xc, xd, xt, xm⟩)) := hn3
                     have HC3 : Hid (∀ j, j < rs.length → Kr.CellsAt w3 b (off + j * 7) (rs.getD j Kr.zero)) := HCS.out w3 hg3
                     have hck := HC3.out 0 (by omega)
                     rw [hxe] at hck
                     rcases hck with ⟨d0, d1, d2, d3, d4, d5, d6⟩
                     simp only [Nat.zero_mul, Nat.add_zero, Nat.zero_add] at d0 d1 d2 d3 d4 d5 d6
                     clear hn3 hg3))
                clear c0 c1 c2 c3 c4 c5 c6 d0 d1 d2 d3 d4 d5 d6 HNT HCS hxe
                go_wp2_with (at_builtin; refine wpList_append_ka _ rfl _ _ rfl _ _ [] (rs.take 0) none rfl rfl ?hOwnA ?hSrcA ?hLenA ?_)
                case hOwnA => exact OwnKr.nil _
                case hSrcA => exact CellsAt.srcTake HC3.out (by omega)
                case hLenA => first | (simp; omega) | simp
                intro v4 w4 r4 ho4 hg4 hr4
                have HC4 : Hid (∀ j, j < rs.length → Kr.CellsAt w4 b (off + j * 7) (rs.getD j Kr.zero)) := fun j hj => (HC3.out j hj).block (hg4.block b (HC3.out j hj).lt (fun e => by cases e))
                have HO4 : Hid (OwnKr w4 v4 (rs.take 0) r4) := ho4
                have HG4 : Hid (w3.grownBy w4 none ∧ (r4 = none ∨ r4 = some w3.heap.size)) := ⟨hg4, hr4⟩
                obtain ⟨a4, c4, rfl, -, -⟩ := ho4.shape
                have hlt : ([] : List Kr).length = 0 := rfl
                rw [hlt] at HO4 ⊢
                clear ho4 hg4 hr4 HC3
                by_cases hck1 : c' = 1
                · go_wp2_with (at_builtin; refine wpList_append_ka _ rfl _ _ rfl _ _ (rs.take 0) (rs.drop (0 + 1)) r4 rfl rfl ?hOwnB ?hSrcB ?hLenB ?_)
                  case hOwnB => exact HO4.out
                  case hSrcB => first | exact CellsAt.srcDrop HC4.out (by omega) (by omega) | exact srcTail HC4.out (by omega) (by omega) | exact CellsAt.srcEnd (by omega) (by omega) | (generalize hv : Act.eval _ _ = vv; (conv at hv => (lhs; whnf)); subst hv; exact srcTail HC4.out (by omega) (by omega))
                  case hLenB => simp; omega
                  intro v5 w5 r5 ho5 hg5 hr5
                  obtain ⟨a5, c5, rfl, hca, hks5, hnb5, hnd5⟩ := HRN.out w3 w4 w5 v5 r4 r5 HN3.out HG4.out.1 HG4.out.2 (restTail ho5) hg5 hr5
                  rw [hrl] at hca hks5
                  have HF : Hid ((gk - 1 ≤ c5 ∧ c5 ≤ maxLen) ∧ (KrsAt w5 (.slice a5 (gk - 1) c5) (rs.take 0 ++ rs.drop (0 + 1)) ∧ (∀ b off, a5 = some ⟨b, off, none⟩ → b ≠ W.heap.size + 1))) := ⟨hca, hks5⟩
                  have HF2 : Hid (NotedBy (⟨g, xa, xb, xc, xd, xt, xm⟩ :: S) (noteK lb ⟨g, xa, xb, xc, xd, xt, xm⟩) ∧ (noteK lb ⟨g, xa, xb, xc, xd, xt, xm⟩).length ≤ i + 1 ∧ (∀ x, (x ∈ rs.take 0 ++ rs.drop (0 + 1) ∨ x ∈ ⟨g, xa, xb, xc, xd, xt, xm⟩ :: S) ↔ x ∈ itemsK ks ks.length)) := hnb5
                  have HF3 : Hid (Nd W w5 la (noteK lb ⟨g, xa, xb, xc, xd, xt, xm⟩)) := hnd5
                  clear hca hks5 hnb5 hnd5 ho5 hg5 hr5 HO4 HG4 HC4 HN3 HRN
                  rw [hrl]
                  go_wp2
                  go_roundg (gk - 1)
                  case rel => exact ⟨i + 1, rs.take 0 ++ rs.drop (0 + 1), _, _, a5, c5, by omega, by simp; omega, by go_num, rfl, HF.out.1, HF.out.2, HF2.out, HF3.out⟩
                  case measure => omega
                · go_wp2_with (at_builtin; refine wpList_append_ka _ rfl _ _ rfl _ _ (rs.take 0) (rs.drop (0 + 1)) r4 rfl rfl ?hOwnB ?hSrcB ?hLenB ?_)
                  case hOwnB => exact HO4.out
                  case hSrcB => first | exact CellsAt.srcDrop HC4.out (by omega) (by omega) | exact srcTail HC4.out (by omega) (by omega) | exact CellsAt.srcEnd (by omega) (by omega) | (generalize hv : Act.eval _ _ = vv; (conv at hv => (lhs; whnf)); subst hv; exact srcTail HC4.out (by omega) (by omega))
                  case hLenB => simp; omega
                  intro v5 w5 r5 ho5 hg5 hr5
                  obtain ⟨a5, c5, rfl, hca, hks5, hnb5, hnd5⟩ := HRN.out w3 w4 w5 v5 r4 r5 HN3.out HG4.out.1 HG4.out.2 (restTail ho5) hg5 hr5
                  rw [hrl] at hca hks5
                  have HF : Hid ((gk - 1 ≤ c5 ∧ c5 ≤ maxLen) ∧ (KrsAt w5 (.slice a5 (gk - 1) c5) (rs.take 0 ++ rs.drop (0 + 1)) ∧ (∀ b off, a5 = some ⟨b, off, none⟩ → b ≠ W.heap.size + 1))) := ⟨hca, hks5⟩
                  have HF2 : Hid (NotedBy (⟨g, xa, xb, xc, xd, xt, xm⟩ :: S) (noteK lb ⟨g, xa, xb, xc, xd, xt, xm⟩) ∧ (noteK lb ⟨g, xa, xb, xc, xd, xt, xm⟩).length ≤ i + 1 ∧ (∀ x, (x ∈ rs.take 0 ++ rs.drop (0 + 1) ∨ x ∈ ⟨g, xa, xb, xc, xd, xt, xm⟩ :: S) ↔ x ∈ itemsK ks ks.length)) := hnb5
                  have HF3 : Hid (Nd W w5 la (noteK lb ⟨g, xa, xb, xc, xd, xt, xm⟩)) := hnd5
                  clear hca hks5 hnb5 hnd5 ho5 hg5 hr5 HO4 HG4 HC4 HN3 HRN
                  rw [hrl]
                  go_wp2
                  go_roundg (gk - 1)
                  case rel => exact ⟨i + 1, rs.take 0 ++ rs.drop (0 + 1), _, _, a5, c5, by omega, by simp; omega, by go_num, rfl, HF.out.1, HF.out.2, HF2.out, HF3.out⟩
                  case measure => omega
        | succ gk1 =>
          obtain ⟨b, off, hbl, rfl, hc⟩ := HCE.out wr m HND.out.bel (by omega)
          have hmi : (m : Int) < (ks.length : Int) := by omega
          have hgk : (ks.getD m ⟨#[]⟩).size ≤ maxLen := HGO.out m (by omega)
          have HNX : Hid (NotedBy (itemsK ks (m + 1)) (noteK la (itemK ks m)) ∧ (noteK la (itemK ks m)).length ≤ m + 1) := ⟨HNA.out.1.next, by have h1 := noteK_len la (itemK ks m); have h2 := HNA.out.2; omega⟩
          have HNT : Hid (∀ u, Nd W u la [] → Calls Try.prog 10 #[.pointer (some ⟨W.heap.size, 0, none⟩), .string (itemK ks m).key, (itemK ks m).ke.e.v] u fun e w' => e = .returned (.tuple #[.bool (okKey (itemK ks m).key), .int .i64 (if okKey (itemK ks m).key then 0 else 42)]) ∧ Nd W w' (noteK la (itemK ks m)) []) := fun u hu => by
            have h := hu.noteA HNA.out.1 (itemK ks m) hgk (by have := HNA.out.2; omega)
            rw [note_next HNA.out.1, Bool.and_true] at h
            exact h
          have HCX : Hid (∀ u, Below W.heap.size W u → Kr.CellsAt u b (off + m * 7) (itemK ks m)) := fun u hu => by
            obtain ⟨b', off', _, e, hc'⟩ := HCE.out u m hu (by omega)
            cases e
            exact hc'
          have HGD : Hid (∀ u, Calls Try.prog 11 #[.string (itemK ks m).key] u fun e w' => e = .returned (.bool (okKey (itemK ks m).key)) ∧ w' = u) := fun u => goodOf _ u hgk
          generalize hxe : itemK ks m = x at hc HCX HNX HNT HGD
          obtain ⟨g, xa, xb, xc, xd, xt, xm⟩ := x
          obtain ⟨c0, c1, c2, c3, c4, c5, c6⟩ := hc
          simp only at c0 c1 c2 c3 c4 c5 c6
          simp only [Kr.ke] at HNT HGD
          clear hxe hgk
          have HDR : Hid (Nd W wr.drew la []) := HND.out.later (Below.drew (Below.refl _ _))
          generalize hok : okKey g = og at HNT HGD
          cases og with
          | true =>
            simp only [if_true] at HNT
            go_wp2
            go_region_held3 (fun w' => w'.cell? ⟨b, off + m * 7, none⟩ = some (.string g) ∧ w'.cell? ⟨b, off + m * 7 + 1, none⟩ = some (.int .i64 xa) ∧ w'.cell? ⟨b, off + m * 7 + 2, none⟩ = some (.int .i64 xb) ∧ w'.cell? ⟨b, off + m * 7 + 3, none⟩ = some (.int .i64 xc) ∧ w'.cell? ⟨b, off + m * 7 + 4, none⟩ = some (.int .i64 xd) ∧ w'.cell? ⟨b, off + m * 7 + 5, none⟩ = some (.int .i64 xt) ∧ w'.cell? ⟨b, off + m * 7 + 6, none⟩ = some (.bool xm)) (go_keep) (first
              | (go_at_call 10
                 refine (HNT.out wr.drew HDR.out).mono ?_
                 rintro e w3 ⟨rfl, hn3⟩
                 have HN3 : Hid (Nd W w3 (noteK la ⟨g, xa, xb, xc, xd, xt, xm⟩) []) := hn3
                 rcases HCX.out w3 hn3.bel with ⟨d0, d1, d2, d3, d4, d5, d6⟩
                 simp only at d0 d1 d2 d3 d4 d5 d6
                 clear hn3))
            clear c0 c1 c2 c3 c4 c5 c6 HNT HND HNA HDR
            go_wp2_with fail
            refine (HGD.out _).mono ?_
            rintro e w4 ⟨rfl, rfl⟩
            go_wp2_with fail
            refine (HGD.out _).mono ?_
            rintro e w4 ⟨rfl, rfl⟩
            go_wp2
            go_roundg gk1
            case rel => exact ⟨m + 1, _, by omega, by go_num, HNX.out, HN3.out⟩
            case measure => exact Nat.lt_succ_self _
          | false =>
            simp only [if_neg Bool.false_ne_true] at HNT
            go_wp2
            go_region_held3 (fun w' => w'.cell? ⟨b, off + m * 7, none⟩ = some (.string g) ∧ w'.cell? ⟨b, off + m * 7 + 1, none⟩ = some (.int .i64 xa) ∧ w'.cell? ⟨b, off + m * 7 + 2, none⟩ = some (.int .i64 xb) ∧ w'.cell? ⟨b, off + m * 7 + 3, none⟩ = some (.int .i64 xc) ∧ w'.cell? ⟨b, off + m * 7 + 4, none⟩ = some (.int .i64 xd) ∧ w'.cell? ⟨b, off + m * 7 + 5, none⟩ = some (.int .i64 xt) ∧ w'.cell? ⟨b, off + m * 7 + 6, none⟩ = some (.bool xm)) (go_keep) (first
              | (go_at_call 10
                 refine (HNT.out wr.drew HDR.out).mono ?_
                 rintro e w3 ⟨rfl, hn3⟩
                 have HN3 : Hid (Nd W w3 (noteK la ⟨g, xa, xb, xc, xd, xt, xm⟩) []) := hn3
                 rcases HCX.out w3 hn3.bel with ⟨d0, d1, d2, d3, d4, d5, d6⟩
                 simp only at d0 d1 d2 d3 d4 d5 d6
                 clear hn3))
            clear c0 c1 c2 c3 c4 c5 c6 HNT HND HNA HDR
            go_wp2_with fail
            refine (HGD.out _).mono ?_
            rintro e w4 ⟨rfl, rfl⟩
            go_wp2_with fail
            refine (HGD.out _).mono ?_
            rintro e w4 ⟨rfl, rfl⟩
            go_wp2
            go_roundg gk1
            case rel => exact ⟨m + 1, _, by omega, by go_num, HNX.out, HN3.out⟩
            case measure => exact Nat.lt_succ_self _
    | succ gk1 =>
      obtain ⟨b, off, hbl, rfl, hc⟩ := HGC.out wr m HB.out (by omega)
      have c0 := hc m (by omega)
      have hmi : (m : Int) < (ks.length : Int) := by omega
      have HKN : Hid (itemsK ks (m + 1) = itemsK ks m ++ [itemK ks m]) := itemsK_succ ks m
      have HIK : Hid (itemK ks m = ⟨ks.getD m ⟨#[]⟩, (m : Int) * 3, 0, 0, m, 0, false⟩) := rfl
      generalize ks.getD m ⟨#[]⟩ = g at c0 HIK
      clear hc
      have hlm := itemsK_len ks m
      go_wp2_with (at_builtin; refine wpList_append_k _ rfl _ _ rfl _ _ (itemsK ks m) [(⟨g, (m : Int) * 3, 0, 0, m, 0, false⟩ : Kr)] r rfl rfl ?hOwn ?hSrc ?hLen ?hR ?_)
      case hOwn => exact HO.out.later ((Below.refl _ _).alloc (Nat.le_refl _) _)
      case hSrc => exact src_kr wr (Kr.ke ⟨g, (m : Int) * 3, 0, 0, m, 0, false⟩)
      case hLen => rw [hlm]; simp; omega
      case hR => exact .inr (by simp)
      intro v3 w3 g3 ho3 hg3 hr3
      have hl3 : (itemsK ks m ++ [(⟨g, (m : Int) * 3, 0, 0, m, 0, false⟩ : Kr)]).length = m + 1 := by simp [hlm]
      obtain ⟨a3, c3, rfl, -, -⟩ := ho3.shape
      rw [hl3] at ho3 ⊢
      have hsw := HB.out.size
      have HF : Hid (OwnKr w3 (.slice a3 (m + 1) c3) (itemsK ks (m + 1)) (some g3) ∧ (∀ j, some g3 = some j → w.heap.size ≤ j) ∧ Below w.heap.size w w3) := by
        refine ⟨by rw [HKN.out, HIK.out]; exact ho3, fun j e => ?_, (HB.out.alloc hsw _).trans (grow_below hg3 (by simp; omega) (fun j e => HRN.out j e))⟩
        cases e
        rcases hr3 with e | e
        · exact HRN.out g3 e.symm
        · omega
      clear ho3 hg3 hr3 hl3
      go_wp2
      go_roundg gk1
      case rel => exact ⟨m + 1, a3, c3, some g3, by omega, by go_num, rfl, HF.out.1, HF.out.2.1, HF.out.2.2⟩
      case measure => exact Nat.lt_succ_self _
end Go.Proofs.Ythfnbcicpcbgjaa
