import Derived.Test.YtlbofjeopbadhaaDoorJu
import Derived.BigQuiet
/-! dedupe: the document's laid: its walk. -/
namespace Go.Proofs.YtlbofjeopbadhaaDoor
open Go.RowKit Go.Maps Plain
set_option linter.unusedVariables false
set_option linter.unusedSimpArgs false

theorem drewN_bel (w : World) (n : Nat) : Below w.heap.size w (w.drewN n) := ⟨rfl, rfl, rfl, Nat.le_refl _, fun _ _ => rfl⟩
theorem bel_al (w : World) (o : Obj) : Below w.heap.size w (w.alloc o) := (Below.refl _ _).alloc (Nat.le_refl _) _
/-- The list that is being laid. -/
structure LaidAt (w1 w : World) (v : Value) (M : List Pr) (r : Option Nat) : Prop where
  row : OwnPr w v M r
  new : ∀ g, r = some g → w1.heap.size ≤ g
  below : Below w1.heap.size w1 w
theorem LaidAt.later {w1 w w' : World} {v : Value} {M : List Pr} {r : Option Nat} (h : LaidAt w1 w v M r) (hb : Below w.heap.size w w') : LaidAt w1 w' v M r := ⟨h.row.later hb, h.new, below_step h.below hb⟩
theorem LaidAt.app {w1 w w' : World} {v v' : Value} {M M' : List Pr} {r : Option Nat} {g : Nat} (h : LaidAt w1 w v M r) (ho : OwnPr w' v' M' (some g)) (hg : w.grownBy w' r) (hr : some g = r ∨ g = w.heap.size) : LaidAt w1 w' v' M' (some g) :=
  ⟨ho, fun g' e => by
    cases e
    rcases hr with h1 | h1
    · exact h.new g h1.symm
    · have := h.below.size; omega, h.below.trans (grow_below hg h.below.size h.new)⟩
set_option maxHeartbeats 8000000 in
set_option maxRecDepth 100000 in
theorem rlaidOf (v : Value) (L : List Pr) (p : Pr) (w : World) (h : PrsAt w v L) (hr : Rise L) (hl : L.length ≤ 64) : Calls Tryd.prog 48 #[v, p.agg] w fun e w' => ∃ z r, e = .returned z ∧ OwnPr w' z (layP L p) r ∧ (∀ g, r = some g → w.heap.size ≤ g) ∧ Below w.heap.size w w' := by
  have HRI : Hid (Rise L) := hr
  obtain ⟨pp, pq, po⟩ := p
  obtain ⟨w1, hw1⟩ : ∃ w1, w.alloc (.cells #[.int .i64 pp, .int .i64 pq, .int .i64 po] 50) = w1 := ⟨_, rfl⟩
  have hb1 : Below w.heap.size w w1 := by rw [← hw1]; exact (Below.refl _ _).alloc (Nat.le_refl _) _
  have hs1 : w1.heap.size = w.heap.size + 1 := by rw [← hw1]; simp
  have hpc : Pr.CellsAt w1 w.heap.size 0 ⟨pp, pq, po⟩ := by rw [← hw1]; exact ⟨World.cell?_alloc_at _ _ _ _ rfl, World.cell?_alloc_at _ _ _ _ rfl, World.cell?_alloc_at _ _ _ _ rfl⟩
  have HPC : Hid (∀ u, Below w1.heap.size w1 u → Pr.CellsAt u w.heap.size 0 ⟨pp, pq, po⟩) := fun u hu => hpc.block (hu.block _ hpc.lt)
  obtain ⟨a, cap, rfl, hcl, hok, hcells⟩ := h.later hb1
  have HC : Hid (∀ u m, Below w1.heap.size w1 u → m < L.length → ∃ b off, a = some ⟨b, off, none⟩ ∧ Pr.CellsAt u b (off + m * 3) (L.getD m Pr.zero)) := fun u m hu hm => by
    obtain ⟨b, off, e, hc⟩ := hcells (by intro e; rw [e] at hm; simp at hm)
    exact ⟨b, off, e, (hc m hm).block (hu.block _ (hc m hm).lt)⟩
  have HB1 : Hid (Below w.heap.size w w1) := hb1
  have HFIN : Hid (∀ u z M r, LaidAt w1 u z M r → (∀ g, r = some g → w.heap.size ≤ g) ∧ Below w.heap.size w u) := fun u z M r hL => ⟨fun g e => by have := hL.new g e; omega, below_step HB1.out hL.below⟩
  clear hcells hok h hr hpc hb1
  unfold Pr.agg
  go_enter Tryd.func48, Tryd.ntmps48
  go_wp2
  go_loopw [5, 6, 7] (fun s5 s6 i wr => ∃ (k : Nat) (d : Bool) (M : List Pr) (x : Option Addr) (c : Nat) (r : Option Nat), k ≤ L.length ∧ i = .int .i64 k ∧ s6 = .bool d ∧ s5 = .slice x M.length c ∧ M.length ≤ 65 ∧ Hid (LdI L ⟨pp, pq, po⟩ k d M) ∧ Hid (LaidAt w1 wr (.slice x M.length c) M r))
    (fun _ _ i _ => L.length - (intOf i).toNat)
  case atStart => exact ⟨0, false, [], none, 0, none, Nat.zero_le _, rfl, rfl, rfl, by simp, LdI.start L _, ⟨OwnPr.nil _, (fun g e => by cases e), Below.refl _ _⟩⟩
  case round =>
    obtain ⟨k, d, M, x, c, r, hk, rfl, rfl, rfl, hM65, HD, HA⟩ := hrel
    obtain ⟨p0, p1, p2⟩ := HPC.out wr HA.out.below
    simp only at p0 p1 p2
    by_cases hlt : k < L.length
    · obtain ⟨b, off, rfl, hc⟩ := HC.out wr k HA.out.below hlt
      have HCX : Hid (∀ u, Below w1.heap.size w1 u → Pr.CellsAt u b (off + k * 3) (L.getD k Pr.zero)) := fun u hu => by
        obtain ⟨b', off', e, h⟩ := HC.out u k hu hlt
        simp at e
        obtain ⟨rfl, rfl⟩ := e
        exact h
      have HN : Hid (∀ {M : List Pr} {d : Bool}, LdI L ⟨pp, pq, po⟩ k d M → (d = false → (L.getD k Pr.zero).pid < pp) → LdI L ⟨pp, pq, po⟩ (k + 1) d (M ++ [L.getD k Pr.zero])) := fun h1 h2 => h1.next HRI.out hlt h2
      have HN2 : Hid (∀ {M : List Pr}, LdI L ⟨pp, pq, po⟩ k false M → pp < (L.getD k Pr.zero).pid → LdI L ⟨pp, pq, po⟩ (k + 1) true (M ++ [⟨pp, pq, po⟩] ++ [L.getD k Pr.zero])) := fun h1 h2 => h1.put2 HRI.out hlt h2
      have HN1 : Hid (∀ {M : List Pr}, LdI L ⟨pp, pq, po⟩ k false M → (L.getD k Pr.zero).pid = pp → LdI L ⟨pp, pq, po⟩ (k + 1) true (M ++ [⟨pp, pq, po⟩])) := fun h1 h2 => h1.put1 HRI.out hlt h2
      have HHI : Hid (d = true → pp < (L.getD k Pr.zero).pid) := fun hd => HD.out.hi hd _ (drop_mem HRI.out hlt).2.2.1
      generalize L.getD k Pr.zero = xx at hc HCX HN HN1 HN2 HHI
      obtain ⟨xp, xq, xo⟩ := xx
      obtain ⟨c0, c1, c2⟩ := hc
      simp only at c0 c1 c2 HN HN1 HN2 HHI
      have hki : (k : Int) < (L.length : Int) := by omega
      cases d with
      | true =>
        have hx := HHI.out rfl
        have hne : (xp == pp) = false := by
          have : xp ≠ pp := by omega
          simpa using this
        go_wp2
        go_quiet (fail)
        have HQ : Hid (LaidAt w1 (wr.drewN nq) (.slice x M.length c) M r) := HA.out.later (drewN_bel _ _)
        generalize wr.drewN nq = wq at HQ ⊢
        obtain ⟨p0, p1, p2⟩ := HPC.out wq HQ.out.below
        obtain ⟨c0, c1, c2⟩ := HCX.out wq HQ.out.below
        simp only at p0 p1 p2 c0 c1 c2
        go_wp2
        go_quiet (fail)
        have HQ2 : Hid (LaidAt w1 (wq.drewN nq) (.slice x M.length c) M r) := HQ.out.later (drewN_bel _ _)
        generalize wq.drewN nq = wq2 at HQ2 ⊢
        obtain ⟨p0, p1, p2⟩ := HPC.out wq2 HQ2.out.below
        obtain ⟨c0, c1, c2⟩ := HCX.out wq2 HQ2.out.below
        simp only at p0 p1 p2 c0 c1 c2
        go_wp2_with (at_builtin; refine wpList_append_q _ rfl _ _ rfl _ _ M [⟨xp, xq, xo⟩] r rfl rfl ?hOwna ?hSrca ?hLena ?hRa ?_)
        case hOwna => exact HQ2.out.row.later (bel_al _ _)
        case hSrca => exact src_pr _ ⟨xp, xq, xo⟩
        case hLena => simp; omega
        case hRa => exact .inr (by simp)
        intro v8 w8 g8 ho8 hg8 hr8
        have hlen8 : (M ++ [(⟨xp, xq, xo⟩ : Pr)]).length = M.length + 1 := by simp
        obtain ⟨x8, c8, rfl, -, -⟩ := ho8.shape
        have HA8 : Hid (LaidAt w1 w8 (.slice x8 (M ++ [(⟨xp, xq, xo⟩ : Pr)]).length c8) (M ++ [⟨xp, xq, xo⟩]) (some g8)) := (HQ2.out.later (bel_al _ _)).app ho8 hg8 (by simpa using hr8)
        have HD8 : Hid (LdI L ⟨pp, pq, po⟩ (k + 1) true (M ++ [⟨xp, xq, xo⟩])) := HN.out HD.out (fun h => by cases h)
        clear ho8 hg8 hr8
        generalize hM8 : M ++ [(⟨xp, xq, xo⟩ : Pr)] = M8 at HA8 HD8 hlen8
        clear hM8
        have hl8 := HD8.out.len
        go_wp2
        go_roundw
        case rel => exact ⟨k + 1, true, M8, x8, c8, some g8, by omega, by go_num, rfl, by rw [hlen8], by omega, HD8.out, HA8.out⟩
        case measure => simp [intOf]; omega
      | false =>
        by_cases hge : pp ≤ xp
        · go_wp2
          go_quiet (fail)
          have HQ : Hid (LaidAt w1 (wr.drewN nq) (.slice x M.length c) M r) := HA.out.later (drewN_bel _ _)
          generalize wr.drewN nq = wq at HQ ⊢
          obtain ⟨p0, p1, p2⟩ := HPC.out wq HQ.out.below
          obtain ⟨c0, c1, c2⟩ := HCX.out wq HQ.out.below
          simp only at p0 p1 p2 c0 c1 c2
          go_wp2_with (at_builtin; refine wpList_append_q _ rfl _ _ rfl _ _ M [⟨pp, pq, po⟩] r rfl rfl ?hOwnb ?hSrcb ?hLenb ?hRb ?_)
          case hOwnb => exact HQ.out.row.later (bel_al _ _)
          case hSrcb => exact src_pr _ ⟨pp, pq, po⟩
          case hLenb => simp; omega
          case hRb => exact .inr (by simp)
          intro v7 w7 g7 ho7 hg7 hr7
          have hlen7 : (M ++ [(⟨pp, pq, po⟩ : Pr)]).length = M.length + 1 := by simp
          obtain ⟨x7, c7, rfl, -, -⟩ := ho7.shape
          have HA7 : Hid (LaidAt w1 w7 (.slice x7 (M ++ [(⟨pp, pq, po⟩ : Pr)]).length c7) (M ++ [⟨pp, pq, po⟩]) (some g7)) := (HQ.out.later (bel_al _ _)).app ho7 hg7 (by simpa using hr7)
          clear ho7 hg7 hr7
          obtain ⟨p0, p1, p2⟩ := HPC.out w7 HA7.out.below
          obtain ⟨c0, c1, c2⟩ := HCX.out w7 HA7.out.below
          simp only at p0 p1 p2 c0 c1 c2
          by_cases hgt : pp < xp
          · have hne : (xp == pp) = false := by
              have : xp ≠ pp := by omega
              simpa using this
            have HD7 : Hid (LdI L ⟨pp, pq, po⟩ (k + 1) true (M ++ [⟨pp, pq, po⟩] ++ [⟨xp, xq, xo⟩])) := HN2.out HD.out hgt
            generalize hM7 : M ++ [(⟨pp, pq, po⟩ : Pr)] = M7 at HA7 HD7 hlen7
            clear hM7
            go_wp2
            go_quiet (fail)
            have HQ2 : Hid (LaidAt w1 (w7.drewN nq) (.slice x7 M7.length c7) M7 (some g7)) := HA7.out.later (drewN_bel _ _)
            generalize w7.drewN nq = wq2 at HQ2 ⊢
            obtain ⟨p0, p1, p2⟩ := HPC.out wq2 HQ2.out.below
            obtain ⟨c0, c1, c2⟩ := HCX.out wq2 HQ2.out.below
            simp only at p0 p1 p2 c0 c1 c2
            go_wp2_with (at_builtin; refine wpList_append_q _ rfl _ _ rfl _ _ M7 [⟨xp, xq, xo⟩] (some g7) rfl rfl ?hOwnc ?hSrcc ?hLenc ?hRc ?_)
            case hOwnc => exact HQ2.out.row.later (bel_al _ _)
            case hSrcc => exact src_pr _ ⟨xp, xq, xo⟩
            case hLenc => simp; omega
            case hRc => exact .inr (by simp)
            intro v8 w8 g8 ho8 hg8 hr8
            have hlen8 : (M7 ++ [(⟨xp, xq, xo⟩ : Pr)]).length = M7.length + 1 := by simp
            obtain ⟨x8, c8, rfl, -, -⟩ := ho8.shape
            have HA8 : Hid (LaidAt w1 w8 (.slice x8 (M7 ++ [(⟨xp, xq, xo⟩ : Pr)]).length c8) (M7 ++ [⟨xp, xq, xo⟩]) (some g8)) := (HQ2.out.later (bel_al _ _)).app ho8 hg8 (by simpa using hr8)
            have HD8 : Hid (LdI L ⟨pp, pq, po⟩ (k + 1) true (M7 ++ [⟨xp, xq, xo⟩])) := HD7.out
            clear ho8 hg8 hr8
            generalize hM8 : M7 ++ [(⟨xp, xq, xo⟩ : Pr)] = M8 at HA8 HD8 hlen8
            clear hM8
            have hl8 := HD8.out.len
            go_wp2
            go_roundw
            case rel => exact ⟨k + 1, true, M8, x8, c8, some g8, by omega, by go_num, rfl, by rw [hlen8], by omega, HD8.out, HA8.out⟩
            case measure => simp [intOf]; omega
          · obtain rfl : xp = pp := by omega
            have HD7 : Hid (LdI L ⟨xp, pq, po⟩ (k + 1) true (M ++ [⟨xp, pq, po⟩])) := HN1.out HD.out rfl
            generalize hM7 : M ++ [(⟨xp, pq, po⟩ : Pr)] = M7 at HA7 HD7 hlen7
            clear hM7
            have hl7 := HD7.out.len
            go_wp2
            go_quiet (fail)
            have HQ2 : Hid (LaidAt w1 (w7.drewN nq) (.slice x7 M7.length c7) M7 (some g7)) := HA7.out.later (drewN_bel _ _)
            generalize w7.drewN nq = wq2 at HQ2 ⊢
            go_wp2
            go_roundw
            case rel => exact ⟨k + 1, true, M7, x7, c7, some g7, by omega, by go_num, rfl, by first | rfl | rw [hlen7], by omega, HD7.out, HQ2.out⟩
            case measure => simp [intOf]; omega
        · have hne : (xp == pp) = false := by
            have : xp ≠ pp := by omega
            simpa using this
          go_wp2
          go_quiet (fail)
          have HQ : Hid (LaidAt w1 (wr.drewN nq) (.slice x M.length c) M r) := HA.out.later (drewN_bel _ _)
          generalize wr.drewN nq = wq at HQ ⊢
          obtain ⟨p0, p1, p2⟩ := HPC.out wq HQ.out.below
          obtain ⟨c0, c1, c2⟩ := HCX.out wq HQ.out.below
          simp only at p0 p1 p2 c0 c1 c2
          go_wp2
          go_quiet (fail)
          have HQ2 : Hid (LaidAt w1 (wq.drewN nq) (.slice x M.length c) M r) := HQ.out.later (drewN_bel _ _)
          generalize wq.drewN nq = wq2 at HQ2 ⊢
          obtain ⟨p0, p1, p2⟩ := HPC.out wq2 HQ2.out.below
          obtain ⟨c0, c1, c2⟩ := HCX.out wq2 HQ2.out.below
          simp only at p0 p1 p2 c0 c1 c2
          go_wp2_with (at_builtin; refine wpList_append_q _ rfl _ _ rfl _ _ M [⟨xp, xq, xo⟩] r rfl rfl ?hOwnd ?hSrcd ?hLend ?hRd ?_)
          case hOwnd => exact HQ2.out.row.later (bel_al _ _)
          case hSrcd => exact src_pr _ ⟨xp, xq, xo⟩
          case hLend => simp; omega
          case hRd => exact .inr (by simp)
          intro v8 w8 g8 ho8 hg8 hr8
          have hlen8 : (M ++ [(⟨xp, xq, xo⟩ : Pr)]).length = M.length + 1 := by simp
          obtain ⟨x8, c8, rfl, -, -⟩ := ho8.shape
          have HA8 : Hid (LaidAt w1 w8 (.slice x8 (M ++ [(⟨xp, xq, xo⟩ : Pr)]).length c8) (M ++ [⟨xp, xq, xo⟩]) (some g8)) := (HQ2.out.later (bel_al _ _)).app ho8 hg8 (by simpa using hr8)
          have HD8 : Hid (LdI L ⟨pp, pq, po⟩ (k + 1) false (M ++ [⟨xp, xq, xo⟩])) := HN.out HD.out (fun _ => by omega)
          clear ho8 hg8 hr8
          generalize hM8 : M ++ [(⟨xp, xq, xo⟩ : Pr)] = M8 at HA8 HD8 hlen8
          clear hM8
          have hl8 := HD8.out.len
          go_wp2
          go_roundw
          case rel => exact ⟨k + 1, false, M8, x8, c8, some g8, by omega, by go_num, rfl, by rw [hlen8], by omega, HD8.out, HA8.out⟩
          case measure => simp [intOf]; omega
    · obtain rfl : k = L.length := by omega
      clear HC
      cases d with
      | true =>
        have HE : Hid (M = layP L ⟨pp, pq, po⟩) := HD.out.done HRI.out
        go_wp2
        go_ret
        obtain ⟨f1, f2⟩ := HFIN.out _ _ _ _ HA.out
        exact ⟨_, r, rfl, by rw [← HE.out]; exact HA.out.row, f1, f2⟩
      | false =>
        have HE : Hid (M ++ [⟨pp, pq, po⟩] = layP L ⟨pp, pq, po⟩) := HD.out.last HRI.out
        go_wp2_with (at_builtin; refine wpList_append_q _ rfl _ _ rfl _ _ M [⟨pp, pq, po⟩] r rfl rfl ?hOwne ?hSrce ?hLene ?hRe ?_)
        case hOwne => exact HA.out.row.later (bel_al _ _)
        case hSrce => exact src_pr _ ⟨pp, pq, po⟩
        case hLene => simp; omega
        case hRe => exact .inr (by simp)
        intro v7 w7 g7 ho7 hg7 hr7
        have hlen7 : (M ++ [(⟨pp, pq, po⟩ : Pr)]).length = M.length + 1 := by simp
        obtain ⟨x7, c7, rfl, -, -⟩ := ho7.shape
        have HA7 : Hid (LaidAt w1 w7 (.slice x7 (M ++ [(⟨pp, pq, po⟩ : Pr)]).length c7) (M ++ [⟨pp, pq, po⟩]) (some g7)) := (HA.out.later (bel_al _ _)).app ho7 hg7 (by simpa using hr7)
        clear ho7 hg7 hr7
        go_wp2
        go_ret
        obtain ⟨f1, f2⟩ := HFIN.out _ _ _ _ HA7.out
        exact ⟨_, some g7, rfl, by rw [← HE.out]; exact HA7.out.row, f1, f2⟩
end Go.Proofs.YtlbofjeopbadhaaDoor
