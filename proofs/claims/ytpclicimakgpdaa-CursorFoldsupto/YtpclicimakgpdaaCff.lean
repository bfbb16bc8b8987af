import Derived.Test.YtpclicimakgpdaaCfe
/-! cursor: the document's with. -/
namespace Go.Proofs.Ytpclicimakgpdaa
open Go.RowKit Go.Maps Plain
set_option linter.unusedVariables false
set_option linter.unusedSimpArgs false

theorem quiet_one {P : Program} {f : FuncId} {args : Array Value} {w : World} {x : Nat} {v : Value}
    (h : Calls P f args (w.drewN x) fun e w' => e = .returned v ∧ ∃ m, w' = (w.drewN x).drewN m) : Calls P f args (w.drewN x) fun e w'' => e = .returned v ∧ ∃ n, w'' = w.drewN n :=
  h.mono fun _ _ ⟨he, m, hm⟩ => ⟨he, x + m, by rw [hm, World.drewN_drewN]⟩
/-- The list that is being laid: all of L up to place k, and the pair, if d. -/
structure WiI (L : List Pp) (p : Pp) (k : Nat) (d : Bool) (M : List Pp) : Prop where
  len : M.length ≤ k + 1
  eq : insP p L = M ++ (if d then L.drop k else insP p (L.drop k))
  le : d = false → M.length ≤ k
theorem WiI.start (L : List Pp) (p : Pp) : WiI L p 0 false [] := ⟨by simp, by simp, by simp⟩
theorem drop_cons {L : List Pp} {k : Nat} (h : k < L.length) : L.drop k = L.getD k Pp.zero :: L.drop (k + 1) := by
  rw [List.drop_eq_getElem_cons h, List.getD_eq_getElem?_getD, List.getElem?_eq_getElem h]
  rfl
theorem WiI.on {L : List Pp} {p : Pp} {k : Nat} {M : List Pp} (h : WiI L p k true M) (hk : k < L.length) : insP p L = (M ++ [L.getD k Pp.zero]) ++ L.drop (k + 1) := by
  have := h.eq
  rw [if_pos rfl, drop_cons hk] at this
  rw [this]
  simp
theorem WiI.next1 {L : List Pp} {p : Pp} {k : Nat} {M : List Pp} (h : WiI L p k true M) (hk : k < L.length) : WiI L p (k + 1) true (M ++ [L.getD k Pp.zero]) :=
  ⟨by have := h.len; simp; omega, by rw [if_pos rfl]; exact h.on hk, fun e => by cases e⟩
theorem WiI.next0 {L : List Pp} {p : Pp} {k : Nat} {M : List Pp} (h : WiI L p k false M) (hk : k < L.length) (hb : ¬ 0 < cmpL (kb (L.getD k Pp.zero).key) (kb p.key)) : WiI L p (k + 1) false (M ++ [L.getD k Pp.zero]) := by
  have h1 := h.le rfl
  refine ⟨by simp; omega, ?_, fun _ => by simp; omega⟩
  have := h.eq
  simp only [Bool.false_eq_true, if_false] at this ⊢
  rw [this, drop_cons hk]
  conv => lhs; rw [insP]
  rw [if_neg (by
    show ¬ bytesBefore _ _ = true
    rw [before_cmp]
    simp only [decide_eq_true_eq]
    rw [cmpL_neg]
    omega)]
  simp
theorem WiI.put {L : List Pp} {p : Pp} {k : Nat} {M : List Pp} (h : WiI L p k false M) (hk : k < L.length) (hb : 0 < cmpL (kb (L.getD k Pp.zero).key) (kb p.key)) : WiI L p (k + 1) true (M ++ [p] ++ [L.getD k Pp.zero]) := by
  have h1 := h.le rfl
  refine ⟨by simp; omega, ?_, fun e => by cases e⟩
  have := h.eq
  simp only [Bool.false_eq_true, if_false] at this
  rw [if_pos rfl, this, drop_cons hk]
  conv => lhs; rw [insP]
  rw [if_pos (by
    show bytesBefore _ _ = true
    rw [before_cmp]
    simp only [decide_eq_true_eq]
    rw [cmpL_neg]
    omega)]
  simp
theorem WiI.end1 {L : List Pp} {p : Pp} {M : List Pp} (h : WiI L p L.length true M) : insP p L = M := by
  have := h.eq
  simpa using this
theorem WiI.end0 {L : List Pp} {p : Pp} {M : List Pp} (h : WiI L p L.length false M) : insP p L = M ++ [p] := by
  have := h.eq
  simpa [insP] using this

set_option maxHeartbeats 8000000 in
set_option maxRecDepth 100000 in
theorem withOf (v : Value) (L : List Pp) (p : Pp) (w : World) (h : PpsAt w v L) (hp : p.Ok) : Calls Try.prog 11 #[v, p.agg] w fun e w' => ∃ z r, e = .returned z ∧ PpNew w w' z (insP p L) r := by
  have HRI : Hid p.Ok := hp
  obtain ⟨pk, pv, po, pt⟩ := p
  obtain ⟨w1, hw1⟩ : ∃ w1, w.alloc (.cells #[.string pk, .string pv, .int .i64 po, .int .i64 pt] 29) = w1 := ⟨_, rfl⟩
  have hb1 : Below w.heap.size w w1 := by rw [← hw1]; exact (Below.refl _ _).alloc (Nat.le_refl _) _
  have hs1 : w1.heap.size = w.heap.size + 1 := by rw [← hw1]; simp
  have hpc : Pp.CellsAt w1 w.heap.size 0 ⟨pk, pv, po, pt⟩ := by rw [← hw1]; exact ⟨World.cell?_alloc_at _ _ _ _ rfl, World.cell?_alloc_at _ _ _ _ rfl, World.cell?_alloc_at _ _ _ _ rfl, World.cell?_alloc_at _ _ _ _ rfl⟩
  have HPC : Hid (∀ u, Below w1.heap.size w1 u → Pp.CellsAt u w.heap.size 0 ⟨pk, pv, po, pt⟩) := fun u hu => hpc.block (hu.block _ hpc.lt)
  obtain ⟨a, cap, rfl, hcl, hok, hcells⟩ := h.later hb1
  have HC : Hid (∀ u m, Below w1.heap.size w1 u → m < L.length → ∃ b off, a = some ⟨b, off, none⟩ ∧ Pp.CellsAt u b (off + m * 4) (L.getD m Pp.zero)) := fun u m hu hm => by
    obtain ⟨b, off, e, hc⟩ := hcells (by intro e; rw [e] at hm; simp at hm)
    exact ⟨b, off, e, (hc m hm).block (hu.block _ (hc m hm).lt)⟩
  have HOK : Hid (∀ m, m < L.length → (L.getD m Pp.zero).Ok) := fun m hm => getD_ok hok hm
  have HB1 : Hid (Below w.heap.size w w1) := hb1
  have HFIN : Hid (∀ u z M r, PpNew w1 u z M r → PpNew w u z M r) := fun u z M r hL => ⟨hL.row, fun g e => by have := hL.new g e; omega, below_step HB1.out hL.below⟩
  clear hcells hok h hpc hb1 hp
  unfold Pp.agg
  go_enter Try.func11, Try.ntmps11
  go_wp2
  go_loopw [5, 6, 7] (fun s5 s6 i wr => ∃ (k : Nat) (d : Bool) (M : List Pp) (x : Option Addr) (c : Nat) (r : Option Nat), k ≤ L.length ∧ i = .int .i64 k ∧ s6 = .bool d ∧ s5 = .slice x M.length c ∧ Hid (WiI L ⟨pk, pv, po, pt⟩ k d M) ∧ Hid (PpNew w1 wr (.slice x M.length c) M r))
    (fun _ _ i _ => L.length - (intOf i).toNat)
  case atStart => exact ⟨0, false, [], none, 0, none, Nat.zero_le _, rfl, rfl, rfl, WiI.start L _, PpNew.nil _⟩
  case round =>
    obtain ⟨k, d, M, x, c, r, hk, rfl, rfl, rfl, HD, HA⟩ := hrel
    have hMl := HD.out.len
    obtain ⟨p0, p1, p2, p3⟩ := HPC.out wr HA.out.below
    simp only at p0 p1 p2 p3
    by_cases hlt : k < L.length
    · obtain ⟨b, off, rfl, hc⟩ := HC.out wr k HA.out.below hlt
      have HCX : Hid (∀ u, Below w1.heap.size w1 u → Pp.CellsAt u b (off + k * 4) (L.getD k Pp.zero)) := fun u hu => by
        obtain ⟨b', off', e, h⟩ := HC.out u k hu hlt
        simp at e
        obtain ⟨rfl, rfl⟩ := e
        exact h
      have HN1 : Hid (WiI L ⟨pk, pv, po, pt⟩ k true M → WiI L ⟨pk, pv, po, pt⟩ (k + 1) true (M ++ [L.getD k Pp.zero])) := fun h => h.next1 hlt
      have HN0 : Hid (WiI L ⟨pk, pv, po, pt⟩ k false M → ¬ 0 < cmpL (kb (L.getD k Pp.zero).key) (kb pk) → WiI L ⟨pk, pv, po, pt⟩ (k + 1) false (M ++ [L.getD k Pp.zero])) := fun h hb => h.next0 hlt hb
      have HNP : Hid (WiI L ⟨pk, pv, po, pt⟩ k false M → 0 < cmpL (kb (L.getD k Pp.zero).key) (kb pk) → WiI L ⟨pk, pv, po, pt⟩ (k + 1) true (M ++ [⟨pk, pv, po, pt⟩] ++ [L.getD k Pp.zero])) := fun h hb => h.put hlt hb
      have HCM : Hid (∀ w, Calls Try.prog 16 #[.string (L.getD k Pp.zero).key, .string pk] w fun e w' => e = .returned (.int .i64 (cmpL (kb (L.getD k Pp.zero).key) (kb pk))) ∧ ∃ n, w' = w.drewN n) := fun w => refCompare _ _ w (HOK.out k hlt).key HRI.out.key
      generalize L.getD k Pp.zero = xx at hc HCX HN1 HN0 HNP HCM
      obtain ⟨xk, xv, xo, xt⟩ := xx
      generalize cmpL (kb (⟨xk, xv, xo, xt⟩ : Pp).key) (kb pk) = C at HN0 HNP HCM
      obtain ⟨c0, c1, c2, c3⟩ := hc
      simp only at c0 c1 c2 c3 HN1 HN0 HNP HCM
      have hki : (k : Int) < (L.length : Int) := by omega
      go_wp2
      go_quiet ((go_at_call 16; exact quiet_one (HCM.out _)))
      have HQ : Hid (PpNew w1 (wr.drewN nq) (.slice x M.length c) M r) := HA.out.later (drewN_bel _ _)
      generalize wr.drewN nq = wq at HQ ⊢
      obtain ⟨p0, p1, p2, p3⟩ := HPC.out wq HQ.out.below
      obtain ⟨c0, c1, c2, c3⟩ := HCX.out wq HQ.out.below
      simp only at p0 p1 p2 p3 c0 c1 c2 c3
      by_cases hput : d = false ∧ 0 < C
      · obtain ⟨rfl, hC⟩ := hput
        have HD7 : Hid (WiI L ⟨pk, pv, po, pt⟩ (k + 1) true (M ++ [⟨pk, pv, po, pt⟩] ++ [⟨xk, xv, xo, xt⟩])) := HNP.out HD.out hC
        go_wp2_with (at_builtin; refine wpList_append_pp _ rfl _ _ rfl _ _ M [⟨pk, pv, po, pt⟩] r rfl rfl ?hOwnb ?hSrcb ?hLenb ?hRb ?_)
        case hOwnb => exact HQ.out.row.later (bel_al _ _)
        case hSrcb => exact src_pp _ ⟨pk, pv, po, pt⟩
        case hLenb => simp; omega
        case hRb => exact .inr (by simp)
        intro v7 w7 g7 ho7 hg7 hr7
        have hlen7 : (M ++ [(⟨pk, pv, po, pt⟩ : Pp)]).length = M.length + 1 := by simp
        obtain ⟨x7, c7, rfl, -, -⟩ := ho7.shape
        have HA7 : Hid (PpNew w1 w7 (.slice x7 (M ++ [(⟨pk, pv, po, pt⟩ : Pp)]).length c7) (M ++ [⟨pk, pv, po, pt⟩]) (some g7)) := (HQ.out.later (bel_al _ _)).app ho7 hg7 (by simpa using hr7)
        clear ho7 hg7 hr7
        obtain ⟨p0, p1, p2, p3⟩ := HPC.out w7 HA7.out.below
        obtain ⟨c0, c1, c2, c3⟩ := HCX.out w7 HA7.out.below
        simp only at p0 p1 p2 p3 c0 c1 c2 c3
        generalize hM7 : M ++ [(⟨pk, pv, po, pt⟩ : Pp)] = M7 at HA7 HD7 hlen7
        clear hM7
        go_wp2_with (at_builtin; refine wpList_append_pp _ rfl _ _ rfl _ _ M7 [⟨xk, xv, xo, xt⟩] (some g7) rfl rfl ?hOwnc ?hSrcc ?hLenc ?hRc ?_)
        case hOwnc => exact HA7.out.row.later (bel_al _ _)
        case hSrcc => exact src_pp _ ⟨xk, xv, xo, xt⟩
        case hLenc => simp; omega
        case hRc => exact .inr (by simp)
        intro v8 w8 g8 ho8 hg8 hr8
        have hlen8 : (M7 ++ [(⟨xk, xv, xo, xt⟩ : Pp)]).length = M7.length + 1 := by simp
        obtain ⟨x8, c8, rfl, -, -⟩ := ho8.shape
        have HA8 : Hid (PpNew w1 w8 (.slice x8 (M7 ++ [(⟨xk, xv, xo, xt⟩ : Pp)]).length c8) (M7 ++ [⟨xk, xv, xo, xt⟩]) (some g8)) := (HA7.out.later (bel_al _ _)).app ho8 hg8 (by simpa using hr8)
        clear ho8 hg8 hr8
        generalize hM8 : M7 ++ [(⟨xk, xv, xo, xt⟩ : Pp)] = M8 at HA8 HD7 hlen8
        clear hM8
        go_wp2
        go_roundw
        case rel => exact ⟨k + 1, true, M8, x8, c8, some g8, by omega, by go_num, rfl, by rw [hlen8], HD7.out, HA8.out⟩
        case measure => simp [intOf]; omega
      · have HD8 : Hid (WiI L ⟨pk, pv, po, pt⟩ (k + 1) d (M ++ [⟨xk, xv, xo, xt⟩])) := by
          cases d with
          | true => exact HN1.out HD.out
          | false => exact HN0.out HD.out (by have : ¬ 0 < C := fun h => hput ⟨rfl, h⟩; omega)
        have hcond : (!d && decide (C > 0)) = false := by
          cases d with
          | true => rfl
          | false =>
            have : ¬ 0 < C := fun h => hput ⟨rfl, h⟩
            simpa using this
        have hsplit : d = true ∨ (d = false ∧ ¬ 0 < C) := by
          cases d with
          | true => exact .inl rfl
          | false => exact .inr ⟨rfl, fun h => hput ⟨rfl, h⟩⟩
        rcases hsplit with rfl | ⟨rfl, hC⟩
        · go_wp2_with (at_builtin; refine wpList_append_pp _ rfl _ _ rfl _ _ M [⟨xk, xv, xo, xt⟩] r rfl rfl ?hOwna ?hSrca ?hLena ?hRa ?_)
          case hOwna => exact HQ.out.row.later (bel_al _ _)
          case hSrca => exact src_pp _ ⟨xk, xv, xo, xt⟩
          case hLena => simp; omega
          case hRa => exact .inr (by simp)
          intro v8 w8 g8 ho8 hg8 hr8
          have hlen8 : (M ++ [(⟨xk, xv, xo, xt⟩ : Pp)]).length = M.length + 1 := by simp
          obtain ⟨x8, c8, rfl, -, -⟩ := ho8.shape
          have HA8 : Hid (PpNew w1 w8 (.slice x8 (M ++ [(⟨xk, xv, xo, xt⟩ : Pp)]).length c8) (M ++ [⟨xk, xv, xo, xt⟩]) (some g8)) := (HQ.out.later (bel_al _ _)).app ho8 hg8 (by simpa using hr8)
          clear ho8 hg8 hr8
          generalize hM8 : M ++ [(⟨xk, xv, xo, xt⟩ : Pp)] = M8 at HA8 HD8 hlen8
          clear hM8
          go_wp2
          go_roundw
          case rel => exact ⟨k + 1, _, M8, x8, c8, some g8, by omega, by go_num, rfl, by rw [hlen8], HD8.out, HA8.out⟩
          case measure => simp [intOf]; omega
        · go_wp2_with (at_builtin; refine wpList_append_pp _ rfl _ _ rfl _ _ M [⟨xk, xv, xo, xt⟩] r rfl rfl ?hOwna ?hSrca ?hLena ?hRa ?_)
          case hOwna => exact HQ.out.row.later (bel_al _ _)
          case hSrca => exact src_pp _ ⟨xk, xv, xo, xt⟩
          case hLena => omega
          intro v8 w8 g8 ho8 hg8 hr8
          have hlen8 : (M ++ [(⟨xk, xv, xo, xt⟩ : Pp)]).length = M.length + 1 := by simp
          obtain ⟨x8, c8, rfl, -, -⟩ := ho8.shape
          have HA8 : Hid (PpNew w1 w8 (.slice x8 (M ++ [(⟨xk, xv, xo, xt⟩ : Pp)]).length c8) (M ++ [⟨xk, xv, xo, xt⟩]) (some g8)) := (HQ.out.later (bel_al _ _)).app ho8 hg8 (by simpa using hr8)
          clear ho8 hg8 hr8
          generalize hM8 : M ++ [(⟨xk, xv, xo, xt⟩ : Pp)] = M8 at HA8 HD8 hlen8
          clear hM8
          go_wp2
          go_roundw
          case rel => exact ⟨k + 1, _, M8, x8, c8, some g8, by omega, by go_num, rfl, by rw [hlen8], HD8.out, HA8.out⟩
          case measure => simp [intOf]; omega
    · obtain rfl : k = L.length := by omega
      cases d with
      | true =>
        have HE : Hid (insP ⟨pk, pv, po, pt⟩ L = M) := HD.out.end1
        go_wp2
        go_ret
        refine ⟨_, r, rfl, ?_⟩
        rw [HE.out]
        exact HFIN.out _ _ _ _ HA.out
      | false =>
        have HE : Hid (insP ⟨pk, pv, po, pt⟩ L = M ++ [⟨pk, pv, po, pt⟩]) := HD.out.end0
        go_wp2_with (at_builtin; refine wpList_append_pp _ rfl _ _ rfl _ _ M [⟨pk, pv, po, pt⟩] r rfl rfl ?hOwnd ?hSrcd ?hLend ?hRd ?_)
        case hOwnd => exact HA.out.row.later (bel_al _ _)
        case hSrcd => exact src_pp _ ⟨pk, pv, po, pt⟩
        case hLend => simp; omega
        case hRd => exact .inr (by simp)
        intro v7 w7 g7 ho7 hg7 hr7
        obtain ⟨x7, c7, rfl, -, -⟩ := ho7.shape
        have HA7 : Hid (PpNew w1 w7 (.slice x7 (M ++ [(⟨pk, pv, po, pt⟩ : Pp)]).length c7) (M ++ [⟨pk, pv, po, pt⟩]) (some g7)) := (HA.out.later (bel_al _ _)).app ho7 hg7 (by simpa using hr7)
        clear ho7 hg7 hr7
        go_wp2
        go_ret
        refine ⟨_, some g7, rfl, ?_⟩
        rw [HE.out]
        exact HFIN.out _ _ _ _ HA7.out
end Go.Proofs.Ytpclicimakgpdaa
