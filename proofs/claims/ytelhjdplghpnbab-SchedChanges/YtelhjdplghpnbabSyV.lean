import Derived.Test.YtelhjdplghpnbabSyT
/-! slices.Delete of queues. -/
namespace Go.Proofs.Ytelhjdplghpnbab
open Go.RowKit Plain
set_option linter.unusedVariables false
set_option linter.unusedSimpArgs false

theorem run_clear_q (w : World) (ty : TypeId) (b o c : Nat) (hc : ∀ j, j < 4 → (w.cell? ⟨b, o + j, none⟩).isSome = true) (hf : ∀ j, j < 4 → w.frozen? ⟨b, o + j, none⟩ = false) :
    (Builtin.clear_ #[22] ty #[.slice (some ⟨b, o, none⟩) 1 c]).run Try.prog w = .ok (.tuple #[]) (w.setCells b o Qv.zero.cells) := by
  obtain ⟨i, hi, hz0, hz1, hz2⟩ := info_parts Try.info37
  have hzs : Qv.zero.agg.cells.size = 4 := rfl
  have hzc : (Builtin.zeroCells Qv.zero.agg.cells 1).toList = Qv.zero.cells := by
    apply List.ext_getElem
    · simp [Builtin.zeroCells, hzs]; rfl
    · intro j h1 h2
      have hj : j < 4 := h2
      rcases (by omega : j = 0 ∨ j = 1 ∨ j = 2 ∨ j = 3) with rfl | rfl | rfl | rfl <;> simp [Builtin.zeroCells, hzs] <;> rfl
  have hst := run_storeCells_cells (P := Try.prog) b o Qv.zero.cells 0 w (fun j hj => hc j hj) (fun j hj => hf j hj) (vcells_one [Qv.zero])
  simp only [Nat.add_zero] at hst
  have hzv : (zeroValue 37).run Try.prog w = .ok Qv.zero.agg w := by simp [zeroValue, typeInfo, hi, hz0]
  simp only [Builtin.clear_]
  simp [run_underlying Try.underlying22, hzv, hzc, hst]
/-- The row that a deletion leaves. -/
structure DelW (w W1 W2 : World) (g n i : Nat) (vs : List Qv) : Prop where
  src : ∀ A : Addr, (n = i + 1 ∧ A = ⟨g, 0, none⟩) ∨ (n ≠ i + 1 ∧ A = ⟨g, (i + 1) * 4, none⟩) → ∀ j u, (vcells (vs.drop (i + 1)))[j]? = some u → w.drew.cell? (A.add j) = some u
  len : (vcells (vs.drop (i + 1))).length = (n - (i + 1)) * 4
  spare : ∀ j, j < (vcells (vs.drop (i + 1))).length → (w.drew.cell? ⟨g, 0 + i * 4 + j, none⟩).isSome = true ∧ w.drew.frozen? ⟨g, 0 + i * 4 + j, none⟩ = false
  w1 : w.drew.setCells g (0 + i * 4) (vcells (vs.drop (i + 1))) = W1
  clr : ∀ ty, (Builtin.clear_ #[22] ty #[.slice (some ⟨g, (n - 1) * 4, none⟩) 1 1]).run Try.prog W1 = .ok (.tuple #[]) W2
  own : OwnQv W2 (.slice (some ⟨g, 0, none⟩) (n - 1) n) (vs.eraseIdx i) (some g)
  grown : w.grownBy W2 (some g)
theorem delW {w : World} {g n i : Nat} {vs : List Qv} (h : OwnQv w (.slice (some ⟨g, 0, none⟩) n n) vs (some g)) (hn : vs.length = n) (hi : i < n) (hb : n ≤ 32) : ∃ W1 W2, DelW w W1 W2 g n i vs := by
  have hlt := h.lt
  obtain ⟨hcell, hfz⟩ : (∀ j, j < 4 * n → w.cell? ⟨g, j, none⟩ = (vcells vs)[j]?) ∧ ∀ j, j < 4 * n → w.frozen? ⟨g, j, none⟩ = false := by
    rcases h with ⟨_, _, e⟩ | ⟨g', cap, e, e2, _, hc1, _, h3, _, h5⟩
    · simp at e
    · simp only [Option.some.injEq] at e
      subst e
      rw [hn] at h5 hc1
      exact ⟨h5, fun j hj => h3 j (by omega)⟩
  have hvl : (vcells vs).length = 4 * n := by rw [vcells_len, hn]
  have hsome : ∀ j, j < 4 * n → (w.cell? ⟨g, j, none⟩).isSome = true := fun j hj => by rw [hcell j hj, List.getElem?_eq_getElem (by omega)]; rfl
  have htl : (vcells (vs.take i)).length = i * 4 := by rw [vcells_len]; simp; omega
  have htl1 : (vcells (vs.take (i + 1))).length = (i + 1) * 4 := by rw [vcells_len]; simp; omega
  have hdl : (vcells (vs.drop (i + 1))).length = (n - (i + 1)) * 4 := by rw [vcells_len]; simp; omega
  have hspl : vcells vs = vcells (vs.take (i + 1)) ++ vcells (vs.drop (i + 1)) := by rw [← vcells_app, List.take_append_drop]
  have hspl0 : vcells vs = vcells (vs.take i) ++ vcells (vs.drop i) := by rw [← vcells_app, List.take_append_drop]
  obtain ⟨W1, hW1⟩ : ∃ W1, w.drew.setCells g (0 + i * 4) (vcells (vs.drop (i + 1))) = W1 := ⟨_, rfl⟩
  have hs1 : ∀ j, j < 4 * n → (W1.cell? ⟨g, j, none⟩).isSome = true := fun j hj => by rw [← hW1]; exact Go.Proofs.Ytelhjdplghpnbab.isSome_setCells g _ _ w.drew _ (hsome j hj)
  have hf1 : ∀ j, j < 4 * n → W1.frozen? ⟨g, j, none⟩ = false := fun j hj => by rw [← hW1, World.frozen?_setCells]; exact hfz j hj
  obtain ⟨W2, hW2⟩ : ∃ W2, W1.setCells g ((n - 1) * 4) Qv.zero.cells = W2 := ⟨_, rfl⟩
  have hgd : w.grownBy w.drew (some g) := ⟨rfl, rfl, rfl, Nat.le_refl _, fun _ _ _ => rfl⟩
  have hg1 : w.drew.grownBy W1 (some g) := by rw [← hW1]; exact grow_setCells w.drew g _ _
  have hg2 : W1.grownBy W2 (some g) := by rw [← hW2]; exact grow_setCells W1 g _ _
  have hgr : w.grownBy W2 (some g) := ⟨hg2.os.trans (hg1.os.trans hgd.os), hg2.tape.trans (hg1.tape.trans hgd.tape), hg2.output.trans (hg1.output.trans hgd.output), Nat.le_trans hg1.size hg2.size, fun k hk hne => (hg2.block k (Nat.lt_of_lt_of_le hk hg1.size) hne).trans (hg1.block k hk hne)⟩
  refine ⟨W1, W2, ⟨fun A hA j u hj => ?_, hdl, fun j hj => ?_, hW1, fun ty => ?_, ?_, hgr⟩⟩
  · have hjl : j < (n - (i + 1)) * 4 := by rw [← hdl]; exact (List.getElem?_eq_some_iff.mp hj).1
    rcases hA with ⟨e, rfl⟩ | ⟨e, rfl⟩
    · omega
    · rw [WideShapes.add_plain]
      show w.cell? ⟨g, (i + 1) * 4 + j, none⟩ = some u
      rw [hcell _ (by omega), hspl, List.getElem?_append_right (by omega), htl1, show (i + 1) * 4 + j - (i + 1) * 4 = j by omega]
      exact hj
  · rw [hdl] at hj
    exact ⟨hsome _ (by omega), hfz _ (by omega)⟩
  · rw [← hW2]
    exact run_clear_q W1 ty g ((n - 1) * 4) 1 (fun j hj => hs1 _ (by omega)) (fun j hj => hf1 _ (by omega))
  · have hel : (vs.eraseIdx i).length = n - 1 := by rw [List.length_eraseIdx]; rw [if_pos (by omega)]; omega
    refine .inr ⟨g, n, rfl, by rw [hel], ?_, by rw [hel]; omega, by unfold maxLen; omega, fun j hj => ?_, fun j hj => ?_, fun j hj => ?_⟩
    · exact Nat.lt_of_lt_of_le hlt hgr.size
    · rw [← hW2, World.frozen?_setCells]; exact hf1 j hj
    · rw [← hW2]; exact Go.Proofs.Ytelhjdplghpnbab.isSome_setCells g _ _ W1 _ (hs1 j hj)
    · rw [hel] at hj
      have hsp : vcells (vs.eraseIdx i) = vcells (vs.take i) ++ vcells (vs.drop (i + 1)) := by rw [List.eraseIdx_eq_take_drop_succ, vcells_app]
      rw [hsp, ← hW2, World.cell?_setCells_out _ _ _ _ _ (fun _ _ => .inl (by simp only; omega))]
      by_cases h1 : j < i * 4
      · rw [List.getElem?_append_left (by omega), ← hW1, World.cell?_setCells_out _ _ _ _ _ (fun _ _ => .inl (by simp only; omega))]
        show w.cell? ⟨g, j, none⟩ = _
        rw [hcell j (by omega), hspl0, List.getElem?_append_left (by omega)]
      · rw [List.getElem?_append_right (by omega), htl]
        have := World.cell?_setCells_in g (vcells (vs.drop (i + 1))) (0 + i * 4) w.drew (fun k hk => hsome _ (by omega)) (j - i * 4) (by omega)
        rw [show 0 + i * 4 + (j - i * 4) = j by omega, hW1] at this
        rw [this, List.getElem?_eq_getElem]
set_option maxHeartbeats 4000000 in
set_option maxRecDepth 100000 in
theorem sDeleteOf {w : World} {g n i : Nat} {vs : List Qv} (h : OwnQv w (.slice (some ⟨g, 0, none⟩) n n) vs (some g)) (hn : vs.length = n) (hi : i < n) (hb : n ≤ 32) :
    Calls Try.prog 27 #[.slice (some ⟨g, 0, none⟩) n n, .int .i64 i, .int .i64 ((i : Int) + 1)] w fun e w' => e = .returned (.slice (some ⟨g, 0, none⟩) (n - 1) n) ∧ OwnQv w' (.slice (some ⟨g, 0, none⟩) (n - 1) n) (vs.eraseIdx i) (some g) ∧ w.grownBy w' (some g) := by
  obtain ⟨W1, W2, hsrc, hlen, hspare, hw1, hclr, hown, hgr⟩ := delW h hn hi hb
  obtain ⟨i0, hi0, hz0, hz1, hz2⟩ := info_parts Try.info37
  have HF : Hid (OwnQv W2 (.slice (some ⟨g, 0, none⟩) (n - 1) n) (vs.eraseIdx i) (some g) ∧ w.grownBy W2 (some g)) := ⟨hown, hgr⟩
  have HW1 := Hid.mkT hw1
  have HSRC := Hid.mkT hsrc
  have HLEN := Hid.mkT hlen
  have HSP := Hid.mkT hspare
  have HONE := Hid.mkT (vcells_one (vs.drop (i + 1)))
  have hcl := hclr 0
  have hcl2 := fun ty => hclr ty
  clear h hn hsrc hlen hspare hw1 hown hgr hclr hcl
  obtain ⟨news, hnews⟩ : ∃ news, vcells (vs.drop (i + 1)) = news := ⟨_, rfl⟩
  rw [hnews] at HW1 HSRC HLEN HSP HONE
  clear hnews
  have hij : ¬ ((i : Int) = (i : Int) + 1) := by omega
  have hw1 : IntKind.i64.wrap ((i : Int) + 1) = (i : Int) + 1 := by rw [IntKind.wrap_i64]; omega
  have hb1 : (0 : Int) ≤ (i : Int) + 1 := by omega
  have hb2 : (i : Int) + 1 ≤ (n : Int) := by omega
  have htn : ((i : Int) + 1).toNat = i + 1 := by omega
  have hin : i ≤ n := by omega
  have hni : ¬ n = i := by omega
  have hnn : i + (n - (i + 1)) = n - 1 := by omega
  obtain ⟨A, hA⟩ : ∃ A : Addr, (n = i + 1 ∧ A = ⟨g, 0, none⟩) ∨ (n ≠ i + 1 ∧ A = ⟨g, (i + 1) * 4, none⟩) := by
    by_cases e : n = i + 1
    · exact ⟨_, .inl ⟨e, rfl⟩⟩
    · exact ⟨_, .inr ⟨e, rfl⟩⟩
  have HS2 := Hid.mkT (HSRC.out A hA)
  clear HSRC
  rcases hA with ⟨e, rfl⟩ | ⟨e, rfl⟩
  · subst e
    have hm1 : i + 1 - (i + 1) = 0 := by omega
    have hm2 : i + 1 - 1 = i := by omega
    have hm3 : ¬ i + 1 = i := by omega
    have hm4 : i + 1 - i = 1 := by omega
    have hii : (i : Int) ≤ (i : Int) + 1 := by omega
    rw [hm1] at HLEN
    rw [hm2] at HF hcl2
    simp only [hm2]
    go_enter Try.func27, Try.ntmps27
    go_wp2_with fail
    go_region_law (refine step_append_room rfl (.tmp 22) (.tmp 25) 22 rfl 37 i0 4 Try.underlying22 hi0 hz1 g 0 i (i + 1) (by simp [Act.eval, Act.put]) ⟨g, 0, none⟩ 0 0 news (by simp [Act.eval, Act.put]) HLEN.out HS2.out HONE.out (by omega) HSP.out ?_; rw [HW1.out])
    go_wp2
    go_ret
    exact ⟨rfl, HF.out⟩
  · have e' : ¬ n = i + 1 := e
    have hzn : ((n - 1 : Nat) : Int) ≤ (n : Int) := by omega
    have hn1 : ¬ n = n - 1 := by omega
    have hnm : n - (n - 1) = 1 := by omega
    go_enter Try.func27, Try.ntmps27
    go_wp2_with fail
    go_region_law (refine step_append_room rfl (.tmp 22) (.tmp 25) 22 rfl 37 i0 4 Try.underlying22 hi0 hz1 g 0 i n (by simp [Act.eval, Act.put]) ⟨g, (i + 1) * 4, none⟩ (n - (i + 1)) (n - (i + 1)) news (by simp [Act.eval, Act.put]) HLEN.out HS2.out HONE.out (by omega) HSP.out ?_; rw [HW1.out, hnn])
    go_wp2
    go_ret
    exact ⟨rfl, HF.out⟩
/-- A queue has gone. -/
theorem del_tur {base : Nat} {w w' : World} {l : List Qu} {z : Int} {f : Bool} {g n : Nat} {vs : List Qv} {rs : List (Option Nat)} (h : TurN base w (.slice (some ⟨g, 0, none⟩) n n) ⟨l, z, f⟩ vs (some g) rs) {k : Nat} (hk : k < l.length) (hn : l.length = n) (hb : base ≤ w.heap.size) (hfew : n ≤ 32)
    (ho : OwnQv w' (.slice (some ⟨g, 0, none⟩) (n - 1) n) (vs.eraseIdx k) (some g)) (kg : w.grownBy w' (some g)) (z' : Int) (hz' : I64 z') (f' : Bool) :
    ∃ rs', TurN base w' (.slice (some ⟨g, 0, none⟩) (n - 1) n) ⟨l.eraseIdx k, z', f'⟩ (vs.eraseIdx k) (some g) rs' := by
  have hvl : vs.length = l.length := h.len
  have hrl : rs.length = l.length := by rw [h.mem.len]; simp
  have hl1 : (l.eraseIdx k).length = n - 1 := by rw [List.length_eraseIdx, if_pos (by omega)]; omega
  have hl2 : (vs.eraseIdx k).length = n - 1 := by rw [List.length_eraseIdx, if_pos (by omega)]; omega
  have hl3 : (rs.eraseIdx k).length = n - 1 := by rw [List.length_eraseIdx, if_pos (by omega)]; omega
  have hm := h.mem.pick (vs' := vs.eraseIdx k) (fl' := (l.eraseIdx k).map (·.costs)) (rs' := rs.eraseIdx k) (by simp [hvl]) ho kg (.inl rfl) hb (by rw [List.length_map, hl1, hl2]) (by rw [hl3, hl2]) (fun j => if j < k then some j else some (j + 1))
    (fun j m hj hs => by
      rw [hl2] at hj
      rw [getD_map (by rw [hl1]; exact hj), getD_delQ, getD_delQ, getD_delQ]
      by_cases h1 : j < k
      · rw [if_pos h1] at hs
        simp only [Option.some.injEq] at hs
        subst hs
        rw [if_pos h1, if_pos h1, if_pos h1]
        exact ⟨by omega, rfl, (getD_map (l := l) (show j < l.length by omega)).symm, rfl⟩
      · rw [if_neg h1] at hs
        simp only [Option.some.injEq] at hs
        subst hs
        rw [if_neg h1, if_neg h1, if_neg h1]
        exact ⟨by omega, rfl, (getD_map (l := l) (show j + 1 < l.length by omega)).symm, rfl⟩)
    (fun j hj hs => by
      by_cases h1 : j < k
      · rw [if_pos h1] at hs; cases hs
      · rw [if_neg h1] at hs; cases hs)
    (fun i j m hi hj s1 s2 => by
      by_cases a1 : i < k
      · rw [if_pos a1] at s1
        by_cases a2 : j < k
        · rw [if_pos a2] at s2; simp only [Option.some.injEq] at s1 s2; omega
        · rw [if_neg a2] at s2; simp only [Option.some.injEq] at s1 s2; omega
      · rw [if_neg a1] at s1
        by_cases a2 : j < k
        · rw [if_pos a2] at s2; simp only [Option.some.injEq] at s1 s2; omega
        · rw [if_neg a2] at s2; simp only [Option.some.injEq] at s1 s2; omega)
  have hqq : ∀ j, (⟨l.eraseIdx k, z', f'⟩ : Tr).q j = if j < k then (⟨l, z, f⟩ : Tr).q j else (⟨l, z, f⟩ : Tr).q (j + 1) := fun j => getD_delQ _ _ _ _
  refine ⟨_, hm, by rw [hl2, ← hl1], fun j hj => ?_, fun j hj => ?_, by show (l.eraseIdx k).length ≤ _; rw [hl1]; omega, hz'⟩
  · have hj' : j < n - 1 := by rw [← hl1]; exact hj
    rw [hqq j, getD_delQ]
    by_cases h1 : j < k
    · rw [if_pos h1, if_pos h1]; exact h.same j (by show j < l.length; omega)
    · rw [if_neg h1, if_neg h1]; exact h.same (j + 1) (by show j + 1 < l.length; omega)
  · have hj' : j < n - 1 := by rw [← hl1]; exact hj
    rw [hqq j]
    by_cases h1 : j < k
    · rw [if_pos h1]; exact h.ok j (by show j < l.length; omega)
    · rw [if_neg h1]; exact h.ok (j + 1) (by show j + 1 < l.length; omega)
theorem lev_no {t : Tr} (id : Int) (h : chkT t = 0) (hp : placeL t.qs id = -1) : levT t id = (Tr.zero, 190) := by unfold levT; rw [if_neg (by simp [h]), if_pos (by omega)]
theorem lev_yes {t : Tr} (id : Int) (h : chkT t = 0) {k : Nat} (hp : placeL t.qs id = k) : levT t id = (⟨t.qs.eraseIdx k, levAt t k, if (k : Int) = t.at' then false else t.fresh⟩, 0) := by
  unfold levT
  rw [if_neg (by simp [h]), if_neg (by omega), hp]
  rfl
end Go.Proofs.Ytelhjdplghpnbab
