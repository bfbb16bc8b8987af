import Derived.Test.YtpeejgnkdoeijaaMcR
/-! manifest: the law's movedCat, backCat. -/
namespace Go.Proofs.Ytpeejgnkdoeijaa
open Go.RowKit Plain
set_option linter.unusedVariables false
set_option linter.unusedSimpArgs false

/-- The copy while it is written to. -/
structure Cv (w0 w : World) (g c n : Nat) (l : List Te) : Prop where
  cat : CatW w g c l
  len : l.length = n + 1
  ok : ∀ x ∈ l, x.Ok
  mkT : l.getD n Te.zero = markT
  chg : Chg (fun k => k = g) w0 w
theorem Cv.drew {w0 w : World} {g c n : Nat} {l : List Te} (h : Cv w0 w g c n l) : Cv w0 w.drew g c n l :=
  ⟨OwnTe.of_block h.cat (Nat.le_refl _) fun _ _ => rfl, h.len, h.ok, h.mkT, ⟨h.chg.os, h.chg.tape, h.chg.output, h.chg.size, h.chg.block⟩⟩
theorem Cv.idT {w0 w : World} {g c n : Nat} {l : List Te} (h : Cv w0 w g c n l) {j : Nat} (hj : j < n) {z : Int} (hz : I64 z) : Cv w0 (w.setCell ⟨g, j * 4, none⟩ (.int .i64 z)) g c n (l.set j ⟨z, (l.getD j Te.zero).name, (l.getD j Te.zero).lim, (l.getD j Te.zero).hor⟩) := by
  have hgr := grow_setC w g (j * 4) (.int .i64 z)
  have hjl : j < l.length := by rw [h.len]; omega
  refine ⟨?_, by simp [h.len], fun y hy => ?_, ?_, h.chg.grown hgr fun g' e => .inl (by injection e with e; exact e.symm)⟩
  · unfold CatW
    rw [List.length_set]; exact OwnTe.putId h.cat hjl z
  · rcases List.mem_or_eq_of_mem_set hy with h1 | h1
    · exact h.ok y h1
    · have hx := h.ok (l.getD j Te.zero) (by simp [hjl])
      rw [h1]; exact ⟨hz, hx.name, hx.lim, hx.hor⟩
  · rw [List.getD_eq_getElem?_getD, List.getElem?_set_ne (by omega), ← List.getD_eq_getElem?_getD]; exact h.mkT
theorem Cv.all {w0 w : World} {g c n : Nat} {l : List Te} (h : Cv w0 w g c n l) {j : Nat} (hj : j < n) {x : Te} (hx : x.Ok) : Cv w0 (w.setCells g (j * 4) x.cells) g c n (l.set j x) := by
  have hgr := grow_setCells w g (j * 4) x.cells
  have hjl : j < l.length := by rw [h.len]; omega
  refine ⟨?_, by simp [h.len], fun y hy => ?_, ?_, h.chg.grown hgr fun g' e => .inl (by injection e with e; exact e.symm)⟩
  · unfold CatW
    rw [List.length_set]; exact OwnTe.putAll h.cat hjl x
  · rcases List.mem_or_eq_of_mem_set hy with h1 | h1
    · exact h.ok y h1
    · rw [h1]; exact hx
  · rw [List.getD_eq_getElem?_getD, List.getElem?_set_ne (by omega), ← List.getD_eq_getElem?_getD]; exact h.mkT
theorem hresMC : Try.f11.results = #[.cell 2 28] := by kernel_rfl
set_option maxHeartbeats 8000000 in
set_option maxRecDepth 100000 in
theorem movedCatOf (nid : Int) (g c n : Nat) (l0 : List Te) (w : World) (h : Cv w w g c n l0) (hn : n ≤ 4398046511000) :
    Calls Try.prog 11 #[.agg #[.int .i64 nid, .slice (some ⟨g, 0, none⟩) n c]] w fun e w' => e = .returned (.agg #[.int .i64 nid, .slice (some ⟨g, 0, none⟩) n c]) ∧ ∃ l', Cv w w' g c n l' := by
  have hg : g < w.heap.size := OwnTe.lt h.cat
  obtain ⟨w0, hw0⟩ : ∃ w0, w.alloc (.cells #[.int .i64 nid, .slice (some ⟨g, 0, none⟩) n c] 28) = w0 := ⟨_, rfl⟩
  have hs0 : w0.heap.size = w.heap.size + 1 := by rw [← hw0]; simp
  have HB0 : Hid (Below w.heap.size w w0) := by rw [← hw0]; exact (Below.refl _ _).alloc (Nat.le_refl _) _
  have HMC0 : Hid (CC w0 w.heap.size nid (.slice (some ⟨g, 0, none⟩) n c)) := by rw [← hw0]; exact CC.made _ _ _
  obtain ⟨w00, hw00⟩ : ∃ w00, w0.alloc (.cells #[.int .i64 0, .slice none 0 0] 28) = w00 := ⟨_, rfl⟩
  have hs00 : w00.heap.size = w.heap.size + 1 + 1 := by rw [← hw00]; simp [hs0]
  have HB00 : Hid (Below w.heap.size w w00) := by rw [← hw00]; exact below_step HB0.out ((Below.refl _ _).alloc (Nat.le_refl _) _)
  have HMC : Hid (CC w00 w.heap.size nid (.slice (some ⟨g, 0, none⟩) n c)) := HMC0.out.block (by rw [← hw00]; exact heap_alloc_old _ _ (by omega))
  have HZ0 : Hid (CC w00 (w.heap.size + 1) 0 (.slice none 0 0)) := by
    unfold Hid
    rw [← hw00, ← hs0]; exact CC.made w0 0 _
  have HM0 : Hid (Cv w00 w00 g c n l0) := ⟨OwnTe.later h.cat HB00.out, h.len, h.ok, h.mkT, Chg.refl _ _⟩
  have HCB : Hid (∀ u X, Chg (fun k => k = g) w00 u → X < w.heap.size + 1 + 1 → w.heap.size ≤ X → u.heap[X]? = w00.heap[X]?) := fun u X hu h1 h2 => hu.block X (by omega) (by intro e; omega)
  clear HMC0 h
  obtain ⟨m0, m1, -⟩ := HMC.out
  go_enter Try.func11, Try.ntmps11
  go_wp2
  go_loopw [3] (fun i wr => ∃ (k : Nat) (l : List Te), k ≤ n ∧ i = .int .i64 k ∧ Hid (Cv w00 wr g c n l)) (fun i _ => n - (intOf i).toNat)
  case atStart => exact ⟨0, l0, Nat.zero_le _, rfl, HM0.out⟩
  case round =>
    obtain ⟨k, l, hk, rfl, HV⟩ := hrel
    clear m0 m1
    obtain ⟨m0, m1, -⟩ := HMC.out.block (HCB.out wr _ HV.out.chg (by omega) (Nat.le_refl _))
    by_cases hlt : k < n
    · obtain ⟨d0, d1, d2, d3⟩ := OwnTe.at HV.out.cat (j := k) (by rw [HV.out.len]; omega)
      have f0 := OwnTe.fz HV.out.cat (j := k * 4) (by rw [HV.out.len]; omega)
      have HN : Hid (∀ y, I64 y → Cv w00 (wr.setCell ⟨g, k * 4, none⟩ (.int .i64 y)).drew g c n (l.set k ⟨y, (l.getD k Te.zero).name, (l.getD k Te.zero).lim, (l.getD k Te.zero).hor⟩)) := fun y hy => (HV.out.idT hlt hy).drew
      generalize (l.getD k Te.zero).id = z at d0
      have hki : (k : Int) < (n : Int) := by omega
      clear d1 d2 d3
      go_wp2
      go_region
      all_goals go_wp2
      exact ⟨⟨k + 1, _, by omega, by go_num, HN.out _ (wrapI _)⟩, by simp [intOf]; omega⟩
    · have hki : ¬ (k : Int) < (n : Int) := by omega
      have HZ : CC wr (w.heap.size + 1) 0 (.slice none 0 0) := HZ0.out.block (HCB.out wr _ HV.out.chg (by omega) (by omega))
      have HST : Hid (CC _ (w.heap.size + 1) nid (.slice (some ⟨g, 0, none⟩) n c)) := HZ.stored (n := nid) (.slice (some ⟨g, 0, none⟩) n c)
      have HFIN : Hid (∃ l', Cv w (wr.setCells (w.heap.size + 1) 0 [.int .i64 nid, .slice (some ⟨g, 0, none⟩) n c]) g c n l') := by
        have h := HV.out
        have hsz := h.chg.size
        have hgr := grow_setCells wr (w.heap.size + 1) 0 [.int .i64 nid, .slice (some ⟨g, 0, none⟩) n c]
        refine ⟨l, OwnTe.of_block h.cat hgr.size fun g' e => ?_, h.len, h.ok, h.mkT, ((Chg.ofBelow HB00.out).trans h.chg).grown hgr fun g' e => .inr (by cases e; omega)⟩
        cases e; exact hgr.block g (OwnTe.lt h.cat) (fun e => by cases e; omega)
      obtain ⟨z0, z1, zf⟩ := HZ
      have zf0 := zf 0
      have zf1 := zf 1
      clear zf
      go_wp2
      refine bodyPost_ret (v := .agg #[.int .i64 nid, .slice (some ⟨g, 0, none⟩) n c]) ?_ rfl ⟨rfl, HFIN.out⟩
      obtain ⟨p0, p1, -⟩ := HST.out
      simp only [results, hresMC]
      go_simp
set_option maxHeartbeats 8000000 in
set_option maxRecDepth 100000 in
theorem backCatOf (ct : Ct) (g c : Nat) (l0 : List Te) (v : Value) (W w : World) (h : Cv w w g c ct.tops.length l0) (hW : Below W.heap.size W w) (hgW : W.heap.size ≤ g) (h2 : TesAt W v ct.tops) :
    Calls Try.prog 12 #[ct.agg (.slice (some ⟨g, 0, none⟩) ct.tops.length c), ct.agg v] w fun e w' => e = .returned (.tuple #[]) ∧ Cv w w' g c ct.tops.length (ct.tops ++ [markT]) := by
  have hg : g < w.heap.size := OwnTe.lt h.cat
  obtain ⟨nid, pd⟩ := ct
  simp only at h h2 ⊢
  obtain ⟨w0, hw0⟩ : ∃ w0, w.alloc (.cells #[.int .i64 nid, .slice (some ⟨g, 0, none⟩) pd.length c] 28) = w0 := ⟨_, rfl⟩
  have hs0 : w0.heap.size = w.heap.size + 1 := by rw [← hw0]; simp
  have HB0 : Hid (Below w.heap.size w w0) := by rw [← hw0]; exact (Below.refl _ _).alloc (Nat.le_refl _) _
  have HMC0 : Hid (CC w0 w.heap.size nid (.slice (some ⟨g, 0, none⟩) pd.length c)) := by rw [← hw0]; exact CC.made _ _ _
  obtain ⟨w00, hw00⟩ : ∃ w00, w0.alloc (.cells #[.int .i64 nid, v] 28) = w00 := ⟨_, rfl⟩
  have hs00 : w00.heap.size = w.heap.size + 1 + 1 := by rw [← hw00]; simp [hs0]
  have HB00 : Hid (Below w.heap.size w w00) := by rw [← hw00]; exact below_step HB0.out ((Below.refl _ _).alloc (Nat.le_refl _) _)
  have HMC : Hid (CC w00 w.heap.size nid (.slice (some ⟨g, 0, none⟩) pd.length c)) := HMC0.out.block (by rw [← hw00]; exact heap_alloc_old _ _ (by omega))
  have HMD : Hid (CC w00 (w.heap.size + 1) nid v) := by
    unfold Hid
    rw [← hw00, ← hs0]; exact CC.made w0 nid v
  have HM0 : Hid (Cv w00 w00 g c pd.length l0) := ⟨OwnTe.later h.cat HB00.out, h.len, h.ok, h.mkT, Chg.refl _ _⟩
  have HCB : Hid (∀ u X, Chg (fun k => k = g) w00 u → X < w.heap.size + 1 + 1 → w.heap.size ≤ X → u.heap[X]? = w00.heap[X]?) := fun u X hu h1 h2 => hu.block X (by omega) (by intro e; omega)
  have HWB : Hid (∀ u, Chg (fun k => k = g) w00 u → Below W.heap.size W u) := fun u hu =>
    (hW.trans (HB00.out.mono hW.size)).trans (hu.below (by have := hW.size; omega) (fun k hk => by subst hk; assumption))
  have HPS : Hid (∀ u j, Chg (fun k => k = g) w00 u → j < pd.length → ∃ b o, (∃ c, v = .slice (some ⟨b, o, none⟩) pd.length c) ∧ Te.CellsAt u b (o + j * 4) (pd.getD j Te.zero) ∧ (pd.getD j Te.zero).Ok) := fun u j hu hj => by
    obtain ⟨a, c, e, _, hok, hc⟩ := h2.later (HWB.out u hu)
    obtain ⟨b, o, e2, hc⟩ := hc (by intro e; rw [e] at hj; simp at hj)
    exact ⟨b, o, ⟨c, by rw [e, e2]⟩, hc j hj, hok _ (by simp [hj])⟩
  have hn2 : pd.length ≤ 4398046511000 := by obtain ⟨_, _, _, h, _⟩ := h2; exact h
  obtain ⟨a2, k2, rfl⟩ : ∃ a c, v = .slice a pd.length c := by obtain ⟨a, c, e, _⟩ := h2; exact ⟨a, c, e⟩
  clear HMC0 h h2
  obtain ⟨m0, m1, -⟩ := HMC.out
  obtain ⟨y0, y1, -⟩ := HMD.out
  unfold Ct.agg
  simp only
  go_enter Try.func12, Try.ntmps12
  go_wp2
  go_loopw [4] (fun i wr => ∃ (q : Nat) (l' : List Te), q ≤ pd.length ∧ i = .int .i64 q ∧ Hid (∀ j, j < q → l'.getD j Te.zero = pd.getD j Te.zero) ∧ Hid (Cv w00 wr g c pd.length l')) (fun i _ => pd.length - (intOf i).toNat)
  case atStart => exact ⟨0, l0, Nat.zero_le _, rfl, fun j hj => absurd hj (Nat.not_lt_zero _), HM0.out⟩
  case round =>
    obtain ⟨q, l', hq, rfl, HEQ, HV⟩ := hrel
    clear m0 m1 y0 y1
    obtain ⟨m0, m1, -⟩ := HMC.out.block (HCB.out wr _ HV.out.chg (by omega) (Nat.le_refl _))
    obtain ⟨y0, y1, -⟩ := HMD.out.block (HCB.out wr _ HV.out.chg (by omega) (by omega))
    by_cases hlt2 : q < pd.length
    · obtain ⟨d0, d1, d2, d3⟩ := OwnTe.at HV.out.cat (j := q) (by rw [HV.out.len]; omega)
      have f0 := OwnTe.fz HV.out.cat (j := q * 4) (by rw [HV.out.len]; omega)
      have f1 := OwnTe.fz HV.out.cat (j := q * 4 + 1) (by rw [HV.out.len]; omega)
      have f2 := OwnTe.fz HV.out.cat (j := q * 4 + 2) (by rw [HV.out.len]; omega)
      have f3 := OwnTe.fz HV.out.cat (j := q * 4 + 3) (by rw [HV.out.len]; omega)
      obtain ⟨b, o, ⟨c, hcc⟩, ⟨e0, e1, e2, e3⟩, e4⟩ := HPS.out wr q HV.out.chg hlt2
      injection hcc with hc1 hc2 hc3
      subst hc1 hc3
      have HNX : Hid (Cv w00 ((((wr.setCell ⟨g, q * 4, none⟩ (.int .i64 (pd.getD q Te.zero).id)).setCell ⟨g, q * 4 + 1, none⟩ (.string (pd.getD q Te.zero).name)).setCell ⟨g, q * 4 + 2, none⟩ (.int .i64 (pd.getD q Te.zero).lim)).setCell ⟨g, q * 4 + 3, none⟩ (.int .i64 (pd.getD q Te.zero).hor)).drew g c pd.length (l'.set q (pd.getD q Te.zero)) ∧ ∀ j, j < q + 1 → (l'.set q (pd.getD q Te.zero)).getD j Te.zero = pd.getD j Te.zero) := by
        refine ⟨(HV.out.all hlt2 e4).drew, fun j hj => ?_⟩
        by_cases hjk : j = q
        · subst hjk
          rw [List.getD_eq_getElem?_getD, List.getElem?_set_self (by rw [HV.out.len]; omega)]; rfl
        · rw [List.getD_eq_getElem?_getD, List.getElem?_set_ne (Ne.symm hjk), ← List.getD_eq_getElem?_getD]
          exact HEQ.out j (by omega)
      generalize hS : l'.set q (pd.getD q Te.zero) = lS at HNX
      generalize (pd.getD q Te.zero).id = x1 at e0 HNX
      generalize (pd.getD q Te.zero).name = x2 at e1 HNX
      generalize (pd.getD q Te.zero).lim = x3 at e2 HNX
      generalize (pd.getD q Te.zero).hor = x4 at e3 HNX
      generalize (l'.getD q Te.zero).id = u1 at d0
      generalize (l'.getD q Te.zero).name = u2 at d1
      generalize (l'.getD q Te.zero).lim = u3 at d2
      generalize (l'.getD q Te.zero).hor = u4 at d3
      have hqi : (q : Int) < (pd.length : Int) := by omega
      clear e4 hS
      go_wp2
      go_region
      all_goals go_wp2
      exact ⟨⟨q + 1, lS, by omega, by go_num, HNX.out.2, HNX.out.1⟩, by simp [intOf]; omega⟩
    · have hqi : ¬ (q : Int) < (pd.length : Int) := by omega
      obtain rfl : q = pd.length := by omega
      have HFIN : Hid (Cv w wr g c pd.length (pd ++ [markT])) := by
        have h := HV.out
        have hl : l' = pd ++ [markT] := by
          refine List.ext_getElem (by simp [h.len]) fun j hj1 hj2 => ?_
          have e1 : l'[j] = l'.getD j Te.zero := by simp [hj1]
          rw [e1]
          by_cases hjs : j < pd.length
          · rw [HEQ.out j hjs, List.getElem_append_left hjs]; simp [hjs]
          · obtain rfl : j = pd.length := by rw [h.len] at hj1; omega
            rw [h.mkT]; simp
        rw [← hl]
        exact ⟨h.cat, h.len, h.ok, h.mkT, (Chg.ofBelow HB00.out).trans h.chg⟩
      clear HV HEQ
      go_wp2
      go_end0
      exact ⟨rfl, HFIN.out⟩
end Go.Proofs.Ytpeejgnkdoeijaa
