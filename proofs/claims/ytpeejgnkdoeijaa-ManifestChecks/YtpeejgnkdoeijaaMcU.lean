import Derived.Test.YtpeejgnkdoeijaaMcS
/-! manifest: the law's kept, keptCat. -/
namespace Go.Proofs.Ytpeejgnkdoeijaa
open Go.RowKit Plain
set_option linter.unusedVariables false
set_option linter.unusedSimpArgs false

theorem ManW.later {w w' : World} {g1 c1 g2 c2 : Nat} {l1 : List Int} {l2 : List Pr} (h : ManW w g1 c1 g2 c2 l1 l2) (hb : Below w.heap.size w w') : ManW w' g1 c1 g2 c2 l1 l2 := ⟨h.s.later hb, h.p.later hb, h.ne⟩
/-- The copy reads as the manifest. -/
theorem ManW.reads {w : World} {g1 c1 g2 c2 : Nat} {s : List Int} {p : List Pr} (h : ManW w g1 c1 g2 c2 (s ++ [-77]) (p ++ [markP])) (hs : s.length ≤ 17592186044400) (hp : p.length ≤ 8796093021000) (ho1 : ∀ z ∈ s, I64 z) (ho2 : ∀ x ∈ p, x.Ok) : IntsAt w (.slice (some ⟨g1, 0, none⟩) s.length c1) s ∧ PrsAt w (.slice (some ⟨g2, 0, none⟩) p.length c2) p := by
  constructor
  · have h1 : IntsAt w _ (s ++ [-77]) := h.s.reads (by simp; omega) (fun z hz => by
      rcases List.mem_append.mp hz with h | h
      · exact ho1 z h
      · simp at h; rw [h]; unfold I64; omega)
    have := h1.take s.length (by simp)
    rwa [List.take_left'] at this
    rfl
  · have := h.p.first (k := p.length) (by simp) (by simp; omega) (fun x hx => by
      rcases List.mem_append.mp hx with h | h
      · exact ho2 x h
      · simp at h; rw [h]; exact ⟨by unfold markP I64; simp, by unfold markP I64; simp, by unfold markP I64; simp⟩)
    rwa [List.take_left'] at this
    rfl
theorem CatW.later {w w' : World} {g c : Nat} {l : List Te} (h : CatW w g c l) (hb : Below w.heap.size w w') : CatW w' g c l := OwnTe.later h hb
theorem CatW.reads {w : World} {g c : Nat} {p : List Te} (h : CatW w g c (p ++ [markT])) (hp : p.length ≤ 4398046510000) (ho2 : ∀ x ∈ p, x.Ok) : TesIn w (.slice (some ⟨g, 0, none⟩) p.length c) p := by
  refine ⟨?_, fun a n c' e => ?_⟩
  · have := OwnTe.first h (k := p.length) (by simp) (by simp; omega) (fun x hx => by
      rcases List.mem_append.mp hx with h | h
      · exact ho2 x h
      · simp at h; rw [h]; exact ⟨by unfold markT I64; simp, by unfold markT; exact Nat.zero_le _, by unfold markT I64; simp, by unfold markT I64; simp⟩)
    rwa [List.take_left'] at this
    rfl
  · injection e with e1 e2 e3
    have := (OwnTe.capP h).2
    simp at this
    omega
set_option maxHeartbeats 8000000 in
set_option maxRecDepth 100000 in
theorem keptOf (m : Mf) (g1 c1 g2 c2 : Nat) (vs vp : Value) (w : World) (h : ManW w g1 c1 g2 c2 (m.segs ++ [-77]) (m.prods ++ [markP])) (h1 : IntsAt w vs m.segs) (h2 : PrsAt w vp m.prods) (hl1 : m.segs.length ≤ 17592186044400) (hl2 : m.prods.length ≤ 8796093021000) :
    Calls Try.prog 17 #[m.agg (.slice (some ⟨g1, 0, none⟩) m.segs.length c1) (.slice (some ⟨g2, 0, none⟩) m.prods.length c2), m.agg vs vp] w fun e w' => e = .returned (.bool true) ∧ Below w.heap.size w w' := by
  have ho1 : ∀ z ∈ m.segs, I64 z := by obtain ⟨_, _, _, _, _, h, _⟩ := h1; exact h
  have ho2 : ∀ x ∈ m.prods, x.Ok := by obtain ⟨_, _, _, _, h, _⟩ := h2; exact h
  have hc1 : m.segs.length + 1 ≤ c1 := by have := h.s.capI.2; simpa using this
  have hc2 : m.prods.length + 1 ≤ c2 := by have := (OwnPr.capP h.p).2; simpa using this
  obtain ⟨w0, hw0⟩ : ∃ w0, w.alloc (m.obj (.slice (some ⟨g1, 0, none⟩) m.segs.length c1) (.slice (some ⟨g2, 0, none⟩) m.prods.length c2)) = w0 := ⟨_, rfl⟩
  have hs0 : w0.heap.size = w.heap.size + 1 := by rw [← hw0]; simp
  have HB0 : Hid (Below w.heap.size w w0) := by rw [← hw0]; exact (Below.refl _ _).alloc (Nat.le_refl _) _
  have HMC0 : Hid (MC w0 w.heap.size m (.slice (some ⟨g1, 0, none⟩) m.segs.length c1) (.slice (some ⟨g2, 0, none⟩) m.prods.length c2)) := by rw [← hw0]; exact MC.made _ _ _ _
  obtain ⟨w00, hw00⟩ : ∃ w00, w0.alloc (m.obj vs vp) = w00 := ⟨_, rfl⟩
  have hs00 : w00.heap.size = w.heap.size + 1 + 1 := by rw [← hw00]; simp [hs0]
  have HB00 : Hid (Below w.heap.size w w00) := by rw [← hw00]; exact below_step HB0.out ((Below.refl _ _).alloc (Nat.le_refl _) _)
  have HMC : Hid (MC w00 w.heap.size m (.slice (some ⟨g1, 0, none⟩) m.segs.length c1) (.slice (some ⟨g2, 0, none⟩) m.prods.length c2)) := HMC0.out.block (by rw [← hw00]; exact heap_alloc_old _ _ (by omega))
  have HMD : Hid (MC w00 (w.heap.size + 1) m vs vp) := by
    unfold Hid
    rw [← hw00, ← hs0]; exact MC.made w0 m vs vp
  have HSM : Hid (Calls Try.prog 36 #[m.agg (.slice (some ⟨g1, 0, none⟩) m.segs.length c1) (.slice (some ⟨g2, 0, none⟩) m.prods.length c2), m.agg vs vp] w00 fun e w' => e = .returned (.bool true) ∧ Below w00.heap.size w00 w') := by
    obtain ⟨r1, r2⟩ := (h.later HB00.out).reads hl1 hl2 ho1 ho2
    exact sameManOf m _ _ _ _ w00 r1 r2 (h1.later HB00.out) (h2.later HB00.out)
  have HK : Hid (∀ u, Below w00.heap.size w00 u → u.cell? ⟨g1, m.segs.length, none⟩ = some (.int .i64 (-77)) ∧ u.cell? ⟨g2, m.prods.length * 3, none⟩ = some (.int .i64 (-77)) ∧ MC u w.heap.size m (.slice (some ⟨g1, 0, none⟩) m.segs.length c1) (.slice (some ⟨g2, 0, none⟩) m.prods.length c2)) := fun u hu => by
    have hm := h.later (below_step HB00.out hu)
    have e1 := (hm.s.cellI (j := m.segs.length) (by simp)).1
    have e2 := (hm.p.at (j := m.prods.length) (by simp)).c0
    refine ⟨by rw [e1]; simp, by rw [e2]; simp [markP], HMC.out.block (hu.block _ (by omega))⟩
  obtain ⟨a1, k1, rfl⟩ : ∃ a c, vs = .slice a m.segs.length c := by obtain ⟨a, c, e, _⟩ := h1; exact ⟨a, c, e⟩
  obtain ⟨a2, k2, rfl⟩ : ∃ a c, vp = .slice a m.prods.length c := by obtain ⟨a, c, e, _⟩ := h2; exact ⟨a, c, e⟩
  clear HMC0 h h1 h2 ho1 ho2
  obtain ⟨m0, m1, m2, m3, m4, m5, m6, -⟩ := HMC.out
  obtain ⟨y0, y1, y2, y3, y4, y5, y6, -⟩ := HMD.out
  obtain ⟨mi, mn, mx, mk, mc, sg, pd⟩ := m
  simp only at HMC HMD HSM HK hl1 hl2 hc1 hc2 m0 m1 m2 m3 m4 m5 m6 y0 y1 y2 y3 y4 y5 y6 hw0 hw00 ⊢
  unfold Mf.agg at HSM ⊢
  simp only at HSM ⊢
  go_enter Try.func17, Try.ntmps17
  go_wp2_with fail
  refine HSM.out.mono ?_
  rintro e w2 ⟨rfl, hb2⟩
  have HB2 : Hid (Below w.heap.size w w2) := below_step HB00.out hb2
  obtain ⟨x1, x2, n0, n1, n2, n3, n4, n5, n6, -⟩ := HK.out w2 hb2
  simp only at n0 n1 n2 n3 n4
  clear hb2
  go_wp2
  go_ret
  exact ⟨rfl, HB2.out⟩
set_option maxHeartbeats 8000000 in
set_option maxRecDepth 100000 in
theorem keptCatOf (ct : Ct) (g c : Nat) (v : Value) (w : World) (h : CatW w g c (ct.tops ++ [markT])) (h2 : TesAt w v ct.tops) (hl2 : ct.tops.length ≤ 4398046510000) :
    Calls Try.prog 18 #[ct.agg (.slice (some ⟨g, 0, none⟩) ct.tops.length c), ct.agg v] w fun e w' => e = .returned (.bool true) ∧ Below w.heap.size w w' := by
  obtain ⟨nid, pd⟩ := ct
  simp only at h h2 hl2 ⊢
  have ho2 : ∀ x ∈ pd, x.Ok := by obtain ⟨_, _, _, _, h, _⟩ := h2; exact h
  have hc2 : pd.length + 1 ≤ c := by have := (OwnTe.capP h).2; simpa using this
  obtain ⟨w0, hw0⟩ : ∃ w0, w.alloc (.cells #[.int .i64 nid, .slice (some ⟨g, 0, none⟩) pd.length c] 28) = w0 := ⟨_, rfl⟩
  have hs0 : w0.heap.size = w.heap.size + 1 := by rw [← hw0]; simp
  have HB0 : Hid (Below w.heap.size w w0) := by rw [← hw0]; exact (Below.refl _ _).alloc (Nat.le_refl _) _
  have HMC0 : Hid (CC w0 w.heap.size nid (.slice (some ⟨g, 0, none⟩) pd.length c)) := by rw [← hw0]; exact CC.made _ _ _
  obtain ⟨w00, hw00⟩ : ∃ w00, w0.alloc (.cells #[.int .i64 nid, v] 28) = w00 := ⟨_, rfl⟩
  have hs00 : w00.heap.size = w.heap.size + 1 + 1 := by rw [← hw00]; simp [hs0]
  have HB00 : Hid (Below w.heap.size w w00) := by rw [← hw00]; exact below_step HB0.out ((Below.refl _ _).alloc (Nat.le_refl _) _)
  have HMC : Hid (CC w00 w.heap.size nid (.slice (some ⟨g, 0, none⟩) pd.length c)) := HMC0.out.block (by rw [← hw00]; exact heap_alloc_old _ _ (by omega))
  have HMD : Hid (CC w00 (w.heap.size + 1) nid v) := by
    unfold Hid
    rw [← hw00, ← hs0]; exact CC.made w0 nid v
  have HSM : Hid (Calls Try.prog 37 #[.agg #[.int .i64 nid, .slice (some ⟨g, 0, none⟩) pd.length c], .agg #[.int .i64 nid, v]] w00 fun e w' => e = .returned (.bool true) ∧ Below w00.heap.size w00 w') := sameCatOf ⟨nid, pd⟩ _ _ w00 ((h.later HB00.out).reads hl2 ho2).1 (h2.later HB00.out)
  have HK : Hid (∀ u, Below w00.heap.size w00 u → u.cell? ⟨g, pd.length * 4, none⟩ = some (.int .i64 (-77)) ∧ CC u w.heap.size nid (.slice (some ⟨g, 0, none⟩) pd.length c)) := fun u hu => by
    have hm := h.later (below_step HB00.out hu)
    have e2 := (OwnTe.at hm (j := pd.length) (by simp)).c0
    exact ⟨by rw [e2]; simp [markT], HMC.out.block (hu.block _ (by omega))⟩
  obtain ⟨a2, k2, rfl⟩ : ∃ a c, v = .slice a pd.length c := by obtain ⟨a, c, e, _⟩ := h2; exact ⟨a, c, e⟩
  clear HMC0 h h2 ho2
  obtain ⟨m0, m1, -⟩ := HMC.out
  obtain ⟨y0, y1, -⟩ := HMD.out
  unfold Ct.agg
  simp only
  go_enter Try.func18, Try.ntmps18
  go_wp2_with fail
  refine HSM.out.mono ?_
  rintro e w2 ⟨rfl, hb2⟩
  have HB2 : Hid (Below w.heap.size w w2) := below_step HB00.out hb2
  obtain ⟨x2, n0, n1, -⟩ := HK.out w2 hb2
  clear hb2
  go_wp2
  go_ret
  exact ⟨rfl, HB2.out⟩
end Go.Proofs.Ytpeejgnkdoeijaa
