import Derived.Test.YtpeejgnkdoeijaaMcN
/-! manifest: the law's copiedCat. -/
namespace Go.Proofs.Ytpeejgnkdoeijaa
open Go.RowKit Plain
set_option linter.unusedVariables false
set_option linter.unusedSimpArgs false

/-- A catalogue's cells at a place. -/
structure CC (w : World) (X : Nat) (n : Int) (v : Value) : Prop where
  c0 : w.cell? ⟨X, 0, none⟩ = some (.int .i64 n)
  c1 : w.cell? ⟨X, 1, none⟩ = some v
  fz : ∀ j, w.frozen? ⟨X, j, none⟩ = false
theorem CC.lt {w : World} {X : Nat} {n : Int} {v : Value} (h : CC w X n v) : X < w.heap.size := cell_lt h.c0
theorem CC.block {w w' : World} {X : Nat} {n : Int} {v : Value} (h : CC w X n v) (hb : w'.heap[X]? = w.heap[X]?) : CC w' X n v := by
  have hc : ∀ j, w'.cell? ⟨X, j, none⟩ = w.cell? ⟨X, j, none⟩ := fun j => World.cell?_of_block (w := w) (a := ⟨X, j, none⟩) hb
  exact ⟨by rw [hc]; exact h.c0, by rw [hc]; exact h.c1, fun j => by rw [World.frozen?_of_block (w := w) (a := ⟨X, j, none⟩) hb]; exact h.fz j⟩
theorem CC.set1 {w : World} {X : Nat} {n : Int} {u : Value} (h : CC w X n u) (v : Value) : CC (w.setCell ⟨X, 1, none⟩ v) X n v := by
  have ho : (w.setCell ⟨X, 1, none⟩ v).cell? ⟨X, 0, none⟩ = w.cell? ⟨X, 0, none⟩ := World.cell?_setCells_out X [v] 1 w ⟨X, 0, none⟩ (fun _ _ => by show 0 < 1 ∨ 2 ≤ 0; omega)
  refine ⟨by rw [ho]; exact h.c0, ?_, fun j => (World.frozen?_setCells X [v] 1 w ⟨X, j, none⟩).trans (h.fz j)⟩
  exact World.cell?_setCells_in X [v] 1 w (fun q hq => by simp at hq; subst hq; rw [Nat.add_zero, h.c1]; rfl) 0 (by simp)
theorem CC.made (w : World) (n : Int) (v : Value) : CC (w.alloc (.cells #[.int .i64 n, v] 28)) w.heap.size n v :=
  ⟨World.cell?_alloc_at _ _ _ _ rfl, World.cell?_alloc_at _ _ _ _ rfl, fun j => World.frozen?_alloc_at _ _ _ _ rfl⟩
theorem CC.stored {w : World} {X : Nat} {n z : Int} {u : Value} (h : CC w X z u) (v : Value) : CC ((w.setCell ⟨X, 0, none⟩ (.int .i64 n)).setCell ⟨X, 1, none⟩ v) X n v := by
  have key : ∀ (j : Nat) (hj : j < 2), (w.setCells X 0 [.int .i64 n, v]).cell? ⟨X, 0 + j, none⟩ = some ([Value.int .i64 n, v][j]'(by simpa using hj)) := fun j hj => World.cell?_setCells_in X _ 0 w (fun q hq => by
    have hq7 : q < 2 := by simpa using hq
    rw [Nat.zero_add]
    rcases (by omega : q = 0 ∨ q = 1) with rfl | rfl
    · rw [h.c0]; rfl
    · rw [h.c1]; rfl) j (by simpa using hj)
  exact ⟨key 0 (by decide), key 1 (by decide), fun j => (World.frozen?_setCells X [.int .i64 n, v] 0 w ⟨X, j, none⟩).trans (h.fz j)⟩
theorem hresT : Try.f6.results = #[.cell 2 28] := by kernel_rfl
/-- A copy of a catalogue: its list in a row of its own, a mark behind it. -/
def CatW (w : World) (g c : Nat) (l : List Te) : Prop := OwnTe w (.slice (some ⟨g, 0, none⟩) l.length c) l (some g)
set_option maxHeartbeats 8000000 in
set_option maxRecDepth 100000 in
theorem copiedCatOf (c : Ct) (v : Value) (w : World) (h1 : TesAt w v c.tops) : Calls Try.prog 6 #[c.agg v] w fun e w' => ∃ g cp, e = .returned (c.agg (.slice (some ⟨g, 0, none⟩) c.tops.length cp)) ∧ CatW w' g cp (c.tops ++ [markT]) ∧ w.heap.size ≤ g ∧ Below w.heap.size w w' := by
  have hs1 : c.tops.length ≤ 4398046511000 := by obtain ⟨_, _, _, h, _⟩ := h1; exact h
  have HS1 : Hid (∀ u, Below w.heap.size w u → Src Try.prog 4 26 v c.tops.length (tcells c.tops) u) := fun u hu => srcT (h1.later hu)
  obtain ⟨a1, c1, rfl⟩ : ∃ a cc, v = .slice a c.tops.length cc := by obtain ⟨a, cc, e, _⟩ := h1; exact ⟨a, cc, e⟩
  obtain ⟨nid, l⟩ := c
  simp only at hs1 HS1 h1 ⊢
  obtain ⟨w0, hw0⟩ : ∃ w0, w.alloc (.cells #[.int .i64 nid, .slice a1 l.length c1] 28) = w0 := ⟨_, rfl⟩
  have hs0 : w0.heap.size = w.heap.size + 1 := by rw [← hw0]; simp
  have HB0 : Hid (Below w.heap.size w w0) := by rw [← hw0]; exact (Below.refl _ _).alloc (Nat.le_refl _) _
  have HMC0 : Hid (CC w0 w.heap.size nid (.slice a1 l.length c1)) := by rw [← hw0]; exact CC.made _ _ _
  clear h1
  obtain ⟨w00, hw00⟩ : ∃ w00, w0.alloc (.cells #[.int .i64 0, .slice none 0 0] 28) = w00 := ⟨_, rfl⟩
  have hs00 : w00.heap.size = w.heap.size + 1 + 1 := by rw [← hw00]; simp [hs0]
  have HB00 : Hid (Below w.heap.size w w00) := by rw [← hw00]; exact below_step HB0.out ((Below.refl _ _).alloc (Nat.le_refl _) _)
  have HMC : Hid (CC w00 w.heap.size nid (.slice a1 l.length c1)) := HMC0.out.block (by rw [← hw00]; exact heap_alloc_old _ _ (by omega))
  clear HMC0
  obtain ⟨m0, m1, -⟩ := HMC.out
  unfold Ct.agg
  simp only
  go_enter Try.func6, Try.ntmps6
  go_wp2_with (at_builtin; refine wpList_append_t _ rfl _ _ rfl _ _ [] l (some (w.heap.size + 1 + 1)) rfl rfl ?hOwn ?hSrc ?hLen (.inl (by simp)) ?_)
  case hOwn => rw [← hs00]; exact OwnTe.made w00
  case hSrc => exact HS1.out _ (below_step HB00.out ((Below.refl _ _).alloc (Nat.le_refl _) _))
  case hLen => first | omega | (simp; omega)
  intro v1 w1 g1 ho1 hg1 hr1
  have hsz1 := hg1.size
  simp at hsz1
  have HB1 : Hid (Below w.heap.size w w1) := (below_step HB00.out ((Below.refl _ _).alloc (Nat.le_refl _) _)).trans (grow_below hg1 (by simp; omega) (fun g e => by cases e; omega))
  have hblk1 : ∀ X, X < w.heap.size + 1 + 1 → w1.heap[X]? = w00.heap[X]? := fun X hX => by
    rw [hg1.block X (by simp; omega) (fun e => by cases e; omega)]
    exact heap_alloc_old _ _ (by omega)
  have hg1b : w.heap.size + 1 + 1 ≤ g1 := by
    rcases hr1 with e | e
    · cases e; omega
    · rw [e]; first | omega | (simp; done) | (simp; omega)
  have HMC1 : Hid (CC w1 w.heap.size nid (.slice a1 l.length c1)) := HMC.out.block (hblk1 _ (by omega))
  have HRES1 : Hid (w1.heap[w.heap.size + 1]? = w00.heap[w.heap.size + 1]?) := hblk1 _ (by omega)
  have HO1 : Hid (OwnTe w1 v1 l (some g1)) := by unfold Hid; simpa using ho1
  obtain ⟨n0, n1, -⟩ := HMC1.out
  obtain ⟨b1, d1, rfl⟩ : ∃ a c, v1 = .slice a l.length c := by
    obtain ⟨a, c, e, _, _⟩ := HO1.out.shape
    exact ⟨a, c, e⟩
  clear ho1 hg1 hr1 m0 m1 hblk1
  go_wp2_with (at_builtin; refine wpList_append_t _ rfl _ _ rfl _ _ l [markT] (some g1) rfl rfl ?hOwn ?hSrc ?hLen (.inl (by simp)) ?_)
  case hOwn => exact HO1.out.later ((Below.refl _ _).alloc (Nat.le_refl _) _)
  case hSrc => exact src_te1 w1 markT
  case hLen => first | omega | (simp; omega)
  intro v2 w2 g2 ho2 hg2 hr2
  have hsz2 := hg2.size
  simp at hsz2
  have hg2b : w.heap.size + 1 + 1 ≤ g2 := by
    rcases hr2 with e | e
    · cases e; exact hg1b
    · rw [e]; first | omega | (simp; done) | (simp; omega)
  have HB2 : Hid (Below w.heap.size w w2) := (below_step HB1.out ((Below.refl _ _).alloc (Nat.le_refl _) _)).trans (grow_below hg2 (by simp; omega) (fun g e => by cases e; omega))
  have hblk2 : ∀ X, X < w.heap.size + 1 + 1 → w2.heap[X]? = w1.heap[X]? := fun X hX => by
    rw [hg2.block X (by simp; omega) (fun e => by cases e; omega)]
    exact heap_alloc_old _ _ (by omega)
  have HMC2 : Hid (CC w2 w.heap.size nid (.slice a1 l.length c1)) := HMC1.out.block (hblk2 _ (by omega))
  have HRES2 : Hid (w2.heap[w.heap.size + 1]? = w00.heap[w.heap.size + 1]?) := (hblk2 _ (by omega)).trans HRES1.out
  have HO2 : Hid (OwnTe w2 v2 (l ++ [markT]) (some g2)) := ho2
  obtain ⟨b2, rfl⟩ : ∃ c, v2 = .slice (some ⟨g2, 0, none⟩) (l.length + 1) c := by
    rcases HO2.out with ⟨_, _, e⟩ | ⟨g', c', e1, e2, _⟩
    · simp at e
    · cases e1
      exact ⟨c', by simpa using e2⟩
  have hcap2 : l.length + 1 ≤ b2 := by
    have := HO2.out
    rcases this with ⟨_, _, e⟩ | ⟨g', c', e1, e2, _, h, _⟩
    · simp at e
    · simp at e2; rw [e2.2]; simpa using h
  have hg2l : g2 < w2.heap.size := HO2.out.lt
  have HMC6 := HMC2.out.set1 (.slice (some ⟨g2, 0, none⟩) (l.length + 1) b2)
  have HMC7 := HMC6.set1 (.slice (some ⟨g2, 0, none⟩) l.length b2)
  obtain ⟨w6, hw6⟩ : ∃ u, w2.setCell ⟨w.heap.size, 1, none⟩ (.slice (some ⟨g2, 0, none⟩) (l.length + 1) b2) = u := ⟨_, rfl⟩
  rw [hw6] at HMC6 HMC7
  obtain ⟨w8, hw8⟩ : ∃ u, w6.setCell ⟨w.heap.size, 1, none⟩ (.slice (some ⟨g2, 0, none⟩) l.length b2) = u := ⟨_, rfl⟩
  rw [hw8] at HMC7
  have HB8 : Hid (Below w.heap.size w w8 ∧ w8.heap.size = w2.heap.size ∧ ∀ X, X < w2.heap.size → X ≠ w.heap.size → w8.heap[X]? = w2.heap[X]?) := by
    have e6 : w6.heap.size = w2.heap.size := by rw [← hw6]; exact size_setC _ _ _ _
    have e8 : w8.heap.size = w6.heap.size := by rw [← hw8]; exact size_setC _ _ _ _
    have s6 : Below w.heap.size w w6 := by rw [← hw6]; exact below_set HB2.out (Nat.le_refl _) HB2.out.size
    have s8 : Below w.heap.size w w8 := by rw [← hw8]; exact below_set s6 (Nat.le_refl _) s6.size
    refine ⟨s8, by omega, fun X hX hne => ?_⟩
    have k8 := (grow_setC w6 w.heap.size 1 (.slice (some ⟨g2, 0, none⟩) l.length b2)).block X (by omega) (fun e => hne (by injection e))
    have k6 := (grow_setC w2 w.heap.size 1 (.slice (some ⟨g2, 0, none⟩) (l.length + 1) b2)).block X (by omega) (fun e => hne (by injection e))
    rw [hw8] at k8; rw [hw6] at k6
    exact k8.trans k6
  have HEND : Hid (CatW w8 g2 b2 (l ++ [markT]) ∧ w.heap.size ≤ g2 ∧ w8.heap[w.heap.size + 1]? = w00.heap[w.heap.size + 1]?) := by
    obtain ⟨k1, k2, k3⟩ := HB8.out
    refine ⟨?_, by omega, (k3 _ (by omega) (by omega)).trans HRES2.out⟩
    have := HO2.out.of_block (w' := w8) (by omega) fun g e => by cases e; exact k3 g2 (by omega) (by omega)
    unfold CatW
    simpa using this
  have HZ : CC w8 (w.heap.size + 1) 0 (.slice none 0 0) := by
    have hm : CC w00 (w.heap.size + 1) 0 (.slice none 0 0) := by
      rw [← hw00, ← hs0]; exact CC.made w0 0 _
    exact hm.block HEND.out.2.2
  have HST : Hid (CC _ (w.heap.size + 1) nid (.slice (some ⟨g2, 0, none⟩) l.length b2)) := HZ.stored (n := nid) (.slice (some ⟨g2, 0, none⟩) l.length b2)
  have HFIN : Hid (∃ g cp, Ending.returned (.agg #[.int .i64 nid, .slice (some ⟨g2, 0, none⟩) l.length b2]) = .returned (.agg #[.int .i64 nid, .slice (some ⟨g, 0, none⟩) l.length cp]) ∧ CatW (w8.setCells (w.heap.size + 1) 0 [.int .i64 nid, .slice (some ⟨g2, 0, none⟩) l.length b2]) g cp (l ++ [markT]) ∧ w.heap.size ≤ g ∧ Below w.heap.size w (w8.setCells (w.heap.size + 1) 0 [.int .i64 nid, .slice (some ⟨g2, 0, none⟩) l.length b2])) := by
    obtain ⟨k1, k2, k4⟩ := HEND.out
    obtain ⟨j1, j2, j3⟩ := HB8.out
    have hgr := grow_setCells w8 (w.heap.size + 1) 0 [.int .i64 nid, .slice (some ⟨g2, 0, none⟩) l.length b2]
    refine ⟨g2, b2, rfl, OwnTe.of_block k1 hgr.size fun g e => ?_, k2, j1.trans (grow_below hgr j1.size (fun g e => by cases e; omega))⟩
    cases e; exact hgr.block g2 (by omega) (fun e => by cases e; omega)
  obtain ⟨z0, z1, zf⟩ := HZ
  have zf0 := zf 0
  have zf1 := zf 1
  obtain ⟨s0, s1, sf⟩ := HMC2.out
  obtain ⟨t0, t1, tf⟩ := HMC6
  obtain ⟨y0, y1, yf⟩ := HMC7
  have sf1 := sf 1
  have tf1 := tf 1
  clear ho2 hg2 hr2 n0 n1 sf tf yf hblk2 zf
  go_wp2
  refine bodyPost_ret (v := .agg #[.int .i64 nid, .slice (some ⟨g2, 0, none⟩) l.length b2]) ?_ rfl HFIN.out
  obtain ⟨p0, p1, -⟩ := HST.out
  simp only [results, hresT]
  go_simp
end Go.Proofs.Ytpeejgnkdoeijaa
