import Derived.Test.YteekmmgopnnioaaDoorMcM
import Derived.Deep.Upon
/-! manifest: the law's copied, copiedCat. -/
namespace Go.Proofs.YteekmmgopnnioaaDoor
open Go.RowKit Plain
set_option linter.unusedVariables false
set_option linter.unusedSimpArgs false

def markP : Pr := ⟨-77, 0, 0⟩
def markT : Te := ⟨-77, ByteArray.empty, 0, 0⟩
theorem src_pr1 (W : World) (x : Pr) : Src Tryd.prog 3 29 (.slice (some ⟨W.heap.size, 0, none⟩) 1 1) [x].length (qcells [x]) (W.alloc (.cells #[.int .i64 x.pid, .int .i64 x.seq, .int .i64 x.off] 50)) :=
  Src.ofSlice _ Tryd.underlying29 _ 1 1 _ (by rfl) (fun j u hj => by
    rw [WideShapes.add_plain, World.cell?_alloc_at _ _ _ _ rfl, Nat.zero_add, ← hj]
    simp [qcells, Pr.cells]) (by intro u hu; simp [qcells, Pr.cells] at hu; rcases hu with rfl | rfl | rfl <;> rfl)
theorem src_te1 (W : World) (x : Te) : Src Tryd.prog 4 32 (.slice (some ⟨W.heap.size, 0, none⟩) 1 1) [x].length (tcells [x]) (W.alloc (.cells #[.int .i64 x.id, .string x.name, .int .i64 x.lim, .int .i64 x.hor] 52)) :=
  Src.ofSlice _ Tryd.underlying32 _ 1 1 _ (by rfl) (fun j u hj => by
    rw [WideShapes.add_plain, World.cell?_alloc_at _ _ _ _ rfl, Nat.zero_add, ← hj]
    simp [tcells, Te.cells]) (by intro u hu; simp [tcells, Te.cells] at hu; rcases hu with rfl | rfl | rfl | rfl <;> rfl)
theorem qcells_one (ts : List Pr) : ∀ u ∈ qcells ts, u.oneCell' = true := by
  intro u hu
  simp only [qcells, List.mem_flatMap] at hu
  obtain ⟨x, _, hx⟩ := hu
  simp [Pr.cells] at hx
  rcases hx with rfl | rfl | rfl <;> rfl
theorem tcells_one (ts : List Te) : ∀ u ∈ tcells ts, u.oneCell' = true := by
  intro u hu
  simp only [tcells, List.mem_flatMap] at hu
  obtain ⟨x, _, hx⟩ := hu
  simp [Te.cells] at hx
  rcases hx with rfl | rfl | rfl | rfl <;> rfl
theorem srcP {w : World} {v : Value} {st : List Pr} (h : PrsAt w v st) : Src Tryd.prog 3 29 v st.length (qcells st) w := by
  obtain ⟨a, cap, rfl, hl, hok, hc⟩ := h
  by_cases hne : st = []
  · subst hne
    cases a with
    | none => exact Src.ofNil w Tryd.underlying29 cap
    | some a => exact Src.ofSlice w Tryd.underlying29 a 0 cap [] (by simp) (by simp) (by simp)
  · obtain ⟨b, off, rfl, hcc⟩ := hc hne
    refine Src.ofSlice w Tryd.underlying29 _ _ cap _ (by rw [qcells_len]; omega) (fun j u hj => ?_) (qcells_one st)
    have hjl : j < 3 * st.length := by
      have := (List.getElem?_eq_some_iff.mp hj).1
      rwa [qcells_len] at this
    obtain ⟨q, r, hq, hr, rfl⟩ : ∃ q r, q < st.length ∧ r < 3 ∧ j = q * 3 + r := ⟨j / 3, j % 3, by omega, by omega, by omega⟩
    rw [WideShapes.add_plain, ← hj, qcells_get st q r hq hr]
    obtain ⟨c0, c1, c2⟩ := hcc q hq
    rcases (by omega : r = 0 ∨ r = 1 ∨ r = 2) with rfl | rfl | rfl
    · rw [show off + (q * 3 + 0) = off + q * 3 by omega, c0]; rfl
    · rw [show off + (q * 3 + 1) = off + q * 3 + 1 by omega, c1]; rfl
    · rw [show off + (q * 3 + 2) = off + q * 3 + 2 by omega, c2]; rfl
theorem srcT {w : World} {v : Value} {st : List Te} (h : TesAt w v st) : Src Tryd.prog 4 32 v st.length (tcells st) w := by
  obtain ⟨a, cap, rfl, hl, hok, hc⟩ := h
  by_cases hne : st = []
  · subst hne
    cases a with
    | none => exact Src.ofNil w Tryd.underlying32 cap
    | some a => exact Src.ofSlice w Tryd.underlying32 a 0 cap [] (by simp) (by simp) (by simp)
  · obtain ⟨b, off, rfl, hcc⟩ := hc hne
    refine Src.ofSlice w Tryd.underlying32 _ _ cap _ (by rw [tcells_len]; omega) (fun j u hj => ?_) (tcells_one st)
    have hjl : j < 4 * st.length := by
      have := (List.getElem?_eq_some_iff.mp hj).1
      rwa [tcells_len] at this
    obtain ⟨q, r, hq, hr, rfl⟩ : ∃ q r, q < st.length ∧ r < 4 ∧ j = q * 4 + r := ⟨j / 4, j % 4, by omega, by omega, by omega⟩
    rw [WideShapes.add_plain, ← hj, tcells_get st q r hq hr]
    obtain ⟨c0, c1, c2, c3⟩ := hcc q hq
    rcases (by omega : r = 0 ∨ r = 1 ∨ r = 2 ∨ r = 3) with rfl | rfl | rfl | rfl
    · rw [show off + (q * 4 + 0) = off + q * 4 by omega, c0]; rfl
    · rw [show off + (q * 4 + 1) = off + q * 4 + 1 by omega, c1]; rfl
    · rw [show off + (q * 4 + 2) = off + q * 4 + 2 by omega, c2]; rfl
    · rw [show off + (q * 4 + 3) = off + q * 4 + 3 by omega, c3]; rfl
theorem OwnPr.made (w : World) : OwnPr (w.alloc (.cells #[] 50)) (.slice (some ⟨w.heap.size, 0, none⟩) 0 0) [] (some w.heap.size) :=
  .inr ⟨w.heap.size, 0, rfl, rfl, by simp, by simp, by simp [maxLen], by simp, by simp, by simp⟩
theorem OwnTe.made (w : World) : OwnTe (w.alloc (.cells #[] 52)) (.slice (some ⟨w.heap.size, 0, none⟩) 0 0) [] (some w.heap.size) :=
  .inr ⟨w.heap.size, 0, rfl, rfl, by simp, by simp, by simp [maxLen], by simp, by simp, by simp⟩
/-- A copy of a manifest: its lists in rows of their own, a mark behind each. -/
structure ManW (w : World) (g1 c1 g2 c2 : Nat) (l1 : List Int) (l2 : List Pr) : Prop where
  s : OwnV w (.slice (some ⟨g1, 0, none⟩) l1.length c1) (ints l1) (some g1)
  p : OwnPr w (.slice (some ⟨g2, 0, none⟩) l2.length c2) l2 (some g2)
  ne : g1 ≠ g2
/-- A manifest's cells at a place, two of which may be written. -/
structure MC (w : World) (X : Nat) (m : Mf) (vs vp : Value) : Prop where
  c0 : w.cell? ⟨X, 0, none⟩ = some (.int .i64 m.id)
  c1 : w.cell? ⟨X, 1, none⟩ = some (.int .i64 m.nseg)
  c2 : w.cell? ⟨X, 2, none⟩ = some (.int .i64 m.next)
  c3 : w.cell? ⟨X, 3, none⟩ = some (.int .i64 m.mark)
  c4 : w.cell? ⟨X, 4, none⟩ = some (.int .i64 m.clk)
  c5 : w.cell? ⟨X, 5, none⟩ = some vs
  c6 : w.cell? ⟨X, 6, none⟩ = some vp
  fz : ∀ j, w.frozen? ⟨X, j, none⟩ = false
theorem MC.lt {w : World} {X : Nat} {m : Mf} {vs vp : Value} (h : MC w X m vs vp) : X < w.heap.size := cell_lt h.c0
theorem MC.block {w w' : World} {X : Nat} {m : Mf} {vs vp : Value} (h : MC w X m vs vp) (hb : w'.heap[X]? = w.heap[X]?) : MC w' X m vs vp := by
  have hc : ∀ j, w'.cell? ⟨X, j, none⟩ = w.cell? ⟨X, j, none⟩ := fun j => World.cell?_of_block (w := w) (a := ⟨X, j, none⟩) hb
  exact ⟨by rw [hc]; exact h.c0, by rw [hc]; exact h.c1, by rw [hc]; exact h.c2, by rw [hc]; exact h.c3, by rw [hc]; exact h.c4, by rw [hc]; exact h.c5, by rw [hc]; exact h.c6, fun j => by rw [World.frozen?_of_block (w := w) (a := ⟨X, j, none⟩) hb]; exact h.fz j⟩
theorem MC.set5 {w : World} {X : Nat} {m : Mf} {vs vp : Value} (h : MC w X m vs vp) (v : Value) : MC (w.setCell ⟨X, 5, none⟩ v) X m v vp := by
  have ho : ∀ j, j ≠ 5 → (w.setCell ⟨X, 5, none⟩ v).cell? ⟨X, j, none⟩ = w.cell? ⟨X, j, none⟩ := fun j hj => World.cell?_setCells_out X [v] 5 w ⟨X, j, none⟩ (fun _ _ => by show j < 5 ∨ 6 ≤ j; omega)
  refine ⟨by rw [ho _ (by decide)]; exact h.c0, by rw [ho _ (by decide)]; exact h.c1, by rw [ho _ (by decide)]; exact h.c2, by rw [ho _ (by decide)]; exact h.c3, by rw [ho _ (by decide)]; exact h.c4, ?_, by rw [ho _ (by decide)]; exact h.c6, fun j => (World.frozen?_setCells X [v] 5 w ⟨X, j, none⟩).trans (h.fz j)⟩
  exact World.cell?_setCells_in X [v] 5 w (fun q hq => by simp at hq; subst hq; rw [Nat.add_zero, h.c5]; rfl) 0 (by simp)
theorem MC.set6 {w : World} {X : Nat} {m : Mf} {vs vp : Value} (h : MC w X m vs vp) (v : Value) : MC (w.setCell ⟨X, 6, none⟩ v) X m vs v := by
  have ho : ∀ j, j ≠ 6 → (w.setCell ⟨X, 6, none⟩ v).cell? ⟨X, j, none⟩ = w.cell? ⟨X, j, none⟩ := fun j hj => World.cell?_setCells_out X [v] 6 w ⟨X, j, none⟩ (fun _ _ => by show j < 6 ∨ 7 ≤ j; omega)
  refine ⟨by rw [ho _ (by decide)]; exact h.c0, by rw [ho _ (by decide)]; exact h.c1, by rw [ho _ (by decide)]; exact h.c2, by rw [ho _ (by decide)]; exact h.c3, by rw [ho _ (by decide)]; exact h.c4, by rw [ho _ (by decide)]; exact h.c5, ?_, fun j => (World.frozen?_setCells X [v] 6 w ⟨X, j, none⟩).trans (h.fz j)⟩
  exact World.cell?_setCells_in X [v] 6 w (fun q hq => by simp at hq; subst hq; rw [Nat.add_zero, h.c6]; rfl) 0 (by simp)
theorem MC.made (w : World) (m : Mf) (vs vp : Value) : MC (w.alloc (m.obj vs vp)) w.heap.size m vs vp := by
  obtain ⟨m0, m1, m2, m3, m4, m5, m6⟩ := mobj_cells w m vs vp rfl
  exact ⟨m0, m1, m2, m3, m4, m5, m6, fun j => World.frozen?_alloc_at _ _ _ _ rfl⟩
/-- A manifest is written into the place of a result. -/
theorem MC.stored {w : World} {X : Nat} {z : Mf} {zs zp : Value} (h : MC w X z zs zp) (m : Mf) (vs vp : Value) : MC (((((((w.setCell ⟨X, 0, none⟩ (.int .i64 m.id)).setCell ⟨X, 1, none⟩ (.int .i64 m.nseg)).setCell ⟨X, 2, none⟩ (.int .i64 m.next)).setCell ⟨X, 3, none⟩ (.int .i64 m.mark)).setCell ⟨X, 4, none⟩ (.int .i64 m.clk)).setCell ⟨X, 5, none⟩ vs).setCell ⟨X, 6, none⟩ vp) X m vs vp := by
  have key : ∀ (j : Nat) (hj : j < 7), (w.setCells X 0 [.int .i64 m.id, .int .i64 m.nseg, .int .i64 m.next, .int .i64 m.mark, .int .i64 m.clk, vs, vp]).cell? ⟨X, 0 + j, none⟩ = some ([Value.int .i64 m.id, .int .i64 m.nseg, .int .i64 m.next, .int .i64 m.mark, .int .i64 m.clk, vs, vp][j]'(by simpa using hj)) := fun j hj => World.cell?_setCells_in X _ 0 w (fun q hq => by
    have hq7 : q < 7 := by simpa using hq
    rw [Nat.zero_add]
    rcases (by omega : q = 0 ∨ q = 1 ∨ q = 2 ∨ q = 3 ∨ q = 4 ∨ q = 5 ∨ q = 6) with rfl | rfl | rfl | rfl | rfl | rfl | rfl
    · rw [h.c0]; rfl
    · rw [h.c1]; rfl
    · rw [h.c2]; rfl
    · rw [h.c3]; rfl
    · rw [h.c4]; rfl
    · rw [h.c5]; rfl
    · rw [h.c6]; rfl) j (by simpa using hj)
  exact ⟨key 0 (by decide), key 1 (by decide), key 2 (by decide), key 3 (by decide), key 4 (by decide), key 5 (by decide), key 6 (by decide), fun j => (World.frozen?_setCells X [.int .i64 m.id, .int .i64 m.nseg, .int .i64 m.next, .int .i64 m.mark, .int .i64 m.clk, vs, vp] 0 w ⟨X, j, none⟩).trans (h.fz j)⟩
theorem hresC : Tryd.f9.results = #[.cell 2 31] := by kernel_rfl
theorem OwnV.later {w w' : World} {v : Value} {vs : List Value} {r : Option Nat} (h : OwnV w v vs r) (hb : Below w.heap.size w w') : OwnV w' v vs r := h.of_block hb.size fun g e => hb.block g (by subst e; exact h.lt)
theorem below_set {w u : World} {B X j : Nat} {v : Value} (h : Below B w u) (hX : B ≤ X) (hs : B ≤ u.heap.size) : Below B w (u.setCell ⟨X, j, none⟩ v) := h.trans (grow_below (grow_setC u X j v) hs (fun g e => by cases e; exact hX))
set_option maxHeartbeats 8000000 in
set_option maxRecDepth 100000 in
theorem copiedOf (m : Mf) (vs vp : Value) (w : World) (h1 : IntsAt w vs m.segs) (h2 : PrsAt w vp m.prods) : Calls Tryd.prog 9 #[m.agg vs vp] w fun e w' => ∃ g1 c1 g2 c2, e = .returned (m.agg (.slice (some ⟨g1, 0, none⟩) m.segs.length c1) (.slice (some ⟨g2, 0, none⟩) m.prods.length c2)) ∧ ManW w' g1 c1 g2 c2 (m.segs ++ [-77]) (m.prods ++ [markP]) ∧ w.heap.size ≤ g1 ∧ w.heap.size ≤ g2 ∧ Below w.heap.size w w' := by
  have hs1 : m.segs.length ≤ 17592186044416 := by obtain ⟨_, _, _, _, h, _⟩ := h1; exact h
  have hs2 : m.prods.length ≤ 8796093022000 := by obtain ⟨_, _, _, h, _⟩ := h2; exact h
  have HS1 : Hid (∀ u, Below w.heap.size w u → Src Tryd.prog 1 28 vs (ints m.segs).length (ints m.segs) u) := fun u hu => by
    have := srcI (h1.later hu)
    rwa [← ints_len] at this
  have HS2 : Hid (∀ u, Below w.heap.size w u → Src Tryd.prog 3 29 vp m.prods.length (qcells m.prods) u) := fun u hu => srcP (h2.later hu)
  obtain ⟨a1, c1, rfl⟩ : ∃ a c, vs = .slice a m.segs.length c := by obtain ⟨a, c, e, _⟩ := h1; exact ⟨a, c, e⟩
  obtain ⟨a2, c2, rfl⟩ : ∃ a c, vp = .slice a m.prods.length c := by obtain ⟨a, c, e, _⟩ := h2; exact ⟨a, c, e⟩
  obtain ⟨w0, hw0⟩ : ∃ w0, w.alloc (m.obj (.slice a1 m.segs.length c1) (.slice a2 m.prods.length c2)) = w0 := ⟨_, rfl⟩
  have hs0 : w0.heap.size = w.heap.size + 1 := by rw [← hw0]; simp
  have HB0 : Hid (Below w.heap.size w w0) := by rw [← hw0]; exact (Below.refl _ _).alloc (Nat.le_refl _) _
  have HMC0 : Hid (MC w0 w.heap.size m (.slice a1 m.segs.length c1) (.slice a2 m.prods.length c2)) := by rw [← hw0]; exact MC.made _ _ _ _
  clear h1 h2
  obtain ⟨w00, hw00⟩ : ∃ w00, w0.alloc (.cells #[.int .i64 0, .int .i64 0, .int .i64 0, .int .i64 0, .int .i64 0, .slice none 0 0, .slice none 0 0] 31) = w00 := ⟨_, rfl⟩
  have hs00 : w00.heap.size = w.heap.size + 1 + 1 := by rw [← hw00]; simp [hs0]
  have HB00 : Hid (Below w.heap.size w w00) := by rw [← hw00]; exact below_step HB0.out ((Below.refl _ _).alloc (Nat.le_refl _) _)
  have HMC : Hid (MC w00 w.heap.size m (.slice a1 m.segs.length c1) (.slice a2 m.prods.length c2)) := HMC0.out.block (by rw [← hw00]; exact heap_alloc_old _ _ (by omega))
  have HRES : Hid (∀ j, w00.frozen? ⟨w.heap.size + 1, j, none⟩ = false) := fun j => by
    have hs : w0.heap.size = w.heap.size + 1 := hs0
    rw [← hw00, ← hs]; exact World.frozen?_alloc_at _ _ _ _ rfl
  clear HMC0
  obtain ⟨m0, m1, m2, m3, m4, m5, m6, -⟩ := HMC.out
  obtain ⟨mi, mn, mx, mk, mc, l, p⟩ := m
  simp only at hs1 hs2 HS1 HS2 hw0 HMC m0 m1 m2 m3 m4 m5 m6 ⊢
  unfold Mf.agg
  simp only
  go_enter Tryd.func9, Tryd.ntmps9
  go_wp2_with (at_builtin; refine wpList_append_ints _ rfl _ _ rfl _ _ [] (ints l) (some (w.heap.size + 1 + 1)) rfl rfl ?hOwn ?hSrc ?hLen (.inl (by simp)) ?_)
  case hOwn => rw [← hs00]; exact OwnV.made w00
  case hSrc => exact HS1.out _ (below_step HB00.out ((Below.refl _ _).alloc (Nat.le_refl _) _))
  case hLen => rw [ints_len]; first | omega | (simp; omega)
  intro v1 w1 g1 ho1 hg1 hr1
  have hsz1 := hg1.size
  simp at hsz1
  have HB1 : Hid (Below w.heap.size w w1) := (below_step HB00.out ((Below.refl _ _).alloc (Nat.le_refl _) _)).trans (grow_below hg1 (by simp; omega) (fun g e => by cases e; omega))
  have hblk1 : ∀ X, X < w.heap.size + 1 + 1 → w1.heap[X]? = w00.heap[X]? := fun X hX => by
    rw [hg1.block X (by simp; omega) (fun e => by cases e; omega)]
    exact heap_alloc_old _ _ (by omega)
  have hg1b : w.heap.size + 1 + 1 ≤ g1 := by
    rcases hr1 with e | e
    · cases e; omega
    · rw [e]; first | omega | (simp; done) | (simp; omega)
  have HMC1 : Hid (MC w1 w.heap.size ⟨mi, mn, mx, mk, mc, l, p⟩ (.slice a1 l.length c1) (.slice a2 p.length c2)) := HMC.out.block (hblk1 _ (by omega))
  have HRES1 : Hid (w1.heap[w.heap.size + 1]? = w00.heap[w.heap.size + 1]?) := hblk1 _ (by omega)
  have HO1 : Hid (OwnV w1 v1 (ints l) (some g1)) := by unfold Hid; simpa using ho1
  obtain ⟨n0, n1, n2, n3, n4, n5, n6, nf⟩ := HMC1.out
  have nf5 := nf 5
  obtain ⟨b1, d1, rfl⟩ : ∃ a c, v1 = .slice a l.length c := by
    obtain ⟨a, c, e, _, _⟩ := HO1.out.shape
    rw [ints_len] at e
    exact ⟨a, c, e⟩
  clear ho1 hg1 hr1 m0 m1 m2 m3 m4 m5 m6 nf hblk1
  go_wp2_with (at_builtin; refine wpList_append_ints _ rfl _ _ rfl _ _ (ints l) [.int .i64 (-77)] (some g1) rfl rfl ?hOwn ?hSrc ?hLen (.inl (by simp)) ?_)
  case hOwn => exact HO1.out.later ((Below.refl _ _).alloc (Nat.le_refl _) _)
  case hSrc => exact srcOne w1 (-77)
  case hLen => rw [ints_len]; first | omega | (simp; omega)
  intro v2 w2 g2 ho2 hg2 hr2
  have hsz2 := hg2.size
  simp at hsz2
  have hg2b : w.heap.size + 1 + 1 ≤ g2 := by
    rcases hr2 with e | e
    · cases e; exact hg1b
    · rw [e]; first | omega | (simp; done) | (simp; omega)
  have HB2 : Hid (Below w.heap.size w w2) := (below_step HB1.out ((Below.refl _ _).alloc (Nat.le_refl _) _)).trans (grow_below hg2 (by simp; omega) (fun g e => by cases e; omega))
  have hblk2 : ∀ X, X < w.heap.size + 1 + 1 → w2.heap[X]? = w1.heap[X]? := fun X hX => by
    rw [hg2.block X (by simp; omega) (fun e => by cases e; omega)]
    exact heap_alloc_old _ _ (by omega)
  have HMC2 : Hid (MC w2 w.heap.size ⟨mi, mn, mx, mk, mc, l, p⟩ (.slice a1 l.length c1) (.slice a2 p.length c2)) := HMC1.out.block (hblk2 _ (by omega))
  have HRES2 : Hid (w2.heap[w.heap.size + 1]? = w00.heap[w.heap.size + 1]?) := (hblk2 _ (by omega)).trans HRES1.out
  have HO2 : Hid (OwnV w2 v2 (ints (l ++ [-77])) (some g2)) := by rw [ints_app]; exact ho2
  obtain ⟨b2, rfl⟩ : ∃ c, v2 = .slice (some ⟨g2, 0, none⟩) (l.length + 1) c := by
    rcases HO2.out with ⟨_, _, e⟩ | ⟨g', c', e1, e2, _⟩
    · simp at e
    · cases e1
      rw [ints_len] at e2
      exact ⟨c', by simpa using e2⟩
  obtain ⟨w3, hw3⟩ : ∃ w3, w2.setCell ⟨w.heap.size, 5, none⟩ (.slice (some ⟨g2, 0, none⟩) (l.length + 1) b2) = w3 := ⟨_, rfl⟩
  have hs3 : w3.heap.size = w2.heap.size := by rw [← hw3]; exact size_setC _ _ _ _
  have HMC3 : Hid (MC w3 w.heap.size ⟨mi, mn, mx, mk, mc, l, p⟩ (.slice (some ⟨g2, 0, none⟩) (l.length + 1) b2) (.slice a2 p.length c2)) := by rw [← hw3]; exact HMC2.out.set5 _
  have hblk3 : ∀ X, X < w2.heap.size → X ≠ w.heap.size → w3.heap[X]? = w2.heap[X]? := fun X hX hne => by
    rw [← hw3]
    exact (grow_setC w2 w.heap.size 5 _).block X hX (fun e => hne (by injection e))
  have HB3 : Hid (Below w.heap.size w w3) := by rw [← hw3]; exact below_set HB2.out (Nat.le_refl _) HB2.out.size
  have HO3 : Hid (OwnV w3 (.slice (some ⟨g2, 0, none⟩) (l.length + 1) b2) (ints (l ++ [-77])) (some g2)) := HO2.out.of_block (by omega) fun g e => by
    cases e
    exact hblk3 g2 HO2.out.lt (by omega)
  have HRES3 : Hid (w3.heap[w.heap.size + 1]? = w00.heap[w.heap.size + 1]?) := (hblk3 _ (by omega) (by omega)).trans HRES2.out
  have hg2l : g2 < w2.heap.size := HO2.out.lt
  obtain ⟨o0, o1, o2, o3, o4, o5, o6, of⟩ := HMC2.out
  have of5 := of 5
  obtain ⟨q0, q1, q2, q3, q4, q5, q6, qf⟩ := HMC3.out
  have hne3 : ¬ (w.heap.size = w2.heap.size) := by omega
  have q6a : (w3.alloc (.cells #[] 50)).cell? ⟨w.heap.size, 6, none⟩ = some (.slice a2 p.length c2) := (HMC3.out.block (heap_alloc_old _ _ (by omega))).c6
  clear ho2 hg2 hr2 n0 n1 n2 n3 n4 n5 n6 nf5 of hblk2 HO1 HO2 qf hblk3
  go_wp2_with (at_builtin; refine wpList_append_q _ rfl _ _ rfl _ _ [] p (some (w2.heap.size)) rfl rfl ?hOwn ?hSrc ?hLen (.inl (by simp)) ?_)
  case hOwn => rw [← hs3]; exact OwnPr.made w3
  case hSrc => exact HS2.out _ (below_step HB3.out ((Below.refl _ _).alloc (Nat.le_refl _) _))
  case hLen => first | omega | (simp; omega)
  intro v4 w4 g4 ho4 hg4 hr4
  have hsz4 := hg4.size
  simp at hsz4
  have hg4b : w2.heap.size ≤ g4 := by
    rcases hr4 with e | e
    · cases e; omega
    · rw [e]; first | omega | (simp; done) | (simp; omega)
  have HB4 : Hid (Below w.heap.size w w4) := (below_step HB3.out ((Below.refl _ _).alloc (Nat.le_refl _) _)).trans (grow_below hg4 (by simp; omega) (fun g e => by cases e; omega))
  have hblk4 : ∀ X, X < w2.heap.size → w4.heap[X]? = w3.heap[X]? := fun X hX => by
    rw [hg4.block X (by simp; omega) (fun e => by cases e; omega)]
    exact heap_alloc_old _ _ (by omega)
  have HMC4 : Hid (MC w4 w.heap.size ⟨mi, mn, mx, mk, mc, l, p⟩ (.slice (some ⟨g2, 0, none⟩) (l.length + 1) b2) (.slice a2 p.length c2)) := HMC3.out.block (hblk4 _ (by omega))
  have HRES4 : Hid (w4.heap[w.heap.size + 1]? = w00.heap[w.heap.size + 1]?) := (hblk4 _ (by omega)).trans HRES3.out
  have HOS4 : Hid (OwnV w4 (.slice (some ⟨g2, 0, none⟩) (l.length + 1) b2) (ints (l ++ [-77])) (some g2)) := HO3.out.of_block (by omega) fun g e => by cases e; exact hblk4 g2 hg2l
  have HO4 : Hid (OwnPr w4 v4 p (some g4)) := by unfold Hid; simpa using ho4
  have hg4l : g4 < w4.heap.size := HO4.out.lt
  obtain ⟨b4, d4, rfl⟩ : ∃ a c, v4 = .slice a p.length c := by
    obtain ⟨a, c, e, _, _⟩ := HO4.out.shape
    exact ⟨a, c, e⟩
  obtain ⟨r0, r1, r2, r3, r4, r5, r6, rf⟩ := HMC4.out
  clear ho4 hg4 hr4 o0 o1 o2 o3 o4 o5 o6 of5 q0 q1 q2 q3 q4 q5 q6 rf hblk4
  go_wp2_with (at_builtin; refine wpList_append_q _ rfl _ _ rfl _ _ p [markP] (some g4) rfl rfl ?hOwn ?hSrc ?hLen (.inl (by simp)) ?_)
  case hOwn => exact HO4.out.later ((Below.refl _ _).alloc (Nat.le_refl _) _)
  case hSrc => exact src_pr1 w4 markP
  case hLen => first | omega | (simp; omega)
  intro v5 w5 g5 ho5 hg5 hr5
  have hsz5 := hg5.size
  simp at hsz5
  have hg5b : w2.heap.size ≤ g5 := by
    rcases hr5 with e | e
    · cases e; exact hg4b
    · rw [e]; first | omega | (simp; done) | (simp; omega)
  have HB5 : Hid (Below w.heap.size w w5) := (below_step HB4.out ((Below.refl _ _).alloc (Nat.le_refl _) _)).trans (grow_below hg5 (by simp; omega) (fun g e => by cases e; omega))
  have hblk5 : ∀ X, X < w2.heap.size → w5.heap[X]? = w4.heap[X]? := fun X hX => by
    rw [hg5.block X (by simp; omega) (fun e => by cases e; omega)]
    exact heap_alloc_old _ _ (by omega)
  have HMC5 : Hid (MC w5 w.heap.size ⟨mi, mn, mx, mk, mc, l, p⟩ (.slice (some ⟨g2, 0, none⟩) (l.length + 1) b2) (.slice a2 p.length c2)) := HMC4.out.block (hblk5 _ (by omega))
  have HRES5 : Hid (w5.heap[w.heap.size + 1]? = w00.heap[w.heap.size + 1]?) := (hblk5 _ (by omega)).trans HRES4.out
  have HOS5 : Hid (OwnV w5 (.slice (some ⟨g2, 0, none⟩) (l.length + 1) b2) (ints (l ++ [-77])) (some g2)) := HOS4.out.of_block (by omega) fun g e => by cases e; exact hblk5 g2 hg2l
  have HO5 : Hid (OwnPr w5 v5 (p ++ [markP]) (some g5)) := ho5
  obtain ⟨b5, rfl⟩ : ∃ c, v5 = .slice (some ⟨g5, 0, none⟩) (p.length + 1) c := by
    rcases HO5.out with ⟨_, _, e⟩ | ⟨g', c', e1, e2, _⟩
    · simp at e
    · cases e1
      exact ⟨c', by simpa using e2⟩
  have hcap2 : l.length + 1 ≤ b2 := (HOS5.out.capI).2
  have hcap5 : p.length + 1 ≤ b5 := by
    have := HO5.out
    rcases this with ⟨_, _, e⟩ | ⟨g', c', e1, e2, _, h, _⟩
    · simp at e
    · simp at e2; rw [e2.2]; simpa using h
  have HMC6 := HMC5.out.set6 (.slice (some ⟨g5, 0, none⟩) (p.length + 1) b5)
  have HMC7 := HMC6.set5 (.slice (some ⟨g2, 0, none⟩) l.length b2)
  have HMC8 := HMC7.set6 (.slice (some ⟨g5, 0, none⟩) p.length b5)
  obtain ⟨w6, hw6⟩ : ∃ u, w5.setCell ⟨w.heap.size, 6, none⟩ (.slice (some ⟨g5, 0, none⟩) (p.length + 1) b5) = u := ⟨_, rfl⟩
  rw [hw6] at HMC6 HMC7 HMC8
  obtain ⟨w7, hw7⟩ : ∃ u, w6.setCell ⟨w.heap.size, 5, none⟩ (.slice (some ⟨g2, 0, none⟩) l.length b2) = u := ⟨_, rfl⟩
  rw [hw7] at HMC7 HMC8
  obtain ⟨w8, hw8⟩ : ∃ u, w7.setCell ⟨w.heap.size, 6, none⟩ (.slice (some ⟨g5, 0, none⟩) p.length b5) = u := ⟨_, rfl⟩
  rw [hw8] at HMC8
  have HB8 : Hid (Below w.heap.size w w8 ∧ w8.heap.size = w5.heap.size ∧ ∀ X, X < w5.heap.size → X ≠ w.heap.size → w8.heap[X]? = w5.heap[X]?) := by
    have e6 : w6.heap.size = w5.heap.size := by rw [← hw6]; exact size_setC _ _ _ _
    have e7 : w7.heap.size = w6.heap.size := by rw [← hw7]; exact size_setC _ _ _ _
    have e8 : w8.heap.size = w7.heap.size := by rw [← hw8]; exact size_setC _ _ _ _
    have s6 : Below w.heap.size w w6 := by rw [← hw6]; exact below_set HB5.out (Nat.le_refl _) HB5.out.size
    have s7 : Below w.heap.size w w7 := by rw [← hw7]; exact below_set s6 (Nat.le_refl _) s6.size
    have s8 : Below w.heap.size w w8 := by rw [← hw8]; exact below_set s7 (Nat.le_refl _) s7.size
    refine ⟨s8, by omega, fun X hX hne => ?_⟩
    have k8 := (grow_setC w7 w.heap.size 6 (.slice (some ⟨g5, 0, none⟩) p.length b5)).block X (by omega) (fun e => hne (by injection e))
    have k7 := (grow_setC w6 w.heap.size 5 (.slice (some ⟨g2, 0, none⟩) l.length b2)).block X (by omega) (fun e => hne (by injection e))
    have k6 := (grow_setC w5 w.heap.size 6 (.slice (some ⟨g5, 0, none⟩) (p.length + 1) b5)).block X (by omega) (fun e => hne (by injection e))
    rw [hw8] at k8; rw [hw7] at k7; rw [hw6] at k6
    exact k8.trans (k7.trans k6)
  have HEND : Hid (ManW w8 g2 b2 g5 b5 (l ++ [-77]) (p ++ [markP]) ∧ w.heap.size ≤ g2 ∧ w.heap.size ≤ g5 ∧ w8.heap[w.heap.size + 1]? = w00.heap[w.heap.size + 1]?) := by
    obtain ⟨k1, k2, k3⟩ := HB8.out
    refine ⟨⟨?_, ?_, by omega⟩, by omega, by omega, (k3 _ (by omega) (by omega)).trans HRES5.out⟩
    · have := HOS5.out.of_block (w' := w8) (by omega) fun g e => by cases e; exact k3 g2 (by omega) (by omega)
      simpa using this
    · have := HO5.out.of_block (w' := w8) (by omega) fun g e => by cases e; exact k3 g5 HO5.out.lt (by have := HB2.out.size; omega)
      simpa using this
  obtain ⟨s0, s1, s2, s3, s4, s5, s6, sf⟩ := HMC5.out
  obtain ⟨t0, t1, t2, t3, t4, t5, t6, tf⟩ := HMC6
  obtain ⟨x0, x1, x2, x3, x4, x5, x6, xf⟩ := HMC7
  obtain ⟨y0, y1, y2, y3, y4, y5, y6, yf⟩ := HMC8
  have sf6 := sf 6
  have tf5 := tf 5
  have xf6 := xf 6
  have HZ : MC w8 (w.heap.size + 1) ⟨0, 0, 0, 0, 0, [], []⟩ (.slice none 0 0) (.slice none 0 0) := by
    have hm : MC w00 (w.heap.size + 1) ⟨0, 0, 0, 0, 0, [], []⟩ (.slice none 0 0) (.slice none 0 0) := by
      rw [← hw00, ← hs0]; exact MC.made w0 ⟨0, 0, 0, 0, 0, [], []⟩ _ _
    exact hm.block HEND.out.2.2.2
  have HST : Hid (MC _ (w.heap.size + 1) ⟨mi, mn, mx, mk, mc, l, p⟩ (.slice (some ⟨g2, 0, none⟩) l.length b2) (.slice (some ⟨g5, 0, none⟩) p.length b5)) := HZ.stored ⟨mi, mn, mx, mk, mc, l, p⟩ (.slice (some ⟨g2, 0, none⟩) l.length b2) (.slice (some ⟨g5, 0, none⟩) p.length b5)
  obtain ⟨z0, z1, z2, z3, z4, z5, z6, zf⟩ := HZ
  simp only at z0 z1 z2 z3 z4
  have zf0 := zf 0
  have zf1 := zf 1
  have zf2 := zf 2
  have zf3 := zf 3
  have zf4 := zf 4
  have zf5 := zf 5
  have zf6 := zf 6
  have HFIN : Hid (∃ g1 c1 g2' c2', Ending.returned (.agg #[.int .i64 mi, .int .i64 mn, .int .i64 mx, .int .i64 mk, .int .i64 mc, .slice (some ⟨g2, 0, none⟩) l.length b2, .slice (some ⟨g5, 0, none⟩) p.length b5]) = .returned (.agg #[.int .i64 mi, .int .i64 mn, .int .i64 mx, .int .i64 mk, .int .i64 mc, .slice (some ⟨g1, 0, none⟩) l.length c1, .slice (some ⟨g2', 0, none⟩) p.length c2']) ∧ ManW (w8.setCells (w.heap.size + 1) 0 [.int .i64 mi, .int .i64 mn, .int .i64 mx, .int .i64 mk, .int .i64 mc, .slice (some ⟨g2, 0, none⟩) l.length b2, .slice (some ⟨g5, 0, none⟩) p.length b5]) g1 c1 g2' c2' (l ++ [-77]) (p ++ [markP]) ∧ w.heap.size ≤ g1 ∧ w.heap.size ≤ g2' ∧ Below w.heap.size w (w8.setCells (w.heap.size + 1) 0 [.int .i64 mi, .int .i64 mn, .int .i64 mx, .int .i64 mk, .int .i64 mc, .slice (some ⟨g2, 0, none⟩) l.length b2, .slice (some ⟨g5, 0, none⟩) p.length b5])) := by
    obtain ⟨k1, k2, k3, k4⟩ := HEND.out
    obtain ⟨j1, j2, j3⟩ := HB8.out
    have hgr := grow_setCells w8 (w.heap.size + 1) 0 [.int .i64 mi, .int .i64 mn, .int .i64 mx, .int .i64 mk, .int .i64 mc, .slice (some ⟨g2, 0, none⟩) l.length b2, .slice (some ⟨g5, 0, none⟩) p.length b5]
    refine ⟨g2, b2, g5, b5, rfl, ⟨k1.s.of_block hgr.size fun g e => ?_, k1.p.of_block hgr.size fun g e => ?_, k1.ne⟩, k2, k3, j1.trans (grow_below hgr j1.size (fun g e => by cases e; omega))⟩
    · cases e; exact hgr.block g2 k1.s.lt (fun e => by cases e; omega)
    · cases e; exact hgr.block g5 k1.p.lt (fun e => by cases e; omega)
  clear ho5 hg5 hr5 r0 r1 r2 r3 r4 r5 r6 sf tf xf yf hblk5 zf
  go_wp2
  refine bodyPost_ret (v := .agg #[.int .i64 mi, .int .i64 mn, .int .i64 mx, .int .i64 mk, .int .i64 mc, .slice (some ⟨g2, 0, none⟩) l.length b2, .slice (some ⟨g5, 0, none⟩) p.length b5]) ?_ rfl HFIN.out
  obtain ⟨p0, p1, p2, p3, p4, p5, p6, -⟩ := HST.out
  simp only at p0 p1 p2 p3 p4 p5 p6
  simp only [results, hresC]
  go_simp
end Go.Proofs.YteekmmgopnnioaaDoor
