import Derived.Test.YtklfmgkfcacfkaaXq
namespace Go.Proofs.Ytklfmgkfcacfkaa.Plain
theorem rd_pre (v : Nat) (t : List Nat) (hv : v < 2 ^ 64) : rd (uv v ++ t) = (v, (uv v).length, 0) := by
  have := rd_uv v 0 0 t (by simpa using hv) (.inl rfl) (by omega)
  unfold rd
  rw [this]
  simp
theorem rd_ok (l : List Nat) (hb : ∀ c ∈ l, c < 256) (h : (rd l).2.2 = 0) : ∃ v, v < 18446744073709551616 ∧ rd l = (v, (uv v).length, 0) ∧ l = uv v ++ l.drop (uv v).length ∧ (uv v).length ≤ l.length := by
  obtain ⟨u, _, e1, e2, e3, e4⟩ := rd_taken l 0 0 (by decide) hb h
  refine ⟨u, by simpa using e2, ?_, ?_, e4.length_le⟩
  · have : rd l = ((rd l).1, (rd l).2.1, (rd l).2.2) := rfl
    rw [this, h, show (rd l).1 = u from e1.trans (by simp), show (rd l).2.1 = (uv u).length from e3.trans (by simp)]
  · have := List.prefix_iff_eq_take.mp e4
    conv => lhs; rw [← List.take_append_drop (uv u).length l]
    rw [← this]
end Go.Proofs.Ytklfmgkfcacfkaa.Plain
namespace Go.Proofs.Ytklfmgkfcacfkaa
open Go.RowKit Plain
set_option linter.unusedVariables false
set_option linter.unusedSimpArgs false

/-- The value of a token. -/
def Tk.val (t : Tk) : Value := t.g.val
def noTok : Value := .agg #[.slice none 0 0, .int .i64 0, .int .i64 0]

/-- A token that was read: its literal, if it is one, lies in new memory. -/
def TNew (w w' : World) (t : Tk) : Prop := ∀ g l, t = .lit g l → l ≠ [] ∧ w.heap.size ≤ g ∧ Own w' (.slice (some ⟨g, 0, none⟩) l.length l.length) l (some g)

theorem tk_right_lit {g : Nat} {l : List Nat} {m : Nat} : (Tk.lit g l).g.right m = true ↔ l ≠ [] := by
  rw [Tk.g_lit]; unfold Tg.right
  by_cases h : l = []
  · simp [h]
  · simp [h]
theorem tk_right_mat {d n m : Nat} : (Tk.mat d n).g.right m = true ↔ 5 ≤ n ∧ n ≤ 258 ∧ 1 ≤ d ∧ d ≤ 2048 ∧ d ≤ m := by
  rw [Tk.g_mat]; unfold Tg.right
  simp
  omega

theorem cells3 {w : World} {B : Nat} {x y z : Value} {t : TypeId} (h : w.heap[B]? = some (.cells #[x, y, z] t)) : w.cell? ⟨B, 0, none⟩ = some x ∧ w.cell? ⟨B, 1, none⟩ = some y ∧ w.cell? ⟨B, 2, none⟩ = some z ∧ w.frozen? ⟨B, 0, none⟩ = false ∧ w.frozen? ⟨B, 1, none⟩ = false ∧ w.frozen? ⟨B, 2, none⟩ = false := by
  simp [World.cell?, World.frozen?, h]

theorem grow_set3 (w : World) (B : Nat) (x y z : Value) : w.grownBy (((w.setCell ⟨B, 0, none⟩ x).setCell ⟨B, 1, none⟩ y).setCell ⟨B, 2, none⟩ z) (some B) :=
  grow_trans (grow_trans (grow_setCell _ _ _ _) (grow_setCell _ _ _ _) (.inl rfl)) (grow_setCell _ _ _ _) (.inl rfl)

set_option maxHeartbeats 400000 in
set_option maxRecDepth 1000000 in
theorem readLitNone (v : Value) (R : List Nat) (used size : Nat) (w : World) (h : BytesAt w v R) (hu : used ≤ R.length) (hs : size ≤ 4096) (hbad : size = 0 ∨ R.length < used + size) :
    Calls Try.prog 60 #[v, .int .i64 used, .int .i64 size] w fun e w' => e = .returned (.tuple #[noTok, .int .i64 0]) ∧ Below w.heap.size w w' := by
  obtain ⟨a, cap, rfl, hlc, hcm, hby, hcells⟩ := h
  unfold maxLen at hcm
  clear hcells hby
  by_cases h0 : size = 0
  · subst h0
    go_enter Try.func60, Try.ntmps60
    go_wp2
    refine bodyPost_ret (v := .tuple #[noTok, .int .i64 0]) (by simp [results, Try.results60, go_sem, noTok]) rfl ⟨rfl, ?_⟩
    exact (Below.refl _ _).alloc (Nat.le_refl _) _
  · have h1 : ((size : Int) == 0) = false := by simp; omega
    have h2 : (R.length : Int) - (used : Int) < (size : Int) := by omega
    go_enter Try.func60, Try.ntmps60
    go_wp2
    refine bodyPost_ret (v := .tuple #[noTok, .int .i64 0]) (by simp [results, Try.results60, go_sem, noTok]) rfl ⟨rfl, ?_⟩
    exact (Below.refl _ _).alloc (Nat.le_refl _) _

set_option maxHeartbeats 400000 in
set_option maxRecDepth 1000000 in
theorem readLitOk (R : List Nat) (b off cap used size : Nat) (w : World) (h : BytesAt w (.slice (some ⟨b, off, none⟩) R.length cap) R) (hs0 : 0 < size) (hs : size ≤ 4096) (hfit : used + size ≤ R.length) :
    Calls Try.prog 60 #[.slice (some ⟨b, off, none⟩) R.length cap, .int .i64 used, .int .i64 size] w fun e w' => ∃ g, e = .returned (.tuple #[(Tk.lit g ((R.drop used).take size)).val, .int .i64 (used + size : Nat)]) ∧ w.heap.size ≤ g ∧ Own w' (.slice (some ⟨g, 0, none⟩) ((R.drop used).take size).length ((R.drop used).take size).length) ((R.drop used).take size) (some g) ∧ Below w.heap.size w w' := by
  have HB : Hid (BytesAt w (.slice (some ⟨b, off, none⟩) R.length cap) R) := h
  have hlc : R.length ≤ cap := by obtain ⟨a', cap', e, h1, _⟩ := h; simp only [Value.slice.injEq] at e; omega
  have hcm : cap ≤ 2 ^ 63 - 1 := by obtain ⟨a', cap', e, _, h1, _⟩ := h; simp only [Value.slice.injEq] at e; unfold maxLen at h1; omega
  clear h
  have h1 : ((size : Int) == 0) = false := by simp; omega
  have h2 : ¬ (R.length : Int) - (used : Int) < (size : Int) := by omega
  have h3 : decide ((R.length : Int) - (used : Int) < (size : Int)) = false := by simp; omega
  have hcu : ¬ cap = used := by omega
  obtain ⟨Q, hQ⟩ : ∃ Q, (R.drop used).take size = Q := ⟨_, rfl⟩
  have hQl : Q.length = size := by rw [← hQ, List.length_take, List.length_drop]; omega
  rw [hQ]
  have HQ : Hid (∀ W, Below w.heap.size w W → BytesAt W (.slice (some ⟨b, off + used, none⟩) size (cap - used)) Q) := fun W hW => by
    have := (HB.out.later hW).part used (used + size) (by omega) hfit
    rwa [show used + size - used = size by omega, hQ] at this
  clear hQ
  go_enter Try.func60, Try.ntmps60
  have HA : Hid (Below w.heap.size w (w.alloc (.cells #[.slice none 0 0, .int .i64 0, .int .i64 0] 28))) := (Below.refl _ _).alloc (Nat.le_refl _) _
  go_wp2_with fail
  refine (literalOf _ Q _ (hQl ▸ HQ.out _ HA.out) (by omega) (by omega)).mono ?_
  rintro e w2 ⟨g, rfl, hg, hown, hb2⟩
  have hblk : w2.heap[w.heap.size]? = some (.cells #[.slice none 0 0, .int .i64 0, .int .i64 0] 28) := by rw [hb2.block _ (by simp)]; exact heap_alloc_new _ _
  obtain ⟨c0, c1, c2, f0, f1, f2⟩ := cells3 hblk
  have hg2 : w.heap.size + 1 ≤ g := by simpa using hg
  have HO : Hid (Own w2 (.slice (some ⟨g, 0, none⟩) Q.length Q.length) Q (some g) ∧ Below w.heap.size w w2) := ⟨hown, HA.out.trans (hb2.mono (by simp))⟩
  have HG : Hid (∀ x y z, w2.grownBy (((w2.setCell ⟨w.heap.size, 0, none⟩ x).setCell ⟨w.heap.size, 1, none⟩ y).setCell ⟨w.heap.size, 2, none⟩ z) (some w.heap.size)) := grow_set3 w2 _
  clear hg hown hb2 hblk
  go_wp2
  refine bodyPost_ret (v := .tuple #[(Tk.lit g Q).val, .int .i64 (used + size : Nat)]) ?_ rfl ⟨g, rfl, by omega, HO.out.1.kept (HG.out _ _ _) (.inr (by simp; omega)), HO.out.2.trans (grow_below (HG.out _ _ _) (by have := HO.out.2.size; omega) (by simp))⟩
  simp [results, Try.results60, go_sem, c0, c1, c2, Tk.val, Tk.g_lit, Tk.g_mat, Tg.val]
  exact hQl.symm
end Go.Proofs.Ytklfmgkfcacfkaa
