import Derived.Test.YtklfmgkfcacfkaaBlk
namespace Go.Proofs.Ytklfmgkfcacfkaa
open Go.RowKit Plain
set_option linter.unusedVariables false
set_option linter.unusedSimpArgs false

/-- A token as it is read: the slice of its bytes, these, and the two numbers. -/
structure Tg where
  v : Value
  l : List Nat
  d : Int
  n : Int

/-- The value of a token. -/
def Tg.val (t : Tg) : Value := .agg #[t.v, .int .i64 t.d, .int .i64 t.n]
def Tg.ok (w : World) (t : Tg) : Prop := BytesAt w t.v t.l ∧ t.l.length ≤ 140737488355328 ∧ -9223372036854775808 ≤ t.d ∧ t.d ≤ 9223372036854775807 ∧ -9223372036854775808 ≤ t.n ∧ t.n ≤ 9223372036854775807

/-- sv is a slice of tokens that read as ts. -/
def TRd (w : World) (sv : Value) (ts : List Tg) : Prop :=
  ∃ a cap, sv = .slice a ts.length cap ∧ ts.length ≤ cap ∧ cap ≤ maxLen ∧ (∀ t ∈ ts, t.ok w) ∧
    (ts ≠ [] → ∃ b off, a = some ⟨b, off, none⟩ ∧ ∀ k (hk : k < ts.length), w.cell? ⟨b, off + k * 3, none⟩ = some ts[k].v ∧ w.cell? ⟨b, off + k * 3 + 1, none⟩ = some (.int .i64 ts[k].d) ∧ w.cell? ⟨b, off + k * 3 + 2, none⟩ = some (.int .i64 ts[k].n))

theorem TRd.of_cells {w w' : World} {sv : Value} {ts : List Tg} (h : TRd w sv ts) (hc : ∀ b o u, w.cell? ⟨b, o, none⟩ = some u → w'.cell? ⟨b, o, none⟩ = some u) : TRd w' sv ts := by
  obtain ⟨a, cap, rfl, h1, h2, h3, h4⟩ := h
  refine ⟨a, cap, rfl, h1, h2, fun t ht => ⟨(h3 t ht).1.of_cells hc, (h3 t ht).2⟩, fun hne => ?_⟩
  obtain ⟨b, off, rfl, h5⟩ := h4 hne
  exact ⟨b, off, rfl, fun k hk => ⟨hc _ _ _ (h5 k hk).1, hc _ _ _ (h5 k hk).2.1, hc _ _ _ (h5 k hk).2.2⟩⟩
theorem TRd.later {w w' : World} {sv : Value} {ts : List Tg} (h : TRd w sv ts) (hb : Below w.heap.size w w') : TRd w' sv ts :=
  h.of_cells fun b o u hu => by rw [hb.cell (cell_lt hu)]; exact hu

def Tk.g (t : Tk) : Tg := t.pick (fun g l => ⟨.slice (some ⟨g, 0, none⟩) l.length l.length, l, 0, 0⟩) (fun d n => ⟨.slice none 0 0, [], d, n⟩)
theorem Tk.g_lit (g : Nat) (l : List Nat) : (Tk.lit g l).g = ⟨.slice (some ⟨g, 0, none⟩) l.length l.length, l, 0, 0⟩ := rfl
theorem Tk.g_mat (d n : Nat) : (Tk.mat d n).g = ⟨.slice none 0 0, [], d, n⟩ := rfl

theorem TRow.rd {base : Nat} {w : World} {v : Value} {ts : List Tk} {r : Option Nat} (h : TRow base w v ts r) (hf : ∀ t ∈ ts, t.fits) : TRd w v (ts.map Tk.g) := by
  obtain ⟨a, cap, rfl, h1, h2⟩ := h.own.shape
  refine ⟨a, cap, by rw [List.length_map], by rw [List.length_map]; exact h2, h1, fun t ht => ?_, fun hne => ?_⟩
  · obtain ⟨k, hk, rfl⟩ := List.mem_map.mp ht
    have hfk := hf k hk
    cases k using Tk.elim with
    | lit g l => exact ⟨(h.lits g l hk).2.2.2.bytes, by simp only [Tk.fits_lit, Tk.fits_mat] at hfk; simp only [Tk.g_lit, Tk.g_mat]; omega, by simp [Tk.g_lit, Tk.g_mat], by simp [Tk.g_lit, Tk.g_mat], by simp [Tk.g_lit, Tk.g_mat], by simp [Tk.g_lit, Tk.g_mat]⟩
    | mat d n =>
      simp only [Tk.fits_lit, Tk.fits_mat] at hfk
      exact ⟨BytesAt.nil w, by simp [Tk.g_lit, Tk.g_mat], by simp only [Tk.g_lit, Tk.g_mat]; omega, by simp only [Tk.g_lit, Tk.g_mat]; omega, by simp only [Tk.g_lit, Tk.g_mat]; omega, by simp only [Tk.g_lit, Tk.g_mat]; omega⟩
  · rcases h.own with ⟨_, h0, _⟩ | ⟨g, cap', _, e, hg, _, _, _, _, hc⟩
    · subst h0; simp at hne
    · simp only [Value.slice.injEq] at e
      refine ⟨g, 0, e.1, fun k hk => ?_⟩
      rw [List.length_map] at hk
      have e0 := hc (3 * k + 0) (by omega)
      have e1 := hc (3 * k + 1) (by omega)
      have e2 := hc (3 * k + 2) (by omega)
      rw [tcells_get ts k hk _ (by omega)] at e0 e1 e2
      rw [List.getElem_map, show 0 + k * 3 = 3 * k by omega]
      cases het : ts[k] using Tk.elim with
      | lit g' l' => rw [het] at e0 e1 e2; exact ⟨e0, e1, e2⟩
      | mat d n => rw [het] at e0 e1 e2; exact ⟨e0, e1, e2⟩

/-- May the token stand behind so many bytes? -/
def Tg.right (t : Tg) (m : Nat) : Bool := if t.l = [] then decide (5 ≤ t.n) && decide (t.n ≤ 258) && decide (1 ≤ t.d) && decide (t.d ≤ 2048) && decide (t.d ≤ m) else decide (t.d = 0) && decide (t.n = 0)
def Tg.add (t : Tg) : Nat := t.l.length + t.n.toNat

def tlen : List Tg → Nat → Nat × Nat
  | [], n => (n, 0)
  | t :: ts, n => if t.right n = false then (0, 21) else if 4096 < n + t.add then (0, 2) else tlen ts (n + t.add)

theorem Tg.right_n {t : Tg} {m : Nat} (h : t.right m = true) : 0 ≤ t.n ∧ t.n ≤ 258 := by
  unfold Tg.right at h
  split at h
  · simp at h; omega
  · simp at h; omega

theorem retB1 {a b : Bool} (h : a = b) : Ending.returned (.bool a) = .returned (.bool b) := by rw [h]

set_option maxHeartbeats 400000 in
set_option maxRecDepth 1000000 in
theorem addedOf (t : Tg) (m : Nat) (w : World) (h : t.ok w) (hr : t.right m = true) :
    Calls Try.prog 38 #[t.val] w fun e w' => e = .returned (.int .i64 (t.add : Nat)) ∧ Below w.heap.size w w' := by
  obtain ⟨h1, hll, _⟩ := h
  obtain ⟨hn0, hn1⟩ := Tg.right_n hr
  obtain ⟨v, l, d, n⟩ := t
  change BytesAt w v l at h1
  obtain ⟨a, cap, rfl, hlc, hcm, hby, hcells⟩ := h1
  simp only at hn0 hn1 hlc hcm hll
  unfold maxLen at hcm
  simp only [Tg.val, Tg.add]
  clear hcells hby hr
  have HE : Hid (((l.length + n.toNat : Nat) : Int) = (l.length : Int) + n) := by unfold Hid; omega
  go_enter Try.func38, Try.ntmps38
  go_wp2
  go_ret
  exact ⟨ret1 (by omega), (Below.refl _ _).alloc (Nat.le_refl _) _⟩

set_option maxHeartbeats 400000 in
set_option maxRecDepth 1000000 in
theorem rightOf (t : Tg) (m : Nat) (w : World) (h : t.ok w) (hm : m ≤ 4096) :
    Calls Try.prog 53 #[t.val, .int .i64 m] w fun e w' => e = .returned (.bool (t.right m)) ∧ Below w.heap.size w w' := by
  obtain ⟨h1, hll, h2, h3, h4, h5⟩ := h
  obtain ⟨v, l, d, n⟩ := t
  change BytesAt w v l at h1
  obtain ⟨a, cap, rfl, hlc, hcm, hby, hcells⟩ := h1
  simp only at hlc hcm h2 h3 h4 h5
  unfold maxLen at hcm
  simp only [Tg.val, Tg.right]
  clear hcells hby
  by_cases h0 : l = []
  · subst h0
    rw [if_pos rfl]
    go_enter Try.func53, Try.ntmps53
    go_wp2
    all_goals
      go_ret
      exact ⟨retB1 (by first | rfl | (rw [Bool.eq_iff_iff]; simp; omega) | (simp; omega)), (Below.refl _ _).alloc (Nat.le_refl _) _⟩
  · rw [if_neg h0]
    have hpos : 0 < l.length := List.length_pos_iff.mpr h0
    go_enter Try.func53, Try.ntmps53
    go_wp2
    all_goals
      go_ret
      exact ⟨retB1 (by first | rfl | (rw [Bool.eq_iff_iff]; simp; omega) | (simp; omega)), (Below.refl _ _).alloc (Nat.le_refl _) _⟩

theorem drop_at {α : Type} {l : List α} {k : Nat} (h : k < l.length) : l.drop k = l[k] :: l.drop (k + 1) := List.drop_eq_getElem_cons h

set_option maxHeartbeats 1000000 in
set_option maxRecDepth 1000000 in
theorem textLengthOf (sv : Value) (ts : List Tg) (w : World) (h : TRd w sv ts) :
    Calls Try.prog 37 #[sv] w fun e w' => e = .returned (.tuple #[.int .i64 ((tlen ts 0).1 : Nat), .int .i64 ((tlen ts 0).2 : Nat)]) ∧ Below w.heap.size w w' := by
  have HT : Hid (TRd w sv ts) := h
  obtain ⟨a, cap, rfl, hlc, hcm, hok, hcells⟩ := h
  unfold maxLen at hcm
  have HCS : Hid (ts ≠ [] → ∃ b off, a = some ⟨b, off, none⟩ ∧ ∀ k (hk : k < ts.length), w.cell? ⟨b, off + k * 3, none⟩ = some ts[k].v ∧ w.cell? ⟨b, off + k * 3 + 1, none⟩ = some (.int .i64 ts[k].d) ∧ w.cell? ⟨b, off + k * 3 + 2, none⟩ = some (.int .i64 ts[k].n)) := hcells
  have HOK : Hid (∀ t ∈ ts, t.ok w) := hok
  clear hok hcells
  go_enter Try.func37, Try.ntmps37
  go_wp2
  go_loopg [4, 9] ts.length (fun gk s4 s9 wx => ∃ k n : Nat, k + gk = ts.length ∧ n ≤ 4096 ∧ s4 = .int .i64 n ∧ s9 = .int .i64 k ∧ Hid (Below w.heap.size w wx ∧ tlen ts 0 = tlen (ts.drop k) n))
  case atStart => exact ⟨0, 0, by omega, by omega, rfl, rfl, Below.refl _ _, rfl⟩
  case round =>
    obtain ⟨k, n, hkg, hn, rfl, rfl, HI⟩ := hrel
    cases gk with
    | zero =>
      obtain rfl : k = ts.length := by omega
      have HE : Hid (tlen ts 0 = (n, 0)) := by
        have := HI.out.2
        rw [List.drop_length] at this
        exact this
      go_wp2
      go_ret2
      exact ⟨ret2 (by rw [HE.out]) (by rw [HE.out]; rfl), HI.out.1⟩
    | succ gk1 =>
      have hk : k < ts.length := by omega
      obtain ⟨b, off, rfl, HC⟩ := HCS.out (by rintro rfl; simp at hk)
      obtain ⟨c0, c1, c2⟩ := HC k hk
      have hblt : b < w.heap.size := cell_lt c0
      obtain ⟨t, ht⟩ : ∃ t, ts[k] = t := ⟨_, rfl⟩
      have hok : t.ok w := HOK.out t (by rw [← ht]; exact List.getElem_mem hk)
      rw [ht] at c0 c1 c2
      have hc0 : wr.cell? ⟨b, off + k * 3, none⟩ = some t.v := by rw [HI.out.1.cell (p := ⟨b, off + k * 3, none⟩) hblt]; exact c0
      have hc1 : wr.cell? ⟨b, off + k * 3 + 1, none⟩ = some (.int .i64 t.d) := by rw [HI.out.1.cell (p := ⟨b, off + k * 3 + 1, none⟩) hblt]; exact c1
      have hc2 : wr.cell? ⟨b, off + k * 3 + 2, none⟩ = some (.int .i64 t.n) := by rw [HI.out.1.cell (p := ⟨b, off + k * 3 + 2, none⟩) hblt]; exact c2
      have HD : Hid (tlen ts 0 = if t.right n = false then (0, 21) else if 4096 < n + t.add then (0, 2) else tlen (ts.drop (k + 1)) (n + t.add)) := by
        have := HI.out.2
        rw [drop_at hk, ht] at this
        exact this
      obtain ⟨tv, tl, td, tn⟩ := t
      have hbt : BytesAt w tv tl := hok.1
      obtain ⟨ta, tcap, rfl, -⟩ := hbt
      have HOT : Hid (Tg.ok w ⟨.slice ta tl.length tcap, tl, td, tn⟩) := hok
      clear c0 c1 c2 HC ht hok
      have HWB : Hid (Below w.heap.size w (wr.alloc (.cells #[.slice ta tl.length tcap, .int .i64 td, .int .i64 tn] 28))) := HI.out.1.alloc HI.out.1.size _
      have HWC : Hid ((wr.alloc (.cells #[.slice ta tl.length tcap, .int .i64 td, .int .i64 tn] 28)).heap[wr.heap.size]? = some (.cells #[.slice ta tl.length tcap, .int .i64 td, .int .i64 tn] 28)) := heap_alloc_new _ _
      have HWS : Hid ((wr.alloc (.cells #[.slice ta tl.length tcap, .int .i64 td, .int .i64 tn] 28)).heap.size = wr.heap.size + 1) := by unfold Hid; simp
      go_wp2_with fail
      clear hc0 hc1 hc2
      obtain ⟨W, hW⟩ : ∃ W, wr.alloc (.cells #[.slice ta tl.length tcap, .int .i64 td, .int .i64 tn] 28) = W := ⟨_, rfl⟩
      rw [hW] at HWB HWC HWS ⊢
      clear hW
      have HOW : Hid (Tg.ok W ⟨.slice ta tl.length tcap, tl, td, tn⟩) := ⟨HOT.out.1.later HWB.out, HOT.out.2⟩
      refine (rightOf ⟨.slice ta tl.length tcap, tl, td, tn⟩ n W HOW.out hn).mono ?_
      rintro e w2 ⟨rfl, hb2⟩
      have hcell : w2.heap[wr.heap.size]? = some (.cells #[.slice ta tl.length tcap, .int .i64 td, .int .i64 tn] 28) := by rw [hb2.block _ (by rw [HWS.out]; omega)]; exact HWC.out
      have hd0 : w2.cell? ⟨wr.heap.size, 0, none⟩ = some (.slice ta tl.length tcap) := by simp [World.cell?, hcell]
      have hd1 : w2.cell? ⟨wr.heap.size, 1, none⟩ = some (.int .i64 td) := by simp [World.cell?, hcell]
      have hd2 : w2.cell? ⟨wr.heap.size, 2, none⟩ = some (.int .i64 tn) := by simp [World.cell?, hcell]
      have HB2 : Hid (Below w.heap.size w w2) := HWB.out.trans (hb2.mono HWB.out.size)
      have HO2 : Hid (Tg.ok w2 ⟨.slice ta tl.length tcap, tl, td, tn⟩) := ⟨HOT.out.1.later HB2.out, HOT.out.2⟩
      clear hb2 hcell
      cases hr : Tg.right ⟨.slice ta tl.length tcap, tl, td, tn⟩ n with
      | false =>
        have HE : Hid (tlen ts 0 = (0, 21)) := by unfold Hid; rw [HD.out, if_pos hr]
        go_wp2
        go_ret2
        exact ⟨ret2 (by rw [HE.out]; rfl) (by rw [HE.out]; rfl), HB2.out⟩
      | true =>
        go_wp2_with fail
        refine (addedOf ⟨.slice ta tl.length tcap, tl, td, tn⟩ n w2 HO2.out hr).mono ?_
        rintro e w3 ⟨rfl, hb3⟩
        have HB3 : Hid (Below w.heap.size w w3) := HB2.out.trans (hb3.mono HB2.out.size)
        obtain ⟨A, hA⟩ : ∃ A, Tg.add ⟨.slice ta tl.length tcap, tl, td, tn⟩ = A := ⟨_, rfl⟩
        have hA2 : A ≤ 140737488355328 + 258 := by
          have := Tg.right_n hr
          have := HOT.out.2.1
          rw [← hA]
          simp only [Tg.add] at *
          omega
        rw [hA] at HD ⊢
        have hrf : ¬ (Tg.right ⟨.slice ta tl.length tcap, tl, td, tn⟩ n = false) := by rw [hr]; simp
        have HD2 : Hid (tlen ts 0 = if 4096 < n + A then (0, 2) else tlen (ts.drop (k + 1)) (n + A)) := by unfold Hid; rw [HD.out, if_neg hrf]
        clear hb3 hA HD hrf hr
        by_cases hlong : 4096 < n + A
        · have HE : Hid (tlen ts 0 = (0, 2)) := by unfold Hid; rw [HD2.out, if_pos hlong]
          go_wp2
          go_ret2
          exact ⟨ret2 (by rw [HE.out]; rfl) (by rw [HE.out]; rfl), HB3.out⟩
        · have HE : Hid (tlen ts 0 = tlen (ts.drop (k + 1)) (n + A)) := by unfold Hid; rw [HD2.out, if_neg hlong]
          go_wp2
          go_roundg gk1
          case measure => omega
          case rel => exact ⟨k + 1, n + A, by omega, by omega, by go_num, by go_num, HB3.out, HE.out⟩
end Go.Proofs.Ytklfmgkfcacfkaa
