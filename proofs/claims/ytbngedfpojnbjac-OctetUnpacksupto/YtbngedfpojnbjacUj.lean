import Derived.Test.YtbngedfpojnbjacUi
/-! Rows of numbers with a mark behind; items that are written over. -/
namespace Go.Proofs.Ytbngedfpojnbjac
open Go.RowKit Plain
set_option linter.unusedVariables false

theorem src_ints {w : World} {v : Value} {ks : List Int} (h : IntsAt w v ks) : Src Try.prog 1 23 v ks.length (kcells ks) w := by
  obtain ⟨a, cap, rfl, h1, h2, h3⟩ := h
  by_cases hnil : ks = []
  · subst hnil
    cases a with
    | none => exact Src.ofNil w Try.underlying23 cap
    | some a => exact Src.ofSlice w Try.underlying23 a 0 cap [] (by simp) (by simp) (by simp)
  · obtain ⟨b, off, rfl, h5⟩ := h3 hnil
    refine Src.ofSlice w Try.underlying23 _ _ cap _ (by simp [kcells]) (fun j u hj => ?_) (kcells_one ks)
    have hjl : j < ks.length := by
      have := (List.getElem?_eq_some_iff.mp hj).1
      simpa [kcells] using this
    rw [WideShapes.add_plain, h5 j hjl, ← kcells_get ks j hjl, hj]
theorem src_m (W : World) : Src Try.prog 1 23 (.slice (some ⟨W.heap.size, 0, none⟩) 1 1) [(-77 : Int)].length (kcells [-77]) (W.alloc (.cells #[.int .i64 (-77)] 3)) :=
  Src.ofSlice _ Try.underlying23 _ 1 1 _ (by rfl) (fun j u hj => by
    rw [WideShapes.add_plain, World.cell?_alloc_at _ _ _ _ rfl, Nat.zero_add, ← hj]
    simp [kcells]) (kcells_one _)

theorem OwnK.later {w w' : World} {v : Value} {l : List Int} {r : Option Nat} (h : OwnK w v l r) (k : Below w.heap.size w w') : OwnK w' v l r := by
  rcases r with _ | g
  · exact h.kept (below_grow k none) (.inl rfl)
  · exact h.kept (below_grow k none) (.inr (by simp))

/-- The numbers, with -77 behind them. -/
structure KAt (w : World) (g cap : Nat) (ks : List Int) : Prop where
  ow : OwnK w (.slice (some ⟨g, 0, none⟩) (ks.length + 1) cap) (ks ++ [-77]) (some g)

theorem KAt.parts {w : World} {g cap : Nat} {ks : List Int} (h : KAt w g cap ks) : g < w.heap.size ∧ ks.length + 1 ≤ cap ∧ cap ≤ maxLen ∧ (∀ j, j < cap → w.frozen? ⟨g, j, none⟩ = false) ∧ (∀ j, j < cap → (w.cell? ⟨g, j, none⟩).isSome = true) ∧
    (∀ j, j < ks.length → w.cell? ⟨g, j, none⟩ = some (.int .i64 (ks.getD j 0))) ∧ w.cell? ⟨g, ks.length, none⟩ = some (.int .i64 (-77)) ∧ (∀ x ∈ ks, -9223372036854775808 ≤ x ∧ x ≤ 9223372036854775807) := by
  obtain ⟨hby, h | ⟨g', cap', e, e2, hg, h1, h2, h3, h4, h5⟩⟩ := h.ow
  · simp at h
  · simp at e; subst e
    simp only [Value.slice.injEq, true_and] at e2
    obtain ⟨_, rfl⟩ := e2
    simp at h1 h5
    refine ⟨hg, by omega, h2, h3, h4, fun j hj => ?_, ?_, fun x hx => hby x (by simp [hx])⟩
    · have := h5 j (by omega)
      rw [this]; simp [List.getElem?_append_left hj]
    · have := h5 ks.length (by omega)
      rw [this]; simp
theorem KAt.ints {w : World} {g cap : Nat} {ks : List Int} (h : KAt w g cap ks) : IntsAt w (.slice (some ⟨g, 0, none⟩) ks.length cap) ks := by
  obtain ⟨hg, h1, h2, h3, h4, h5, h6, h7⟩ := h.parts
  exact ⟨_, cap, rfl, by omega, h7, fun _ => ⟨g, 0, rfl, fun j hj => by rw [Nat.zero_add]; exact h5 j hj⟩⟩
theorem KAt.later {w w' : World} {g cap : Nat} {ks : List Int} (h : KAt w g cap ks) (k : Below w.heap.size w w') : KAt w' g cap ks := ⟨h.ow.later k⟩
theorem KAt.kept {w w' : World} {g cap : Nat} {ks : List Int} {r : Option Nat} (h : KAt w g cap ks) (k : w.grownBy w' r) (hr : some g ≠ r) : KAt w' g cap ks := ⟨h.ow.kept k (.inr hr)⟩
theorem KAt.set {w : World} {g cap j : Nat} {ks : List Int} {m : Int} (h : KAt w g cap ks) (hj : j < ks.length) (hm : -9223372036854775808 ≤ m ∧ m ≤ 9223372036854775807) : KAt (w.setCell ⟨g, j, none⟩ (.int .i64 m)) g cap (ks.set j m) := by
  obtain ⟨hg, h1, h2, h3, h4, h5, h6, h7⟩ := h.parts
  refine ⟨⟨fun c hc => ?_, .inr ⟨g, cap, rfl, by simp, by simpa [World.setCell] using hg, by simp; omega, h2, fun i hi => ?_, fun i hi => ?_, fun i hi => ?_⟩⟩⟩
  · rcases List.mem_append.mp hc with h8 | h8
    · rcases List.mem_or_eq_of_mem_set h8 with h9 | rfl
      · exact h7 c h9
      · exact hm
    · simp at h8; subst h8; omega
  · exact (World.frozen?_setCells g [.int .i64 m] j w ⟨g, i, none⟩).trans (h3 i hi)
  · exact isSome_setCells g [.int .i64 m] j w _ (h4 i hi)
  · simp at hi
    by_cases hij : i = j
    · subst hij
      have hgd : (ks.set i m ++ [-77]).getD i 0 = m := by
        rw [List.getD_eq_getElem?_getD, List.getElem?_append_left (by simpa using hj), List.getElem?_set_self hj]; rfl
      rw [World.cell?_setCell_same _ _ _ (h5 i hj), hgd]
    · rw [World.cell?_setCell_other _ _ _ _ (by simp <;> omega)]
      by_cases hil : i < ks.length
      · have hgd : (ks.set j m ++ [-77]).getD i 0 = ks.getD i 0 := by
          rw [List.getD_eq_getElem?_getD, List.getElem?_append_left (by simpa using hil), List.getElem?_set_ne (Ne.symm hij), ← List.getD_eq_getElem?_getD]
        rw [h5 i hil, hgd]
      · obtain rfl : i = ks.length := by omega
        rw [h6]; simp

/-- An item is written over. -/
theorem OwnI.over {w : World} {g cap j : Nat} {ts : List It} {k : Int} (h : OwnI w (.slice (some ⟨g, 0, none⟩) ts.length cap) ts (some g)) (hj : j < ts.length) :
    ∃ us : List It, us.length = ts.length ∧ OwnI (((w.setCell ⟨g, j * 3, none⟩ (.int .i64 k)).setCell ⟨g, j * 3 + 1, none⟩ (.int .u64 0)).setCell ⟨g, j * 3 + 2, none⟩ (.string ⟨#[]⟩)) (.slice (some ⟨g, 0, none⟩) ts.length cap) us (some g) := by
  refine ⟨ts.set j ⟨k, 0, ⟨#[]⟩⟩, by simp, ?_⟩
  rcases h with ⟨h, _⟩ | ⟨g', cap', e, e2, hg, h1, h2, h3, h4, h5⟩
  · simp at h
  · simp at e; subst e
    simp only [Value.slice.injEq, true_and] at e2
    subst e2
    have hs : ∀ i, i < 3 * cap → ((((w.setCell ⟨g, j * 3, none⟩ (.int .i64 k)).setCell ⟨g, j * 3 + 1, none⟩ (.int .u64 0)).setCell ⟨g, j * 3 + 2, none⟩ (.string ⟨#[]⟩)).cell? ⟨g, i, none⟩).isSome = true := fun i hi =>
      isSome_setCells g [.string ⟨#[]⟩] (j * 3 + 2) _ _ (isSome_setCells g [.int .u64 0] (j * 3 + 1) _ _ (isSome_setCells g [.int .i64 k] (j * 3) w _ (h4 i hi)))
    refine .inr ⟨g, cap, rfl, by simp, by simpa [World.setCell] using hg, by simpa using h1, h2, fun i hi => ?_, hs, fun i hi => ?_⟩
    · refine (World.frozen?_setCells g [.string ⟨#[]⟩] (j * 3 + 2) _ ⟨g, i, none⟩).trans ((World.frozen?_setCells g [.int .u64 0] (j * 3 + 1) _ ⟨g, i, none⟩).trans ((World.frozen?_setCells g [.int .i64 k] (j * 3) w ⟨g, i, none⟩).trans (h3 i hi)))
    · rw [List.length_set] at hi
      obtain ⟨k1, k2, k3⟩ := icells_get (ts.set j ⟨k, 0, ⟨#[]⟩⟩) j (by simpa using hj)
      simp only [List.getD_eq_getElem?_getD, List.getElem?_set_self hj, Option.getD_some] at k1 k2 k3
      obtain ⟨o0, p0⟩ := Option.isSome_iff_exists.mp (h4 (j * 3) (by omega))
      obtain ⟨o1, p1⟩ : ∃ o1, (w.setCell ⟨g, j * 3, none⟩ (.int .i64 k)).cell? ⟨g, j * 3 + 1, none⟩ = some o1 := Option.isSome_iff_exists.mp (isSome_setCells g [.int .i64 k] (j * 3) w ⟨g, j * 3 + 1, none⟩ (h4 (j * 3 + 1) (by omega)))
      obtain ⟨o2, p2⟩ : ∃ o2, ((w.setCell ⟨g, j * 3, none⟩ (.int .i64 k)).setCell ⟨g, j * 3 + 1, none⟩ (.int .u64 0)).cell? ⟨g, j * 3 + 2, none⟩ = some o2 := Option.isSome_iff_exists.mp (isSome_setCells g [.int .u64 0] (j * 3 + 1) _ ⟨g, j * 3 + 2, none⟩ (isSome_setCells g [.int .i64 k] (j * 3) w ⟨g, j * 3 + 2, none⟩ (h4 (j * 3 + 2) (by omega))))
      by_cases i0 : i = j * 3
      · subst i0
        rw [World.cell?_setCell_other _ _ _ _ (by simp <;> omega), World.cell?_setCell_other _ _ _ _ (by simp <;> omega), World.cell?_setCell_same _ _ _ p0, k1]
      by_cases i1 : i = j * 3 + 1
      · subst i1
        rw [World.cell?_setCell_other _ _ _ _ (by simp <;> omega), World.cell?_setCell_same _ _ _ p1, k2]; rfl
      by_cases i2 : i = j * 3 + 2
      · subst i2
        rw [World.cell?_setCell_same _ _ _ p2, k3]
      rw [World.cell?_setCell_other _ _ _ _ (by simp <;> omega), World.cell?_setCell_other _ _ _ _ (by simp <;> omega), World.cell?_setCell_other _ _ _ _ (by simp <;> omega), h5 i hi]
      have hlt : i < 3 * (ts.set j ⟨k, 0, ⟨#[]⟩⟩).length := by simpa using hi
      have hd : i / 3 ≠ j := by omega
      obtain ⟨a1, a2, a3⟩ := icells_get ts (i / 3) (by omega)
      obtain ⟨b1, b2, b3⟩ := icells_get (ts.set j ⟨k, 0, ⟨#[]⟩⟩) (i / 3) (by simp; omega)
      have hgd : (ts.set j ⟨k, 0, ⟨#[]⟩⟩).getD (i / 3) It.none = ts.getD (i / 3) It.none := by simp [List.getElem?_set_ne (Ne.symm hd)]
      rw [hgd] at b1 b2 b3
      have : i % 3 = 0 ∨ i % 3 = 1 ∨ i % 3 = 2 := by omega
      rcases this with e | e | e
      · rw [show i / 3 * 3 = i by omega] at a1 b1; rw [a1, b1]
      · rw [show i / 3 * 3 + 1 = i by omega] at a2 b2; rw [a2, b2]
      · rw [show i / 3 * 3 + 2 = i by omega] at a3 b3; rw [a3, b3]

/-- v is a slice of items that reads as st (of what the items hold nothing is asked). -/
def ItemsC (w : World) (v : Value) (st : List It) : Prop :=
  ∃ a cap, v = .slice a st.length cap ∧ st.length ≤ maxLen ∧
    (st ≠ [] → ∃ b off, a = some ⟨b, off, none⟩ ∧ ∀ j, j < st.length → w.cell? ⟨b, off + j * 3, none⟩ = some (.int .i64 (st.getD j It.none).k) ∧ w.cell? ⟨b, off + j * 3 + 1, none⟩ = some (.int .u64 ((st.getD j It.none).n : Int)) ∧ w.cell? ⟨b, off + j * 3 + 2, none⟩ = some (.string (st.getD j It.none).s))
theorem OwnI.itemsC {w : World} {v : Value} {ts : List It} {r : Option Nat} (h : OwnI w v ts r) : ItemsC w v ts := by
  rcases h with ⟨rfl, rfl, _⟩ | ⟨g, cap, _, rfl, hg, h1, h2, h3, h4, h5⟩
  · exact ⟨none, 0, rfl, by simp, by simp⟩
  · refine ⟨_, cap, rfl, by omega, fun _ => ⟨g, 0, rfl, fun j hj => ?_⟩⟩
    obtain ⟨k1, k2, k3⟩ := icells_get ts j hj
    rw [Nat.zero_add]
    exact ⟨by rw [h5 _ (by omega)]; exact k1, by rw [h5 _ (by omega)]; exact k2, by rw [h5 _ (by omega)]; exact k3⟩

set_option maxHeartbeats 1000000 in
theorem sameItemsC (va vb : Value) (st : List It) (w : World) (ha : ItemsC w va st) (hb : ItemsC w vb st) :
    Calls Try.prog 8 #[va, vb] w fun e w' => e = .returned (.bool true) ∧ ∃ n, w' = w.drewN n := by
  obtain ⟨a, cap, rfl, hcl, hcells⟩ := ha
  obtain ⟨a', cap', rfl, -, hcells'⟩ := hb
  unfold maxLen at hcl
  by_cases hnil : st = []
  · subst hnil
    clear hcells hcells'
    go_enter Try.func8, Try.ntmps8
    go_wp2
    refine wp_loop_rounds 1 ?_
    rw [rounds_succ]
    go_wp2
    go_ret
    exact ⟨rfl, 0, rfl⟩
  · obtain ⟨b, off, rfl, hc⟩ := hcells hnil
    obtain ⟨b', off', rfl, hc'⟩ := hcells' hnil
    have HC : Hid (∀ j, j < st.length → w.cell? ⟨b, off + j * 3, none⟩ = some (.int .i64 (st.getD j It.none).k) ∧ w.cell? ⟨b, off + j * 3 + 1, none⟩ = some (.int .u64 ((st.getD j It.none).n : Int)) ∧ w.cell? ⟨b, off + j * 3 + 2, none⟩ = some (.string (st.getD j It.none).s)) := hc
    have HC' : Hid (∀ j, j < st.length → w.cell? ⟨b', off' + j * 3, none⟩ = some (.int .i64 (st.getD j It.none).k) ∧ w.cell? ⟨b', off' + j * 3 + 1, none⟩ = some (.int .u64 ((st.getD j It.none).n : Int)) ∧ w.cell? ⟨b', off' + j * 3 + 2, none⟩ = some (.string (st.getD j It.none).s)) := hc'
    clear hcells hcells' hc hc' hnil
    go_enter Try.func8, Try.ntmps8
    go_wp2
    go_loopw [5] (fun i w' => ∃ k n : Nat, w' = w.drewN n ∧ k ≤ st.length ∧ i = .int .i64 k) (fun i _ => st.length - (intOf i).toNat)
    case atStart => exact ⟨0, 0, rfl, by omega, rfl⟩
    case round =>
      obtain ⟨k, n, rfl, hk, rfl⟩ := hrel
      by_cases hlt : k < st.length
      · obtain ⟨c0, c1, c2⟩ := HC.out k hlt
        obtain ⟨d0, d1, d2⟩ := HC'.out k hlt
        generalize st.getD k It.none = x at c0 c1 c2 d0 d1 d2
        obtain ⟨xk, xn, xs⟩ := x
        go_wp2
        go_quiet (fail)
        go_wp2
        go_roundw
        case rel => exact ⟨k + 1, _, rfl, by omega, by go_num⟩
        case measure => simp [intOf]; omega
      · go_wp2
        go_ret
        exact ⟨rfl, _, rfl⟩

def m99 : It := ⟨-99, 0, ⟨#[]⟩⟩
def m98 : It := ⟨-98, 0, ⟨#[]⟩⟩
theorem src_99 (W : World) : Src Try.prog 3 22 (.slice (some ⟨W.heap.size, 0, none⟩) 2 2) [m99, m98].length (icells [m99, m98]) (W.alloc (.cells #[.int .i64 (-99), .int .u64 0, .string ⟨#[]⟩, .int .i64 (-98), .int .u64 0, .string ⟨#[]⟩] 32)) :=
  Src.ofSlice _ Try.underlying22 _ 2 2 _ (by rfl) (fun j u hj => by
    rw [WideShapes.add_plain, World.cell?_alloc_at _ _ _ _ rfl, Nat.zero_add, ← hj]
    simp [icells, It.cells, m99, m98]) (by
    intro u hu
    simp [icells, It.cells] at hu
    rcases hu with rfl | rfl | rfl | rfl | rfl | rfl <;> rfl)
end Go.Proofs.Ytbngedfpojnbjac
