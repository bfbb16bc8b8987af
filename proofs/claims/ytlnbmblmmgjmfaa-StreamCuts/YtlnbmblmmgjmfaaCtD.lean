import Derived.Test.YtlnbmblmmgjmfaaCtC
/-! Rows of numbers that are made and written in place; the law's helpers. -/
namespace Go.Proofs.Ytlnbmblmmgjmfaa
open Go.RowKit Plain
set_option linter.unusedVariables false
set_option linter.unusedSimpArgs false

theorem OwnV.setZ {w : World} {a : Option Addr} {N c i : Nat} {vs : List Value} {q : Option Nat} (h : OwnV w (.slice a N c) vs q) (hi : i < N) (x : Value) : ∃ g, a = some ⟨g, 0, none⟩ ∧ q = some g ∧ w.frozen? ⟨g, i, none⟩ = false ∧ (∃ u, w.cell? ⟨g, i, none⟩ = some u) ∧ OwnV (w.setCell ⟨g, i, none⟩ x) (.slice a N c) (vs.set i x) q := by
  obtain ⟨e, rfl, -⟩ | ⟨g, cap, rfl, e2, hg, h1, h2, h3, h4, h5⟩ := h
  · simp only [Value.slice.injEq] at e; omega
  · simp only [Value.slice.injEq] at e2
    obtain ⟨rfl, rfl, rfl⟩ := e2
    refine ⟨g, rfl, rfl, h3 i (by omega), Option.isSome_iff_exists.mp (h4 i (by omega)), .inr ⟨g, c, rfl, by rw [List.length_set], by simpa using hg, by rw [List.length_set]; exact h1, h2, fun j hj => ?_, fun j hj => ?_, fun j hj => ?_⟩⟩
    · rw [World.frozen?_setCell]; exact h3 j hj
    · obtain ⟨u, hu⟩ := Option.isSome_iff_exists.mp (h4 j hj)
      obtain ⟨u', hu'⟩ := cell?_setCell_some (p := ⟨g, i, none⟩) (x := x) hu
      rw [hu']; rfl
    · rw [List.length_set] at hj
      by_cases e : j = i
      · subst e
        obtain ⟨u, hu⟩ := Option.isSome_iff_exists.mp (h4 j (by omega))
        rw [World.cell?_setCell_same _ _ _ hu]
        simp [hj]
      · rw [World.cell?_setCell_other _ _ _ _ (by simp only [ne_eq, Addr.mk.injEq]; omega), h5 j hj]
        simp [Ne.symm e]
theorem grow_set (w : World) (b j : Nat) (v : Value) : w.grownBy (w.setCell ⟨b, j, none⟩ v) (some b) := grow_setCells w b j [v]
theorem ints_set (l : List Int) (i : Nat) (z : Int) : (ints l).set i (.int .i64 z) = ints (l.set i z) := by unfold ints; rw [List.map_set]
theorem made1 (n j : Nat) (h : j < n) : (madeCells #[Value.int .i64 0] n).toList[j]? = some (.int .i64 0) := by
  unfold madeCells
  simp only [Array.toList_map, List.getElem?_map, Array.toList_range]
  rw [List.getElem?_eq_getElem (by simpa using h)]
  have e : j % 1 = 0 := Nat.mod_one j
  simp [e]
/-- What make leaves of a row of numbers. -/
theorem madeZ {w : World} {g base t n : Nat} (hn : n ≤ 17592186044417) (ho : w.ownsRow base t 1 (.slice (some ⟨g, 0, none⟩) n n) n (madeCells #[Value.int .i64 0] n).toList) : OwnV w (.slice (some ⟨g, 0, none⟩) n n) (ints (List.replicate n 0)) (some g) ∧ base ≤ g := by
  rcases ho.2 with ⟨h, _⟩ | ⟨g', cap', cur, e, hg, hh, hle, hm, hs, ht⟩
  · simp at h
  · simp only [Value.slice.injEq, Option.some.injEq, Addr.mk.injEq] at e
    obtain ⟨⟨rfl, _, _⟩, _, rfl⟩ := e
    have hc : ∀ j, j < n → w.cell? ⟨g, j, none⟩ = some (.int .i64 0) := fun j hj => by
      have h1 := made1 n j hj
      rw [← ht, List.getElem?_take_of_lt (by omega)] at h1
      simp only [World.cell?, hh]
      rw [Array.getElem?_toList] at h1
      simpa using h1
    refine ⟨.inr ⟨g, n, rfl, by rw [ints_len, List.length_replicate], (Array.getElem?_eq_some_iff.mp hh).1, by rw [ints_len, List.length_replicate]; omega, by unfold maxLen; omega, fun j hj => ?_, fun j hj => ?_, fun j hj => ?_⟩, hg⟩
    · simp only [World.frozen?, hh]; simp
    · rw [hc j hj]; rfl
    · rw [ints_len, List.length_replicate] at hj
      rw [hc j hj, ints_get (by rw [List.length_replicate]; exact hj)]
      simp [List.getD_eq_getElem?_getD, hj]
/-- A row's numbers, told place by place. -/
def tab (k : Nat) (f : Nat → Int) : List Int := (List.range k).map f
theorem tab_len (k : Nat) (f : Nat → Int) : (tab k f).length = k := by simp [tab]
theorem tab_get (k : Nat) (f : Nat → Int) {j : Nat} (h : j < k) : (tab k f).getD j 0 = f j := by simp [tab, List.getD_eq_getElem?_getD, h]
theorem tab_set (k : Nat) (f g : Nat → Int) {i : Nat} (h : i < k) (hg : ∀ j, g j = if j = i then g i else f j) : (tab k f).set i (g i) = tab k g := by
  refine List.ext_getElem? fun j => ?_
  unfold tab
  rw [List.getElem?_set]
  simp only [List.length_map, List.length_range, List.getElem?_map]
  by_cases e : i = j
  · subst e
    rw [if_pos rfl, if_pos h, List.getElem?_range h]; rfl
  · rw [if_neg e]
    by_cases hj : j < k
    · rw [List.getElem?_range hj]
      simp only [Option.map_some, Option.some.injEq]
      rw [hg j, if_neg (Ne.symm e)]
    · rw [List.getElem?_eq_none (by simp; omega)]; rfl
theorem tab_congr (k : Nat) (f g : Nat → Int) (h : ∀ j, j < k → f j = g j) : tab k f = tab k g := by
  unfold tab
  exact List.map_congr_left fun j hj => h j (List.mem_range.mp hj)
theorem tab_of (l : List Int) : tab l.length (fun j => l.getD j 0) = l := by
  refine List.ext_getElem (by simp [tab]) fun j h1 h2 => ?_
  simp [tab, List.getD_eq_getElem?_getD, h2]
theorem tab_rep (k : Nat) (f : Nat → Int) (h : ∀ j, j < k → f j = 0) : List.replicate k 0 = tab k f := by
  refine List.ext_getElem (by simp [tab]) fun j h1 h2 => ?_
  simp [tab] at h2 ⊢
  exact (h j h2).symm
theorem tab_mem (k : Nat) (f : Nat → Int) {z : Int} (h : z ∈ tab k f) : ∃ j, j < k ∧ z = f j := by
  obtain ⟨j, hj, rfl⟩ := List.mem_map.mp h
  exact ⟨j, List.mem_range.mp hj, rfl⟩
/-- It reads. -/
theorem OwnV.intsZ {w : World} {v : Value} {l : List Int} {r : Option Nat} (h : OwnV w v (ints l) r) (hl : l.length ≤ 17592186043904) (hok : ∀ z ∈ l, I64 z) : IntsAt w v l := by
  cases r with
  | none =>
    obtain ⟨rfl, e, -⟩ | ⟨g, cap, e, -⟩ := h
    · have : l = [] := by cases l with
        | nil => rfl
        | cons _ _ => simp [ints] at e
      subst this
      exact ⟨none, 0, rfl, by simp, by simp, by simp, by simp⟩
    · cases e
  | some g =>
    obtain ⟨a, cap, rfl, -, -⟩ := h.shape
    obtain ⟨e, -, e2⟩ | ⟨g', cap', e1, e2, -⟩ := id h
    · cases e2
    · simp only [Option.some.injEq] at e1
      subst e1
      simp only [Value.slice.injEq] at e2
      obtain ⟨rfl, _, rfl⟩ := e2
      rw [ints_len] at h ⊢
      exact h.reads hl hok
theorem cutsL_i64 (n : Int) (hn : I64 n) (l : List Int) : ∀ z ∈ cutsL n l, I64 z := fun z hz => by
  by_cases h : n < 0
  · unfold cutsL at hz; rw [if_pos h] at hz; simp at hz
  · obtain ⟨a, -, e⟩ := ((cutsL_is n (by omega) l).2 z).mp hz
    have h1 := Int.emod_nonneg a (show n + 1 ≠ 0 by omega)
    have h2 := Int.emod_lt_of_pos a (show 0 < n + 1 by omega)
    obtain ⟨q1, q2⟩ := hn
    unfold I64
    omega
set_option maxHeartbeats 4000000 in
set_option maxRecDepth 1000000 in
theorem sameIntsEq (v1 v2 : Value) (l : List Int) (w : World) (h1 : IntsAt w v1 l) (h2 : IntsAt w v2 l) : Calls Try.prog 11 #[v1, v2] w fun e w' => e = .returned (.bool true) ∧ Below w.heap.size w w' := by
  obtain ⟨a1, c1, rfl, p0, p1, p2, p3⟩ := h1
  obtain ⟨a2, c2, rfl, q0, q1, q2, q3⟩ := h2
  have HP : Hid (l ≠ [] → ∃ b off, a1 = some ⟨b, off, none⟩ ∧ ∀ j, j < l.length → w.cell? ⟨b, off + j, none⟩ = some (.int .i64 (l.getD j 0))) := p3
  have HQ : Hid (l ≠ [] → ∃ b off, a2 = some ⟨b, off, none⟩ ∧ ∀ j, j < l.length → w.cell? ⟨b, off + j, none⟩ = some (.int .i64 (l.getD j 0))) := q3
  clear p3 q3 p2 q2
  go_enter Try.func11, Try.ntmps11
  go_wp2
  go_loopg [5] l.length (fun gk s5 wx => ∃ (i n : Nat), i + gk = l.length ∧ s5 = .int .i64 i ∧ wx = w.drewN n)
  case atStart => exact ⟨0, 0, by omega, rfl, rfl⟩
  case round =>
    obtain ⟨i, n, hi, rfl, hwr⟩ := hrel
    have HWR : Hid (wr = w.drewN n) := hwr
    clear hwr
    cases gk with
    | zero =>
      have hii : l.length = i := by omega
      subst hii
      go_wp2
      go_ret
      exact ⟨rfl, by rw [HWR.out]; exact below_drewN (Below.refl _ _) n⟩
    | succ gk1 =>
      have hil : i < l.length := by omega
      have hne : l ≠ [] := by rintro rfl; simp at hil
      obtain ⟨b1, o1, rfl, f1⟩ := HP.out hne
      obtain ⟨b2, o2, rfl, f2⟩ := HQ.out hne
      have g1 : wr.cell? ⟨b1, o1 + i, none⟩ = some (.int .i64 (l.getD i 0)) := by rw [HWR.out]; exact f1 i hil
      have g2 : wr.cell? ⟨b2, o2 + i, none⟩ = some (.int .i64 (l.getD i 0)) := by rw [HWR.out]; exact f2 i hil
      have hz : decide (l.getD i 0 ≠ l.getD i 0) = false := by simp
      clear f1 f2 hne
      generalize l.getD i 0 = z at *
      go_wp2
      go_quiet (fail)
      go_wp2
      go_roundg gk1
      case measure => omega
      case rel => exact ⟨i + 1, _, by omega, by go_num, by rw [HWR.out, World.drewN_drewN]⟩
end Go.Proofs.Ytlnbmblmmgjmfaa
