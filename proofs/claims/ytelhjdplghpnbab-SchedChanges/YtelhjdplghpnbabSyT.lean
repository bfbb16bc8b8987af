import Derived.Test.YtelhjdplghpnbabSyS
import Derived.Test.YtelhjdplghpnbabSyQ
/-! slices.Insert of queues, walked; queues picked out of a row. -/
namespace Go.Proofs.Ytelhjdplghpnbab
open Go.RowKit Plain
set_option linter.unusedVariables false
set_option linter.unusedSimpArgs false

set_option maxHeartbeats 4000000 in
set_option maxRecDepth 100000 in
theorem sInsertOf {w : World} {g n i : Nat} {vs : List Qv} {x : Qv} {gx : Nat} (h : OwnQv w (.slice (some ⟨g, 0, none⟩) n n) vs (some g)) (hn : vs.length = n) (hi : i ≤ n) (hb : n ≤ 32) (hx : ∀ j v, x.cells[j]? = some v → w.cell? ⟨gx, j, none⟩ = some v) :
    Calls Try.prog 25 #[.slice (some ⟨g, 0, none⟩) n n, .int .i64 i, .slice (some ⟨gx, 0, none⟩) 1 1] w fun e w' => ∃ g' c', e = .returned (.slice (some ⟨g', 0, none⟩) (n + 1) c') ∧ OwnQv w' (.slice (some ⟨g', 0, none⟩) (n + 1) c') (vs.take i ++ x :: vs.drop i) (some g') ∧ w.grownBy w' (some g) ∧ (g' = g ∨ g' = w.heap.size) := by
  by_cases hin : i < n
  · obtain ⟨W1, W2, W3, G, hI⟩ := insW h hn hin hb hx
    obtain ⟨happ, hcpA, hcpB, hown, hbel, hc1, hc2⟩ := hI
    have HF : Hid (∃ g' c', Ending.returned (.slice (some ⟨w.heap.size, 0, none⟩) (n + 1) G) = .returned (.slice (some ⟨g', 0, none⟩) (n + 1) c') ∧ OwnQv W3 (.slice (some ⟨g', 0, none⟩) (n + 1) c') (vs.take i ++ x :: vs.drop i) (some g') ∧ w.grownBy W3 (some g) ∧ (g' = g ∨ g' = w.heap.size)) := ⟨_, G, rfl, hown, below_grow hbel (some g), .inr rfl⟩
    unfold maxLen at hc2
    clear h hn hx hown hbel
    obtain ⟨N, hN⟩ : ∃ N, w.heap.size = N := ⟨_, rfl⟩
    rw [hN] at happ hcpA hcpB HF
    have hz2 : ¬ ((i : Int) = (n : Int)) := by omega
    have hz3 : (n : Int) < (n : Int) + 1 := by omega
    have hci : ¬ (n = i) := by omega
    have hGi : ¬ (G = i) := by omega
    have hGi1 : ¬ (G = i + 1) := by omega
    have hi1 : i + 1 ≤ n + 1 := by omega
    have hi2 : i ≤ n + 1 := by omega
    have hw1 : IntKind.i64.wrap ((i : Int) + 1) = (i : Int) + 1 := by rw [IntKind.wrap_i64]; omega
    have hb1 : (0 : Int) ≤ (i : Int) + 1 := by omega
    have hb2 : (i : Int) + 1 ≤ (n : Int) + 1 := by omega
    have htn : ((i : Int) + 1).toNat = i + 1 := by omega
    obtain ⟨vA, hA⟩ := hcpA 3
    go_enter Try.func25, Try.ntmps25
    go_wp2_with (at_builtin; refine Lib.wpList_append_run _ rfl _ _ _ _ rfl _ _ rfl rfl _ _ (happ _) ?_)
    obtain ⟨vB, hB⟩ := hcpB 3
    go_region_law (refine step_copy_q rfl _ _ 22 22 rfl (.slice (some ⟨N, (i + 1) * 4, none⟩) (n + 1 - (i + 1)) (G - (i + 1))) (.slice (some ⟨g, i * 4, none⟩) (n - i) (n - i)) (by simp [Act.eval, Act.put]) (by simp [Act.eval, Act.put]) hB ?_)
    go_wp2
    go_ret
    obtain ⟨g', c', e, h1, h2, h3⟩ := HF.out
    exact ⟨g', c', e, h1, h2, by rw [hN]; exact h3⟩
  · obtain rfl : i = n := by omega
    have HSR : Hid (Src Try.prog 4 22 (.slice (some ⟨gx, 0, none⟩) 1 1) [x].length (vcells [x]) w) := by
      refine Src.ofSlice _ Try.underlying22 _ 1 1 _ (by rfl) (fun j u hj => ?_) (vcells_one _)
      rw [WideShapes.add_plain, Nat.zero_add]
      exact hx j u (by simpa [vcells] using hj)
    have HOV := Hid.mkT h
    have HVL := Hid.mkT hn
    clear h hx hn
    go_enter Try.func25, Try.ntmps25
    go_wp2_with (at_builtin; refine wpList_append_v _ rfl _ _ rfl _ _ vs [x] (some g) rfl rfl ?hOwn ?hSrc ?hLen (.inr (Nat.succ_pos _)) ?_)
    case hOwn => exact HOV.out
    case hSrc => exact HSR.out
    case hLen => rw [HVL.out]; simp; omega
    intro v7 w7 g7 ho7 hg7 hr7
    obtain ⟨a7, c7, e7, -, -⟩ := ho7.shape
    have hlen : (vs ++ [x]).length = i + 1 := by simp [HVL.out]
    rw [hlen] at e7
    subst e7
    have hlist : vs.take i ++ x :: vs.drop i = vs ++ [x] := by rw [← HVL.out]; simp
    have ha7 : a7 = some ⟨g7, 0, none⟩ := by
      rcases ho7 with ⟨e, _, _⟩ | ⟨g', cap', e1, e2, _⟩
      · simp at e
      · simp only [Option.some.injEq] at e1
        simp only [Value.slice.injEq] at e2
        rw [e1]; exact e2.1
    subst ha7
    have HF : Hid (∃ g' c', Ending.returned (.slice (some ⟨g7, 0, none⟩) (i + 1) c7) = .returned (.slice (some ⟨g', 0, none⟩) (i + 1) c') ∧ OwnQv w7 (.slice (some ⟨g', 0, none⟩) (i + 1) c') (vs.take i ++ x :: vs.drop i) (some g') ∧ w.grownBy w7 (some g) ∧ (g' = g ∨ g' = w.heap.size)) := by
      rw [hlist]
      exact ⟨g7, c7, rfl, ho7, hg7, by rcases hr7 with e | e; (first | (simp only [Option.some.injEq] at e; exact .inl e) | exact .inl e); (exact .inr e)⟩
    clear ho7 hg7 hr7 hlist hlen
    go_wp2
    go_ret
    exact HF.out
/-- A row whose queues are picked out of another one's, none twice, or have no costs. -/
theorem QMem.pick {base : Nat} {w w' : World} {v v' : Value} {vs vs' : List Qv} {g g' : Nat} {fl fl' : List (List Int)} {rs rs' : List (Option Nat)} (h : QMem base w v vs (some g) fl rs) (hf : fl.length = vs.length) (ho : OwnQv w' v' vs' (some g')) (k : w.grownBy w' (some g)) (hg' : g' = g ∨ g' = w.heap.size) (hb : base ≤ w.heap.size) (hl : fl'.length = vs'.length) (hr : rs'.length = vs'.length) (σ : Nat → Option Nat)
    (h1 : ∀ j m, j < vs'.length → σ j = some m → m < vs.length ∧ vs'.getD j Qv.zero = vs.getD m Qv.zero ∧ fl'.getD j [] = fl.getD m [] ∧ rs'.getD j none = rs.getD m none)
    (h0 : ∀ j, j < vs'.length → σ j = none → (vs'.getD j Qv.zero).sl = (none, 0, 0) ∧ fl'.getD j [] = [] ∧ rs'.getD j none = none)
    (hi : ∀ i j m, i < vs'.length → j < vs'.length → σ i = some m → σ j = some m → i = j) : QMem base w' v' vs' (some g') fl' rs' := by
  obtain ⟨l1, l2⟩ := h.lts
  have hgl := l1 g rfl
  have hgb := h.new g rfl
  have hrow : ∀ j m, j < vs'.length → σ j = some m → ∀ q, rs'.getD j none = some q → base ≤ q ∧ q < w.heap.size ∧ q ≠ g := fun j m hj hs q e => by
    obtain ⟨a1, a2, a3, a4⟩ := h1 j m hj hs
    rw [a4] at e
    refine ⟨h.newc m (by omega) q e, l2 m (by omega) q e, fun e2 => ?_⟩
    exact h.ap m (by omega) q e (by rw [e2])
  have hany : ∀ j, j < vs'.length → ∀ q, rs'.getD j none = some q → ∃ m, σ j = some m := fun j hj q e => by
    cases hs : σ j with
    | none => rw [(h0 j hj hs).2.2] at e; cases e
    | some m => exact ⟨m, rfl⟩
  refine ⟨ho, by rw [hr, hl], by omega, fun j hj => ?_, fun q e => ?_, fun j hj q e => ?_, fun j hj q e e2 => ?_, fun i j hi' hj hij q e e2 => ?_⟩
  · rw [hl] at hj
    cases hs : σ j with
    | none =>
      obtain ⟨a1, a2, a3⟩ := h0 j hj hs
      rw [a1, a2, a3]
      exact RowO.nil _
    | some m =>
      obtain ⟨a1, a2, a3, a4⟩ := h1 j m hj hs
      rw [a2, a3, a4]
      exact (h.cost m (by omega)).kept k (fun q e => h.ap m (by omega) q e)
  · simp only [Option.some.injEq] at e
    subst e
    rcases hg' with e | e <;> omega
  · rw [hl] at hj
    obtain ⟨m, hs⟩ := hany j hj q e
    exact (hrow j m hj hs q e).1
  · rw [hl] at hj
    obtain ⟨m, hs⟩ := hany j hj q e
    obtain ⟨b1, b2, b3⟩ := hrow j m hj hs q e
    simp only [Option.some.injEq] at e2
    subst e2
    rcases hg' with e3 | e3
    · exact b3 e3
    · omega
  · rw [hl] at hi' hj
    obtain ⟨m1, s1⟩ := hany i hi' q e
    obtain ⟨m2, s2⟩ := hany j hj q e2
    obtain ⟨a1, a2, a3, a4⟩ := h1 i m1 hi' s1
    obtain ⟨c1, c2, c3, c4⟩ := h1 j m2 hj s2
    rw [a4] at e
    rw [c4] at e2
    have hne : m1 ≠ m2 := fun e3 => hij (hi i j m1 hi' hj s1 (by rw [s2, e3]))
    exact h.apc m1 m2 (by omega) (by omega) hne q e e2
theorem getD_insQ {α : Type} (l : List α) (x d : α) (k j : Nat) (hk : k ≤ l.length) : (l.take k ++ x :: l.drop k).getD j d = if j < k then l.getD j d else if j = k then x else l.getD (j - 1) d := by
  have htl : (l.take k).length = k := by simp; omega
  by_cases h1 : j < k
  · rw [if_pos h1]
    simp only [List.getD_eq_getElem?_getD]
    rw [List.getElem?_append_left (by omega), List.getElem?_take_of_lt h1]
  · rw [if_neg h1]
    simp only [List.getD_eq_getElem?_getD]
    rw [List.getElem?_append_right (by omega), htl]
    by_cases h2 : j = k
    · rw [if_pos h2, h2, Nat.sub_self]; rfl
    · rw [if_neg h2]
      obtain ⟨m, rfl⟩ : ∃ m, j = k + (m + 1) := ⟨j - k - 1, by omega⟩
      rw [show k + (m + 1) - k = m + 1 by omega, List.getElem?_cons_succ, List.getElem?_drop, show k + (m + 1) - 1 = k + m by omega]
theorem getD_delQ {α : Type} (l : List α) (d : α) (k j : Nat) : (l.eraseIdx k).getD j d = if j < k then l.getD j d else l.getD (j + 1) d := by
  simp only [List.getD_eq_getElem?_getD, List.getElem?_eraseIdx]
  split <;> rfl
theorem getD_map {l : List Qu} {j : Nat} (h : j < l.length) : (l.map (·.costs)).getD j [] = (l.getD j Qu.zero).costs := by simp [List.getD_eq_getElem?_getD, h]
/-- A queue has come. -/
theorem ins_tur {base : Nat} {w w' : World} {l : List Qu} {z : Int} {f : Bool} {g g' n c' : Nat} {vs : List Qv} {rs : List (Option Nat)} (h : TurN base w (.slice (some ⟨g, 0, none⟩) n n) ⟨l, z, f⟩ vs (some g) rs) {k : Nat} (hk : k ≤ l.length) (hn : l.length = n) (hb : base ≤ w.heap.size) (hfew : n ≤ 32) (id q : Int) (hid : I64 id) (hq : I64 q)
    (ho : OwnQv w' (.slice (some ⟨g', 0, none⟩) (n + 1) c') (vs.take k ++ ⟨id, q, 0, (none, 0, 0)⟩ :: vs.drop k) (some g')) (kg : w.grownBy w' (some g)) (hg' : g' = g ∨ g' = w.heap.size) (z' : Int) (hz' : I64 z') :
    ∃ rs', TurN base w' (.slice (some ⟨g', 0, none⟩) (n + 1) c') ⟨l.take k ++ ⟨id, q, 0, []⟩ :: l.drop k, z', f⟩ (vs.take k ++ ⟨id, q, 0, (none, 0, 0)⟩ :: vs.drop k) (some g') rs' := by
  have hvl : vs.length = l.length := h.len
  have hrl : rs.length = l.length := by rw [h.mem.len]; simp
  have hl1 : (l.take k ++ (⟨id, q, 0, []⟩ : Qu) :: l.drop k).length = n + 1 := by simp; omega
  have hl2 : (vs.take k ++ (⟨id, q, 0, (none, 0, 0)⟩ : Qv) :: vs.drop k).length = n + 1 := by simp; omega
  have hl3 : (rs.take k ++ none :: rs.drop k).length = n + 1 := by simp; omega
  have hm := h.mem.pick (vs' := vs.take k ++ ⟨id, q, 0, (none, 0, 0)⟩ :: vs.drop k) (fl' := (l.take k ++ ⟨id, q, 0, []⟩ :: l.drop k).map (·.costs)) (rs' := rs.take k ++ none :: rs.drop k) (by simp [hvl]) ho kg hg' hb (by rw [List.length_map, hl1, hl2]) (by rw [hl3, hl2]) (fun j => if j < k then some j else if j = k then none else some (j - 1))
    (fun j m hj hs => by
      rw [hl2] at hj
      rw [getD_map (by rw [hl1]; exact hj), getD_insQ _ _ _ _ _ (by omega), getD_insQ _ _ _ _ _ hk, getD_insQ _ _ _ _ _ (by omega)]
      by_cases h1 : j < k
      · rw [if_pos h1] at hs
        simp only [Option.some.injEq] at hs
        subst hs
        rw [if_pos h1, if_pos h1, if_pos h1]
        exact ⟨by omega, rfl, (getD_map (l := l) (show j < l.length by omega)).symm, rfl⟩
      · rw [if_neg h1] at hs
        by_cases h2 : j = k
        · rw [if_pos h2] at hs; cases hs
        · rw [if_neg h2] at hs
          simp only [Option.some.injEq] at hs
          subst hs
          rw [if_neg h1, if_neg h2, if_neg h1, if_neg h2, if_neg h1, if_neg h2]
          exact ⟨by omega, rfl, (getD_map (l := l) (show j - 1 < l.length by omega)).symm, rfl⟩)
    (fun j hj hs => by
      rw [hl2] at hj
      have hjk : j = k := by
        by_cases h1 : j < k
        · rw [if_pos h1] at hs; cases hs
        · rw [if_neg h1] at hs
          by_cases h2 : j = k
          · exact h2
          · rw [if_neg h2] at hs; cases hs
      subst hjk
      rw [getD_map (by rw [hl1]; exact hj), getD_insQ _ _ _ _ _ (by omega), getD_insQ _ _ _ _ _ hk, getD_insQ _ _ _ _ _ (by omega)]
      simp)
    (fun i j m hi hj s1 s2 => by
      by_cases a1 : i < k
      · rw [if_pos a1] at s1
        by_cases a2 : j < k
        · rw [if_pos a2] at s2; simp only [Option.some.injEq] at s1 s2; omega
        · rw [if_neg a2] at s2
          by_cases a3 : j = k
          · rw [if_pos a3] at s2; cases s2
          · rw [if_neg a3] at s2; simp only [Option.some.injEq] at s1 s2; omega
      · rw [if_neg a1] at s1
        by_cases b1 : i = k
        · rw [if_pos b1] at s1; cases s1
        · rw [if_neg b1] at s1
          by_cases a2 : j < k
          · rw [if_pos a2] at s2; simp only [Option.some.injEq] at s1 s2; omega
          · rw [if_neg a2] at s2
            by_cases a3 : j = k
            · rw [if_pos a3] at s2; cases s2
            · rw [if_neg a3] at s2; simp only [Option.some.injEq] at s1 s2; omega)
  have hqq : ∀ j, (⟨l.take k ++ ⟨id, q, 0, []⟩ :: l.drop k, z', f⟩ : Tr).q j = if j < k then (⟨l, z, f⟩ : Tr).q j else if j = k then ⟨id, q, 0, []⟩ else (⟨l, z, f⟩ : Tr).q (j - 1) := fun j => getD_insQ _ _ _ _ _ hk
  refine ⟨_, hm, by rw [hl2, ← hl1], fun j hj => ?_, fun j hj => ?_, by show (l.take k ++ (⟨id, q, 0, []⟩ : Qu) :: l.drop k).length ≤ _; rw [hl1]; omega, hz'⟩
  · have hj' : j < n + 1 := by rw [← hl1]; exact hj
    rw [hqq j, getD_insQ _ _ _ _ _ (by omega)]
    by_cases h1 : j < k
    · rw [if_pos h1, if_pos h1]; exact h.same j (by show j < l.length; omega)
    · rw [if_neg h1, if_neg h1]
      by_cases h2 : j = k
      · rw [if_pos h2, if_pos h2]; exact ⟨rfl, rfl, rfl, rfl⟩
      · rw [if_neg h2, if_neg h2]; exact h.same (j - 1) (by show j - 1 < l.length; omega)
  · have hj' : j < n + 1 := by rw [← hl1]; exact hj
    rw [hqq j]
    by_cases h1 : j < k
    · rw [if_pos h1]; exact h.ok j (by show j < l.length; omega)
    · rw [if_neg h1]
      by_cases h2 : j = k
      · rw [if_pos h2]; exact ⟨hid, hq, by constructor <;> simp, by simp, by simp⟩
      · rw [if_neg h2]; exact h.ok (j - 1) (by show j - 1 < l.length; omega)
end Go.Proofs.Ytelhjdplghpnbab
