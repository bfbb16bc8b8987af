import Derived.Test.YtlnppgjppfkocaaDoorYbD
/-! The program's Show: words by number. -/
namespace Go.Proofs.YtlnppgjppfkocaaDoor.Xs
open Go.RowKit Plain
set_option linter.unusedVariables false
set_option linter.unusedSimpArgs false

theorem nms_new (w : World) (l : List By) (C : Array Value) (t : TypeId) (n : Nat) (hC : C = (strs l).toArray) (hn : l.length = n) (hn2 : n ≤ 1000) (hx : (l.all fun x => decide (x.length ≤ 1000)) = true) : NmsAt (w.alloc (.cells C t)) (.slice (some ⟨w.heap.size, 0, none⟩) n n) l := by
  subst hn
  refine ⟨_, l.length, rfl, Nat.le_refl _, by omega, fun x hxl => ?_, fun _ => ⟨w.heap.size, 0, rfl, fun j hj => ?_⟩⟩
  · have := List.all_eq_true.1 hx x hxl
    simp at this; omega
  · rw [World.cell?_alloc_at _ _ _ _ rfl, hC, List.getElem?_toArray, Nat.zero_add, strs_get hj]
set_option maxHeartbeats 4000000 in
set_option maxRecDepth 100000 in
theorem opWordsOf (w : World) :
    Calls Tryd.prog 9 #[] w fun e w' => ∃ v, e = .returned v ∧ NmsAt w' v opsL ∧ Below w.heap.size w w' := by
  go_enter Tryd.func9, Tryd.ntmps9
  go_wp2
  go_ret
  refine ⟨_, rfl, nms_new w opsL _ _ 65 (by rfl) (by decide +kernel) (by decide) (by decide +kernel), (Below.refl _ w).alloc (Nat.le_refl _) _⟩
set_option maxHeartbeats 4000000 in
set_option maxRecDepth 100000 in
theorem codeWordsOf (w : World) :
    Calls Tryd.prog 10 #[] w fun e w' => ∃ v, e = .returned v ∧ NmsAt w' v cW ∧ Below w.heap.size w w' := by
  go_enter Tryd.func10, Tryd.ntmps10
  go_wp2
  go_ret
  refine ⟨_, rfl, nms_new w cW _ _ 12 (by rfl) (by decide +kernel) (by decide) (by decide +kernel), (Below.refl _ w).alloc (Nat.le_refl _) _⟩
set_option maxHeartbeats 4000000 in
set_option maxRecDepth 100000 in
theorem kindWordsOf (w : World) :
    Calls Tryd.prog 23 #[] w fun e w' => ∃ v, e = .returned v ∧ NmsAt w' v kindsL ∧ Below w.heap.size w w' := by
  go_enter Tryd.func23, Tryd.ntmps23
  go_wp2
  go_ret
  refine ⟨_, rfl, nms_new w kindsL _ _ 3 (by rfl) (by decide +kernel) (by decide) (by decide +kernel), (Below.refl _ w).alloc (Nat.le_refl _) _⟩
theorem extentOf (b : Bool) (w : World) : Calls Tryd.prog 11 #[.bool b] w fun e w' => e = .returned (.string (ba (if b = true then moreW else lastW))) ∧ Below w.heap.size w w' := by
  cases b with
  | true =>
    go_enter Tryd.func11, Tryd.ntmps11
    go_wp2
    go_ret
    exact ⟨rfl, Below.refl _ _⟩
  | false =>
    go_enter Tryd.func11, Tryd.ntmps11
    go_wp2
    go_ret
    exact ⟨rfl, Below.refl _ _⟩
set_option maxHeartbeats 4000000 in
set_option maxRecDepth 100000 in
theorem namedOf (ws : List By) (v : Value) (n : Int) (hn : I64 n) (p : By) (hp : p.length ≤ 100) (w : World) (h : NmsAt w v ws) (hT : Tab w) :
    Calls Tryd.prog 8 #[v, .int .i64 n, .string (ba p)] w fun e w' => e = .returned (.string (ba (namedL ws n p))) ∧ Below w.heap.size w w' := by
  obtain ⟨a, cap, rfl, h0, h1, h2, h3⟩ := h
  unfold namedL
  have hcat : ba p ++ ba (Lib.itoa n) = ba (p ++ Lib.itoa n) := ba_app _ _
  have hil := itoa_len hn.1 hn.2
  have hbd : ¬ 9223372036854775807 < p.length + (Lib.itoa n).length := by omega
  by_cases g1 : 0 ≤ n
  · by_cases g2 : n < (ws.length : Int)
    · obtain ⟨b, off, rfl, hc⟩ := h3 (fun e => by rw [e] at g2; simp at g2; omega)
      have hcn := hc n.toNat (by omega)
      obtain ⟨k, hk⟩ : ∃ k : Nat, n = (k : Int) := ⟨n.toNat, by omega⟩
      subst hk
      simp only [Int.toNat_natCast] at hcn ⊢
      obtain ⟨y, hy⟩ : ∃ y, ws.getD k [] = y := ⟨_, rfl⟩
      rw [hy] at hcn ⊢
      by_cases g3 : y = []
      · rw [if_neg (fun e => e.2.2 g3)]
        subst g3
        go_enter Tryd.func8, Tryd.ntmps8
        go_wp2_with (go_at_call 20; refine (itoaQ _ hn _ hT).mono ?_; rintro e w1 ⟨rfl, hb⟩)
        go_wp2
        go_ret
        exact ⟨rfl, hb⟩
      · rw [if_pos ⟨g1, g2, g3⟩]
        have hem : List.isEmpty y = false := by cases y <;> simp_all
        go_enter Tryd.func8, Tryd.ntmps8
        go_wp2
        go_ret
        exact ⟨rfl, Below.refl _ _⟩
    · rw [if_neg (fun e => g2 e.2.1)]
      go_enter Tryd.func8, Tryd.ntmps8
      go_wp2_with (go_at_call 20; refine (itoaQ _ hn _ hT).mono ?_; rintro e w1 ⟨rfl, hb⟩)
      go_wp2
      go_ret
      exact ⟨rfl, hb⟩
  · rw [if_neg (fun e => g1 e.1)]
    go_enter Tryd.func8, Tryd.ntmps8
    go_wp2_with (go_at_call 20; refine (itoaQ _ hn _ hT).mono ?_; rintro e w1 ⟨rfl, hb⟩)
    go_wp2
    go_ret
    exact ⟨rfl, hb⟩
end Go.Proofs.YtlnppgjppfkocaaDoor.Xs
