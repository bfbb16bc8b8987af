import Derived.Test.YthfnbcicpcbgjaaKnb
/-! keydir: dirs without keys are gone through. -/
namespace Go.Proofs.Ythfnbcicpcbgjaa
open Go.RowKit Go.Shelf Plain
attribute [local go_sem] Oper.semAt_some
set_option linter.unusedVariables false
set_option linter.unusedSimpArgs false

theorem hresAfter : Try.f43.results = #[.tmp 2, .tmp 3] := by kernel_rfl
set_option maxHeartbeats 2000000 in
theorem afterNone (w : World) : Calls Try.prog 43 #[.string ⟨#[]⟩] w fun e w' => e = .returned (.tuple #[.string ⟨#[]⟩, .bool false]) ∧ w' = w := by
  go_enter Try.func43, Try.ntmps43
  go_wp2
  go_loopg [4] 0 (fun gk s4 wx => s4 = .int .i64 0 ∧ wx = w)
  case atStart => exact ⟨by first | rfl | simp, rfl⟩
  case round =>
    obtain ⟨rfl, rfl⟩ := hrel
    go_wp2
    refine bodyPost_ret (v := .tuple #[.string ⟨#[]⟩, .bool false]) ?_ rfl ⟨rfl, rfl⟩
    simp only [results, hresAfter]
    go_simp

set_option maxHeartbeats 2000000 in
theorem prefixIn (n : Nat) (p0 : Option Addr) (p : ByteArray) (w : World) :
    CallsIn Fence.wide n Try.prog 25 #[.pointer p0, .string p] w fun e w' => e = .returned (.func (.func 42) #[] #[.pointer (some ⟨w.heap.size + 1, 0, none⟩), .pointer (some ⟨w.heap.size, 0, none⟩)]) ∧ w' = (w.alloc (.cells #[.pointer p0] 29)).alloc (.cells #[.string p] 9) := by
  refine callsIn_of_wp Try.func25 rfl trivial ?_ rfl
  simp only [Try.ntmps25, List.size_toArray, List.length_cons, List.length_nil, Nat.reduceAdd, Nat.reduceSub, Array.replicate_succ, Array.replicate_zero, List.push_toArray, List.append_toArray, List.nil_append, List.cons_append]
  gi_wp2
  go_ret
  exact ⟨rfl, rfl⟩

theorem EmptyAt.tree {da : Option Addr} {w : World} (h : EmptyAt w da) (n₀ : Nat) : TreeAt (fun g => g < n₀) w 0 none [] := ⟨rfl, rfl⟩

set_option maxRecDepth 100000 in
set_option maxHeartbeats 4000000 in
theorem prefix1E {da : Option Addr} (n : Nat) (hn : 1 ≤ n) (l B : Nat) (W : World) (h : EmptyAt W da) (hcd : W.cell? ⟨B, 0, none⟩ = some (.pointer da)) (hcp : W.cell? ⟨B + 1, 0, none⟩ = some (.string ⟨#[]⟩)) :
    CallsIn Fence.wide n Try.prog 42 #[.func (.yield l) #[] #[], .pointer (some ⟨B + 1, 0, none⟩), .pointer (some ⟨B, 0, none⟩)] W fun e W' => (∃ v, e = .returned v) ∧ Below W.heap.size W W' := by
  have hdd : ∀ k : Nat, (Fence.wide.depth.isSome = true → 1 ≤ k) := fun k h => by cases h
  obtain ⟨W0, hw0⟩ : ∃ W0, W.alloc (.cells #[.func (.yield l) #[] #[]] 82) = W0 := ⟨_, rfl⟩
  have hb0 : Below W.heap.size W W0 := by rw [← hw0]; exact (Below.refl _ _).alloc (Nat.le_refl _) _
  have hcd0 := (hb0.cell (p := ⟨B, 0, none⟩) (cell_lt hcd)).trans hcd
  have hcp0 := (hb0.cell (p := ⟨B + 1, 0, none⟩) (cell_lt hcp)).trans hcp
  have HA : Hid (CallsIn Fence.wide (n - 1) Try.prog 43 #[.string ⟨#[]⟩] W0 fun e w' => e = .returned (.tuple #[.string ⟨#[]⟩, .bool false]) ∧ w' = W0) := callsIn_wide.2 (afterNone W0)
  obtain ⟨W1, hw1⟩ : ∃ W1, ((W0.alloc (.cells #[.pointer da] 29)).alloc (.cells #[.string ⟨#[]⟩] 9)).alloc (.cells #[.string ⟨#[]⟩] 9) = W1 := ⟨_, rfl⟩
  have HAL : Hid (CallsIn Fence.wide (n - 1) Try.prog 24 #[.pointer da, .string ⟨#[]⟩, .string ⟨#[]⟩] W0 fun e w' => e = .returned (.func (.func 40) #[] #[.pointer (some ⟨W0.heap.size, 0, none⟩), .pointer (some ⟨W0.heap.size + 1, 0, none⟩), .pointer (some ⟨W0.heap.size + 2, 0, none⟩)]) ∧ w' = W1) := by
    have h := allIn (n - 1) da ⟨#[]⟩ ⟨#[]⟩ W0
    rw [hw1] at h
    exact h
  have hs1 : W1.heap.size = W0.heap.size + 3 := by rw [← hw1]; simp
  have hb01 : Below W0.heap.size W0 W1 := by rw [← hw1]; exact (((Below.refl _ _).alloc (Nat.le_refl _) _).alloc (by simp) _).alloc (by simp; omega) _
  have hb1 : Below W.heap.size W W1 := hb0.trans (hb01.mono hb0.size)
  have hsz0 := hb0.size
  have hcap : CapAt W1 W0.heap.size (.pointer da) ⟨#[]⟩ ⟨#[]⟩ := by
    rw [← hw1]
    have e1 : (W0.alloc (.cells #[.pointer da] 29)).heap.size = W0.heap.size + 1 := by simp
    have e2 : ((W0.alloc (.cells #[.pointer da] 29)).alloc (.cells #[.string ⟨#[]⟩] 9)).heap.size = W0.heap.size + 2 := by simp
    have k1 : (W0.alloc (.cells #[.pointer da] 29)).cell? ⟨W0.heap.size, 0, none⟩ = some (.pointer da) := World.cell?_alloc_at _ _ _ _ rfl
    have k2 : ((W0.alloc (.cells #[.pointer da] 29)).alloc (.cells #[.string ⟨#[]⟩] 9)).cell? ⟨W0.heap.size + 1, 0, none⟩ = some (.string ⟨#[]⟩) := by rw [← e1]; exact World.cell?_alloc_at _ _ _ _ rfl
    refine ⟨?_, ?_, ?_⟩
    · exact cell_kept (cell_kept k1 (World.grownBy_alloc _ _ none) (fun r e => by cases e)) (World.grownBy_alloc _ _ none) (fun r e => by cases e)
    · exact cell_kept k2 (World.grownBy_alloc _ _ none) (fun r e => by cases e)
    · rw [← e2]; exact World.cell?_alloc_at _ _ _ _ rfl
  have hseq := allStops da (n - 1) none ⟨#[]⟩ ⟨#[]⟩ (by decide) (by decide) W.heap.size W0.heap.size 0 [] W1 (by omega) (by omega) hcap (fun u hu => topE ((h.later hb1).later hu)) ⟨rfl, rfl⟩ Srt.nil
  refine callsIn_of_wp_marks Try.func42 rfl trivial ?_ rfl
  simp only [Try.ntmps42, List.size_toArray, List.length_cons, List.length_nil, Nat.reduceAdd, Nat.reduceSub, Array.replicate_succ, Array.replicate_zero, List.push_toArray, List.append_toArray, List.nil_append, List.cons_append]
  gi_wp2_with fail
  refine ⟨trivial, HA.out.mono ?_⟩
  rintro e wk ⟨rfl, hwk⟩
  obtain rfl := hwk.symm
  gi_wp2_with fail
  refine ⟨trivial, HAL.out.mono ?_⟩
  rintro e wk ⟨rfl, hwk⟩
  obtain rfl := hwk.symm
  gi_wp2_with fail
  refine wpIn_rangeFunc_ownH rfl hn (gf := 40) (lb := #[.pointer (some ⟨W0.heap.size, 0, none⟩), .pointer (some ⟨W0.heap.size + 1, 0, none⟩), .pointer (some ⟨W0.heap.size + 2, 0, none⟩)]) rfl trivial (enters_of Try.func40 (by kernel_rfl) rfl) hseq belowK_t (belowK_b (by omega)) (Below.refl _ _) (fun _ => rfl)
    (fun _ u => Below W.heap.size W u) (fun _ _ _ => False)
    (fun s A A' row h1 hg hr => h1.grown hg h1.size (fun k e => by have := (hr k e).1; omega))
    (fun _ _ _ _ _ h _ _ => h)
    hb1 (fun _ _ _ => True) (fun _ _ _ _ _ _ _ _ _ => trivial) ?assign ?body ?done ?stop
  case assign =>
    intro l' pre x V K hI hK
    gi_wp2
    exact hK _ _ ((KeepsOthers.alloc _ _).from _) ((Below.refl _ V).alloc hI.size _) (hI.alloc hI.size _) trivial
  case body =>
    rintro l' pre x a' V hl0 hrc hI hA hN
    exact absurd hN (by simp [rngL])
  case done =>
    rintro D ys V hD hys hI hK
    gi_wp2
    refine ⟨by simp, .inl ⟨_, _, rfl, run_takeDeferred hK, ?_⟩⟩
    exact ⟨_, results_none rfl _ _ _, ⟨_, rfl⟩, hI.trans (belowK_b (w := W) (Nat.le_refl _) V D _ _ (by omega) hK rfl rfl)⟩
  case stop =>
    rintro D c pre V hD hpre hF hK
    exact hF.elim

/-- Prefix of a dir without keys gives nothing. -/
theorem prefixStops {da : Option Addr} (n : Nat) (hn : 1 ≤ n) (n₀ B : Nat) (w : World) (h : EmptyAt w da) (hcd : w.cell? ⟨B, 0, none⟩ = some (.pointer da)) (hcp : w.cell? ⟨B + 1, 0, none⟩ = some (.string ⟨#[]⟩)) :
    SeqStopsK Fence.wide n Try.prog 42 #[.pointer (some ⟨B + 1, 0, none⟩), .pointer (some ⟨B, 0, none⟩)] kencs (Below n₀) (fun ys => ys = []) (fun pre => pre <+: []) 0 w := fun l J Jx W hW hJ _ hY h0 =>
  (prefix1E n hn l B W (h.later hW) ((hW.cell (p := ⟨B, 0, none⟩) (cell_lt hcd)).trans hcd) ((hW.cell (p := ⟨B + 1, 0, none⟩) (cell_lt hcp)).trans hcp)).mono fun e W' ⟨h1, h2⟩ => ⟨h1, .inl ⟨[], rfl, hJ [] W W' none h0 (below_grow h2 none) (fun r e => by cases e)⟩⟩
end Go.Proofs.Ythfnbcicpcbgjaa
