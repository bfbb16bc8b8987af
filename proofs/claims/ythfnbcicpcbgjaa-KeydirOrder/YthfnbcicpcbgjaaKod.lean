import Derived.Test.YthfnbcicpcbgjaaKoc
/-! keydir: Prefix. -/
namespace Go.Proofs.Ythfnbcicpcbgjaa
open Go.RowKit Go.Shelf Plain
attribute [local go_sem] Oper.semAt_some
set_option linter.unusedVariables false
set_option linter.unusedSimpArgs false

theorem yieldIn {m m' : Nat} {l l' : Nat} {args : Array Value} {W : World} {R : Ending → World → Prop} (h : YieldAt Fence.wide m Try.prog l args W R) : YieldAt (Fence.wide.inRound l') m' Try.prog l args W R := by
  obtain ⟨fn, tmps, assign, body, hy, hR⟩ := yieldAny rfl m' h
  exact ⟨fn, tmps, assign, body, hy, hR⟩

set_option maxRecDepth 100000 in
set_option maxHeartbeats 8000000 in
theorem prefix1In {da q : Option Addr} (n n₀ d B l : Nat) (hn : 1 ≤ n) (p : ByteArray) (hp : p.size ≤ maxLen) (ks : List Ke) (J Jx : List Ke → World → Prop) (W : World) (hJ : OwnFrom W.heap.size J) (hJx : OwnFrom W.heap.size Jx)
    (hY : ∀ pre x W1, J pre W1 → YieldAt Fence.wide (n - 1) Try.prog l (kencs x) W1 fun e W' => (e = .returned (.bool true) ∧ KpW n₀ W.heap.size W1 W' ∧ J (pre ++ [x]) W') ∨ (e = .returned (.bool false) ∧ KpH W.heap.size W1 W' ∧ Jx (pre ++ [x]) W'))
    (hn₀ : n₀ ≤ W.heap.size) (hcd : W.cell? ⟨B, 0, none⟩ = some (.pointer da)) (hcp : W.cell? ⟨B + 1, 0, none⟩ = some (.string p)) (hTop : ∀ u, Below n₀ W u → Calls Try.prog 35 #[.pointer da] u fun e w' => e = .returned (.pointer q) ∧ w' = u) (hT : TreeAt (fun g => g < n₀) W d q ks) (hs : Srt ks) (h0 : J [] W) :
    CallsIn Fence.wide n Try.prog 42 #[.func (.yield l) #[] #[], .pointer (some ⟨B + 1, 0, none⟩), .pointer (some ⟨B, 0, none⟩)] W fun e W' => (∃ v, e = .returned v) ∧ (J (rngL p (aftS p) ks) W' ∨ ∃ pre, pre <+: rngL p (aftS p) ks ∧ Jx pre W') := by
  have hdd : ∀ k : Nat, (Fence.wide.depth.isSome = true → 1 ≤ k) := fun k h => by cases h
  obtain ⟨W0, hw0⟩ : ∃ W0, W.alloc (.cells #[.func (.yield l) #[] #[]] 82) = W0 := ⟨_, rfl⟩
  have hb0 : Below W.heap.size W W0 := by rw [← hw0]; exact (Below.refl _ _).alloc (Nat.le_refl _) _
  have hs0 : W0.heap.size = W.heap.size + 1 := by rw [← hw0]; simp
  have hcd0 := (hb0.cell (p := ⟨B, 0, none⟩) (cell_lt hcd)).trans hcd
  have hcp0 := (hb0.cell (p := ⟨B + 1, 0, none⟩) (cell_lt hcp)).trans hcp
  have hcy0 : W0.cell? ⟨W.heap.size, 0, none⟩ = some (.func (.yield l) #[] #[]) := by rw [← hw0]; exact World.cell?_alloc_at _ _ _ _ rfl
  have HA : Hid (CallsIn Fence.wide (n - 1) Try.prog 43 #[.string p] W0 fun e w' => e = .returned (.tuple #[.string (aftS p), .bool (aftB p)]) ∧ Below W0.heap.size W0 w') := callsIn_wide.2 (afterOf p W0 hp)
  refine callsIn_of_wp_marks Try.func42 rfl trivial ?_ rfl
  simp only [Try.ntmps42, List.size_toArray, List.length_cons, List.length_nil, Nat.reduceAdd, Nat.reduceSub, Array.replicate_succ, Array.replicate_zero, List.push_toArray, List.append_toArray, List.nil_append, List.cons_append]
  gi_wp2_with fail
  refine ⟨trivial, HA.out.mono ?_⟩
  rintro e W1 ⟨rfl, hb1⟩
  have hs01 := hb1.size
  have hcd1 := (hb1.cell (p := ⟨B, 0, none⟩) (cell_lt hcd0)).trans hcd0
  have hcp1 := (hb1.cell (p := ⟨B + 1, 0, none⟩) (cell_lt hcp0)).trans hcp0
  have hcy1 := (hb1.cell (p := ⟨W.heap.size, 0, none⟩) (cell_lt hcy0)).trans hcy0
  have hbW1 : Below W.heap.size W W1 := hb0.trans (hb1.mono hb0.size)
  clear HA
  obtain ⟨W2, hw2⟩ : ∃ W2, ((W1.alloc (.cells #[.pointer da] 29)).alloc (.cells #[.string p] 9)).alloc (.cells #[.string (aftS p)] 9) = W2 := ⟨_, rfl⟩
  have HAL : Hid (CallsIn Fence.wide (n - 1) Try.prog 24 #[.pointer da, .string p, .string (aftS p)] W1 fun e w' => e = .returned (.func (.func 40) #[] #[.pointer (some ⟨W1.heap.size, 0, none⟩), .pointer (some ⟨W1.heap.size + 1, 0, none⟩), .pointer (some ⟨W1.heap.size + 2, 0, none⟩)]) ∧ w' = W2) := by
    have h := allIn (n - 1) da p (aftS p) W1
    rw [hw2] at h
    exact h
  have hs2 : W2.heap.size = W1.heap.size + 3 := by rw [← hw2]; simp
  have hb2 : Below W1.heap.size W1 W2 := by rw [← hw2]; exact (((Below.refl _ _).alloc (Nat.le_refl _) _).alloc (by simp) _).alloc (by simp; omega) _
  have hbW2 : Below W.heap.size W W2 := hbW1.trans (hb2.mono hbW1.size)
  have hcy2 := (hb2.cell (p := ⟨W.heap.size, 0, none⟩) (cell_lt hcy1)).trans hcy1
  have hcap : CapAt W2 W1.heap.size (.pointer da) p (aftS p) := by
    rw [← hw2]
    have e1 : (W1.alloc (.cells #[.pointer da] 29)).heap.size = W1.heap.size + 1 := by simp
    have e2 : ((W1.alloc (.cells #[.pointer da] 29)).alloc (.cells #[.string p] 9)).heap.size = W1.heap.size + 2 := by simp
    have k1 : (W1.alloc (.cells #[.pointer da] 29)).cell? ⟨W1.heap.size, 0, none⟩ = some (.pointer da) := World.cell?_alloc_at _ _ _ _ rfl
    have k2 : ((W1.alloc (.cells #[.pointer da] 29)).alloc (.cells #[.string p] 9)).cell? ⟨W1.heap.size + 1, 0, none⟩ = some (.string p) := by rw [← e1]; exact World.cell?_alloc_at _ _ _ _ rfl
    refine ⟨?_, ?_, ?_⟩
    · exact cell_kept (cell_kept k1 (World.grownBy_alloc _ _ none) (fun r e => by cases e)) (World.grownBy_alloc _ _ none) (fun r e => by cases e)
    · exact cell_kept k2 (World.grownBy_alloc _ _ none) (fun r e => by cases e)
    · rw [← e2]; exact World.cell?_alloc_at _ _ _ _ rfl
  have hseq := allStops da (n - 1) q p (aftS p) hp (Nat.le_trans (aftS_len p) hp) n₀ W1.heap.size d ks W2 (by omega) (by omega) hcap (fun u hu => hTop u ((hbW2.mono hn₀).trans (hu.mono (by omega)))) (hT.kept fun g hg hg0 => hbW2.block g hg) hs
  have hJ2 : J [] W2 := hJ [] W W2 none h0 (below_grow hbW2 none) (fun r e => by cases e)
  gi_wp2_with fail
  refine ⟨trivial, HAL.out.mono ?_⟩
  rintro e wk ⟨rfl, hwk⟩
  obtain rfl := hwk.symm
  gi_wp2_with fail
  refine wpIn_rangeFunc_ownH rfl hn (gf := 40) (lb := #[.pointer (some ⟨W1.heap.size, 0, none⟩), .pointer (some ⟨W1.heap.size + 1, 0, none⟩), .pointer (some ⟨W1.heap.size + 2, 0, none⟩)]) rfl trivial (enters_of Try.func40 (by kernel_rfl) rfl) hseq belowK_t (belowK_b (by omega)) (Below.refl _ _) (fun _ => rfl)
    (fun pre u => J pre u ∧ u.cell? ⟨W.heap.size, 0, none⟩ = some (.func (.yield l) #[] #[]) ∧ W2.heap.size ≤ u.heap.size) (fun c xs u => c = .ret ∧ Jx xs u)
    (fun s A A' row h1 hg hr => ⟨hJ s A A' row h1.1 hg (fun k e => ⟨by have := (hr k e).1; omega, (hr k e).2⟩), cell_kept h1.2.1 hg (fun k e => (hr k e).2), Nat.le_trans h1.2.2 hg.size⟩)
    (fun c s A A' row h1 hg hr => ⟨h1.1, hJx s A A' row h1.2 hg (fun k e => ⟨by have := (hr k e).1; omega, (hr k e).2⟩)⟩)
    ⟨hJ2, hcy2, Nat.le_refl _⟩ (fun x a' V => ∃ Bx, EnAt V Bx x.e ∧ a' = { tmps := #[.func (.yield l) #[] #[], .pointer (some ⟨B + 1, 0, none⟩), .pointer (some ⟨B, 0, none⟩), .pointer (some ⟨W.heap.size, 0, none⟩), .string (aftS p), .bool (aftB p), .string x.key, .pointer (some ⟨Bx, 0, none⟩), .tuple #[.string (aftS p), .bool (aftB p)], .string p, .tuple #[.string (aftS p), .bool (aftB p)], .string (aftS p), .bool (aftB p), .pointer da, .string p, .string (aftS p), .func (.func 40) #[] #[.pointer (some ⟨W1.heap.size, 0, none⟩), .pointer (some ⟨W1.heap.size + 1, 0, none⟩), .pointer (some ⟨W1.heap.size + 2, 0, none⟩)], .string x.key, x.e.v, undef, undef, undef, undef, undef], defers := [] })
    (fun x a' s A A' row ⟨Bx, ⟨k0, k1, k2, k3, k4, k5⟩, h2⟩ hg hr => ⟨Bx, ⟨cell_kept k0 hg (fun k e => (hr k e).2), cell_kept k1 hg (fun k e => (hr k e).2), cell_kept k2 hg (fun k e => (hr k e).2), cell_kept k3 hg (fun k e => (hr k e).2), cell_kept k4 hg (fun k e => (hr k e).2), cell_kept k5 hg (fun k e => (hr k e).2)⟩, h2⟩)
    ?assign ?body ?done ?stop
  case assign =>
    intro l' pre x V K hI hK
    gi_wp2
    refine hK _ _ ((KeepsOthers.alloc _ _).from _) ((Below.refl _ V).alloc (by have := hI.2.2; omega) _) ⟨hJ.alloc _ hI.1, cell_kept hI.2.1 (World.grownBy_alloc _ _ none) (fun r e => by cases e), by have := hI.2.2; simp; omega⟩ ⟨V.heap.size, EnAt.new V x.e, ?_⟩
    rfl
  case body =>
    rintro l' pre x a' V hl0 hrc ⟨hj, hcy, hsz⟩ ⟨Bx, hen, rfl⟩ hN
    obtain ⟨k0, k1, k2, k3, k4, k5⟩ := hen
    obtain ⟨fn, tmps, assign, body, hy, hR⟩ := yieldIn (l' := l') (m' := n - 1 - 1 - 1) (hY pre x V hj)
    gi_wp2
    refine ⟨hdd _, hR.mono ?_⟩
    rintro e V3 (⟨rfl, hk3, hj3⟩ | ⟨rfl, hk3, hj3⟩)
    · have hKF : KeepsFrom W2.heap.size V V3 := ⟨hk3.low.size, fun k o hk ho _ => (hk3.high k (by omega) (Array.getElem?_eq_some_iff.1 ho).1).trans ho⟩
      have hcy3 : V3.cell? ⟨W.heap.size, 0, none⟩ = some (.func (.yield l) #[] #[]) := (World.cell?_of_block (w := V) (a := ⟨W.heap.size, 0, none⟩) (hk3.high _ (Nat.le_refl _) (cell_lt hcy))).trans hcy
      have HE : Hid (KeepsFrom W2.heap.size V V3 ∧ Below n₀ V V3 ∧ J (pre ++ [x]) V3 ∧ V3.cell? ⟨W.heap.size, 0, none⟩ = some (.func (.yield l) #[] #[]) ∧ W2.heap.size ≤ V3.heap.size) := ⟨hKF, hk3.low, hj3, hcy3, Nat.le_trans hsz hk3.low.size⟩
      clear hKF hk3 hj3
      gi_wp2
      exact HE.out
    · have hKF : KeepsFrom W2.heap.size V V3 := ⟨hk3.size, fun k o hk ho _ => (hk3.high k (by omega) (Array.getElem?_eq_some_iff.1 ho).1).trans ho⟩
      have HE : Hid (KeepsFrom W2.heap.size V V3 ∧ Jx (pre ++ [x]) V3) := ⟨hKF, hj3⟩
      clear hKF hk3 hj3
      gi_wp2
      exact ⟨HE.out.1, rfl, HE.out.2⟩
  case done =>
    rintro D ys V hD rfl ⟨hj, -, -⟩ hK
    gi_wp2
    refine ⟨by simp, .inl ⟨_, _, rfl, run_takeDeferred hK, ?_⟩⟩
    exact ⟨_, results_none rfl _ _ _, ⟨_, rfl⟩, .inl (hJ.putObj _ hj (by omega) hK rfl)⟩
  case stop =>
    rintro D c pre V hD hpre ⟨rfl, hj⟩ hK
    gi_wp2
    refine ⟨by simp, .inl ⟨_, _, rfl, run_takeDeferred hK, ?_⟩⟩
    exact ⟨_, results_none rfl _ _ _, ⟨_, rfl⟩, .inr ⟨pre, hpre, hJx.putObj _ hj (by omega) hK rfl⟩⟩
/-- Prefix is an iterator that gives the keys that begin so. -/
theorem prefixOwn {da q : Option Addr} (n n₀ d B : Nat) (hn : 1 ≤ n) (p : ByteArray) (hp : p.size ≤ maxLen) (ks : List Ke) (w : World) (hn₀ : n₀ ≤ w.heap.size) (hcd : w.cell? ⟨B, 0, none⟩ = some (.pointer da)) (hcp : w.cell? ⟨B + 1, 0, none⟩ = some (.string p))
    (hTop : ∀ u, Below n₀ w u → Calls Try.prog 35 #[.pointer da] u fun e w' => e = .returned (.pointer q) ∧ w' = u) (hT : TreeAt (fun g => g < n₀) w d q ks) (hs : Srt ks) :
    SeqOwn n₀ n 42 #[.pointer (some ⟨B + 1, 0, none⟩), .pointer (some ⟨B, 0, none⟩)] (rngL p (aftS p) ks) w := fun l J Jx W hW hJ hJx hY h0 =>
  prefix1In n n₀ d B l hn p hp ks J Jx W hJ hJx hY (Nat.le_trans hn₀ hW.size) ((hW.cell (p := ⟨B, 0, none⟩) (cell_lt hcd)).trans hcd) ((hW.cell (p := ⟨B + 1, 0, none⟩) (cell_lt hcp)).trans hcp) (fun u hu => hTop u ((hW.mono hn₀).trans hu)) (hT.later hW) hs h0
end Go.Proofs.Ythfnbcicpcbgjaa
