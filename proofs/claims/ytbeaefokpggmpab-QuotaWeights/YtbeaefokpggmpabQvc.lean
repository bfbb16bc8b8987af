import Derived.Test.YtbeaefokpggmpabQvb
/-! quota: a stable sort: the row of places, the comparison, pieces that change their places. -/
namespace Go.Proofs.Ytbeaefokpggmpab
open Go.RowKit Plain
set_option linter.unusedVariables false

/-- The row of places in block g, n long, as it stands in W; nothing else has turned since W0. -/
structure SRow (W0 W : World) (g n : Nat) (f : Nat → Nat) : Prop where
  gr : W0.grownBy W (some g)
  lt : g < W0.heap.size
  cl : ∀ j, j < n → W.cell? ⟨g, j, none⟩ = some (.int .i64 (f j : Int))
  fr : ∀ j, j < n → W.frozen? ⟨g, j, none⟩ = false
theorem SRow.later {W0 W W' : World} {g n : Nat} {f : Nat → Nat} (h : SRow W0 W g n f) (k : Below W.heap.size W W') : SRow W0 W' g n f := by
  have hg : g < W.heap.size := Nat.lt_of_lt_of_le h.lt h.gr.size
  have hb := k.block g hg
  refine ⟨⟨k.os.trans h.gr.os, k.tape.trans h.gr.tape, k.output.trans h.gr.output, Nat.le_trans h.gr.size k.size, fun j hj hne => (k.block j (Nat.lt_of_lt_of_le hj h.gr.size)).trans (h.gr.block j hj hne)⟩, h.lt, fun j hj => ?_, fun j hj => ?_⟩
  · rw [World.cell?_of_block (w := W) (a := ⟨g, j, none⟩) hb]; exact h.cl j hj
  · rw [World.frozen?_of_block (w := W) (a := ⟨g, j, none⟩) hb]; exact h.fr j hj
theorem SRow.drewN {W0 W : World} {g n : Nat} {f : Nat → Nat} (h : SRow W0 W g n f) (q : Nat) : SRow W0 (W.drewN q) g n f := ⟨⟨h.gr.os, h.gr.tape, h.gr.output, h.gr.size, h.gr.block⟩, h.lt, h.cl, h.fr⟩
theorem SRow.drew {W0 W : World} {g n : Nat} {f : Nat → Nat} (h : SRow W0 W g n f) : SRow W0 W.drew g n f := ⟨⟨h.gr.os, h.gr.tape, h.gr.output, h.gr.size, h.gr.block⟩, h.lt, h.cl, h.fr⟩
theorem SRow.set {W0 W : World} {g n : Nat} {f f' : Nat → Nat} (h : SRow W0 W g n f) {i x : Nat} (hi : i < n) (hf : ∀ j, f' j = if j = i then x else f j) : SRow W0 (W.setCell ⟨g, i, none⟩ (.int .i64 (x : Int))) g n f' := by
  refine ⟨⟨h.gr.os, h.gr.tape, h.gr.output, by rw [World.size_setCell]; exact h.gr.size, fun k hk hne => ?_⟩, h.lt, fun j hj => ?_, fun j hj => by rw [World.frozen?_setCell]; exact h.fr j hj⟩
  · rw [Below.heap_setCell _ _ _ _ (by intro e; exact hne (by rw [e]))]; exact h.gr.block k hk hne
  · rw [hf]
    by_cases e : j = i
    · subst e; rw [if_pos rfl]; exact World.cell?_setCell_same _ _ _ (h.cl j hj)
    · rw [if_neg e, World.cell?_setCell_other _ _ _ _ (by intro q; injection q with q1 q2; exact e q2.symm)]; exact h.cl j hj
theorem SRow.swap {W0 W : World} {g n : Nat} {f : Nat → Nat} (h : SRow W0 W g n f) {i j : Nat} (hi : i < n) (hj : j < n) (hij : i ≠ j) : SRow W0 ((W.setCell ⟨g, i, none⟩ (.int .i64 (f j : Int))).setCell ⟨g, j, none⟩ (.int .i64 (f i : Int))) g n (swpF f i j) := by
  refine SRow.set (h.set (f' := fun k => if k = i then f j else f k) hi (fun _ => rfl)) hj (fun k => ?_)
  unfold swpF
  by_cases e : k = i
  · rw [if_pos e, if_neg (by omega), if_pos e]
  · rw [if_neg e]
    by_cases e2 : k = j
    · rw [if_pos e2, if_pos e2]
    · rw [if_neg e2, if_neg e2, if_neg e]

/-- The remainders that the comparison reads: a slice in the box gb, none of it in block g. -/
structure RemAt (W0 : World) (g gb n : Nat) (rem : Nat → Int) : Prop where
  lt : gb < W0.heap.size
  ne : gb ≠ g
  row : ∃ gr cap, gr ≠ g ∧ gr < W0.heap.size ∧ W0.cell? ⟨gb, 0, none⟩ = some (.slice (some ⟨gr, 0, none⟩) n cap) ∧ ∀ j, j < n → W0.cell? ⟨gr, j, none⟩ = some (.int .i64 (rem j))
def cmpZ (u v : Int) : Int := if u < v then -1 else if v < u then 1 else 0
theorem cmpZ_lt (u v : Int) : decide (cmpZ u v < 0) = decide (u < v) := by
  unfold cmpZ
  by_cases h : u < v
  · rw [if_pos h, decide_eq_true h]; rfl
  · rw [if_neg h, decide_eq_false h]
    by_cases h2 : v < u
    · rw [if_pos h2]; rfl
    · rw [if_neg h2]; rfl
theorem sNaNOf (x : Int) (w : World) : Calls Try.prog 40 #[.int .i64 x] w fun e w' => e = .returned (.bool false) ∧ w' = w := by
  go_enter Try.func40, Try.ntmps40
  go_wp2
  go_ret
  exact ⟨by simp, rfl⟩
theorem sCmpOf (x y : Int) (w : World) : Calls Try.prog 34 #[.int .i64 x, .int .i64 y] w fun e w' => e = .returned (.int .i64 (cmpZ x y)) ∧ w' = w := by
  by_cases h1 : x < y
  · have HE : Hid (cmpZ x y = -1) := by unfold Hid cmpZ; rw [if_pos h1]
    go_enter Try.func34, Try.ntmps34
    go_wp2_with fail
    refine (sNaNOf x _).mono ?_
    rintro e w1 ⟨rfl, rfl⟩
    go_wp2_with fail
    refine (sNaNOf y _).mono ?_
    rintro e w1 ⟨rfl, rfl⟩
    go_wp2
    go_ret
    exact ⟨by rw [HE.out]; rfl, rfl⟩
  · by_cases h2 : y < x
    · have HE : Hid (cmpZ x y = 1) := by unfold Hid cmpZ; rw [if_neg h1, if_pos h2]
      go_enter Try.func34, Try.ntmps34
      go_wp2_with fail
      refine (sNaNOf x _).mono ?_
      rintro e w1 ⟨rfl, rfl⟩
      go_wp2_with fail
      refine (sNaNOf y _).mono ?_
      rintro e w1 ⟨rfl, rfl⟩
      go_wp2
      go_ret
      exact ⟨by rw [HE.out]; rfl, rfl⟩
    · have HE : Hid (cmpZ x y = 0) := by unfold Hid cmpZ; rw [if_neg h1, if_neg h2]
      go_enter Try.func34, Try.ntmps34
      go_wp2_with fail
      refine (sNaNOf x _).mono ?_
      rintro e w1 ⟨rfl, rfl⟩
      go_wp2_with fail
      refine (sNaNOf y _).mono ?_
      rintro e w1 ⟨rfl, rfl⟩
      go_wp2
      go_ret
      exact ⟨by rw [HE.out]; rfl, rfl⟩
theorem RemAt.cells {W0 W : World} {g gb n : Nat} {rem : Nat → Int} (h : RemAt W0 g gb n rem) (k : W0.grownBy W (some g)) : ∃ gr cap, W.cell? ⟨gb, 0, none⟩ = some (.slice (some ⟨gr, 0, none⟩) n cap) ∧ ∀ j, j < n → W.cell? ⟨gr, j, none⟩ = some (.int .i64 (rem j)) := by
  obtain ⟨gr, cap, h1, h2, h3, h4⟩ := h.row
  refine ⟨gr, cap, ?_, fun j hj => ?_⟩
  · rw [World.cell?_of_block (w := W0) (a := ⟨gb, 0, none⟩) (k.block gb h.lt (by intro e; injection e with e; exact h.ne e))]; exact h3
  · rw [World.cell?_of_block (w := W0) (a := ⟨gr, j, none⟩) (k.block gr h2 (by intro e; injection e with e; exact h1 e))]; exact h4 j hj
set_option maxHeartbeats 2000000 in
theorem remCmpOf {W0 W : World} {g gb n : Nat} {rem : Nat → Int} (h : RemAt W0 g gb n rem) (k : W0.grownBy W (some g)) (hn : n ≤ 64) (x y : Nat) (hx : x < n) (hy : y < n) :
    Calls Try.prog 33 #[.int .i64 x, .int .i64 y, .pointer (some ⟨gb, 0, none⟩)] W fun e w' => e = .returned (.int .i64 (cmpZ (rem y) (rem x))) ∧ ∃ q, w' = W.drewN q := by
  obtain ⟨gr, cap, h1, h2⟩ := h.cells k
  have c1 := h2 x hx
  have c2 := h2 y hy
  have hxi : (x : Int) < (n : Int) := by omega
  have hyi : (y : Int) < (n : Int) := by omega
  have HC : Hid (∀ u, Calls Try.prog 34 #[.int .i64 (rem y), .int .i64 (rem x)] u fun e w' => e = .returned (.int .i64 (cmpZ (rem y) (rem x))) ∧ w' = u) := fun u => sCmpOf _ _ u
  generalize cmpZ (rem y) (rem x) = C at HC ⊢
  generalize rem x = rx at *
  generalize rem y = ry at *
  clear h2 h k hx hy
  go_enter Try.func33, Try.ntmps33
  go_wp2_with fail
  go_quiet ((go_at_call 34; exact Calls.quiet_of_same (HC.out _)))
  go_wp2
  go_ret
  exact ⟨rfl, _, rfl⟩
set_option maxHeartbeats 4000000 in
theorem sSwapOf {W0 W : World} {g n cap a b k : Nat} {f : Nat → Nat} (fv : Value) (h : SRow W0 W g n f) (hn : n ≤ 64) (h1 : a + k ≤ b) (h2 : b + k ≤ n) :
    Calls Try.prog 63 #[.slice (some ⟨g, 0, none⟩) n cap, .int .i64 a, .int .i64 b, .int .i64 k, fv] W fun e w' => e = .returned (.tuple #[]) ∧ SRow W0 w' g n (swR f a b k) := by
  have HR : Hid (SRow W0 W g n f) := h
  clear h
  go_enter Try.func63, Try.ntmps63
  go_wp2
  go_loopw [10] (fun s wr => ∃ i : Nat, i ≤ k ∧ s = .int .i64 i ∧ Hid (SRow W0 wr g n (swR f a b i))) (fun i _ => k - (intOf i).toNat)
  case atStart => exact ⟨0, by omega, rfl, by unfold Hid; rw [swR_start]; exact HR.out⟩
  case round =>
    obtain ⟨i, hi, rfl, HRi⟩ := hrel
    by_cases hA : i < k
    · have hki : (i : Int) < (k : Int) := by omega
      obtain ⟨P, hP⟩ : ∃ P, P = a + i := ⟨_, rfl⟩
      obtain ⟨Q, hQ⟩ : ∃ Q, Q = b + i := ⟨_, rfl⟩
      have ea : ((a : Int) + (i : Int)).toNat = P := by omega
      have pa : (0 : Int) ≤ (a : Int) + (i : Int) := by omega
      have ba : (a : Int) + (i : Int) < (n : Int) := by omega
      have ra : IntKind.i64.wrap ((a : Int) + (i : Int)) = (a : Int) + (i : Int) := IntWalk.i64_in _ (by omega)
      have eb : ((b : Int) + (i : Int)).toNat = Q := by omega
      have pb : (0 : Int) ≤ (b : Int) + (i : Int) := by omega
      have bb : (b : Int) + (i : Int) < (n : Int) := by omega
      have rb : IntKind.i64.wrap ((b : Int) + (i : Int)) = (b : Int) + (i : Int) := IntWalk.i64_in _ (by omega)
      have hPn : P < n := by omega
      have hQn : Q < n := by omega
      have hPQ : P ≠ Q := by omega
      have cA := HRi.out.cl P hPn
      have cB := HRi.out.cl Q hQn
      have fA := HRi.out.fr P hPn
      have fB := HRi.out.fr Q hQn
      have HS : Hid (SRow W0 ((wr.setCell ⟨g, P, none⟩ (.int .i64 (swR f a b i Q : Int))).setCell ⟨g, Q, none⟩ (.int .i64 (swR f a b i P : Int))) g n (swR f a b (i + 1))) := by
        have := HRi.out.swap hPn hQn hPQ
        rw [hP, hQ, swR_step f (show a + i < b by omega)] at this
        rw [hP, hQ]
        exact this
      generalize swR f a b i P = x at *
      generalize swR f a b i Q = y at *
      have cC : (wr.setCell ⟨g, P, none⟩ (.int .i64 (y : Int))).cell? ⟨g, Q, none⟩ = some (.int .i64 (y : Int)) := by
        rw [World.cell?_setCell_other _ _ _ _ (by intro q; injection q with q1 q2; exact hPQ q2)]; exact cB
      have HP : Hid (P = a + i) := hP
      have HQ : Hid (Q = b + i) := hQ
      clear hP hQ HRi
      go_wp2_with fail
      go_region
      all_goals go_wp2
      refine ⟨⟨i + 1, by omega, by go_num, HS.out.drew⟩, ?_⟩
      simp [intOf]; omega
    · have hki : ¬ (i : Int) < (k : Int) := by omega
      have hke : i = k := by omega
      subst hke
      go_wp2
      exact ⟨rfl, _, results_none rfl _ _ _, rfl, HRi.out⟩
end Go.Proofs.Ytbeaefokpggmpab
