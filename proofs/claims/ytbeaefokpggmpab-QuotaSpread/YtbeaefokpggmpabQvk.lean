import Derived.Test.YtbeaefokpggmpabQvj
/-! quota: the places by their remainders. -/
namespace Go.Proofs.Ytbeaefokpggmpab
open Go.RowKit Plain
set_option linter.unusedVariables false

theorem made1 (n j : Nat) (h : j < n) : (madeCells #[Value.int .i64 0] n).toList[j]? = some (.int .i64 0) := by
  unfold madeCells
  simp only [Array.toList_map, List.getElem?_map, Array.toList_range]
  rw [List.getElem?_eq_getElem (by simpa using h)]
  have e : j % 1 = 0 := Nat.mod_one j
  simp [e]
/-- What make leaves of a row of numbers. -/
theorem made_row {w : World} {g base t n : Nat} (ho : w.ownsRow base t 1 (.slice (some ⟨g, 0, none⟩) n n) n (madeCells #[Value.int .i64 0] n).toList) : (∀ j, j < n → w.cell? ⟨g, j, none⟩ = some (.int .i64 0)) ∧ (∀ j, j < n → w.frozen? ⟨g, j, none⟩ = false) ∧ g < w.heap.size ∧ base ≤ g := by
  rcases ho.2 with ⟨h, _⟩ | ⟨g', cap', cur, e, hg, hh, hle, hm, hs, ht⟩
  · simp at h
  · simp only [Value.slice.injEq, Option.some.injEq, Addr.mk.injEq] at e
    obtain ⟨⟨rfl, _, _⟩, _, rfl⟩ := e
    refine ⟨fun j hj => ?_, fun j hj => ?_, (Array.getElem?_eq_some_iff.mp hh).1, hg⟩
    · have h1 := made1 n j hj
      rw [← ht, List.getElem?_take_of_lt (by omega)] at h1
      simp only [World.cell?, hh]
      rw [Array.getElem?_toList] at h1
      simpa using h1
    · simp only [World.frozen?, hh]; simp
theorem Try.info3 : (Try.prog.info? 3).map (fun i => (i.zero, i.size, i.bytes)) = some (some (.int .i64 0), 1, 8) := by kernel_rfl
theorem SRow.congr {W0 W : World} {g n : Nat} {f f' : Nat → Nat} (h : SRow W0 W g n f) (e : ∀ j, j < n → f' j = f j) : SRow W0 W g n f' := ⟨h.gr, h.lt, fun j hj => by rw [e j hj]; exact h.cl j hj, h.fr⟩
theorem sStableOf {W0 W : World} {g gb n cap : Nat} {rem : Nat → Int} (h : SRow W0 W g n id) (hr : RemAt W0 g gb n rem) (hn : n ≤ 64) :
    Calls Try.prog 32 #[.slice (some ⟨g, 0, none⟩) n cap, remFn gb] W fun e w' => e = .returned (.tuple #[]) ∧ ∃ f, SRow W0 w' g n f ∧ PermOn 0 n id f ∧ Srt rem 0 n f := by
  have HS : Hid (Calls Try.prog 39 #[.slice (some ⟨g, 0, none⟩) n cap, .int .i64 n, .func (.func 33) #[] #[.pointer (some ⟨gb, 0, none⟩)]] W fun e w' => e = .returned (.tuple #[]) ∧ ∃ f, SRow W0 w' g n f ∧ PermOn 0 n id f ∧ Srt rem 0 n f) := sStabOf h hr hn
  clear h hr
  unfold remFn
  go_enter Try.func32, Try.ntmps32
  go_wp2_with fail
  refine HS.out.mono ?_
  rintro e w1 ⟨rfl, hz⟩
  have HZ : Hid (∃ f, SRow W0 w1 g n f ∧ PermOn 0 n id f ∧ Srt rem 0 n f) := hz
  clear hz
  go_wp2
  exact ⟨rfl, _, results_none rfl _ _ _, rfl, HZ.out⟩
/-- The places of l, in order. -/
structure Places (w w' : World) (g n : Nat) (rem : Nat → Int) (f : Nat → Nat) : Prop where
  ge : w.heap.size ≤ g
  lt : g < w'.heap.size
  cl : ∀ j, j < n → w'.cell? ⟨g, j, none⟩ = some (.int .i64 (f j : Int))
  perm : PermOn 0 n id f
  srt : Srt rem 0 n f
  bel : Below w.heap.size w w'
set_option maxHeartbeats 8000000 in
set_option maxRecDepth 1000000 in
theorem byRemOf (w : World) (gr cap : Nat) (l : List Int) (h : OwnL w (.slice (some ⟨gr, 0, none⟩) l.length cap) l (some gr)) (hn : l.length ≤ 64) :
    Calls Try.prog 23 #[.slice (some ⟨gr, 0, none⟩) l.length cap] w fun e w' => ∃ g f, e = .returned (.slice (some ⟨g, 0, none⟩) l.length l.length) ∧ Places w w' g l.length (fun j => l.getD j 0) f := by
  obtain ⟨i, hi, hz0, hz1, hz2⟩ := info_parts Try.info3
  have HI : Hid (Try.prog.info? 3 = some i ∧ i.zero = some (.int .i64 0) ∧ i.size = 1 ∧ i.bytes = 8) := ⟨hi, hz0, hz1, hz2⟩
  have HO : Hid (OwnL w (.slice (some ⟨gr, 0, none⟩) l.length cap) l (some gr)) := h
  obtain ⟨w0, hw0⟩ : ∃ w0, w.alloc (.cells #[.slice (some ⟨gr, 0, none⟩) l.length cap] 22) = w0 := ⟨_, rfl⟩
  have HB0 : Hid (Below w.heap.size w w0) := by rw [← hw0]; exact (Below.refl _ _).alloc (Nat.le_refl _) _
  have cb : w0.cell? ⟨w.heap.size, 0, none⟩ = some (.slice (some ⟨gr, 0, none⟩) l.length cap) := by rw [← hw0]; exact World.cell?_alloc_at _ _ _ _ rfl
  have hsz0 : w0.heap.size = w.heap.size + 1 := by rw [← hw0]; simp
  obtain ⟨n, hnl⟩ : ∃ n, l.length = n := ⟨_, rfl⟩
  have HNL : Hid (l.length = n) := hnl
  have HSZ : Hid (w0.heap.size = w.heap.size + 1) := hsz0
  have HCB : Hid (w0.cell? ⟨w.heap.size, 0, none⟩ = some (.slice (some ⟨gr, 0, none⟩) n cap)) := by rw [← hnl]; exact cb
  rw [hnl] at hw0 hn cb ⊢
  clear h hi hz0 hz1 hz2 hnl hsz0
  go_enter Try.func23, Try.ntmps23
  go_wp2_with (at_make; refine wpList_make_full _ rfl _ _ 43 rfl w0.heap.size 3 i _ 1 Try.underlying43 HI.out.1 HI.out.2.1 HI.out.2.2.1 .i64 .i64 _ _ n rfl rfl rfl rfl (by rw [HI.out.2.2.2]; omega) (by unfold maxLen; omega) (by simp) ?_)
  intro w1 ho1 hg1
  obtain ⟨m1, m2, m3, m4⟩ := made_row ho1
  obtain ⟨g, hg⟩ : ∃ g, w0.heap.size = g := ⟨_, rfl⟩
  rw [hg] at m1 m2 m3 m4 ⊢
  have hgw : g = w.heap.size + 1 := by rw [← hg]; exact HSZ.out
  have HGE : Hid (w.heap.size < g) := by unfold Hid; omega
  have HB1 : Hid (Below w.heap.size w w1) := HB0.out.grown hg1 (by have := HSZ.out; omega) (by simp)
  have HR0 : Hid (SRow w1 w1 g n (fun j => if j < 0 then j else 0)) := ⟨⟨rfl, rfl, rfl, Nat.le_refl _, fun _ _ _ => rfl⟩, m3, fun j hj => by rw [m1 j hj]; simp, m2⟩
  have HRM : Hid (RemAt w1 g w.heap.size n (fun j => l.getD j 0)) := by
    have hgr := HO.out.lt
    refine ⟨by omega, by omega, gr, cap, by omega, by omega, ?_, fun j hj => ?_⟩
    · rw [World.cell?_of_block (w := w0) (a := ⟨w.heap.size, 0, none⟩) (hg1.block w.heap.size (by have := HSZ.out; omega) (by simp))]; exact HCB.out
    · rcases HO.out.2 with ⟨_, _, h⟩ | ⟨g', cap', e, e2, hg', q1, q2, q3, q4, q5⟩
      · simp at h
      · simp only [Option.some.injEq] at e
        subst e
        rw [HB1.out.cell (p := ⟨gr, j, none⟩) hgr]
        exact q5 j (by rw [HNL.out]; exact hj)
  have cbx : ∀ u, w1.grownBy u (some g) → u.cell? ⟨w.heap.size, 0, none⟩ = some (.slice (some ⟨gr, 0, none⟩) n cap) := fun u hu => by
    rw [World.cell?_of_block (w := w1) (a := ⟨w.heap.size, 0, none⟩) (hu.block w.heap.size (by omega) (by intro e; injection e with e; omega)), World.cell?_of_block (w := w0) (a := ⟨w.heap.size, 0, none⟩) (hg1.block w.heap.size (by have := HSZ.out; omega) (by simp))]; exact HCB.out
  have HCX : Hid (∀ u, w1.grownBy u (some g) → u.cell? ⟨w.heap.size, 0, none⟩ = some (.slice (some ⟨gr, 0, none⟩) n cap)) := cbx
  clear ho1 hg1 m1 m2 m3 m4 hgw cbx hg cb hw0
  go_wp2
  go_loopw [10] (fun s wr => ∃ k : Nat, s = .int .i64 k ∧ k ≤ n ∧ Hid (SRow w1 wr g n (fun j => if j < k then j else 0))) (fun s _ => n - (intOf s).toNat)
  case atStart => exact ⟨0, rfl, by omega, HR0⟩
  case round =>
    obtain ⟨k, rfl, hk, HRk⟩ := hrel
    by_cases hA : k < n
    · have hki : (k : Int) < (n : Int) := by omega
      have c0 := HRk.out.cl k hA
      have f0 := HRk.out.fr k hA
      rw [if_neg (by omega)] at c0
      have HS2 : Hid (SRow w1 (wr.setCell ⟨g, k, none⟩ (.int .i64 (k : Int))) g n (fun j => if j < k + 1 then j else 0)) := HRk.out.set hA (fun j => by
        by_cases e : j = k
        · rw [if_pos (by omega), if_pos e]; exact e
        · rw [if_neg e]
          by_cases e2 : j < k
          · rw [if_pos (by omega), if_pos e2]
          · rw [if_neg (by omega), if_neg e2])
      go_wp2
      refine ⟨⟨k + 1, by simp, hA, HS2⟩, ?_⟩
      simp [intOf]; omega
    · have hki : ¬ (k : Int) < (n : Int) := by omega
      have hke : k = n := by omega
      subst hke
      have HRI : Hid (SRow w1 wr g k id) := HRk.out.congr (fun j hj => by simp only [id]; rw [if_pos hj])
      have HST : Hid (Calls Try.prog 32 #[.slice (some ⟨g, 0, none⟩) k k, .func (.func 33) #[] #[.pointer (some ⟨w.heap.size, 0, none⟩)]] wr fun e w' => e = .returned (.tuple #[]) ∧ ∃ f, SRow w1 w' g k f ∧ PermOn 0 k id f ∧ Srt (fun j => l.getD j 0) 0 k f) := sStableOf HRI.out HRM.out hn
      clear HRk
      go_wp2_with fail
      refine HST.out.mono ?_
      rintro e w2 ⟨rfl, f, z1, z2, z3⟩
      have HF : Hid (Places w w2 g k (fun j => l.getD j 0) f) := ⟨by have := HGE.out; omega, Nat.lt_of_lt_of_le z1.lt z1.gr.size, z1.cl, z2, z3, HB1.out.grown z1.gr HB1.out.size (fun q hq => by have := HGE.out; injection hq with hq; omega)⟩
      clear z1 z2 z3
      go_wp2
      go_ret
      exact ⟨g, f, rfl, HF.out⟩
end Go.Proofs.Ytbeaefokpggmpab
