import Derived.Test.YtbeaefokpggmpabQuc
/-! quota: the law's same, moved, back, marked. -/
namespace Go.Proofs.Ytbeaefokpggmpab
open Go.RowKit
set_option linter.unusedVariables false

theorem eq_len {A B : List Int} (h : A = B) : A.length = B.length := by rw [h]
set_option maxHeartbeats 2000000 in
theorem sameNums (va vb : Value) (A B : List Int) (w : World) (ha : NumsAt w va A) (hb : NumsAt w vb B) : Calls Try.prog 13 #[va, vb] w fun e w' => e = .returned (.bool (decide (A = B))) ∧ Below w.heap.size w w' := by
  obtain ⟨a, cap, rfl, hm⟩ := ha.shp
  obtain ⟨b, cap', rfl, hm'⟩ := hb.shp
  have HA : Hid (NumsAt w (.slice a A.length cap) A) := ha
  have HB : Hid (NumsAt w (.slice b B.length cap') B) := hb
  unfold maxLen at hm hm'
  clear ha hb
  by_cases hl : A.length = B.length
  case neg =>
    have HE : Hid (decide (A = B) = false) := by unfold Hid; simp; exact fun e => hl (eq_len e)
    have hli : ¬ ((A.length : Int) = (B.length : Int)) := by omega
    have hlb : (((A.length : Nat) : Int) == ((B.length : Nat) : Int)) = false := by simpa using hli
    go_enter Try.func13, Try.ntmps13
    go_wp2
    go_ret
    exact ⟨by rw [HE.out]; rfl, Below.refl _ _⟩
  have HLB : Hid (A.length = B.length) := hl
  generalize hn : B.length = n at *
  have hnA : A.length = n := hl
  rw [hnA] at HA hm ⊢
  clear hl
  go_enter Try.func13, Try.ntmps13
  go_wp2
  go_loopw [5] (fun s5 wr => ∃ k : Nat, k ≤ n ∧ s5 = .int .i64 k ∧ Hid (∀ j, j < k → A.getD j 0 = B.getD j 0) ∧ Hid (Below w.heap.size w wr)) (fun i _ => n - (intOf i).toNat)
  case atStart => exact ⟨0, by omega, rfl, fun j hj => absurd hj (by omega), Below.refl _ _⟩
  case round =>
    obtain ⟨k, hk, rfl, HS, HBL⟩ := hrel
    by_cases hA : k < n
    · obtain ⟨b1, o1, cp1, e1, h1⟩ := HA.out.get (k := k) (by omega)
      obtain ⟨b2, o2, cp2, e2, h2⟩ := HB.out.get (k := k) (by omega)
      simp only [Value.slice.injEq] at e1 e2
      obtain ⟨rfl, -, rfl⟩ := e1
      obtain ⟨rfl, -, rfl⟩ := e2
      have c0 := h1 wr HBL.out
      have c1 := h2 wr HBL.out
      have hki : (k : Int) < (n : Int) := by omega
      clear h1 h2
      by_cases hx : A.getD k 0 = B.getD k 0
      · have HS2 : Hid (∀ j, j < k + 1 → A.getD j 0 = B.getD j 0) := fun j hj => by
          by_cases e : j = k
          · subst e; exact hx
          · exact HS.out j (by omega)
        have hxb : (A.getD k 0 == B.getD k 0) = true := by simpa using hx
        have hxn : (A.getD k 0 != B.getD k 0) = false := by simpa using hx
        clear hx
        generalize A.getD k 0 = x at *
        generalize B.getD k 0 = y at *
        go_wp2
        go_quiet (fail)
        have HB5 : Hid (Below w.heap.size w (wr.drewN nq)) := ⟨HBL.out.os, HBL.out.tape, HBL.out.output, HBL.out.size, HBL.out.block⟩
        go_wp2
        go_roundw
        case rel => exact ⟨k + 1, by omega, by go_num, HS2, HB5⟩
        case measure => simp [intOf]; omega
      · have HE : Hid (decide (A = B) = false) := by unfold Hid; simp; exact fun e => hx (by rw [e])
        have hxb : (A.getD k 0 == B.getD k 0) = false := by simpa using hx
        have hxn : (A.getD k 0 != B.getD k 0) = true := by simpa using hx
        generalize A.getD k 0 = x at *
        generalize B.getD k 0 = y at *
        go_wp2
        go_quiet (fail)
        have HB5 : Hid (Below w.heap.size w (wr.drewN nq)) := ⟨HBL.out.os, HBL.out.tape, HBL.out.output, HBL.out.size, HBL.out.block⟩
        go_wp2
        go_ret
        exact ⟨by rw [HE.out]; rfl, HB5.out⟩
    · have hki : ¬ (k : Int) < (n : Int) := by omega
      have hke : k = n := by omega
      subst hke
      have HE : Hid (decide (A = B) = true) := by
        unfold Hid; simp
        exact list_ext_getD (by omega) fun j hj => HS.out j (by omega)
      go_wp2
      go_ret
      exact ⟨by rw [HE.out]; rfl, HBL.out⟩

/-- One more in each place. -/
def upL (A : List Int) : List Int := A.map fun x => wrap64 (x + 1)
theorem wrap64_I64 (z : Int) : I64 (wrap64 z) := by unfold I64 wrap64; omega
theorem set_app_l (A K : List Int) (i : Nat) (x : Int) (h : i < A.length) : (A ++ K).set i x = A.set i x ++ K := by simp [h]
/-- The head of a row is written over, place by place. -/
def overL (B A : List Int) (k : Nat) : List Int := B.take k ++ A.drop k
theorem overL_len {A B : List Int} (h : B.length = A.length) (k : Nat) (hk : k ≤ A.length) : (overL B A k).length = A.length := by simp [overL]; omega
theorem overL_set {A B : List Int} (h : B.length = A.length) (k : Nat) (hk : k < A.length) : (overL B A k).set k (B.getD k 0) = overL B A (k + 1) := by
  unfold overL
  rw [take_snocI B k (by omega), drop_cons A hk]
  have : (B.take k).length = k := by simp; omega
  rw [List.set_append_right _ _ (by omega), this]
  simp
theorem overL_get {A B : List Int} (h : B.length = A.length) (k : Nat) (hk : k < A.length) : (overL B A k).getD k 0 = A.getD k 0 := by
  unfold overL
  have : (B.take k).length = k := by simp; omega
  simp only [List.getD_eq_getElem?_getD]
  rw [List.getElem?_append_right (by omega), this]
  simp
theorem overL_all {A B : List Int} (h : B.length = A.length) : overL B A A.length = B := by unfold overL; simp; exact List.take_of_length_le (by omega)
set_option maxHeartbeats 2000000 in
theorem movedOf (g cap : Nat) (A K : List Int) (w : World) (hl : A.length ≤ 17592186044500) (h : OwnL w (.slice (some ⟨g, 0, none⟩) (A ++ K).length cap) (A ++ K) (some g)) : Calls Try.prog 9 #[.slice (some ⟨g, 0, none⟩) A.length cap] w fun e w' => e = .returned (.slice (some ⟨g, 0, none⟩) A.length cap) ∧ OwnL w' (.slice (some ⟨g, 0, none⟩) (A ++ K).length cap) (upL A ++ K) (some g) ∧ w.grownBy w' (some g) := by
  have HO : Hid (OwnL w (.slice (some ⟨g, 0, none⟩) (A ++ K).length cap) (overL (upL A) A 0 ++ K) (some g)) := h
  have hul : (upL A).length = A.length := by simp [upL]
  have HI : Hid (∀ j, j < A.length → (upL A).getD j 0 = wrap64 (A.getD j 0 + 1)) := fun j hj => by simp [upL, List.getD_eq_getElem?_getD, hj]
  generalize upL A = B at *
  clear h
  go_enter Try.func9, Try.ntmps9
  go_wp2
  go_loopw [3] (fun s3 wr => ∃ k : Nat, k ≤ A.length ∧ s3 = .int .i64 k ∧ Hid (OwnL wr (.slice (some ⟨g, 0, none⟩) (A ++ K).length cap) (overL B A k ++ K) (some g)) ∧ Hid (w.grownBy wr (some g))) (fun i _ => A.length - (intOf i).toNat)
  case atStart => exact ⟨0, by omega, rfl, HO, below_grow (Below.refl _ _) _⟩
  case round =>
    clear HO
    obtain ⟨k, hk, rfl, HO, HG⟩ := hrel
    by_cases hA : k < A.length
    · have hol := overL_len hul k hk
      have hc := HO.out.cells (i := k) (by simp; omega)
      rw [lgetD_left _ _ (by omega), overL_get hul k hA] at hc
      obtain ⟨c0, k0⟩ := hc
      have hb := HI.out k hA
      have HN5 : Hid (OwnL (wr.setCell ⟨g, k, none⟩ (.int .i64 (B.getD k 0))) (.slice (some ⟨g, 0, none⟩) (A ++ K).length cap) (overL B A (k + 1) ++ K) (some g)) := by
        have := HO.out.set k (by simp; omega) (B.getD k 0) (by rw [hb]; exact wrap64_I64 _)
        rw [set_app_l _ _ _ _ (by omega), overL_set hul k hA] at this
        exact this
      have HG5 : Hid (w.grownBy (wr.setCell ⟨g, k, none⟩ (.int .i64 (B.getD k 0))) (some g)) := grow_trans HG.out (grow_setCells wr g k [.int .i64 (B.getD k 0)]) (.inl rfl)
      have hki : (k : Int) < (A.length : Int) := by omega
      rw [hb] at HN5 HG5
      generalize A.getD k 0 = x at *
      clear hb hol
      go_wp2
      go_roundw
      case rel => exact ⟨k + 1, by omega, by go_num, HN5, HG5⟩
      case measure => simp [intOf]; omega
    · have hki : ¬ (k : Int) < (A.length : Int) := by omega
      have hke : k = A.length := by omega
      subst hke
      rw [overL_all hul] at HO
      go_wp2
      go_ret
      exact ⟨rfl, by simpa using HO.out, HG.out⟩

set_option maxHeartbeats 2000000 in
theorem backOf (g cap : Nat) (A B K : List Int) (vb : Value) (w : World) (hl : A.length ≤ 17592186044500) (hul : B.length = A.length) (h : OwnL w (.slice (some ⟨g, 0, none⟩) (A ++ K).length cap) (A ++ K) (some g)) (hv : ∀ wr, w.grownBy wr (some g) → NumsAt wr vb B) : Calls Try.prog 10 #[.slice (some ⟨g, 0, none⟩) A.length cap, vb] w fun e w' => (∃ v, e = .returned v) ∧ OwnL w' (.slice (some ⟨g, 0, none⟩) (A ++ K).length cap) (B ++ K) (some g) ∧ w.grownBy w' (some g) := by
  have HO : Hid (OwnL w (.slice (some ⟨g, 0, none⟩) (A ++ K).length cap) (overL B A 0 ++ K) (some g)) := h
  obtain ⟨ab, cb, rfl, -⟩ := (hv w (below_grow (Below.refl _ _) _)).shp
  have HV : Hid (∀ wr, w.grownBy wr (some g) → NumsAt wr (.slice ab B.length cb) B) := hv
  have HLE : Hid (∀ wr, w.grownBy wr (some g) → NumsAt wr (.slice ab B.length cb) B) := hv
  rw [hul] at HV ⊢
  clear h hv
  go_enter Try.func10, Try.ntmps10
  go_wp2
  go_loopw [4] (fun s3 wr => ∃ k : Nat, k ≤ A.length ∧ s3 = .int .i64 k ∧ Hid (OwnL wr (.slice (some ⟨g, 0, none⟩) (A ++ K).length cap) (overL B A k ++ K) (some g)) ∧ Hid (w.grownBy wr (some g))) (fun i _ => A.length - (intOf i).toNat)
  case atStart => exact ⟨0, by omega, rfl, HO, below_grow (Below.refl _ _) _⟩
  case round =>
    clear HO
    obtain ⟨k, hk, rfl, HO, HG⟩ := hrel
    by_cases hA : k < A.length
    · have hol := overL_len hul k hk
      have hc := HO.out.cells (i := k) (by simp; omega)
      rw [lgetD_left _ _ (by omega), overL_get hul k hA] at hc
      obtain ⟨c0, k0⟩ := hc
      obtain ⟨b1, o1, cp1, e1, h1⟩ := (HLE.out wr HG.out).get (k := k) (by omega)
      simp only [Value.slice.injEq] at e1
      obtain ⟨rfl, -, rfl⟩ := e1
      have c1 := h1 wr (Below.refl _ _)
      have hb : I64 (B.getD k 0) := (HLE.out wr HG.out).mem (by omega)
      have HN5 : Hid (OwnL (wr.setCell ⟨g, k, none⟩ (.int .i64 (B.getD k 0))) (.slice (some ⟨g, 0, none⟩) (A ++ K).length cap) (overL B A (k + 1) ++ K) (some g)) := by
        have := HO.out.set k (by simp; omega) (B.getD k 0) hb
        rw [set_app_l _ _ _ _ (by omega), overL_set hul k hA] at this
        exact this
      have HG5 : Hid (w.grownBy (wr.setCell ⟨g, k, none⟩ (.int .i64 (B.getD k 0))) (some g)) := grow_trans HG.out (grow_setCells wr g k [.int .i64 (B.getD k 0)]) (.inl rfl)
      have hki : (k : Int) < (A.length : Int) := by omega
      generalize A.getD k 0 = x at *
      generalize B.getD k 0 = y at *
      clear hol h1 hb
      go_wp2
      go_roundw
      case rel => exact ⟨k + 1, by omega, by go_num, HN5, HG5⟩
      case measure => simp [intOf]; omega
    · have hki : ¬ (k : Int) < (A.length : Int) := by omega
      have hke : k = A.length := by omega
      subst hke
      rw [overL_all hul] at HO
      go_wp2
      go_end0
      exact ⟨⟨_, rfl⟩, by simpa using HO.out, HG.out⟩

set_option maxHeartbeats 4000000 in
theorem markedOf (v : Value) (L : List Int) (r : Option Nat) (w : World) (hl : L.length ≤ 64) (h : OwnL w v L r) : Calls Try.prog 11 #[v] w fun e w' => e = .returned (.int .i64 ((L.length : Int) + 64)) ∧ w.grownBy w' r := by
  obtain ⟨a, cap, rfl⟩ := h.shp
  have HO : Hid (OwnL w (.slice a L.length cap) L r) := h
  have HLL : Hid (L.length = L.length) := rfl
  generalize hn : L.length = n at *
  have HN : Hid (L.length = n) := hn
  clear h hn HLL
  go_enter Try.func11, Try.ntmps11
  go_wp2
  go_loopw [3] (fun s3 wr => ∃ (k : Nat) (L' : List Int), k ≤ n ∧ s3 = .int .i64 k ∧ Hid (L'.length = n) ∧ Hid (OwnL wr (.slice a n cap) L' r) ∧ Hid (w.grownBy wr r)) (fun i _ => n - (intOf i).toNat)
  case atStart => exact ⟨0, L, by omega, rfl, HN, HO, below_grow (Below.refl _ _) _⟩
  case round =>
    clear HO HN
    obtain ⟨k, L', hk, rfl, HN, HO, HG⟩ := hrel
    by_cases hA : k < n
    · have hnl := HN.out
      obtain ⟨g, rfl, rfl⟩ : ∃ g, r = some g ∧ a = some ⟨g, 0, none⟩ := by
        rcases HO.out.2 with ⟨_, e, _⟩ | ⟨g, cp, e0, e1, _⟩
        · rw [e] at hnl; simp at hnl; omega
        · simp only [Value.slice.injEq] at e1; exact ⟨g, e0, e1.1⟩
      obtain ⟨c0, k0⟩ := HO.out.cells (i := k) (by omega)
      have HI : Hid (I64 (-1 - (k : Int))) := by unfold Hid I64; omega
      have HN5 : Hid (OwnL (wr.setCell ⟨g, k, none⟩ (.int .i64 (-1 - (k : Int)))) (.slice (some ⟨g, 0, none⟩) n cap) (L'.set k (-1 - (k : Int))) (some g)) := HO.out.set k (by omega) _ HI.out
      have HG5 : Hid (w.grownBy (wr.setCell ⟨g, k, none⟩ (.int .i64 (-1 - (k : Int)))) (some g)) := grow_trans HG.out (grow_setCells wr g k [.int .i64 (-1 - (k : Int))]) (.inl rfl)
      have hki : (k : Int) < (n : Int) := by omega
      have HNN : Hid ((L'.set k (-1 - (k : Int))).length = n) := by unfold Hid; simp; exact hnl
      have hw1 : wrap64 (-1 - (k : Int)) = -1 - (k : Int) := by unfold wrap64; omega
      clear hnl
      go_wp2
      go_roundw
      case rel => exact ⟨k + 1, _, by omega, by go_num, HNN, HN5, HG5⟩
      case measure => simp [intOf]; omega
    · have hki : ¬ (k : Int) < (n : Int) := by omega
      have hke : k = n := by omega
      subst hke
      go_wp2
      have HOZ : Hid (OwnL wr (.slice a k cap) L' r) := HO.out
      go_loopw [0, 4] (fun s0 s4 wq => ∃ (j : Nat) (M : List Int) (a0 : Option Addr) (c0 : Nat) (r0 : Option Nat), j ≤ 64 ∧ s4 = .int .i64 j ∧ s0 = .slice a0 M.length c0 ∧ Hid (M.length = k + j) ∧ Hid (OwnL wq s0 M r0) ∧ Hid (w.grownBy wq r) ∧ Hid (r0 = r ∨ r0 = none ∨ ∃ g, r0 = some g ∧ w.heap.size ≤ g)) (fun _ i _ => 64 - (intOf i).toNat)
      case atStart => exact ⟨0, L', a, cap, r, by omega, rfl, by rw [HN.out], by unfold Hid; rw [HN.out]; rfl, HOZ, HG, .inl rfl⟩
      case round =>
        clear HOZ HO HN HG
        obtain ⟨j, M, a0, c0, r0, hj, rfl, rfl, HN, HO, HG, HR⟩ := hrel
        by_cases hJ : j < 64
        · have hji : (j : Int) < 64 := by omega
          have HLN : Hid (M.length + [(-99 : Int)].length ≤ 20000000000000) := by have := HN.out; unfold Hid; simp; omega
          go_wp2_with (first | (at_builtin; refine wpList_append_l _ rfl _ _ 22 22 rfl Try.underlying22 _ _ M [-99] r0 rfl rfl ?hOwn ?hByte ?hSrc ?hLen ?_) | fail)
          case hOwn => exact HO.out.later ((Below.refl _ _).alloc (Nat.le_refl _) _)
          case hByte => first | (unfold I64; omega) | (intro c hc; rw [List.mem_singleton] at hc; subst hc; omega) | omega
          case hSrc => exact src_l wr (-99)
          case hLen => exact HLN.out
          intro v7 w7 r7 ho7 hg7 hr7 hn7
          obtain ⟨a7, c7, rfl⟩ := ho7.shp
          have HO7 : Hid (OwnL w7 (.slice a7 (M ++ [-99]).length c7) (M ++ [-99]) r7) := ho7
          have HA7 : w.grownBy (wr.alloc (.cells #[.int .i64 (-99)] 2)) r := grow_trans HG.out (below_grow ((Below.refl _ _).alloc (Nat.le_refl _) _) none) (.inr (.inl rfl))
          have HG7 : Hid (w.grownBy w7 r) := grow_trans HA7 hg7 HR.out
          have HR7 : Hid (r7 = r ∨ r7 = none ∨ ∃ g, r7 = some g ∧ w.heap.size ≤ g) := by
            rcases hr7 with rfl | rfl
            · exact HR.out
            · exact .inr (.inr ⟨_, rfl, by have := HG.out.size; simp; omega⟩)
          have HN7 : Hid ((M ++ [-99]).length = k + (j + 1)) := by have := HN.out; unfold Hid; simp; omega
          clear ho7 hg7 hr7 hn7 HA7
          go_wp2
          go_roundw
          case rel => exact ⟨j + 1, M ++ [-99], a7, c7, r7, by omega, by go_num, by simp, HN7, by simpa using HO7, HG7, HR7⟩
          case measure => simp [intOf]; omega
        · have hji : ¬ (j : Int) < 64 := by omega
          have hje : j = 64 := by omega
          subst hje
          have hml := HN.out
          have HE : Hid (((M.length : Nat) : Int) = (k : Int) + 64) := by unfold Hid; omega
          clear hml
          go_wp2
          go_ret
          exact ⟨by rw [← HE.out]; rfl, HG.out⟩
end Go.Proofs.Ytbeaefokpggmpab
