import Derived.Test.YtlnbmblmmgjmfaaCtB
import Derived.Deep.LoopGhost
/-! The document's Cuts. -/
namespace Go.Proofs.Ytlnbmblmmgjmfaa
open Go.RowKit Plain
set_option linter.unusedVariables false
set_option linter.unusedSimpArgs false

theorem Hid.mkC {p : Prop} (h : p) : Hid p := h
set_option maxRecDepth 100000 in
theorem rplaceOf (x n : Int) (hx : I64 x) (hn0 : 0 ≤ n) (hn : n ≤ 9223372036854775807) (w : World) : Calls Try.prog 10 #[.int .i64 x, .int .i64 n] w fun e w' => e = .returned (.int .i64 (x % (n + 1))) ∧ w' = w := by
  obtain ⟨hx1, hx2⟩ := hx
  by_cases hmax : n = 9223372036854775807
  · by_cases hs : 0 ≤ x
    · rw [show x % (n + 1) = x from Int.emod_eq_of_lt hs (by omega)]
      go_enter Try.func10, Try.ntmps10
      go_wp2
      go_ret
      exact ⟨rfl, rfl⟩
    · have HE : x % (n + 1) = x + 9223372036854775807 + 1 := by
        rw [← Int.add_emod_right, show x + (n + 1) = x + 9223372036854775807 + 1 by omega]
        exact Int.emod_eq_of_lt (by omega) (by omega)
      rw [HE]
      clear HE
      go_enter Try.func10, Try.ntmps10
      go_wp2
      go_ret
      exact ⟨rfl, rfl⟩
  · have hm : 0 < n + 1 := by omega
    have h1 := Int.tmod_lt_of_pos x hm
    have h2 : -(n + 1) < x.tmod (n + 1) := Int.lt_tmod_of_pos x hm
    have hnz : ¬ n + 1 = 0 := by omega
    have HE := emod_tmod x (n + 1) hm
    by_cases hs : x.tmod (n + 1) < 0
    · rw [if_pos hs, show x.tmod (n + 1) + (n + 1) = x.tmod (n + 1) + n + 1 by omega] at HE
      rw [HE]
      clear HE
      go_enter Try.func10, Try.ntmps10
      go_wp2
      go_ret
      exact ⟨rfl, rfl⟩
    · rw [if_neg hs] at HE
      rw [HE]
      clear HE
      go_enter Try.func10, Try.ntmps10
      go_wp2
      go_ret
      exact ⟨rfl, rfl⟩
/-- A row of numbers in memory that is new. -/
structure ZNew (W w : World) (v : Value) (l : List Int) (r : Option Nat) : Prop where
  row : OwnV w v (ints l) r
  new : ∀ g, r = some g → W.heap.size ≤ g
  below : Below W.heap.size W w
theorem ZNew.nil (w : World) : ZNew w w (.slice none 0 0) [] none := ⟨OwnV.nil _, by simp, Below.refl _ _⟩
theorem OwnV.laterZ {w w' : World} {v : Value} {vs : List Value} {r : Option Nat} (h : OwnV w v vs r) (hb : Below w.heap.size w w') : OwnV w' v vs r := h.of_block hb.size (fun g e => hb.block g (by rw [e] at h; exact h.lt))
theorem ZNew.later {W w w' : World} {v : Value} {l : List Int} {r : Option Nat} (h : ZNew W w v l r) (hb : Below w.heap.size w w') : ZNew W w' v l r := ⟨h.row.laterZ hb, h.new, h.below.trans (hb.mono h.below.size)⟩
theorem ZNew.shape {W w : World} {v : Value} {l : List Int} {r : Option Nat} (h : ZNew W w v l r) : ∃ a c, v = .slice a l.length c ∧ l.length ≤ c ∧ c ≤ 9223372036854775807 := by
  obtain ⟨a, c, e, h1, h2⟩ := h.row.shape
  rw [ints_len] at e h2
  unfold maxLen at h1
  exact ⟨a, c, e, h2, by omega⟩
theorem ZNew.at {W w : World} {a : Option Addr} {n c : Nat} {l : List Int} {r : Option Nat} (h : ZNew W w (.slice a n c) l r) {j : Nat} (hj : j < l.length) : ∃ g, a = some ⟨g, 0, none⟩ ∧ w.cell? ⟨g, j, none⟩ = some (.int .i64 (l.getD j 0)) := by
  obtain ⟨g, e1, e2, e3⟩ := h.row.get (ints_get hj)
  exact ⟨g, e2, by simpa using e3⟩
/-- Put behind. -/
theorem ZNew.app {W w w' : World} {v v' : Value} {l : List Int} {z : Int} {r : Option Nat} {g : Nat} (h : ZNew W w v l r) (ho : OwnV w' v' (ints l ++ [.int .i64 z]) (some g)) (hg : (w.alloc (.cells #[.int .i64 z] 3)).grownBy w' r) (hr : some g = r ∨ g = (w.alloc (.cells #[.int .i64 z] 3)).heap.size) : ZNew W w' v' (l ++ [z]) (some g) := by
  have hs := h.below.size
  have hA : Below W.heap.size W (w.alloc (.cells #[.int .i64 z] 3)) := h.below.alloc hs _
  refine ⟨by rw [ints_app]; exact ho, fun g' e => ?_, hA.grown hg hA.size (fun g' e => h.new g' e)⟩
  simp only [Option.some.injEq] at e
  subst e
  rcases hr with e | e
  · exact h.new _ e.symm
  · rw [e]; simp; omega
/-- A row that another one's growing leaves alone. -/
theorem ZNew.apart {W w w' : World} {v : Value} {l : List Int} {r r' : Option Nat} (h : ZNew W w v l r) (hg : w.grownBy w' r') (hr : ∀ g, r' = some g → W.heap.size ≤ g) (hne : ∀ g, r = some g → r' ≠ some g) : ZNew W w' v l r := by
  refine ⟨h.row.kept hg ?_, h.new, h.below.grown hg h.below.size hr⟩
  cases e : r with
  | none => exact .inl rfl
  | some g => exact .inr (fun e2 => hne g e e2.symm)
def CtP (n : Int) (l : List Int) (w : World) (e : Ending) (w' : World) : Prop := ∃ a N c r, e = .returned (.slice a N c) ∧ ZNew w w' (.slice a N c) (cutsL n l) r
set_option maxHeartbeats 4000000 in
set_option maxRecDepth 1000000 in
theorem rcutsOf (n : Int) (hn : I64 n) (v : Value) (l : List Int) (w : World) (h : IntsAt w v l) : Calls Try.prog 5 #[.int .i64 n, v] w (CtP n l w) := by
  have HI := Hid.mkC h
  obtain ⟨a, cap, rfl, h0, h1, h2, h3⟩ := h
  obtain ⟨hn1, hn2⟩ := hn
  have HC : Hid (l ≠ [] → ∃ b off, a = some ⟨b, off, none⟩ ∧ ∀ j, j < l.length → w.cell? ⟨b, off + j, none⟩ = some (.int .i64 (l.getD j 0))) := h3
  have HZ : Hid (∀ z ∈ l, I64 z) := h2
  clear h2 h3
  by_cases hneg : n < 0
  · have HE : Hid (CtP n l w (.returned (.slice none 0 0)) w) := ⟨_, _, _, none, rfl, by unfold cutsL; rw [if_pos hneg]; exact ZNew.nil w⟩
    go_enter Try.func5, Try.ntmps5
    go_wp2
    go_ret
    exact HE.out
  have hn0 : 0 ≤ n := by omega
  have H0 : Hid (∃ r5, ZNew w w (.slice none 0 0) (cutsL n (l.take 0)) r5) := ⟨none, by rw [List.take_zero]; unfold cutsL; rw [if_neg hneg]; exact ZNew.nil w⟩
  have HPL : Hid (∀ x u, I64 x → Calls Try.prog 10 #[.int .i64 x, .int .i64 n] u fun e w' => e = .returned (.int .i64 (x % (n + 1))) ∧ w' = u) := fun x u hx => rplaceOf x n hx hn0 hn2 u
  have HPB : Hid (∀ x, 0 ≤ x % (n + 1) ∧ x % (n + 1) < n + 1) := fun x => ⟨Int.emod_nonneg _ (by omega), Int.emod_lt_of_pos _ (by omega)⟩
  go_enter Try.func5, Try.ntmps5
  go_wp2
  go_loopg [5, 6] l.length (fun gk s5 s6 wx => ∃ (i : Nat) (a5 : Option Addr) (n5 c5 : Nat), i + gk = l.length ∧ s6 = .int .i64 i ∧ s5 = .slice a5 n5 c5 ∧ Hid (∃ r5, ZNew w wx (.slice a5 n5 c5) (cutsL n (l.take i)) r5))
  case atStart => exact ⟨0, _, _, _, by omega, rfl, rfl, H0.out⟩
  case round =>
    obtain ⟨i, a5, n5, c5, hi, rfl, rfl, HV⟩ := hrel
    cases gk with
    | zero =>
      have hii : l.length = i := by omega
      obtain ⟨r5, hz⟩ := HV.out
      have HF : Hid (CtP n l w (.returned (.slice a5 n5 c5)) wr) := ⟨_, _, _, r5, rfl, by rw [← hii, List.take_length] at hz; exact hz⟩
      clear hz HV H0
      go_wp2
      go_ret
      exact HF.out
    | succ gk1 =>
      have hil : i < l.length := by omega
      have hne : l ≠ [] := by rintro rfl; simp at hil
      obtain ⟨r5, hz⟩ := HV.out
      obtain ⟨b, off, rfl, hc⟩ := HC.out hne
      have g1 := (hz.below.cell (p := ⟨b, off + i, none⟩) (cell_lt (hc i hil))).trans (hc i hil)
      have hzi : I64 (l.getD i 0) := HZ.out _ (by simp [hil])
      have HP1 := Hid.mkC (HPL.out (l.getD i 0) wr hzi)
      have HCT := Hid.mkC (cutsL_take n hn0 l hil)
      obtain ⟨hp1, hp2⟩ := HPB.out (l.getD i 0)
      have HLN : Hid ((cutsL n (l.take i)).length ≤ i) := by have := cutsL_len n (l.take i); simp at this; unfold Hid; omega
      generalize hL : cutsL n (l.take i) = L at *
      clear hL
      generalize hX : l.getD i 0 % (n + 1) = x at *
      clear hX
      generalize l.getD i 0 = y at *
      obtain ⟨a5', c5', e5, q1, q2⟩ := hz.shape
      simp only [Value.slice.injEq] at e5
      obtain ⟨rfl, rfl, rfl⟩ := e5
      have hln := HLN.out
      have HZ5 := Hid.mkC hz
      have HM0 : Hid (∃ r8, ZNew w wr (.slice none 0 0) (runC x (L.take 0)).1 r8 ∧ ZNew w wr (.slice a5 L.length c5) L r5 ∧ ∀ g, r5 = some g → r8 ≠ some g) := ⟨none, ⟨OwnV.nil _, by simp, hz.below⟩, hz, by simp⟩
      clear hz HV hc hne hzi HPL
      go_wp2_with fail
      refine HP1.out.mono ?_
      rintro e w' ⟨rfl, rfl⟩
      clear HP1
      go_wp2
      go_loopg [8, 9, 10] L.length (fun g2 s8 s9 s10 wx => ∃ (k : Nat) (a8 : Option Addr) (n8 c8 : Nat), k + g2 = L.length ∧ s10 = .int .i64 k ∧ s9 = .bool (runC x (L.take k)).2 ∧ s8 = .slice a8 n8 c8 ∧ Hid (∃ r8, ZNew w wx (.slice a8 n8 c8) (runC x (L.take k)).1 r8 ∧ ZNew w wx (.slice a5 L.length c5) L r5 ∧ ∀ g, r5 = some g → r8 ≠ some g))
      case atStart => exact ⟨0, _, _, _, by omega, rfl, rfl, rfl, HM0.out⟩
      case round =>
        obtain ⟨k, a8, n8, c8, hk, rfl, rfl, rfl, HK⟩ := hrel
        cases gk with
        | zero =>
          have hkk : L.length = k := by omega
          subst hkk
          rw [List.take_length] at HK ⊢
          obtain ⟨r8, z8, z5, hap⟩ := HK.out
          have hlen8 : (runC x L).1.length ≤ 17592186043904 := by have := runC_len x L; split at this <;> omega
          cases hd : (runC x L).2 with
          | true =>
            have HN : Hid (∃ r5, ZNew w wr (.slice a8 n8 c8) (cutsL n (l.take (i + 1))) r5) := ⟨r8, by rw [HCT.out]; unfold insC; rw [if_pos hd]; exact z8⟩
            clear z8 z5 hap HK HM0 hlen8
            go_wp2
            go_roundg gk1
            case measure => omega
            case rel => exact ⟨i + 1, _, _, _, by omega, by go_num, rfl, HN.out⟩
          | false =>
            have HCT2 : Hid (cutsL n (l.take (i + 1)) = (runC x L).1 ++ [x]) := by unfold Hid; rw [HCT.out]; unfold insC; rw [if_neg (by simp [hd])]
            have HZ8 := Hid.mkC z8
            have HO8 : Hid (OwnV (wr.alloc (.cells #[.int .i64 x] 3)) (.slice a8 n8 c8) (ints (runC x L).1) r8) := z8.row.laterZ ((Below.refl _ _).alloc (Nat.le_refl _) _)
            clear z8 z5 hap HK HM0
            go_wp2_with (at_builtin; refine wpList_append_ints _ rfl _ _ rfl _ _ (ints (runC x L).1) [.int .i64 x] r8 rfl rfl ?hOwn ?hSrc ?hLen (.inr (Nat.succ_pos _)) ?_)
            case hOwn => exact HO8.out
            case hSrc => exact srcOne wr x
            case hLen => rw [ints_len]; simp; omega
            intro v4 w4 g4 ho4 hg4 hr4
            have hz4 := HZ8.out.app ho4 hg4 (by first | exact hr4 | simpa using hr4)
            obtain ⟨a4, c4, rfl, -, -⟩ := hz4.shape
            have HN : Hid (∃ r5, ZNew w w4 (.slice a4 ((runC x L).1 ++ [x]).length c4) (cutsL n (l.take (i + 1))) r5) := ⟨some g4, by rw [HCT2.out]; exact hz4⟩
            clear hz4 ho4 hg4 hr4 HZ8 HO8 HCT2
            generalize ((runC x L).1 ++ [x]).length = NN at *
            go_wp2
            go_roundg gk1
            case measure => omega
            case rel => exact ⟨i + 1, _, _, _, by omega, by go_num, rfl, HN.out⟩
        | succ g3 =>
          have hkl : k < L.length := by omega
          obtain ⟨r8, z8, z5, hap⟩ := HK.out
          obtain ⟨gl, rfl, hcl⟩ := z5.at hkl
          have HRT := Hid.mkC (runC_take x L hkl)
          have hlen8 : (runC x (L.take k)).1.length ≤ k + 1 := by have := runC_len x (L.take k); simp only [List.length_take] at this; split at this <;> omega
          have HL8 := Hid.mkC hlen8
          generalize hyk : L.getD k 0 = yk at *
          have HYK := Hid.mkC hyk
          clear hyk
          generalize hR : runC x (L.take k) = R at *
          clear hR
          obtain ⟨RL, RD⟩ := R
          simp only at *
          have HZ8 := Hid.mkC z8
          have HZL := Hid.mkC z5
          have HAP := Hid.mkC hap
          clear z8 z5 hap HK HM0
          -- the last append of the round, of yk to M
          have HEND : Hid (∀ (M : List Int) (D : Bool) (u : World) (v : Value) (r : Option Nat), ZNew w u v M r → ZNew w u (.slice (some ⟨gl, 0, none⟩) L.length c5) L r5 → (∀ g, r5 = some g → r ≠ some g) → M.length ≤ k + 2 → stepC x (RL, RD) yk = (M ++ [yk], D) →
              ∀ (v4 : Value) (w4 : World) (g4 : Nat), OwnV w4 v4 (ints M ++ [.int .i64 yk]) (some g4) → (u.alloc (.cells #[.int .i64 yk] 3)).grownBy w4 r → (some g4 = r ∨ g4 = (u.alloc (.cells #[.int .i64 yk] 3)).heap.size) → ∃ r8, ZNew w w4 v4 (runC x (L.take (k + 1))).1 r8 ∧ ZNew w w4 (.slice (some ⟨gl, 0, none⟩) L.length c5) L r5 ∧ ∀ g, r5 = some g → r8 ≠ some g) := fun M D u v r hz hzl hap hM hst v4 w4 g4 ho hg hr => by
            have hA : Below u.heap.size u (u.alloc (.cells #[.int .i64 yk] 3)) := (Below.refl _ _).alloc (Nat.le_refl _) _
            refine ⟨some g4, by rw [HRT.out, hst]; exact hz.app ho hg hr, (hzl.later hA).apart hg (fun g e => hz.new g e) hap, fun g e e2 => ?_⟩
            simp only [Option.some.injEq] at e2
            subst e2
            rcases hr with e3 | e3
            · exact hap _ e e3.symm
            · have hlt := hzl.row
              rw [e] at hlt
              have := hlt.lt
              rw [e3] at this
              simp at this
              omega
          by_cases hc1 : x ≤ yk ∧ RD = false
          · obtain ⟨hxy, rfl⟩ := hc1
            have hge : decide (x ≤ yk) = true := by simpa using hxy
            by_cases hlt : x < yk
            · have HST : Hid (stepC x (RL, false) yk = (RL ++ [x] ++ [yk], true)) := by unfold Hid stepC; rw [if_pos ⟨hxy, rfl⟩, if_pos hlt]
              have HO8 : Hid (OwnV (wr.alloc (.cells #[.int .i64 x] 3)) (.slice a8 n8 c8) (ints RL) r8) := HZ8.out.row.laterZ ((Below.refl _ _).alloc (Nat.le_refl _) _)
              go_wp2_with (at_builtin; refine wpList_append_ints _ rfl _ _ rfl _ _ (ints RL) [.int .i64 x] r8 rfl rfl ?hOwn ?hSrc ?hLen (.inr (Nat.succ_pos _)) ?_)
              case hOwn => exact HO8.out
              case hSrc => exact srcOne wr x
              case hLen => rw [ints_len]; simp; omega
              intro v4 w4 g4 ho4 hg4 hr4
              have hr4' : some g4 = r8 ∨ g4 = (wr.alloc (.cells #[.int .i64 x] 3)).heap.size := by first | exact hr4 | simpa using hr4
              have hz4 := HZ8.out.app ho4 hg4 hr4'
              have hA : Below wr.heap.size wr (wr.alloc (.cells #[.int .i64 x] 3)) := (Below.refl _ _).alloc (Nat.le_refl _) _
              have hzl4 := (HZL.out.later hA).apart hg4 (fun g e => HZ8.out.new g e) HAP.out
              have hap4 : ∀ g, r5 = some g → some g4 ≠ some g := fun g e e2 => by
                simp only [Option.some.injEq] at e2
                subst e2
                rcases hr4' with e3 | e3
                · exact HAP.out _ e e3.symm
                · have hlt := HZL.out.row
                  rw [e] at hlt
                  have := hlt.lt
                  rw [e3] at this
                  simp at this
                  omega
              obtain ⟨a4, c4, rfl, -, -⟩ := hz4.shape
              have hcl4 := (hzl4.at hkl)
              obtain ⟨gl', e1, hcl4⟩ := hcl4
              simp only [Option.some.injEq, Addr.mk.injEq, and_true] at e1
              subst e1
              rw [HYK.out] at hcl4
              have HZ4 := Hid.mkC hz4
              have HZL4 := Hid.mkC hzl4
              have HAP4 := Hid.mkC hap4
              have HO9 : Hid (OwnV (w4.alloc (.cells #[.int .i64 yk] 3)) (.slice a4 (RL ++ [x]).length c4) (ints (RL ++ [x])) (some g4)) := hz4.row.laterZ ((Below.refl _ _).alloc (Nat.le_refl _) _)
              clear hz4 hzl4 hap4 ho4 hg4 hr4 hr4' hA HO8
              have HFIN := Hid.mkC (HEND.out (RL ++ [x]) true w4 (.slice a4 (RL ++ [x]).length c4) (some g4) HZ4.out HZL4.out HAP4.out (by have := HL8.out; simp; omega) HST.out)
              have HDD : Hid ((runC x (L.take (k + 1))).2 = true) := by unfold Hid; rw [HRT.out, HST.out]
              clear HEND
              go_wp2_with (at_builtin; refine wpList_append_ints _ rfl _ _ rfl _ _ (ints (RL ++ [x])) [.int .i64 yk] (some g4) rfl rfl ?hOwn ?hSrc ?hLen (.inr (Nat.succ_pos _)) ?_)
              case hOwn => exact HO9.out
              case hSrc => exact srcOne w4 yk
              case hLen => have := HL8.out; rw [ints_len]; simp; omega
              intro v5 w5 g5 ho5 hg5 hr5
              obtain ⟨r9, z9, z9l, ap9⟩ := HFIN.out v5 w5 g5 ho5 hg5 (by first | exact hr5 | simpa using hr5)
              obtain ⟨a9, c9, rfl, -, -⟩ := z9.shape
              have HN : Hid (∃ r8, ZNew w w5 (.slice a9 (runC x (L.take (k + 1))).1.length c9) (runC x (L.take (k + 1))).1 r8 ∧ ZNew w w5 (.slice (some ⟨gl, 0, none⟩) L.length c5) L r5 ∧ ∀ g, r5 = some g → r8 ≠ some g) := ⟨r9, z9, z9l, ap9⟩
              clear z9 z9l ap9 ho5 hg5 hr5 HFIN HZ8 HZL HAP
              go_wp2
              go_roundg g3
              case measure => omega
              case rel => exact ⟨k + 1, _, _, _, by omega, by go_num, by rw [HDD.out], rfl, HN.out⟩
            · have HST : Hid (stepC x (RL, false) yk = (RL ++ [yk], true)) := by unfold Hid stepC; rw [if_pos ⟨hxy, rfl⟩, if_neg hlt]
              have HO8 : Hid (OwnV (wr.alloc (.cells #[.int .i64 yk] 3)) (.slice a8 n8 c8) (ints RL) r8) := HZ8.out.row.laterZ ((Below.refl _ _).alloc (Nat.le_refl _) _)
              have HFIN := Hid.mkC (HEND.out (RL) true wr (.slice a8 n8 c8) r8 HZ8.out HZL.out HAP.out (by have := HL8.out; simp; omega) HST.out)
              have HDD : Hid ((runC x (L.take (k + 1))).2 = true) := by unfold Hid; rw [HRT.out, HST.out]
              clear HEND
              go_wp2_with (at_builtin; refine wpList_append_ints _ rfl _ _ rfl _ _ (ints (RL)) [.int .i64 yk] r8 rfl rfl ?hOwn ?hSrc ?hLen (.inr (Nat.succ_pos _)) ?_)
              case hOwn => exact HO8.out
              case hSrc => exact srcOne wr yk
              case hLen => have := HL8.out; rw [ints_len]; simp; omega
              intro v5 w5 g5 ho5 hg5 hr5
              obtain ⟨r9, z9, z9l, ap9⟩ := HFIN.out v5 w5 g5 ho5 hg5 (by first | exact hr5 | simpa using hr5)
              obtain ⟨a9, c9, rfl, -, -⟩ := z9.shape
              have HN : Hid (∃ r8, ZNew w w5 (.slice a9 (runC x (L.take (k + 1))).1.length c9) (runC x (L.take (k + 1))).1 r8 ∧ ZNew w w5 (.slice (some ⟨gl, 0, none⟩) L.length c5) L r5 ∧ ∀ g, r5 = some g → r8 ≠ some g) := ⟨r9, z9, z9l, ap9⟩
              clear z9 z9l ap9 ho5 hg5 hr5 HFIN HZ8 HZL HAP
              go_wp2
              go_roundg g3
              case measure => omega
              case rel => exact ⟨k + 1, _, _, _, by omega, by go_num, by rw [HDD.out], rfl, HN.out⟩
          · have HST : Hid (stepC x (RL, RD) yk = (RL ++ [yk], RD)) := by unfold Hid stepC; rw [if_neg hc1]
            have HO8 : Hid (OwnV (wr.alloc (.cells #[.int .i64 yk] 3)) (.slice a8 n8 c8) (ints RL) r8) := HZ8.out.row.laterZ ((Below.refl _ _).alloc (Nat.le_refl _) _)
            by_cases hxy : x ≤ yk
            · have hrd : RD = true := by
                cases RD with
                | true => rfl
                | false => exact absurd ⟨hxy, rfl⟩ hc1
              subst hrd
              have HFIN := Hid.mkC (HEND.out (RL) true wr (.slice a8 n8 c8) r8 HZ8.out HZL.out HAP.out (by have := HL8.out; simp; omega) HST.out)
              have HDD : Hid ((runC x (L.take (k + 1))).2 = true) := by unfold Hid; rw [HRT.out, HST.out]
              clear HEND
              go_wp2_with (at_builtin; refine wpList_append_ints _ rfl _ _ rfl _ _ (ints (RL)) [.int .i64 yk] r8 rfl rfl ?hOwn ?hSrc ?hLen (.inr (Nat.succ_pos _)) ?_)
              case hOwn => exact HO8.out
              case hSrc => exact srcOne wr yk
              case hLen => have := HL8.out; rw [ints_len]; simp; omega
              intro v5 w5 g5 ho5 hg5 hr5
              obtain ⟨r9, z9, z9l, ap9⟩ := HFIN.out v5 w5 g5 ho5 hg5 (by first | exact hr5 | simpa using hr5)
              obtain ⟨a9, c9, rfl, -, -⟩ := z9.shape
              have HN : Hid (∃ r8, ZNew w w5 (.slice a9 (runC x (L.take (k + 1))).1.length c9) (runC x (L.take (k + 1))).1 r8 ∧ ZNew w w5 (.slice (some ⟨gl, 0, none⟩) L.length c5) L r5 ∧ ∀ g, r5 = some g → r8 ≠ some g) := ⟨r9, z9, z9l, ap9⟩
              clear z9 z9l ap9 ho5 hg5 hr5 HFIN HZ8 HZL HAP
              go_wp2
              go_roundg g3
              case measure => omega
              case rel => exact ⟨k + 1, _, _, _, by omega, by go_num, by rw [HDD.out], rfl, HN.out⟩
            · clear hc1
              have HFIN := Hid.mkC (HEND.out (RL) RD wr (.slice a8 n8 c8) r8 HZ8.out HZL.out HAP.out (by have := HL8.out; simp; omega) HST.out)
              have HDD : Hid ((runC x (L.take (k + 1))).2 = RD) := by unfold Hid; rw [HRT.out, HST.out]
              clear HEND
              go_wp2_with (at_builtin; refine wpList_append_ints _ rfl _ _ rfl _ _ (ints (RL)) [.int .i64 yk] r8 rfl rfl ?hOwn ?hSrc ?hLen (.inr (Nat.succ_pos _)) ?_)
              case hOwn => exact HO8.out
              case hSrc => exact srcOne wr yk
              case hLen => have := HL8.out; rw [ints_len]; simp; omega
              intro v5 w5 g5 ho5 hg5 hr5
              obtain ⟨r9, z9, z9l, ap9⟩ := HFIN.out v5 w5 g5 ho5 hg5 (by first | exact hr5 | simpa using hr5)
              obtain ⟨a9, c9, rfl, -, -⟩ := z9.shape
              have HN : Hid (∃ r8, ZNew w w5 (.slice a9 (runC x (L.take (k + 1))).1.length c9) (runC x (L.take (k + 1))).1 r8 ∧ ZNew w w5 (.slice (some ⟨gl, 0, none⟩) L.length c5) L r5 ∧ ∀ g, r5 = some g → r8 ≠ some g) := ⟨r9, z9, z9l, ap9⟩
              clear z9 z9l ap9 ho5 hg5 hr5 HFIN HZ8 HZL HAP
              go_wp2
              go_roundg g3
              case measure => omega
              case rel => exact ⟨k + 1, _, _, _, by omega, by go_num, by rw [HDD.out], rfl, HN.out⟩
end Go.Proofs.Ytlnbmblmmgjmfaa
