import Derived.Test.YtlnbmblmmgjmfaaCtH
/-! The program's Cuts. -/
namespace Go.Proofs.Ytlnbmblmmgjmfaa
open Go.RowKit Plain
set_option linter.unusedVariables false
set_option linter.unusedSimpArgs false

theorem i64_notNeg (x : Int) (h1 : -9223372036854775808 ≤ x) (h2 : x < 0) : bits .xor .i64 (-1) x = -x - 1 := by
  show IntKind.i64.wrap ((BitVec.ofInt 64 (-1) ^^^ BitVec.ofInt 64 x).toNat : Int) = _
  have e1 : BitVec.ofInt 64 (-1) = BitVec.allOnes 64 := by decide
  rw [e1, BitVec.allOnes_xor, BitVec.toNat_not, BitVec.toNat_ofInt]
  simp [IntKind.wrap, IntKind.bits, IntKind.signed]
  omega
set_option maxRecDepth 100000 in
theorem qplaceOf (x n : Int) (hx : I64 x) (hn0 : 0 ≤ n) (hn : n ≤ 9223372036854775807) (w : World) : Calls Try.prog 7 #[.int .i64 n, .int .i64 x] w fun e w' => e = .returned (.int .i64 (x % (n + 1))) ∧ w' = w := by
  obtain ⟨hx1, hx2⟩ := hx
  have hm : 0 < n + 1 := by omega
  have hnz : ¬ n + 1 = 0 := by omega
  by_cases hs : x < 0
  · have HE := emod_neg x n hn0
    have h1 := Int.emod_nonneg (-x - 1) hnz
    have h2 := Int.emod_lt_of_pos (-x - 1) hm
    have ht : (-x - 1).tmod (n + 1) = (-x - 1) % (n + 1) := Int.tmod_eq_emod_of_nonneg (by omega)
    generalize hr : (-x - 1) % (n + 1) = r at *
    rw [HE]
    clear HE hr
    have hx := i64_notNeg x hx1 hs
    have hu : IntKind.u64.wrap (-x - 1) = -x - 1 := by
      simp [IntKind.wrap, IntKind.bits, IntKind.signed]
      omega
    have hw1 : wrap64 r = r := by unfold wrap64; omega
    have hw2 : wrap64 (n - r) = n - r := by unfold wrap64; omega
    go_enter Try.func7, Try.ntmps7
    go_wp2
    go_ret
    exact ⟨rfl, rfl⟩
  · have ht : x.tmod (n + 1) = x % (n + 1) := Int.tmod_eq_emod_of_nonneg (by omega)
    have h1 := Int.emod_nonneg x hnz
    have h2 := Int.emod_lt_of_pos x hm
    generalize hr : x % (n + 1) = r at *
    clear hr
    go_enter Try.func7, Try.ntmps7
    go_wp2
    go_ret
    exact ⟨rfl, rfl⟩
def plcL (n : Int) (l : List Int) : List Int := l.map fun a => a % (n + 1)
theorem plcL_take (n : Int) (l : List Int) {i : Nat} (h : i < l.length) : plcL n (l.take (i + 1)) = plcL n (l.take i) ++ [l.getD i 0 % (n + 1)] := by
  unfold plcL
  rw [List.take_succ_eq_append_getElem h, List.map_append]
  simp [List.getD_eq_getElem?_getD, h]
theorem ZNew.grows {W w w' : World} {v v' : Value} {l l' : List Int} {r : Option Nat} (h : ZNew W w v l r) (ho : OwnV w' v' (ints l') r) (hg : w.grownBy w' r) : ZNew W w' v' l' r := ⟨ho, h.new, h.below.grown hg h.below.size h.new⟩
set_option maxHeartbeats 4000000 in
set_option maxRecDepth 1000000 in
theorem qcutsOf (n : Int) (hn : I64 n) (v : Value) (l : List Int) (w : World) (h : IntsAt w v l) : Calls Try.prog 4 #[.int .i64 n, v] w (CtP n l w) := by
  have HI := Hid.mkC h
  obtain ⟨a, cap, rfl, h0, h1, h2, h3⟩ := h
  obtain ⟨hn1, hn2⟩ := hn
  have HC : Hid (l ≠ [] → ∃ b off, a = some ⟨b, off, none⟩ ∧ ∀ j, j < l.length → w.cell? ⟨b, off + j, none⟩ = some (.int .i64 (l.getD j 0))) := h3
  have HZ : Hid (∀ z ∈ l, I64 z) := h2
  clear h2 h3
  by_cases hneg : n < 0
  · have HE : Hid (CtP n l w (.returned (.slice none 0 0)) w) := ⟨_, _, _, none, rfl, by unfold cutsL; rw [if_pos hneg]; exact ZNew.nil w⟩
    go_enter Try.func4, Try.ntmps4
    go_wp2
    go_ret
    exact HE.out
  have hn0 : 0 ≤ n := by omega
  have H0 : Hid (∃ r5, ZNew w w (.slice none 0 0) (plcL n (l.take 0)) r5) := ⟨none, by rw [List.take_zero]; exact ZNew.nil w⟩
  have HPL : Hid (∀ x u, I64 x → Calls Try.prog 7 #[.int .i64 n, .int .i64 x] u fun e w' => e = .returned (.int .i64 (x % (n + 1))) ∧ w' = u) := fun x u hx => qplaceOf x n hx hn0 hn2 u
  have HPB : Hid (∀ x, 0 ≤ x % (n + 1) ∧ x % (n + 1) < n + 1) := fun x => ⟨Int.emod_nonneg _ (by omega), Int.emod_lt_of_pos _ (by omega)⟩
  have HEQ : Hid (Lib.compact ((plcL n l).mergeSort (fun a b => decide (a ≤ b))) = cutsL n l) := cuts_are n hn0 l
  go_enter Try.func4, Try.ntmps4
  go_wp2
  go_loopg [5, 12] l.length (fun gk s5 s12 wx => ∃ (i : Nat) (a5 : Option Addr) (n5 c5 : Nat), i + gk = l.length ∧ s12 = .int .i64 i ∧ s5 = .slice a5 n5 c5 ∧ Hid (∃ r5, ZNew w wx (.slice a5 n5 c5) (plcL n (l.take i)) r5))
  case atStart => exact ⟨0, _, _, _, by omega, rfl, rfl, H0.out⟩
  case round =>
    obtain ⟨i, a5, n5, c5, hi, rfl, rfl, HV⟩ := hrel
    cases gk with
    | zero =>
      have hii : l.length = i := by omega
      obtain ⟨r5, hz⟩ := HV.out
      rw [← hii, List.take_length] at hz
      have hlen : (plcL n l).length = l.length := by simp [plcL]
      have HS := Hid.mkC (qsortOf (.slice a5 n5 c5) (plcL n l) wr r5 hz.row (by omega))
      have HZ5 := Hid.mkC hz
      have hlen2 : ((plcL n l).mergeSort (fun a b => decide (a ≤ b))).length = l.length := by rw [List.length_mergeSort, hlen]
      have HL2 := Hid.mkC hlen2
      clear hz HV H0 hlen hlen2
      go_wp2_with fail
      refine HS.out.mono ?_
      rintro e w1 ⟨rfl, ho1, hg1⟩
      have HZ6 := Hid.mkC (HZ5.out.grows ho1 hg1)
      have HK := Hid.mkC (qcompactOf a5 n5 c5 _ w1 r5 ho1 (by have := HL2.out; omega))
      clear ho1 hg1 HS HZ5
      go_wp2_with fail
      refine HK.out.mono ?_
      rintro e w2 ⟨rfl, ho2, hg2⟩
      have HF : Hid (CtP n l w (.returned (.slice a5 (Lib.compact ((plcL n l).mergeSort (fun a b => decide (a ≤ b)))).length c5)) w2) := ⟨_, _, _, r5, rfl, by
        have := HZ6.out.grows ho2 hg2
        rw [HEQ.out] at this ⊢
        exact this⟩
      clear ho2 hg2 HK HZ6
      go_wp2
      go_ret
      exact HF.out
    | succ gk1 =>
      have hil : i < l.length := by omega
      have hne : l ≠ [] := by rintro rfl; simp at hil
      obtain ⟨r5, hz⟩ := HV.out
      obtain ⟨b, off, rfl, hc⟩ := HC.out hne
      have g1 := (hz.below.cell (p := ⟨b, off + i, none⟩) (cell_lt (hc i hil))).trans (hc i hil)
      have hzi : I64 (l.getD i 0) := HZ.out _ (by simp [hil])
      have HP1 := Hid.mkC (HPL.out (l.getD i 0) wr hzi)
      have HCT := Hid.mkC (plcL_take n l hil)
      obtain ⟨hp1, hp2⟩ := HPB.out (l.getD i 0)
      have hln : (plcL n (l.take i)).length = i := by simp [plcL]; omega
      have HLN := Hid.mkC hln
      clear hln
      generalize hX : l.getD i 0 % (n + 1) = x at *
      clear hX
      generalize l.getD i 0 = y at *
      generalize plcL n (l.take i) = L at *
      have HZ5 := Hid.mkC hz
      have HO5 : Hid (OwnV (wr.alloc (.cells #[.int .i64 x] 3)) (.slice a5 n5 c5) (ints L) r5) := hz.row.laterZ ((Below.refl _ _).alloc (Nat.le_refl _) _)
      clear hz HV hc hne hzi HPL
      go_wp2_with fail
      refine HP1.out.mono ?_
      rintro e w' ⟨rfl, rfl⟩
      clear HP1
      go_wp2_with (at_builtin; refine wpList_append_ints _ rfl _ _ rfl _ _ (ints L) [.int .i64 x] r5 rfl rfl ?hOwn ?hSrc ?hLen (.inr (Nat.succ_pos _)) ?_)
      case hOwn => exact HO5.out
      case hSrc => exact srcOne w' x
      case hLen => rw [ints_len, HLN.out]; simp; omega
      intro v4 w4 g4 ho4 hg4 hr4
      have hz4 := HZ5.out.app ho4 hg4 (by first | exact hr4 | simpa using hr4)
      obtain ⟨a4, c4, rfl, -, -⟩ := hz4.shape
      have HN : Hid (∃ r5, ZNew w w4 (.slice a4 (L ++ [x]).length c4) (plcL n (l.take (i + 1))) r5) := ⟨some g4, by rw [HCT.out]; exact hz4⟩
      clear hz4 ho4 hg4 hr4 HZ5 HO5
      generalize (L ++ [x]).length = NN at *
      go_wp2
      go_roundg gk1
      case measure => omega
      case rel => exact ⟨i + 1, _, _, _, by omega, by go_num, rfl, HN.out⟩
theorem cutsOk (n : Int) (hn : I64 n) : CutsOk n := fun v l u h => qcutsOf n hn v l u h
end Go.Proofs.Ytlnbmblmmgjmfaa
