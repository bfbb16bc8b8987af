import Derived.Test.YteekmmgopnnioaaDoorMnK
/-! Names of files: strings.SplitN at a dot and three, its walk. -/
namespace Go.Proofs.YteekmmgopnnioaaDoor.Mn
open Go.RowKit
set_option linter.unusedVariables false
set_option linter.unusedSimpArgs false

theorem ext_list (s : ByteArray) (a b : Nat) : (s.extract a b).data.toList = (s.data.toList.drop a).take (b - a) := by
  rw [ByteArray.data_extract]
  simp
set_option maxHeartbeats 4000000 in
set_option maxRecDepth 100000 in
theorem genSplitOf (s : ByteArray) (hs : s.size ≤ 281474976710656) (w : World) :
    Calls Tryd.prog 45 #[.string s, .string ⟨#[46]⟩, .int .i64 0, .int .i64 3] w (SpPost s.data.toList w) := by
  obtain ⟨N, hN, hN3, hNs⟩ : ∃ N : Nat, (N = 1 ∨ N = 2 ∨ N = 3) ∧ min 3 ((s.size : Int) + 1) = (N : Int) ∧ N ≤ s.size + 1 := by
    by_cases h0 : s.size = 0
    · exact ⟨1, .inl rfl, by rw [h0]; rfl, by omega⟩
    by_cases h1 : s.size = 1
    · exact ⟨2, .inr (.inl rfl), by rw [h1]; rfl, by omega⟩
    · exact ⟨3, .inr (.inr rfl), by omega, by omega⟩
  have HN : Hid (N = 3 ∨ s.size + 1 = N) := by unfold Hid; omega
  have hN1 : 1 ≤ N ∧ N ≤ 3 := by omega
  obtain ⟨hNa, hNb⟩ := hN1
  obtain ⟨W1, hmk, hrow⟩ := makeN w N hN
  have HL : Hid (∀ u : ByteArray, s.size ≤ u.size → True) := fun _ _ => trivial
  have HIX : Hid (∀ (u : ByteArray) (v : World), Calls Tryd.prog 52 #[.string u, .string ⟨#[46]⟩] v fun e w' => e = .returned (.int .i64 (ix u.data.toList)) ∧ w' = v) := indexOf
  have H0 : Hid (SpI s.data.toList w N 0 s W1) := ⟨hrow, .inl ⟨rfl, rfl⟩⟩
  have hw1 : IntKind.i64.wrap ((N : Int) - 1) = (N : Int) - 1 := by rw [IntKind.wrap_i64]; omega
  clear hrow hN HL
  go_enter Tryd.func45, Tryd.ntmps45
  go_wp2
  go_loopg [0, 10] (N - 1) (fun gk s0 s10 wx => ∃ (i : Nat) (cur : ByteArray), i + gk = N - 1 ∧ s0 = .string cur ∧ s10 = .int .i64 i ∧ cur.size ≤ s.size ∧ Hid (SpI s.data.toList w N i cur wx))
  case atStart => exact ⟨0, s, by omega, rfl, rfl, Nat.le_refl _, H0.out⟩
  case round =>
    clear H0 hmk
    obtain ⟨i, cur, hig, rfl, rfl, hcs, HV⟩ := hrel
    have hiN : i < N := by omega
    have hfz := HV.out.1.soft i hiN
    obtain ⟨ov, hov⟩ := HV.out.1.cell i hiN
    have hii : (i : Int) < (N : Int) := by omega
    cases gk with
    | zero =>
      have hlt : ¬ (i : Int) < (N : Int) - 1 := by omega
      have HP : Hid (SpPost s.data.toList w (.returned (.slice (some ⟨w.heap.size, 0, none⟩) (i + 1) N)) (wr.setCell ⟨w.heap.size, i, none⟩ (.string cur))) := by
        refine HV.out.done hiN hNb ?_
        have hll : s.data.toList.length = s.size := by simp
        rcases HV.out.2 with ⟨h1, h2⟩ | ⟨h1, h2, h3, _⟩ | ⟨h1, _⟩
        · right
          have : s.data.toList = [] := List.eq_nil_of_length_eq_zero (by have := HN.out; omega)
          rw [h2, this]; decide
        · right
          have : s.data.toList.drop ((ix s.data.toList).toNat + 1) = [] := List.drop_eq_nil_of_le (by have := HN.out; omega)
          rw [h3, this]; decide
        · left; exact h1
      clear HV
      go_wp2
      go_ret
      exact HP.out
    | succ gk1 =>
      have hlt : (i : Int) < (N : Int) - 1 := by omega
      rcases ix_bounds cur.data.toList with hx | ⟨hx0, hx1⟩
      · have HP : Hid (SpPost s.data.toList w (.returned (.slice (some ⟨w.heap.size, 0, none⟩) (i + 1) N)) (wr.setCell ⟨w.heap.size, i, none⟩ (.string cur))) := HV.out.done hiN hNb (.inr (by omega))
        clear HV
        go_wp2_with fail
        refine (HIX.out cur _).mono ?_
        rintro e w2 ⟨rfl, rfl⟩
        rw [hx]
        go_wp2
        go_ret
        exact HP.out
      · obtain ⟨m, hm⟩ : ∃ m : Nat, ix cur.data.toList = (m : Int) := ⟨(ix cur.data.toList).toNat, by omega⟩
        have hml : m < cur.size := by
          have : cur.data.toList.length = cur.size := by simp
          omega
        have HNX : Hid (SpI s.data.toList w N (i + 1) (cur.extract (m + 1) cur.size) (wr.setCell ⟨w.heap.size, i, none⟩ (.string (cur.extract 0 m)))) := by
          refine HV.out.next (by omega) hNb hm ?_ ?_
          · rw [ext_list]; simp
          · rw [ext_list]
            have : cur.data.toList.length = cur.size := by simp
            exact List.take_of_length_le (by rw [List.length_drop]; omega)
        have hrs : (cur.extract (m + 1) cur.size).size ≤ s.size := by rw [ByteArray.size_extract]; omega
        clear HV
        go_wp2_with fail
        refine (HIX.out cur _).mono ?_
        rintro e w2 ⟨rfl, rfl⟩
        rw [hm]
        go_wp2
        go_roundg gk1
        case measure => omega
        case rel => exact ⟨i + 1, _, by omega, rfl, by go_num, hrs, HNX.out⟩
theorem splitNOf (s : ByteArray) (hs : s.size ≤ 281474976710656) (w : World) :
    Calls Tryd.prog 38 #[.string s, .string ⟨#[46]⟩, .int .i64 3] w (SpPost s.data.toList w) := by
  have HG : Hid (Calls Tryd.prog 45 #[.string s, .string ⟨#[46]⟩, .int .i64 0, .int .i64 3] w (SpPost s.data.toList w)) := genSplitOf s hs w
  go_enter Tryd.func38, Tryd.ntmps38
  go_wp2_with fail
  refine HG.out.mono ?_
  rintro e w1 ⟨c, rfl, h1, h2, h3, h4⟩
  have HP : Hid (SpPost s.data.toList w (.returned (.slice (some ⟨w.heap.size, 0, none⟩) (parts s.data.toList).length c)) w1) := ⟨c, rfl, h1, h2, h3, h4⟩
  clear h1 h2 h3 h4 HG
  generalize (parts s.data.toList).length = n at HP ⊢
  go_wp2
  go_ret
  exact HP.out
end Go.Proofs.YteekmmgopnnioaaDoor.Mn
