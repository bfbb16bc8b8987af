import Derived.Test.YtklfmgkfcacfkaaRk1
/-! The document's Tokens: the walk. -/
namespace Go.Proofs.Ytklfmgkfcacfkaa
open Go.RowKit Plain
set_option linter.unusedVariables false
set_option linter.unusedSimpArgs false

theorem refTokensLong (v : Value) (l : List Nat) (w : World) (h : BytesAt w v l) (hl : 4096 < l.length) :
    Calls Try.prog 21 #[v] w fun e w' => e = .returned (.tuple #[.slice none 0 0, .int .i64 2]) ∧ w' = w := by
  obtain ⟨a, cap, rfl, hlc, hcm, hby, hcells⟩ := h
  unfold maxLen at hcm
  clear hcells hby
  have h1 : ((l.length : Nat) : Int) > 4096 := by omega
  go_enter Try.func21, Try.ntmps21
  go_wp2
  go_ret2
  exact ⟨rfl, rfl⟩

/-- The text's own tokens. -/
def TokPost (w : World) (l : List Nat) : Ending → World → Prop := fun e w' => ∃ tv tg r ts, e = .returned (.tuple #[tv, .int .i64 0]) ∧ PreP l ts l.length ∧ Sims tg ts ∧ GRow w.heap.size w' tv tg r ∧ Below w.heap.size w w'

set_option maxHeartbeats 2000000 in
theorem refTokensOf (v : Value) (l : List Nat) (w : World) (h : BytesAt w v l) (hl : l.length ≤ 4096) : Calls Try.prog 21 #[v] w (TokPost w l) := by
  have HV : Hid (BytesAt w v l) := h
  obtain ⟨a, cap, rfl, hlc, hcm, hby, hcells⟩ := h
  have HC : Hid (l ≠ [] → ∃ b off, a = some ⟨b, off, none⟩ ∧ ∀ j, j < l.length → w.cell? ⟨b, off + j, none⟩ = some (.int .u8 ((l.getD j 0 : Nat) : Int))) := hcells
  have HBY : Hid (∀ c ∈ l, c < 256) := hby
  have h1 : ¬ (((l.length : Nat) : Int) > 4096) := by omega
  clear hcells hby
  go_enter Try.func21, Try.ntmps21
  go_wp2
  go_loopw [4, 5, 6] (fun s4 s5 s6 wr => ∃ (i : Nat) (tg : List Tg) (r q : Option Nat) (b : List Nat) (a4 a5 : Option Addr) (n4 c4 n5 c5 : Nat), s6 = .int .i64 i ∧ s4 = .slice a4 n4 c4 ∧ s5 = .slice a5 n5 c5 ∧ n5 = b.length ∧ Rst l w wr (.slice a4 n4 c4) tg r (.slice a5 n5 c5) b q i) (fun _ _ s _ => l.length - (intOf s).toNat)
  case atStart => exact ⟨0, [], none, none, [], none, none, 0, 0, 0, 0, rfl, rfl, rfl, rfl, ⟨[], 0, w, PreP.nil, by simp, rfl, rfl, by simp, fun j j1 j2 => by omega, GRow.nil _ _, Below.refl _ _, Below.refl _ _, by simp⟩, Own.nil _, by omega, fun _ => ⟨rfl, rfl⟩⟩
  case round =>
    obtain ⟨i, tg, r, q, b, a4, a5, n4, c4, n5, c5, rfl, rfl, rfl, hn5, hst⟩ := hrel
    have HS : Hid (Rst l w wr (.slice a4 n4 c4) tg r (.slice a5 n5 c5) b q i) := hst
    have HN5 : Hid (n5 = b.length) := hn5
    have hil := hst.il
    have hn5' : n5 ≤ 4096 := by
      obtain ⟨ts, bg, w0, _, _, _, e, _⟩ := hst.st
      omega
    have HCT : Hid (tg.length ≤ 8192) := by have := hst.count; unfold Hid; omega
    clear hst hn5
    by_cases hlt : i < l.length
    · obtain ⟨bb, off, rfl, hc⟩ := HC.out (by rintro rfl; simp at hlt)
      have hci := hc i hlt
      have hcl := cell_lt hci
      simp only at hcl
      have hci' : wr.cell? ⟨bb, off + i, none⟩ = some (.int .u8 ((l.getD i 0 : Nat) : Int)) := by rw [HS.out.below.cell (p := ⟨bb, off + i, none⟩) hcl]; exact hci
      have HX : Hid (l.getD i 0 < 256) := HBY.out _ (by rw [List.getD_eq_getElem?_getD, List.getElem?_eq_getElem hlt]; exact List.getElem_mem _)
      clear hc hci
      go_wp2_with fail
      refine (refBest _ l i wr (HV.out.later HS.out.below) hl hlt).mono ?_
      rintro e w' ⟨n, d, rfl, hbest, m, rfl⟩
      have HSD : Hid (Rst l w (wr.drewN m) (.slice a4 n4 c4) tg r (.slice a5 n5 c5) b q i) := HS.out.drew m
      have HBS : Hid (Best l i d n) := hbest
      by_cases hn0 : n = 0
      · have HB0 : Hid (Best l i 0 0) := by
          rcases hbest with ⟨e1, e2, _⟩ | ⟨e1, _⟩
          · have := HBS.out; rw [e1, e2] at this; exact this
          · omega
        subst hn0
        clear hbest
        have HSB : Hid (∀ (lv' : Value) (w3 : World) (q3 : Option Nat), Own w3 lv' (b ++ [l.getD i 0]) q3 → (wr.drewN m).grownBy w3 q → (q3 = q ∨ ∃ g, q3 = some g ∧ (wr.drewN m).heap.size ≤ g) → Rst l w w3 (.slice a4 n4 c4) tg r lv' (b ++ [l.getD i 0]) q3 (i + 1)) := fun lv' w3 q3 h1 h2 h3 => HSD.out.byte hlt HB0.out h1 h2 h3
        generalize l.getD i 0 = x at hci' HX HSB
        go_wp2_with (at_builtin; refine wpList_append_row _ rfl _ _ 22 22 rfl Try.underlying22 _ _ b [x] q rfl rfl ?hOwn ?hByte ?hSrc ?hLen ?_)
        case hOwn => exact HSD.out.ow.later ((Below.refl _ _).alloc (Nat.le_refl _) _)
        case hByte => intro y hy; rw [List.mem_singleton] at hy; have := HX.out; omega
        case hSrc => exact src_c (wr.drewN m) x
        case hLen => have := HN5.out; simp; omega
        intro v' w3 r3 ho3 hg3 hr3 hn3
        obtain ⟨a3, c3, rfl⟩ := ho3.isSlice
        have HS3 : Hid (Rst l w w3 (.slice a4 n4 c4) tg r (.slice a3 (b ++ [x]).length c3) (b ++ [x]) r3 (i + 1)) := HSB.out _ _ _ ho3 (grow_trans (World.grownBy_alloc _ _ q) hg3 (.inl rfl)) (by
          rcases hr3 with e | e
          · first | exact .inl e | exact .inl (by rw [e])
          · exact .inr ⟨_, e, by simp⟩)
        have HL3 : Hid ((b ++ [x]).length = (b ++ [x]).length) := rfl
        generalize hnn : (b ++ [x]).length = n3 at HS3 ⊢
        have HNN : Hid (n3 = (b ++ [x]).length) := hnn.symm
        clear ho3 hg3 hr3 hn3 hnn HL3
        go_wp2
        go_roundw
        case rel => exact ⟨i + 1, tg, r, r3, b ++ [x], a4, a3, n4, c4, n3, c3, by go_num, rfl, rfl, HNN.out, HS3.out⟩
        case measure => simp [intOf]; omega
      · have HB5 : Hid (5 ≤ n ∧ n ≤ 258 ∧ i + n ≤ l.length ∧ d ≤ 2048) := by
          rcases hbest with ⟨e1, _⟩ | ⟨e1, e2, e3, _, _, e4, _⟩
          · exact absurd e1 hn0
          · exact ⟨e1, e2, e3, e4⟩
        have hn0' : (((n : Nat) : Int) == 0) = false := by simp; omega
        have hnb : n ≤ 258 := HB5.out.2.1
        have h5n : 5 ≤ n := HB5.out.1
        have hin : i + n ≤ l.length := HB5.out.2.2.1
        have hdb : d ≤ 2048 := HB5.out.2.2.2
        clear hbest hn0
        by_cases hb0 : 0 < n5
        · have HBN : Hid (b ≠ []) := fun e => by have := HN5.out; rw [e] at this; simp at this; omega
          have hb0' : ((n5 : Nat) : Int) > 0 := by omega
          go_wp2_with (at_builtin; refine wpList_append_tg _ rfl _ _ rfl _ _ tg ⟨.slice a5 n5 c5, b, 0, 0⟩ r rfl rfl ?hOwnT ?hSrcT ?hLenT ?_)
          case hOwnT => exact (HSD.out.row.kept (World.grownBy_alloc _ _ none) (by simp)).own
          case hSrcT => exact src_tg (wr.drewN m) ⟨.slice a5 n5 c5, b, 0, 0⟩ (.slice a5 n5 c5) (.int .i64 0) (.int .i64 0) rfl rfl 28
          case hLenT => exact Nat.le_trans HCT.out (by decide)
          intro v6 w6 g6 ho6 hg6 hr6
          have HS2 : Hid (St2 l w w6 v6 (tg ++ [⟨.slice a5 n5 c5, b, 0, 0⟩]) (some g6) i) := HSD.out.flush HBN.out hl ho6 (grow_trans (World.grownBy_alloc _ _ r) hg6 (.inl rfl)) (by
            rcases hr6 with e | e
            · first | exact .inl e | exact .inl (by rw [e])
            · exact .inr (by rw [e]; simp))
          clear ho6 hg6 hr6
          obtain ⟨a6, n6, c6, rfl⟩ : ∃ a6 n6 c6, v6 = .slice a6 n6 c6 := by
            rcases HS2.out.row.own with ⟨e, _, _⟩ | ⟨_, _, _, e, _⟩
            · exact ⟨_, _, _, e⟩
            · exact ⟨_, _, _, e⟩
          have HCT2 : Hid ((tg ++ [(⟨.slice a5 n5 c5, b, 0, 0⟩ : Tg)]).length ≤ 8192) := by
            obtain ⟨ts, e1, e2⟩ := HS2.out.st
            have := e1.count
            unfold Hid
            rw [e2.len]
            omega
          generalize (tg ++ [(⟨.slice a5 n5 c5, b, 0, 0⟩ : Tg)]) = tg1 at HS2 HCT2
          go_wp2_with (at_builtin; refine wpList_append_tg _ rfl _ _ rfl _ _ tg1 ⟨.slice none 0 0, [], d, n⟩ (some g6) rfl rfl ?hOwnM ?hSrcM ?hLenM ?_)
          case hOwnM => exact (HS2.out.row.kept (World.grownBy_alloc _ _ none) (by simp)).own
          case hSrcM => exact src_tg (w6) ⟨.slice none 0 0, [], d, n⟩ (.slice none 0 0) (.int .i64 d) (.int .i64 n) rfl rfl 28
          case hLenM => exact Nat.le_trans HCT2.out (by decide)
          intro v7 w7 g7 ho7 hg7 hr7
          have HS3 : Hid (Rst l w w7 v7 (tg1 ++ [⟨.slice none 0 0, [], d, n⟩]) (some g7) (.slice none 0 0) [] none (i + n)) := HS2.out.mat HB5.out.1 (by have := HB5.out; omega) (by have := HB5.out; omega) HBS.out HB5.out.2.2.1 ho7 (grow_trans (World.grownBy_alloc _ _ (some g6)) hg7 (.inl rfl)) (by
            rcases hr7 with e | e
            · first | exact .inl e | exact .inl (by rw [e])
            · exact .inr (by rw [e]; simp))
          obtain ⟨a7, n7, c7, rfl⟩ : ∃ a7 n7 c7, v7 = .slice a7 n7 c7 := by
            rcases ho7 with ⟨e, _, _⟩ | ⟨_, _, _, e, _⟩
            · exact ⟨_, _, _, e⟩
            · exact ⟨_, _, _, e⟩
          clear ho7 hg7 hr7
          go_wp2
          go_roundw
          case rel => exact ⟨i + n, _, some g7, none, [], a7, none, n7, c7, 0, 0, by go_num, rfl, rfl, rfl, HS3.out⟩
          case measure => simp [intOf]; omega
        · have hbn : b = [] := List.eq_nil_of_length_eq_zero (by have := HN5.out; omega)
          obtain ⟨e5, -⟩ := HSD.out.em hbn
          injection e5 with e6 e7 e8
          subst e6 e7 e8
          clear hbn
          have HS2 : Hid (St2 l w (wr.drewN m) (.slice a4 n4 c4) tg r i) := HSD.out.empty (List.eq_nil_of_length_eq_zero (by have := HN5.out; omega))
          go_wp2_with (at_builtin; refine wpList_append_tg _ rfl _ _ rfl _ _ tg ⟨.slice none 0 0, [], d, n⟩ r rfl rfl ?hOwnM ?hSrcM ?hLenM ?_)
          case hOwnM => exact (HS2.out.row.kept (World.grownBy_alloc _ _ none) (by simp)).own
          case hSrcM => exact src_tg (wr.drewN m) ⟨.slice none 0 0, [], d, n⟩ (.slice none 0 0) (.int .i64 d) (.int .i64 n) rfl rfl 28
          case hLenM => exact Nat.le_trans HCT.out (by decide)
          intro v7 w7 g7 ho7 hg7 hr7
          have HS3 : Hid (Rst l w w7 v7 (tg ++ [⟨.slice none 0 0, [], d, n⟩]) (some g7) (.slice none 0 0) [] none (i + n)) := HS2.out.mat HB5.out.1 (by have := HB5.out; omega) (by have := HB5.out; omega) HBS.out HB5.out.2.2.1 ho7 (grow_trans (World.grownBy_alloc _ _ r) hg7 (.inl rfl)) (by
            rcases hr7 with e | e
            · first | exact .inl e | exact .inl (by rw [e])
            · exact .inr (by rw [e]; simp))
          obtain ⟨a7, n7, c7, rfl⟩ : ∃ a7 n7 c7, v7 = .slice a7 n7 c7 := by
            rcases ho7 with ⟨e, _, _⟩ | ⟨_, _, _, e, _⟩
            · exact ⟨_, _, _, e⟩
            · exact ⟨_, _, _, e⟩
          clear ho7 hg7 hr7
          go_wp2
          go_roundw
          case rel => exact ⟨i + n, _, some g7, none, [], a7, none, n7, c7, 0, 0, by go_num, rfl, rfl, rfl, HS3.out⟩
          case measure => simp [intOf]; omega
    · obtain rfl : i = l.length := by omega
      clear HC
      by_cases hb0 : 0 < n5
      · have HBN : Hid (b ≠ []) := fun e => by have := HN5.out; rw [e] at this; simp at this; omega
        have hb0' : ((n5 : Nat) : Int) > 0 := by omega
        go_wp2_with (at_builtin; refine wpList_append_tg _ rfl _ _ rfl _ _ tg ⟨.slice a5 n5 c5, b, 0, 0⟩ r rfl rfl ?hOwnT ?hSrcT ?hLenT ?_)
        case hOwnT => exact (HS.out.row.kept (World.grownBy_alloc _ _ none) (by simp)).own
        case hSrcT => exact src_tg (wr) ⟨.slice a5 n5 c5, b, 0, 0⟩ (.slice a5 n5 c5) (.int .i64 0) (.int .i64 0) rfl rfl 28
        case hLenT => exact Nat.le_trans HCT.out (by decide)
        intro v6 w6 g6 ho6 hg6 hr6
        have HS2 : Hid (St2 l w w6 v6 (tg ++ [⟨.slice a5 n5 c5, b, 0, 0⟩]) (some g6) l.length) := HS.out.flush HBN.out hl ho6 (grow_trans (World.grownBy_alloc _ _ r) hg6 (.inl rfl)) (by
          rcases hr6 with e | e
          · first | exact .inl e | exact .inl (by rw [e])
          · exact .inr (by rw [e]; simp))
        clear ho6 hg6 hr6
        go_wp2
        go_ret2
        obtain ⟨ts, e1, e2⟩ := HS2.out.st
        exact ⟨_, _, _, ts, rfl, e1, e2, HS2.out.row, HS2.out.be⟩
      · obtain rfl : n5 = 0 := by omega
        have HS2 : Hid (St2 l w wr (.slice a4 n4 c4) tg r l.length) := HS.out.empty (List.eq_nil_of_length_eq_zero (by have := HN5.out; omega))
        go_wp2
        go_ret2
        obtain ⟨ts, e1, e2⟩ := HS2.out.st
        exact ⟨_, _, _, ts, rfl, e1, e2, HS2.out.row, HS2.out.be⟩
end Go.Proofs.Ytklfmgkfcacfkaa
