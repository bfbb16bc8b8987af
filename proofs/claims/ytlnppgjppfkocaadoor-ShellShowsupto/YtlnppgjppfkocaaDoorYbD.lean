import Derived.Test.YtlnppgjppfkocaaDoorYbC
/-! The program's writer: numbers, texts, the line. -/
namespace Go.Proofs.YtlnppgjppfkocaaDoor.Xs
open Go.RowKit Plain
set_option linter.unusedVariables false
set_option linter.unusedSimpArgs false

theorem fmtOf (n : Int) (hn : I64 n) (w : World) (h : Tab w) :
    Calls Tryd.prog 19 #[.int .i64 n, .int .i64 10] w fun e w' => e = .returned (.string (ba (Lib.itoa n))) ∧ Below w.heap.size w w' := by
  refine (Any.strconv_FormatInt_10 Tryd.lFmt n hn.1 hn.2 w h).mono ?_
  rintro e w' ⟨rfl, k, os, rfl⟩
  exact ⟨rfl, Lib.below_grow _ _ (Nat.le_refl _) _ _⟩
theorem itoaQ (n : Int) (hn : I64 n) (w : World) (h : Tab w) :
    Calls Tryd.prog 20 #[.int .i64 n] w fun e w' => e = .returned (.string (ba (Lib.itoa n))) ∧ Below w.heap.size w w' := by
  refine (Any.strconv_Itoa Tryd.lItoa n hn.1 hn.2 w h).mono ?_
  rintro e w' ⟨rfl, k, os, rfl⟩
  exact ⟨rfl, Lib.below_grow _ _ (Nat.le_refl _) _ _⟩
theorem trimOf (s : By) (hs : s.length ≤ 9223372036854775807) (w : World) :
    Calls Tryd.prog 21 #[.string (ba s), .string (ba plainB)] w fun e w' => e = .returned (.string (ba (Lib.trimS s plainB))) ∧ Below w.heap.size w w' := by
  refine (Any.strings_Trim_laid Tryd.lTrim (by kernel_rfl) (ba s) (ba plainB) w hs (by decide) (ascii_of_all (by decide))).mono ?_
  rintro e w' ⟨rfl, hb⟩
  exact ⟨rfl, hb⟩
set_option maxHeartbeats 4000000 in
set_option maxRecDepth 100000 in
theorem numOf (n : Int) (hn : I64 n) (P : Nat → Prop) (W w : World) (g : Nat) (l : List By) (hT : Tab W) (h : Wr P W w g l) (hl : l.length ≤ 8796093022000) :
    Calls Tryd.prog 6 #[.pointer (some ⟨g, 0, none⟩), .int .i64 n] w fun e w' => e = .returned (.tuple #[]) ∧ Wr P W w' g (l ++ [Lib.itoa n]) ∧ Kp P w w' := by
  have hTw : Tab w := hT.later h.bel
  go_enter Tryd.func6, Tryd.ntmps6
  go_wp2_with (go_at_call 19; refine (fmtOf n hn _ hTw).mono ?_; rintro e w1 ⟨rfl, hb⟩)
  have HW := mkW (h.later hb)
  have HK := mkW (h.kp hb)
  clear hb h
  go_wp2_with (go_at_call 7; refine (wordOf (Lib.itoa n) P W _ g l HW.out hl).mono ?_; rintro e w2 ⟨rfl, hw2, hk2⟩)
  go_end0
  exact ⟨rfl, hw2, HK.out.trans hk2⟩
set_option maxHeartbeats 4000000 in
set_option maxRecDepth 100000 in
theorem textOf (s : By) (hs : s.length ≤ 8796093022208) (P : Nat → Prop) (W w : World) (g : Nat) (l : List By) (h : Wr P W w g l) (hl : l.length ≤ 8796093022000) :
    Calls Tryd.prog 12 #[.pointer (some ⟨g, 0, none⟩), .string (ba s)] w fun e w' => e = .returned (.tuple #[]) ∧ Wr P W w' g (l ++ [txt s]) ∧ Kp P w w' := by
  by_cases h0 : s = []
  · subst h0
    have ht : txt [] = 34 :: (([] : By).flatMap esc ++ [34]) := by decide
    rw [ht]
    go_enter Tryd.func12, Tryd.ntmps12
    go_wp2_with (go_at_call 22; refine (quotedOf [] (by simp) _).mono ?_; rintro e w1 ⟨rfl, hb⟩)
    have HW := mkW (h.later hb)
    have HK := mkW (h.kp hb)
    go_wp2_with (go_at_call 7; refine (wordOf _ P W _ g l HW.out hl).mono ?_; rintro e w2 ⟨rfl, hw2, hk2⟩)
    go_end0
    exact ⟨rfl, hw2, HK.out.trans hk2⟩
  · have hne : List.isEmpty s = false := by cases s <;> simp_all
    cases hA : s.all plB with
    | true =>
      have ht : txt s = s := by unfold txt; rw [if_pos ⟨h0, hA⟩]
      rw [ht]
      have hem : Lib.trimS s plainB = [] := (trim_nil s).2 hA
      have hT : ∀ u, Calls Tryd.prog 21 #[.string (ba s), .string (ba plainB)] u fun e w' => e = .returned (.string ⟨#[]⟩) ∧ Below u.heap.size u w' := fun u => by
        have := trimOf s (by omega) u
        rw [hem] at this
        exact this
      clear hem hA ht
      go_enter Tryd.func12, Tryd.ntmps12
      go_wp2_with (go_at_call 21; refine (hT _).mono ?_; rintro e w1 ⟨rfl, hb⟩)
      have HW := mkW (h.later hb)
      go_wp2_with (go_at_call 7; refine (wordOf s P W _ g l HW.out hl).mono ?_; rintro e w2 ⟨rfl, hw2, hk2⟩)
      have hkk := (h.kp hb).trans hk2
      first | go_end0 | refine bodyPost_ret (results_none rfl _ _ _) rfl ?_
      exact ⟨rfl, hw2, hkk⟩
    | false =>
      have ht : txt s = 34 :: (s.flatMap esc ++ [34]) := by unfold txt; rw [if_neg]; rintro ⟨_, h⟩; rw [hA] at h; cases h
      rw [ht]
      obtain ⟨t, htr⟩ : ∃ t, Lib.trimS s plainB = t := ⟨_, rfl⟩
      have hem : List.isEmpty t = false := by
        have : t ≠ [] := fun e => by rw [← htr] at e; have := (trim_nil s).1 e; rw [hA] at this; cases this
        cases t <;> simp_all
      have hT : ∀ u, Calls Tryd.prog 21 #[.string (ba s), .string (ba plainB)] u fun e w' => e = .returned (.string (ba t)) ∧ Below u.heap.size u w' := fun u => by
        have := trimOf s (by omega) u
        rw [htr] at this
        exact this
      clear htr hA ht
      go_enter Tryd.func12, Tryd.ntmps12
      go_wp2_with (go_at_call 21; refine (hT _).mono ?_; rintro e w1 ⟨rfl, hb⟩)
      have HW := mkW (h.later hb)
      go_wp2_with (go_at_call 22; refine (quotedOf s hs _).mono ?_; rintro e w2 ⟨rfl, hb2⟩)
      have HW2 := mkW (HW.out.later hb2)
      go_wp2_with (go_at_call 7; refine (wordOf _ P W _ g l HW2.out hl).mono ?_; rintro e w3 ⟨rfl, hw3, hk3⟩)
      have hkk := ((h.kp hb).trans (HW.out.kp hb2)).trans hk3
      go_end0
      exact ⟨rfl, hw3, hkk⟩
/-! ### The line -/
theorem nms_of {l : List By} : (l.map ba).map (·.data.toList) = l := by
  rw [List.map_map]
  conv => rhs; rw [← List.map_id l]
  refine List.map_congr_left fun x _ => ?_
  rfl
theorem joinQ (p : By) (ps : List By) (v : Value) (w : World) (r : Option Nat) (h : OwnV w v (strs (p :: ps)) r) (hN : (p :: ps).length ≤ 140737488355328) (hl : (joinL p ps).length ≤ 140737488355328) :
    Calls Tryd.prog 24 #[v, .string (ba [32])] w fun e w' => e = .returned (.string (ba (joinL p ps))) ∧ Below w.heap.size w w' := by
  rcases h with ⟨_, e, _⟩ | ⟨bk, cap, _, rfl, hg, h1, h2, h3, h4, h5⟩
  · simp [strs] at e
  · rw [strs_len] at h1 h5 ⊢
    have X : Builder.Extra Tryd.prog Tryd.lJoin_ren := {
      sizeBuilder := by kernel_rfl
      liesBuilder := by kernel_rfl
      t5 := Tryd.underlying5
      a5 := Tryd.isAgg5
      z5 := Tryd.sizeOf5
      v5 := Tryd.zeroValue5
      infoByte := by kernel_rfl
      cellsByte := by kernel_rfl
      sizeByte := by kernel_rfl
      neB5 := by decide }
    have hj : Lib.join (((p :: ps).map ba).map (·.data.toList)) (ba [32]).data.toList = joinL p ps := by
      rw [nms_of]; exact join_is p ps
    have hL : ((p :: ps).map ba).length = (p :: ps).length := List.length_map ..
    have := Any.strings_Join Tryd.lJoin X bk 0 cap ((p :: ps).map ba) (ba [32]) w (fun j x hx => by
      rw [List.getElem?_map, Option.map_eq_some_iff] at hx
      obtain ⟨y, hy, rfl⟩ := hx
      have hjl : j < (p :: ps).length := (List.getElem?_eq_some_iff.mp hy).1
      rw [Nat.zero_add, h5 j hjl, strs_get hjl, List.getD_eq_getElem?_getD, hy]; rfl) hg (by rw [hL]; exact hN) (by rw [hL]; exact h1) (by rw [hj]; exact hl)
    rw [hj, hL] at this
    exact this
set_option maxHeartbeats 4000000 in
set_option maxRecDepth 100000 in
theorem lineOf (p : By) (ps : List By) (P : Nat → Prop) (W w : World) (g : Nat) (h : Wr P W w g (p :: ps)) (hN : (p :: ps).length ≤ 140737488355328) (hl : (joinL p ps).length ≤ 140737488355328) :
    Calls Tryd.prog 14 #[.pointer (some ⟨g, 0, none⟩)] w fun e w' => e = .returned (.string (ba (joinL p ps))) ∧ Below w.heap.size w w' := by
  obtain ⟨v, r, h1, h2, h3, h4, h5⟩ := h.ex
  go_enter Tryd.func14, Tryd.ntmps14
  go_wp2_with (go_at_call 24; refine (joinQ p ps v _ r h3 hN hl).mono ?_; rintro e w1 ⟨rfl, hb⟩)
  go_ret
  exact ⟨rfl, hb⟩
end Go.Proofs.YtlnppgjppfkocaaDoor.Xs
