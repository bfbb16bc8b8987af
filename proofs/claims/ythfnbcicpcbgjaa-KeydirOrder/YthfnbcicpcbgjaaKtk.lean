import Derived.Test.YthfnbcicpcbgjaaKtj
/-! keydir: Note. -/
namespace Go.Proofs.Ythfnbcicpcbgjaa
open Go.RowKit Plain
set_option linter.unusedVariables false

/-- Would an entry with that offset be laid down? -/
def noteB (key : ByteArray) (en : En) (l : List Ke) : Bool := !((findL key l).isSome && decide (en.off ≤ (gotE (findL key l)).off))
def noteL (key : ByteArray) (en : En) (l : List Ke) : List Ke := if noteB key en l then insL key en l else l

theorem hresNote : Try.f10.results = #[.tmp 6, .tmp 7] := by kernel_rfl
set_option maxHeartbeats 4000000 in
theorem noteOf {D : Nat → Prop} {gd : Nat} {l : List Ke} (key : ByteArray) (en : En) (w : World) (hD : ∀ g, w.heap.size ≤ g → ¬ D g) (h : DirAt D w gd l) (hk1 : 1 ≤ key.size) (hk : key.size ≤ 64) (hl : l.length ≤ 1125899906842600) : Calls Try.prog 10 #[.pointer (some ⟨gd, 0, none⟩), .string key, en.v] w fun e w' => e = .returned (.tuple #[.bool (noteB key en l), .int .i64 0]) ∧ w.grownBy w' (some gd) ∧ DirAt D w' gd (noteL key en l) := by
  obtain ⟨w0, hw0⟩ : ∃ w0, w.alloc (.cells #[.int .i64 en.seg, .int .i64 en.pos, .int .i64 en.size, .int .i64 en.off, .int .i64 en.time, .bool en.tomb] 26) = w0 := ⟨_, rfl⟩
  have hs0 : w0.heap.size = w.heap.size + 1 := by rw [← hw0]; simp
  have hb0 : Below w.heap.size w w0 := by rw [← hw0]; exact (Below.refl _ _).alloc (Nat.le_refl _) _
  have HEN : Hid (∀ u, Below w0.heap.size w0 u → EnAt u w.heap.size en) := fun u hu => by
    have h : EnAt w0 w.heap.size en := by rw [← hw0]; exact EnAt.new w en
    exact h.block (hu.block _ h.lt)
  have hgl := h.lt
  have HDA : Hid (∀ u, Below w.heap.size w u → DirAt D u gd l) := fun u hu => h.later hu
  have HGE : Hid (Calls Try.prog 14 #[.pointer (some ⟨gd, 0, none⟩), .string key] w0 fun e w' => e = .returned (.tuple #[(gotE (findL key l)).v, .bool (findL key l).isSome]) ∧ Below w0.heap.size w0 w') := getOf key w0 (h.later hb0) (by unfold maxLen; omega)
  have HPU : Hid (∀ u, Below w.heap.size w u → Calls Try.prog 27 #[.pointer (some ⟨gd, 0, none⟩), .string key, en.v] u fun e w' => e = .returned (.tuple #[(gotE (findL key l)).v, .bool (findL key l).isSome, .int .i64 0]) ∧ u.grownBy w' (some gd) ∧ DirAt D w' gd (insL key en l)) := fun u hu => putOf key en u (fun g hg => hD g (Nat.le_trans hu.size hg)) (h.later hu) hk1 hk hl
  clear h
  obtain ⟨old, hold⟩ : ∃ old, gotE (findL key l) = old := ⟨_, rfl⟩
  obtain ⟨had, hhad⟩ : ∃ had, (findL key l).isSome = had := ⟨_, rfl⟩
  have HNB : Hid (noteB key en l = !(had && decide (en.off ≤ old.off))) := by unfold Hid noteB; rw [hold, hhad]
  rw [hold, hhad] at HGE HPU
  clear hold hhad
  go_enter Try.func10, Try.ntmps10
  go_wp2_with fail
  refine HGE.out.mono ?_
  rintro e w1 ⟨rfl, hb1⟩
  obtain ⟨w2, hw2⟩ : ∃ w2, w1.alloc (.cells #[.int .i64 old.seg, .int .i64 old.pos, .int .i64 old.size, .int .i64 old.off, .int .i64 old.time, .bool old.tomb] 26) = w2 := ⟨_, rfl⟩
  have hb12 : Below w1.heap.size w1 w2 := by rw [← hw2]; exact (Below.refl _ _).alloc (Nat.le_refl _) _
  have hb02 : Below w0.heap.size w0 w2 := hb1.trans (hb12.mono hb1.size)
  have hb2 : Below w.heap.size w w2 := hb0.trans (hb02.mono hb0.size)
  have HB2 : Hid (Below w.heap.size w w2) := hb2
  obtain ⟨o0, o1, o2, o3, o4, o5⟩ : EnAt w2 w1.heap.size old := by rw [← hw2]; exact EnAt.new w1 old
  obtain ⟨d0, d1, d2, d3, d4, d5⟩ := HEN.out w2 hb02
  clear hb1 hb12 HGE
  by_cases hc : (had && decide (en.off ≤ old.off)) = true
  · have HF : Hid (w.grownBy w2 (some gd) ∧ DirAt D w2 gd (noteL key en l) ∧ noteB key en l = false) := by
      have hn : noteB key en l = false := by rw [HNB.out, hc]; rfl
      exact ⟨below_grow hb2 _, by unfold noteL; rw [hn]; exact HDA.out w2 hb2, hn⟩
    simp at hc
    obtain ⟨rfl, hle⟩ := hc
    clear hb2 hb02
    go_wp2
    refine bodyPost_ret (v := .tuple #[.bool false, .int .i64 0]) ?_ rfl ⟨by rw [HF.out.2.2], HF.out.1, HF.out.2.1⟩
    simp only [results, hresNote]
    go_simp
  · have HN : Hid (noteB key en l = true) := by
      unfold Hid
      rw [HNB.out]
      cases hh : (had && decide (en.off ≤ old.off)) with
      | true => exact absurd hh hc
      | false => rfl
    have HEND : Hid (∀ w3 w4, w2.grownBy w3 (some gd) → DirAt D w3 gd (insL key en l) → Below w3.heap.size w3 w4 → w.grownBy w4 (some gd) ∧ DirAt D w4 gd (noteL key en l)) := fun w3 w4 h3 h4 h5 => ⟨grow_trans (grow_trans (below_grow HB2.out _) h3 (.inl rfl)) (below_grow h5 none) (.inr (.inl rfl)), by unfold noteL; rw [HN.out]; exact h4.later h5⟩
    have HPW := HPU.out w2 hb2
    clear hb2 hb02 HPU
    cases had with
    | false =>
      go_wp2_with fail
      refine HPW.mono ?_
      rintro e w3 ⟨rfl, hg3, hd3⟩
      have HE3 : Hid (∀ w4, Below w3.heap.size w3 w4 → w.grownBy w4 (some gd) ∧ DirAt D w4 gd (noteL key en l)) := fun w4 h => HEND.out w3 w4 hg3 hd3 h
      clear hg3 hd3 HEND
      go_wp2
      refine bodyPost_ret (v := .tuple #[.bool true, .int .i64 0]) ?_ rfl ⟨by rw [HN.out], HE3.out _ ?_⟩
      · simp only [results, hresNote]
        go_simp
      · exact (Below.refl _ _).alloc (Nat.le_refl _) _
    | true =>
      have hlt : old.off < en.off := by simp at hc; omega
      go_wp2_with fail
      refine HPW.mono ?_
      rintro e w3 ⟨rfl, hg3, hd3⟩
      have HE3 : Hid (∀ w4, Below w3.heap.size w3 w4 → w.grownBy w4 (some gd) ∧ DirAt D w4 gd (noteL key en l)) := fun w4 h => HEND.out w3 w4 hg3 hd3 h
      clear hg3 hd3 HEND
      go_wp2
      refine bodyPost_ret (v := .tuple #[.bool true, .int .i64 0]) ?_ rfl ⟨by rw [HN.out], HE3.out _ ?_⟩
      · simp only [results, hresNote]
        go_simp
      · exact (Below.refl _ _).alloc (Nat.le_refl _) _
end Go.Proofs.Ythfnbcicpcbgjaa
