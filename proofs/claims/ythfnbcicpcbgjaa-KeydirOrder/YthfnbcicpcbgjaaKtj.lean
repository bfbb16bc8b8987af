import Derived.Test.YthfnbcicpcbgjaaKti
/-! keydir: Remove, and what Put refuses. -/
namespace Go.Proofs.Ythfnbcicpcbgjaa
open Go.RowKit Plain
set_option linter.unusedVariables false

theorem findL_keep {k : ByteArray} {l : List Ke} (h : findL k l = none) : delL k l = l := delL_keep fun y hy => by
  unfold findL at h
  rw [List.find?_eq_none] at h
  simpa using h y hy
theorem hresRemove : Try.f19.results = #[.cell 4 26, .tmp 5] := by kernel_rfl
set_option maxHeartbeats 4000000 in
theorem removeOf {D : Nat → Prop} {gd : Nat} {l : List Ke} (key : ByteArray) (w : World) (hD : ∀ g, w.heap.size ≤ g → ¬ D g) (h : DirAt D w gd l) (hk : key.size ≤ maxLen) (hl : l.length ≤ 1125899906842600) : Calls Try.prog 19 #[.pointer (some ⟨gd, 0, none⟩), .string key] w fun e w' => e = .returned (.tuple #[(gotE (findL key l)).v, .bool (findL key l).isSome]) ∧ w.grownBy w' (some gd) ∧ DirAt D w' gd (delL key l) := by
  obtain ⟨w0, hw0⟩ : ∃ w0, w.alloc (.cells #[.int .i64 0, .int .i64 0, .int .i64 0, .int .i64 0, .int .i64 0, .bool false] 26) = w0 := ⟨_, rfl⟩
  have hs0 : w0.heap.size = w.heap.size + 1 := by rw [← hw0]; simp
  have hb0 : Below w.heap.size w w0 := by rw [← hw0]; exact (Below.refl _ _).alloc (Nat.le_refl _) _
  have HRS : Hid (∀ u, Below w0.heap.size w0 u → EnAt u w.heap.size En.zero ∧ ∀ j, u.frozen? ⟨w.heap.size, j, none⟩ = false) := fun u hu => by
    have h : EnAt w0 w.heap.size En.zero := by rw [← hw0]; exact EnAt.new w En.zero
    refine ⟨h.block (hu.block _ h.lt), fun j => ?_⟩
    rw [hu.frozen (p := ⟨w.heap.size, j, none⟩) h.lt, ← hw0]
    exact World.frozen?_alloc_at _ _ _ _ rfl
  have hgl := h.lt
  have HDA : Hid (∀ u, Below w.heap.size w u → DirAt D u gd l) := fun u hu => h.later hu
  have HGE : Hid (Calls Try.prog 14 #[.pointer (some ⟨gd, 0, none⟩), .string key] w0 fun e w' => e = .returned (.tuple #[(gotE (findL key l)).v, .bool (findL key l).isSome]) ∧ Below w0.heap.size w0 w') := getOf key w0 (h.later hb0) hk
  clear h
  go_enter Try.func19, Try.ntmps19
  go_wp2_with fail
  refine HGE.out.mono ?_
  rintro e w1 ⟨rfl, hb1⟩
  obtain ⟨old, hold⟩ : ∃ old, gotE (findL key l) = old := ⟨_, rfl⟩
  obtain ⟨had, hhad⟩ : ∃ had, (findL key l).isSome = had := ⟨_, rfl⟩
  have HRES : Hid (gotE (findL key l) = old ∧ (findL key l).isSome = had) := ⟨hold, hhad⟩
  rw [hold, hhad]
  obtain ⟨w2, hw2⟩ : ∃ w2, w1.alloc (.cells #[.int .i64 old.seg, .int .i64 old.pos, .int .i64 old.size, .int .i64 old.off, .int .i64 old.time, .bool old.tomb] 26) = w2 := ⟨_, rfl⟩
  have hb12 : Below w1.heap.size w1 w2 := by rw [← hw2]; exact (Below.refl _ _).alloc (Nat.le_refl _) _
  have hb02 : Below w0.heap.size w0 w2 := hb1.trans (hb12.mono hb1.size)
  have hb2 : Below w.heap.size w w2 := hb0.trans (hb02.mono hb0.size)
  have HB2 : Hid (Below w.heap.size w w2) := hb2
  have hs1 := hb1.size
  have HOL : Hid (∀ u, Below w2.heap.size w2 u → EnAt u w1.heap.size old) := fun u hu => by
    have h : EnAt w2 w1.heap.size old := by rw [← hw2]; exact EnAt.new w1 old
    exact h.block (hu.block _ h.lt)
  have HRS2 : Hid (∀ u, Below w2.heap.size w2 u → EnAt u w.heap.size En.zero ∧ ∀ j, u.frozen? ⟨w.heap.size, j, none⟩ = false) := fun u hu => HRS.out u (hb02.trans (hu.mono hb02.size))
  obtain ⟨hdg, hsr, hfz', n, p, hcd', ht'⟩ := HDA.out w (Below.refl _ _)
  have HDG : Hid (D gd) := hdg
  have HSR : Hid (Srt l) := hsr
  have hs2 := hb02.size
  have hcd := (hb2.cell (p := ⟨gd, 0, none⟩) hgl).trans hcd'
  have hfz := (hb2.frozen (p := ⟨gd, 0, none⟩) hgl).trans hfz'
  have HT2 : Hid (TreeAt (fun g => ¬ D g ∧ g ≠ w.heap.size) w2 n p l) := TreeAt.later (TreeAt.tight (fun g h1 h2 => ⟨h1, by omega⟩) ht') hb2
  cases had with
  | false =>
    have hn : findL key l = none := by simpa using hhad
    have HEND : Hid (w.grownBy (putEn w2 w.heap.size old) (some gd) ∧ DirAt D (putEn w2 w.heap.size old) gd (delL key l)) := by
      have hbE : Below w.heap.size w (putEn w2 w.heap.size old) := putEn_below old hb2 (Nat.le_refl _)
      unfold Hid
      rw [findL_keep hn]
      exact ⟨below_grow hbE _, HDA.out _ hbE⟩
    obtain ⟨o0, o1, o2, o3, o4, o5⟩ := HOL.out w2 (Below.refl _ _)
    obtain ⟨r0, r1, r2, r3, r4, r5⟩ := (HRS2.out w2 (Below.refl _ _)).1
    have hfr := (HRS2.out w2 (Below.refl _ _)).2
    have f0 := hfr 0
    have f1 := hfr 1
    have f2 := hfr 2
    have f3 := hfr 3
    have f4 := hfr 4
    have f5 := hfr 5
    simp only [En.zero] at r0 r1 r2 r3 r4 r5
    clear ht' hcd' hfz' hold hhad HGE hb12 hb1 HDA HRS hfr hn hcd hfz
    go_wp2
    refine bodyPost_ret (v := .tuple #[old.v, .bool false]) ?_ rfl ⟨by rw [HRES.out.1, HRES.out.2], HEND.out⟩
    simp only [results, hresRemove]
    go_simp
  | true =>
    have hn : findL key l ≠ none := by intro e; rw [e] at hhad; simp at hhad
    have HW : Hid (∀ u, Below w2.heap.size w2 u → Calls Try.prog 37 #[.pointer p, .string key] u (TreeRet (fun g => ¬ D g ∧ g ≠ w.heap.size) u (delL key l))) := fun u hu => withoutOf _ key hk n u p l (fun g hg => by have := hu.size; exact ⟨hD g (by omega), by omega⟩) (HT2.out.later hu) HSR.out hn (by omega)
    clear ht' hcd' hfz' hold hhad HGE hb12 hb1 HDA HRS hn
    go_wp2_with fail
    refine (HW.out _ (Below.refl _ _)).mono ?_
    rintro e w3 ⟨n3, p3, rfl, ht3, hb23⟩
    have HB23 : Hid (Below w2.heap.size w2 w3) := hb23
    have hcd3 := (hb23.cell (p := ⟨gd, 0, none⟩) (cell_lt hcd)).trans hcd
    have hfz3 := (hb23.frozen (p := ⟨gd, 0, none⟩) (cell_lt hcd)).trans hfz
    have hb3 : Below w.heap.size w w3 := HB2.out.trans (HB23.out.mono HB2.out.size)
    have HEND : Hid (w.grownBy (putEn (w3.setCell ⟨gd, 0, none⟩ (.pointer p3)) w.heap.size old) (some gd) ∧ DirAt D (putEn (w3.setCell ⟨gd, 0, none⟩ (.pointer p3)) w.heap.size old) gd (delL key l)) := rootEnd HDG.out (HSR.out.del key) hgl (by omega) hb3 (by rw [hcd3]; rfl) hfz3 ht3 old
    clear ht3 hb23 HW
    obtain ⟨w4, hw4⟩ : ∃ w4, w3.setCell ⟨gd, 0, none⟩ (.pointer p3) = w4 := ⟨_, rfl⟩
    have g4 : w3.grownBy w4 (some gd) := by rw [← hw4]; exact grow_setC w3 gd 0 _
    have hbk : ∀ j, j < w3.heap.size → j ≠ gd → w4.heap[j]? = w3.heap[j]? := fun j hj hn => g4.block j hj (fun e => by cases e; exact hn rfl)
    have hs3 := HB23.out.size
    have HO3 := HOL.out w3 HB23.out
    have HR3 := HRS2.out w3 HB23.out
    obtain ⟨o0, o1, o2, o3, o4, o5⟩ := HO3.block (hbk w1.heap.size HO3.lt (by omega))
    obtain ⟨r0, r1, r2, r3, r4, r5⟩ := HR3.1.block (hbk w.heap.size HR3.1.lt (by omega))
    have hfr : ∀ j, w4.frozen? ⟨w.heap.size, j, none⟩ = false := fun j => by
      rw [World.frozen?_of_block (w := w3) (a := ⟨w.heap.size, j, none⟩) (hbk w.heap.size HR3.1.lt (by omega))]
      exact HR3.2 j
    have f0 := hfr 0
    have f1 := hfr 1
    have f2 := hfr 2
    have f3 := hfr 3
    have f4 := hfr 4
    have f5 := hfr 5
    simp only [En.zero] at r0 r1 r2 r3 r4 r5
    rw [hw4] at HEND
    clear hbk hfr HO3 HR3 hcd hfz
    go_wp2
    refine bodyPost_ret (v := .tuple #[old.v, .bool true]) ?_ rfl ⟨by rw [HRES.out.1, HRES.out.2], HEND.out⟩
    simp only [results, hresRemove]
    go_simp

set_option maxHeartbeats 4000000 in
theorem putBad {gd : Nat} (key : ByteArray) (en : En) (w : World) (hk : key.size ≤ maxLen) (hn : okKey key = false) : Calls Try.prog 27 #[.pointer (some ⟨gd, 0, none⟩), .string key, en.v] w fun e w' => e = .returned (.tuple #[En.zero.v, .bool false, .int .i64 42]) ∧ Below w.heap.size w w' := by
  obtain ⟨w0, hw0⟩ : ∃ w0, (w.alloc (.cells #[.int .i64 en.seg, .int .i64 en.pos, .int .i64 en.size, .int .i64 en.off, .int .i64 en.time, .bool en.tomb] 26)).alloc (.cells #[.int .i64 0, .int .i64 0, .int .i64 0, .int .i64 0, .int .i64 0, .bool false] 26) = w0 := ⟨_, rfl⟩
  have hb0 : Below w.heap.size w w0 := by rw [← hw0]; exact ((Below.refl _ _).alloc (Nat.le_refl _) _).alloc (by simp) _
  have HRS : EnAt w0 (w.heap.size + 1) En.zero ∧ ∀ j, w0.frozen? ⟨w.heap.size + 1, j, none⟩ = false := by
    have hq : (w.alloc (.cells #[.int .i64 en.seg, .int .i64 en.pos, .int .i64 en.size, .int .i64 en.off, .int .i64 en.time, .bool en.tomb] 26)).heap.size = w.heap.size + 1 := by simp
    refine ⟨by rw [← hw0, ← hq]; exact EnAt.new _ En.zero, fun j => ?_⟩
    rw [← hw0, ← hq]
    exact World.frozen?_alloc_at _ _ _ _ rfl
  have HIK : Hid (Calls Try.prog 44 #[.string key] w0 fun e w' => e = .returned (.bool false) ∧ w' = w0) := by
    have h := isKeyOf key w0 hk
    rw [hn] at h
    exact h
  have HEND : Hid (Below w.heap.size w (putEn w0 (w.heap.size + 1) En.zero)) := putEn_below En.zero hb0 (by omega)
  obtain ⟨⟨r0, r1, r2, r3, r4, r5⟩, hfr⟩ := HRS
  have f0 := hfr 0
  have f1 := hfr 1
  have f2 := hfr 2
  have f3 := hfr 3
  have f4 := hfr 4
  have f5 := hfr 5
  simp only [En.zero] at r0 r1 r2 r3 r4 r5
  clear hfr hn hk
  go_enter Try.func27, Try.ntmps27
  go_wp2_with fail
  refine HIK.out.mono ?_
  rintro e wk ⟨rfl, hwk⟩
  obtain rfl := hwk.symm
  go_wp2
  refine bodyPost_ret (v := .tuple #[En.zero.v, .bool false, .int .i64 42]) ?_ rfl ⟨rfl, HEND.out⟩
  simp only [results, hresPut, En.zero]
  go_simp

theorem newOf (w : World) : Calls Try.prog 9 #[] w fun e w' => e = .returned (.pointer (some ⟨w.heap.size, 0, none⟩)) ∧ w' = w.alloc (.cells #[.pointer none] 63) := by
  go_enter Try.func9, Try.ntmps9
  go_wp2
  go_ret
  exact ⟨rfl, rfl⟩
theorem DirAt.new (D : Nat → Prop) (w : World) (h : D w.heap.size) : DirAt D (w.alloc (.cells #[.pointer none] 63)) w.heap.size [] :=
  ⟨h, Srt.nil, World.frozen?_alloc_at _ _ _ _ rfl, 0, none, World.cell?_alloc_at _ _ _ _ rfl, TreeAt.nil _ _ _⟩
end Go.Proofs.Ythfnbcicpcbgjaa
