import Derived.Test.YtjhbaplnkigifaaQk04
import Derived.Test.YtjhbaplnkigifaaQk05
/-! keydir: the calls of a dir. -/
namespace Go.Proofs.Ytjhbaplnkigifaa
open Go.RowKit Plain
set_option linter.unusedVariables false

/-- At the block gd there is a dir with the keys l; no node of its tree lies in a block of D. -/
def DirAt (D : Nat → Prop) (w : World) (gd : Nat) (l : List Ke) : Prop :=
  D gd ∧ Srt l ∧ w.frozen? ⟨gd, 0, none⟩ = false ∧ ∃ (n : Nat) (p : Option Addr), w.cell? ⟨gd, 0, none⟩ = some (.pointer p) ∧ TreeAt (fun g => ¬ D g) w n p l
theorem DirAt.kept {D : Nat → Prop} {w w' : World} {gd : Nat} {l : List Ke} (h : DirAt D w gd l) (hg : w'.heap[gd]? = w.heap[gd]?) (ht : ∀ g, g < w.heap.size → ¬ D g → w'.heap[g]? = w.heap[g]?) : DirAt D w' gd l := by
  obtain ⟨h1, h2, h3, n, p, h4, h5⟩ := h
  exact ⟨h1, h2, (World.frozen?_of_block (w := w) (a := ⟨gd, 0, none⟩) hg).trans h3, n, p, (World.cell?_of_block (w := w) (a := ⟨gd, 0, none⟩) hg).trans h4, h5.kept ht⟩
theorem DirAt.lt {D : Nat → Prop} {w : World} {gd : Nat} {l : List Ke} (h : DirAt D w gd l) : gd < w.heap.size := by
  obtain ⟨h1, h2, h3, n, p, h4, h5⟩ := h
  exact cell_lt h4
theorem DirAt.later {D : Nat → Prop} {w w' : World} {gd : Nat} {l : List Ke} (h : DirAt D w gd l) (hb : Below w.heap.size w w') : DirAt D w' gd l := h.kept (hb.block _ h.lt) fun g hg _ => hb.block g hg
theorem DirAt.srt {D : Nat → Prop} {w : World} {gd : Nat} {l : List Ke} (h : DirAt D w gd l) : Srt l := h.2.1

theorem topOf (gd : Nat) (p : Option Addr) (w : World) (h : w.cell? ⟨gd, 0, none⟩ = some (.pointer p)) : Calls Try.prog 43 #[.pointer (some ⟨gd, 0, none⟩)] w fun e w' => e = .returned (.pointer p) ∧ w' = w := by
  go_enter Try.func43, Try.ntmps43
  go_wp2
  go_ret
  exact ⟨rfl, rfl⟩
theorem topNil (w : World) : Calls Try.prog 43 #[.pointer none] w fun e w' => e = .returned (.pointer none) ∧ w' = w := by
  go_enter Try.func43, Try.ntmps43
  go_wp2
  go_ret
  exact ⟨rfl, rfl⟩

def gotE (o : Option Ke) : En := match o with | some k => k.e | none => En.zero
theorem hresGet : Try.f17.results = #[.cell 4 38, .tmp 5] := by kernel_rfl

theorem lenOf {D : Nat → Prop} {gd : Nat} {l : List Ke} (w : World) (h : DirAt D w gd l) : Calls Try.prog 23 #[.pointer (some ⟨gd, 0, none⟩)] w fun e w' => e = .returned (.int .i64 l.length) ∧ w' = w := by
  obtain ⟨-, hs, -, n, p, hc, ht⟩ := h
  have HT : Hid (Calls Try.prog 43 #[.pointer (some ⟨gd, 0, none⟩)] w fun e w' => e = .returned (.pointer p) ∧ w' = w) := topOf gd p w hc
  have HZ : Hid (Calls Try.prog 47 #[.pointer p] w fun e w' => e = .returned (.int .i64 l.length) ∧ w' = w) := sizeOf w ht
  go_enter Try.func23, Try.ntmps23
  go_wp2_with fail
  refine HT.out.mono ?_
  rintro e w1 ⟨rfl, rfl⟩
  go_wp2_with fail
  refine HZ.out.mono ?_
  rintro e w2 ⟨rfl, rfl⟩
  go_wp2
  go_ret
  exact ⟨rfl, rfl⟩

def putEn (w : World) (g : Nat) (e : En) : World := ((((((w.setCell ⟨g, 0, none⟩ (.int .i64 e.seg)).setCell ⟨g, 1, none⟩ (.int .i64 e.pos)).setCell ⟨g, 2, none⟩ (.int .i64 e.size)).setCell ⟨g, 3, none⟩ (.int .i64 e.off)).setCell ⟨g, 4, none⟩ (.int .i64 e.time)).setCell ⟨g, 5, none⟩ (.bool e.tomb))
theorem putEn_grow (w : World) (g : Nat) (e : En) : w.grownBy (putEn w g e) (some g) := grow_setCells w g 0 [.int .i64 e.seg, .int .i64 e.pos, .int .i64 e.size, .int .i64 e.off, .int .i64 e.time, .bool e.tomb]
theorem putEn_below {w w' : World} {g : Nat} (e : En) (h : Below w.heap.size w w') (hg : w.heap.size ≤ g) : Below w.heap.size w (putEn w' g e) := h.trans (grow_below (putEn_grow w' g e) h.size (fun g' e => by cases e; exact hg))
set_option maxHeartbeats 4000000 in
theorem getOf {D : Nat → Prop} {gd : Nat} {l : List Ke} (key : ByteArray) (w : World) (h : DirAt D w gd l) (hk : key.size ≤ maxLen) : Calls Try.prog 17 #[.pointer (some ⟨gd, 0, none⟩), .string key] w fun e w' => e = .returned (.tuple #[(gotE (findL key l)).v, .bool (findL key l).isSome]) ∧ Below w.heap.size w w' := by
  obtain ⟨w0, hw0⟩ : ∃ w0, w.alloc (.cells #[.int .i64 0, .int .i64 0, .int .i64 0, .int .i64 0, .int .i64 0, .bool false] 38) = w0 := ⟨_, rfl⟩
  have hb0 : Below w.heap.size w w0 := by rw [← hw0]; exact (Below.refl _ _).alloc (Nat.le_refl _) _
  have HRS : Hid (∀ u, Below w0.heap.size w0 u → EnAt u w.heap.size En.zero ∧ ∀ j, u.frozen? ⟨w.heap.size, j, none⟩ = false) := fun u hu => by
    have h : EnAt w0 w.heap.size En.zero := by rw [← hw0]; exact EnAt.new w En.zero
    refine ⟨h.block (hu.block _ h.lt), fun j => ?_⟩
    rw [hu.frozen (p := ⟨w.heap.size, j, none⟩) h.lt, ← hw0]
    exact World.frozen?_alloc_at _ _ _ _ rfl
  have HD := h.later hb0
  obtain ⟨-, hs, -, n, p, hc, ht⟩ := HD
  have HT : Hid (Calls Try.prog 43 #[.pointer (some ⟨gd, 0, none⟩)] w0 fun e w' => e = .returned (.pointer p) ∧ w' = w0) := topOf gd p w0 hc
  have HF : Hid (Calls Try.prog 44 #[.pointer p, .string key] w0 (FindPost w0 key l)) := findOf key w0 ht hs hk
  have HB0 : Hid (Below w.heap.size w w0) := hb0
  clear hc ht h
  go_enter Try.func17, Try.ntmps17
  go_wp2_with fail
  refine HT.out.mono ?_
  rintro e w1 ⟨rfl, rfl⟩
  go_wp2_with fail
  refine HF.out.mono ?_
  rintro e w2 ⟨hb2, ⟨hf, rfl⟩ | ⟨g, k, c, pl, pr, hf, rfl, hng⟩⟩
  · have HFF : Hid (findL key l = none) := hf
    have HB2 : Hid (Below w.heap.size w w2) := HB0.out.trans (hb2.mono HB0.out.size)
    obtain ⟨r0, r1, r2, r3, r4, r5⟩ := (HRS.out w2 hb2).1
    simp only [En.zero] at r0 r1 r2 r3 r4 r5
    have f0 := (HRS.out w2 hb2).2 0
    have f1 := (HRS.out w2 hb2).2 1
    have f2 := (HRS.out w2 hb2).2 2
    have f3 := (HRS.out w2 hb2).2 3
    have f4 := (HRS.out w2 hb2).2 4
    have f5 := (HRS.out w2 hb2).2 5
    clear hb2 hf
    go_wp2
    refine bodyPost_ret (v := .tuple #[En.zero.v, .bool false]) ?_ rfl ⟨by rw [HFF.out]; rfl, putEn_below En.zero HB2.out (Nat.le_refl _)⟩
    simp only [results, hresGet, En.zero]
    go_simp
  · have HFF : Hid (findL key l = some k) := hf
    have HB2 : Hid (Below w.heap.size w w2) := HB0.out.trans (hb2.mono HB0.out.size)
    obtain ⟨r0, r1, r2, r3, r4, r5⟩ := (HRS.out w2 hb2).1
    simp only [En.zero] at r0 r1 r2 r3 r4 r5
    have f0 := (HRS.out w2 hb2).2 0
    have f1 := (HRS.out w2 hb2).2 1
    have f2 := (HRS.out w2 hb2).2 2
    have f3 := (HRS.out w2 hb2).2 3
    have f4 := (HRS.out w2 hb2).2 4
    have f5 := (HRS.out w2 hb2).2 5
    obtain ⟨c0, c1, c2, c3, c4, c5, c6, c7, c8, c9⟩ := hng
    clear hb2 hf
    go_wp2
    refine bodyPost_ret (v := .tuple #[k.e.v, .bool true]) ?_ rfl ⟨by rw [HFF.out]; rfl, putEn_below k.e HB2.out (Nat.le_refl _)⟩
    simp only [results, hresGet]
    go_simp

def okKey (key : ByteArray) : Bool := decide (1 ≤ key.size ∧ key.size ≤ 64)
theorem okKey_yes {key : ByteArray} (h1 : 1 ≤ key.size) (h2 : key.size ≤ 64) : okKey key = true := by simp [okKey, h1, h2]
theorem isKeyOf (key : ByteArray) (w : World) (hk : key.size ≤ maxLen) : Calls Try.prog 40 #[.string key] w fun e w' => e = .returned (.bool (okKey key)) ∧ w' = w := by
  unfold maxLen at hk
  by_cases h1 : (1 : Int) ≤ (key.size : Int)
  · by_cases h2 : (key.size : Int) ≤ 64
    · have e : okKey key = true := okKey_yes (by omega) (by omega)
      rw [e]
      clear e
      go_enter Try.func40, Try.ntmps40
      go_wp2
      go_ret
      exact ⟨by simp, rfl⟩
    · have e : okKey key = false := by simp [okKey]; omega
      rw [e]
      clear e
      go_enter Try.func40, Try.ntmps40
      go_wp2
      go_ret
      exact ⟨by simp, rfl⟩
  · have e : okKey key = false := by simp [okKey]; omega
    rw [e]
    clear e
    have h0 : (key.size : Int) < 1 := by omega
    go_enter Try.func40, Try.ntmps40
    go_wp2
    go_ret
    exact ⟨rfl, rfl⟩
theorem grow_setC (w : World) (g o : Nat) (x : Value) : w.grownBy (w.setCell ⟨g, o, none⟩ x) (some g) := grow_setCells w g o [x]
/-- What stands behind a change of a dir: its root, and the answer's cells. -/
theorem rootEnd {D : Nat → Prop} {gd R n : Nat} {p : Option Addr} {l' : List Ke} {w w3 : World} (hdg : D gd) (hsr : Srt l') (hgl : gd < w.heap.size) (hR : w.heap.size ≤ R) (hb : Below w.heap.size w w3) (hc : (w3.cell? ⟨gd, 0, none⟩).isSome = true) (hf : w3.frozen? ⟨gd, 0, none⟩ = false) (ht : TreeAt (fun g => ¬ D g ∧ g ≠ R) w3 n p l') (old : En) :
    w.grownBy (putEn (w3.setCell ⟨gd, 0, none⟩ (.pointer p)) R old) (some gd) ∧ DirAt D (putEn (w3.setCell ⟨gd, 0, none⟩ (.pointer p)) R old) gd l' := by
  have g1 := grow_setC w3 gd 0 (.pointer p)
  have g2 := putEn_grow (w3.setCell ⟨gd, 0, none⟩ (.pointer p)) R old
  have hbl : (putEn (w3.setCell ⟨gd, 0, none⟩ (.pointer p)) R old).heap[gd]? = (w3.setCell ⟨gd, 0, none⟩ (.pointer p)).heap[gd]? := g2.block gd (by have := g1.size; have := hb.size; omega) (fun e => by cases e; omega)
  refine ⟨grow_trans (grow_trans (below_grow hb _) g1 (.inl rfl)) g2 (.inr (.inr ⟨R, rfl, hR⟩)), hdg, hsr, ?_, n, p, ?_, ?_⟩
  · rw [World.frozen?_of_block (w := w3.setCell ⟨gd, 0, none⟩ (.pointer p)) (a := ⟨gd, 0, none⟩) hbl, World.frozen?_setCell]
    exact hf
  · rw [World.cell?_of_block (w := w3.setCell ⟨gd, 0, none⟩ (.pointer p)) (a := ⟨gd, 0, none⟩) hbl]
    exact World.cell?_setCell_same' _ _ _ hc
  · exact ((ht.grown g1 (fun j hj e => hj.1 (by rw [e]; exact hdg))).grown g2 (fun j hj => hj.2)).weak fun j hj => hj.1
theorem hresPut : Try.f11.results = #[.cell 6 38, .tmp 7, .tmp 8] := by kernel_rfl
set_option maxHeartbeats 4000000 in
theorem putOf {D : Nat → Prop} {gd : Nat} {l : List Ke} (key : ByteArray) (en : En) (w : World) (hD : ∀ g, w.heap.size ≤ g → ¬ D g) (h : DirAt D w gd l) (hk1 : 1 ≤ key.size) (hk : key.size ≤ 64) (hl : l.length ≤ 1125899906842600) : Calls Try.prog 11 #[.pointer (some ⟨gd, 0, none⟩), .string key, en.v] w fun e w' => e = .returned (.tuple #[(gotE (findL key l)).v, .bool (findL key l).isSome, .int .i64 0]) ∧ w.grownBy w' (some gd) ∧ DirAt D w' gd (insL key en l) := by
  obtain ⟨w0, hw0⟩ : ∃ w0, (w.alloc (.cells #[.int .i64 en.seg, .int .i64 en.pos, .int .i64 en.size, .int .i64 en.off, .int .i64 en.time, .bool en.tomb] 38)).alloc (.cells #[.int .i64 0, .int .i64 0, .int .i64 0, .int .i64 0, .int .i64 0, .bool false] 38) = w0 := ⟨_, rfl⟩
  have hs0 : w0.heap.size = w.heap.size + 2 := by rw [← hw0]; simp
  have hb0 : Below w.heap.size w w0 := by rw [← hw0]; exact ((Below.refl _ _).alloc (Nat.le_refl _) _).alloc (by simp) _
  have HEN : Hid (∀ u, Below w0.heap.size w0 u → EnAt u w.heap.size en) := fun u hu => by
    have h : EnAt w0 w.heap.size en := by rw [← hw0]; exact (EnAt.new w en).block (Below.heap_alloc _ _ _ (by simp))
    exact h.block (hu.block _ h.lt)
  have HRS : Hid (∀ u, Below w0.heap.size w0 u → EnAt u (w.heap.size + 1) En.zero ∧ ∀ j, u.frozen? ⟨w.heap.size + 1, j, none⟩ = false) := fun u hu => by
    have hq : (w.alloc (.cells #[.int .i64 en.seg, .int .i64 en.pos, .int .i64 en.size, .int .i64 en.off, .int .i64 en.time, .bool en.tomb] 38)).heap.size = w.heap.size + 1 := by simp
    have h : EnAt w0 (w.heap.size + 1) En.zero := by rw [← hw0, ← hq]; exact EnAt.new _ En.zero
    refine ⟨h.block (hu.block _ h.lt), fun j => ?_⟩
    rw [hu.frozen (p := ⟨w.heap.size + 1, j, none⟩) h.lt, ← hw0, ← hq]
    exact World.frozen?_alloc_at _ _ _ _ rfl
  have hgl := h.lt
  have HDA : Hid (∀ u, Below w.heap.size w u → DirAt D u gd l) := fun u hu => h.later hu
  have HGE : Hid (Calls Try.prog 17 #[.pointer (some ⟨gd, 0, none⟩), .string key] w0 fun e w' => e = .returned (.tuple #[(gotE (findL key l)).v, .bool (findL key l).isSome]) ∧ Below w0.heap.size w0 w') := getOf key w0 (h.later hb0) (by unfold maxLen; omega)
  have HIK : Hid (Calls Try.prog 40 #[.string key] w0 fun e w' => e = .returned (.bool true) ∧ w' = w0) := by
    have h := isKeyOf key w0 (by unfold maxLen; omega)
    rw [okKey_yes hk1 hk] at h
    exact h
  clear h
  go_enter Try.func11, Try.ntmps11
  go_wp2_with fail
  refine HIK.out.mono ?_
  rintro e wk ⟨rfl, hwk⟩
  obtain rfl := hwk.symm
  go_wp2_with fail
  refine HGE.out.mono ?_
  rintro e w1 ⟨rfl, hb1⟩
  obtain ⟨old, hold⟩ : ∃ old, gotE (findL key l) = old := ⟨_, rfl⟩
  obtain ⟨had, hhad⟩ : ∃ had, (findL key l).isSome = had := ⟨_, rfl⟩
  have HRES : Hid (gotE (findL key l) = old ∧ (findL key l).isSome = had) := ⟨hold, hhad⟩
  rw [hold, hhad]
  obtain ⟨w2, hw2⟩ : ∃ w2, w1.alloc (.cells #[.int .i64 old.seg, .int .i64 old.pos, .int .i64 old.size, .int .i64 old.off, .int .i64 old.time, .bool old.tomb] 38) = w2 := ⟨_, rfl⟩
  have hb12 : Below w1.heap.size w1 w2 := by rw [← hw2]; exact (Below.refl _ _).alloc (Nat.le_refl _) _
  have hb02 : Below w0.heap.size w0 w2 := hb1.trans (hb12.mono hb1.size)
  have hb2 : Below w.heap.size w w2 := hb0.trans (hb02.mono hb0.size)
  have HB2 : Hid (Below w.heap.size w w2) := hb2
  have hs1 := hb1.size
  have HOL : Hid (∀ u, Below w2.heap.size w2 u → EnAt u w1.heap.size old) := fun u hu => by
    have h : EnAt w2 w1.heap.size old := by rw [← hw2]; exact EnAt.new w1 old
    exact h.block (hu.block _ h.lt)
  have HRS2 : Hid (∀ u, Below w2.heap.size w2 u → EnAt u (w.heap.size + 1) En.zero ∧ ∀ j, u.frozen? ⟨w.heap.size + 1, j, none⟩ = false) := fun u hu => HRS.out u (hb02.trans (hu.mono hb02.size))
  obtain ⟨hdg, hsr, hfz', n, p, hcd', ht'⟩ := HDA.out w (Below.refl _ _)
  have HDG : Hid (D gd) := hdg
  have HSR : Hid (Srt l) := hsr
  have hs2 := hb02.size
  have hcd := (hb2.cell (p := ⟨gd, 0, none⟩) hgl).trans hcd'
  have hfz := (hb2.frozen (p := ⟨gd, 0, none⟩) hgl).trans hfz'
  have HT2 : Hid (TreeAt (fun g => ¬ D g ∧ g ≠ w.heap.size + 1) w2 n p l) := TreeAt.later (TreeAt.tight (fun g h1 h2 => ⟨h1, by omega⟩) ht') hb2
  have HW : Hid (∀ u, Below w2.heap.size w2 u → Calls Try.prog 41 #[.pointer p, .string key, en.v] u (TreeRet (fun g => ¬ D g ∧ g ≠ w.heap.size + 1) u (insL key en l))) := fun u hu => withOf _ key en hk n u p l (fun g hg => by have := hu.size; exact ⟨hD g (by omega), by omega⟩) (HT2.out.later hu) HSR.out (by omega)
  obtain ⟨d0, d1, d2, d3, d4, d5⟩ := HEN.out w2 hb02
  clear ht' hcd' hfz' hold hhad HGE HIK hb12 hb1 HDA HEN HRS
  go_wp2
  go_region_with (first
    | (go_at_call 41
       refine (HW.out _ (by first | exact Below.refl _ _ | exact Below.drew (Below.refl _ _))).mono ?_
       rintro e w3 ⟨n3, p3, rfl, ht3, hb3⟩
       have hb23 : Below w2.heap.size w2 w3 := (by first | exact hb3 | exact (Below.drew (Below.refl _ w2)).trans hb3)
       have HB23 : Hid (Below w2.heap.size w2 w3) := hb23
       have HT3 : Hid (TreeAt (fun g => ¬ D g ∧ g ≠ w.heap.size + 1) w3 n3 p3 (insL key en l)) := ht3
       have hcd3 := (hb23.cell (p := ⟨gd, 0, none⟩) (cell_lt hcd)).trans hcd
       have hfz3 := (hb23.frozen (p := ⟨gd, 0, none⟩) (cell_lt hcd)).trans hfz
       clear ht3 hb3 hb23 HW))
  all_goals
    have hb3 : Below w.heap.size w w3 := HB2.out.trans (HB23.out.mono HB2.out.size)
    have HEND : Hid (w.grownBy (putEn (w3.setCell ⟨gd, 0, none⟩ (.pointer p3)) (w.heap.size + 1) old) (some gd) ∧ DirAt D (putEn (w3.setCell ⟨gd, 0, none⟩ (.pointer p3)) (w.heap.size + 1) old) gd (insL key en l)) := rootEnd HDG.out (HSR.out.ins key en) hgl (by omega) hb3 (by rw [hcd3]; rfl) hfz3 HT3.out old
    obtain ⟨w4, hw4⟩ : ∃ w4, w3.setCell ⟨gd, 0, none⟩ (.pointer p3) = w4 := ⟨_, rfl⟩
    have g4 : w3.grownBy w4 (some gd) := by rw [← hw4]; exact grow_setC w3 gd 0 _
    have hbk : ∀ j, j < w3.heap.size → j ≠ gd → w4.heap[j]? = w3.heap[j]? := fun j hj hn => g4.block j hj (fun e => by cases e; exact hn rfl)
    have hs3 := HB23.out.size
    have HO3 := HOL.out w3 HB23.out
    have HR3 := HRS2.out w3 HB23.out
    obtain ⟨o0, o1, o2, o3, o4, o5⟩ := HO3.block (hbk w1.heap.size HO3.lt (by omega))
    obtain ⟨r0, r1, r2, r3, r4, r5⟩ := HR3.1.block (hbk (w.heap.size + 1) HR3.1.lt (by omega))
    have hfr : ∀ j, w4.frozen? ⟨w.heap.size + 1, j, none⟩ = false := fun j => by
      rw [World.frozen?_of_block (w := w3) (a := ⟨w.heap.size + 1, j, none⟩) (hbk (w.heap.size + 1) HR3.1.lt (by omega))]
      exact HR3.2 j
    have f0 := hfr 0
    have f1 := hfr 1
    have f2 := hfr 2
    have f3 := hfr 3
    have f4 := hfr 4
    have f5 := hfr 5
    simp only [En.zero] at r0 r1 r2 r3 r4 r5
    rw [hw4] at HEND ⊢
    clear hw4 hcd3 hfz3 hbk hfr HO3 HR3 d0 d1 d2 d3 d4 d5
    go_wp2
    refine bodyPost_ret (v := .tuple #[old.v, .bool had, .int .i64 0]) ?_ rfl ⟨by rw [HRES.out.1, HRES.out.2], HEND.out⟩
    simp only [results, hresPut]
    go_simp
end Go.Proofs.Ytjhbaplnkigifaa

/-! keydir: Remove, and what Put refuses. -/
namespace Go.Proofs.Ytjhbaplnkigifaa
open Go.RowKit Plain
set_option linter.unusedVariables false

theorem findL_keep {k : ByteArray} {l : List Ke} (h : findL k l = none) : delL k l = l := delL_keep fun y hy => by
  unfold findL at h
  rw [List.find?_eq_none] at h
  simpa using h y hy
theorem hresRemove : Try.f19.results = #[.cell 4 38, .tmp 5] := by kernel_rfl
set_option maxHeartbeats 4000000 in
theorem removeOf {D : Nat → Prop} {gd : Nat} {l : List Ke} (key : ByteArray) (w : World) (hD : ∀ g, w.heap.size ≤ g → ¬ D g) (h : DirAt D w gd l) (hk : key.size ≤ maxLen) (hl : l.length ≤ 1125899906842600) : Calls Try.prog 19 #[.pointer (some ⟨gd, 0, none⟩), .string key] w fun e w' => e = .returned (.tuple #[(gotE (findL key l)).v, .bool (findL key l).isSome]) ∧ w.grownBy w' (some gd) ∧ DirAt D w' gd (delL key l) := by
  obtain ⟨w0, hw0⟩ : ∃ w0, w.alloc (.cells #[.int .i64 0, .int .i64 0, .int .i64 0, .int .i64 0, .int .i64 0, .bool false] 38) = w0 := ⟨_, rfl⟩
  have hs0 : w0.heap.size = w.heap.size + 1 := by rw [← hw0]; simp
  have hb0 : Below w.heap.size w w0 := by rw [← hw0]; exact (Below.refl _ _).alloc (Nat.le_refl _) _
  have HRS : Hid (∀ u, Below w0.heap.size w0 u → EnAt u w.heap.size En.zero ∧ ∀ j, u.frozen? ⟨w.heap.size, j, none⟩ = false) := fun u hu => by
    have h : EnAt w0 w.heap.size En.zero := by rw [← hw0]; exact EnAt.new w En.zero
    refine ⟨h.block (hu.block _ h.lt), fun j => ?_⟩
    rw [hu.frozen (p := ⟨w.heap.size, j, none⟩) h.lt, ← hw0]
    exact World.frozen?_alloc_at _ _ _ _ rfl
  have hgl := h.lt
  have HDA : Hid (∀ u, Below w.heap.size w u → DirAt D u gd l) := fun u hu => h.later hu
  have HGE : Hid (Calls Try.prog 17 #[.pointer (some ⟨gd, 0, none⟩), .string key] w0 fun e w' => e = .returned (.tuple #[(gotE (findL key l)).v, .bool (findL key l).isSome]) ∧ Below w0.heap.size w0 w') := getOf key w0 (h.later hb0) hk
  clear h
  go_enter Try.func19, Try.ntmps19
  go_wp2_with fail
  refine HGE.out.mono ?_
  rintro e w1 ⟨rfl, hb1⟩
  obtain ⟨old, hold⟩ : ∃ old, gotE (findL key l) = old := ⟨_, rfl⟩
  obtain ⟨had, hhad⟩ : ∃ had, (findL key l).isSome = had := ⟨_, rfl⟩
  have HRES : Hid (gotE (findL key l) = old ∧ (findL key l).isSome = had) := ⟨hold, hhad⟩
  rw [hold, hhad]
  obtain ⟨w2, hw2⟩ : ∃ w2, w1.alloc (.cells #[.int .i64 old.seg, .int .i64 old.pos, .int .i64 old.size, .int .i64 old.off, .int .i64 old.time, .bool old.tomb] 38) = w2 := ⟨_, rfl⟩
  have hb12 : Below w1.heap.size w1 w2 := by rw [← hw2]; exact (Below.refl _ _).alloc (Nat.le_refl _) _
  have hb02 : Below w0.heap.size w0 w2 := hb1.trans (hb12.mono hb1.size)
  have hb2 : Below w.heap.size w w2 := hb0.trans (hb02.mono hb0.size)
  have HB2 : Hid (Below w.heap.size w w2) := hb2
  have hs1 := hb1.size
  have HOL : Hid (∀ u, Below w2.heap.size w2 u → EnAt u w1.heap.size old) := fun u hu => by
    have h : EnAt w2 w1.heap.size old := by rw [← hw2]; exact EnAt.new w1 old
    exact h.block (hu.block _ h.lt)
  have HRS2 : Hid (∀ u, Below w2.heap.size w2 u → EnAt u w.heap.size En.zero ∧ ∀ j, u.frozen? ⟨w.heap.size, j, none⟩ = false) := fun u hu => HRS.out u (hb02.trans (hu.mono hb02.size))
  obtain ⟨hdg, hsr, hfz', n, p, hcd', ht'⟩ := HDA.out w (Below.refl _ _)
  have HDG : Hid (D gd) := hdg
  have HSR : Hid (Srt l) := hsr
  have hs2 := hb02.size
  have hcd := (hb2.cell (p := ⟨gd, 0, none⟩) hgl).trans hcd'
  have hfz := (hb2.frozen (p := ⟨gd, 0, none⟩) hgl).trans hfz'
  have HT2 : Hid (TreeAt (fun g => ¬ D g ∧ g ≠ w.heap.size) w2 n p l) := TreeAt.later (TreeAt.tight (fun g h1 h2 => ⟨h1, by omega⟩) ht') hb2
  cases had with
  | false =>
    have hn : findL key l = none := by simpa using hhad
    have HEND : Hid (w.grownBy (putEn w2 w.heap.size old) (some gd) ∧ DirAt D (putEn w2 w.heap.size old) gd (delL key l)) := by
      have hbE : Below w.heap.size w (putEn w2 w.heap.size old) := putEn_below old hb2 (Nat.le_refl _)
      unfold Hid
      rw [findL_keep hn]
      exact ⟨below_grow hbE _, HDA.out _ hbE⟩
    obtain ⟨o0, o1, o2, o3, o4, o5⟩ := HOL.out w2 (Below.refl _ _)
    obtain ⟨r0, r1, r2, r3, r4, r5⟩ := (HRS2.out w2 (Below.refl _ _)).1
    have hfr := (HRS2.out w2 (Below.refl _ _)).2
    have f0 := hfr 0
    have f1 := hfr 1
    have f2 := hfr 2
    have f3 := hfr 3
    have f4 := hfr 4
    have f5 := hfr 5
    simp only [En.zero] at r0 r1 r2 r3 r4 r5
    clear ht' hcd' hfz' hold hhad HGE hb12 hb1 HDA HRS hfr hn hcd hfz
    go_wp2
    refine bodyPost_ret (v := .tuple #[old.v, .bool false]) ?_ rfl ⟨by rw [HRES.out.1, HRES.out.2], HEND.out⟩
    simp only [results, hresRemove]
    go_simp
  | true =>
    have hn : findL key l ≠ none := by intro e; rw [e] at hhad; simp at hhad
    have HW : Hid (∀ u, Below w2.heap.size w2 u → Calls Try.prog 45 #[.pointer p, .string key] u (TreeRet (fun g => ¬ D g ∧ g ≠ w.heap.size) u (delL key l))) := fun u hu => withoutOf _ key hk n u p l (fun g hg => by have := hu.size; exact ⟨hD g (by omega), by omega⟩) (HT2.out.later hu) HSR.out hn (by omega)
    clear ht' hcd' hfz' hold hhad HGE hb12 hb1 HDA HRS hn
    go_wp2_with fail
    refine (HW.out _ (Below.refl _ _)).mono ?_
    rintro e w3 ⟨n3, p3, rfl, ht3, hb23⟩
    have HB23 : Hid (Below w2.heap.size w2 w3) := hb23
    have hcd3 := (hb23.cell (p := ⟨gd, 0, none⟩) (cell_lt hcd)).trans hcd
    have hfz3 := (hb23.frozen (p := ⟨gd, 0, none⟩) (cell_lt hcd)).trans hfz
    have hb3 : Below w.heap.size w w3 := HB2.out.trans (HB23.out.mono HB2.out.size)
    have HEND : Hid (w.grownBy (putEn (w3.setCell ⟨gd, 0, none⟩ (.pointer p3)) w.heap.size old) (some gd) ∧ DirAt D (putEn (w3.setCell ⟨gd, 0, none⟩ (.pointer p3)) w.heap.size old) gd (delL key l)) := rootEnd HDG.out (HSR.out.del key) hgl (by omega) hb3 (by rw [hcd3]; rfl) hfz3 ht3 old
    clear ht3 hb23 HW
    obtain ⟨w4, hw4⟩ : ∃ w4, w3.setCell ⟨gd, 0, none⟩ (.pointer p3) = w4 := ⟨_, rfl⟩
    have g4 : w3.grownBy w4 (some gd) := by rw [← hw4]; exact grow_setC w3 gd 0 _
    have hbk : ∀ j, j < w3.heap.size → j ≠ gd → w4.heap[j]? = w3.heap[j]? := fun j hj hn => g4.block j hj (fun e => by cases e; exact hn rfl)
    have hs3 := HB23.out.size
    have HO3 := HOL.out w3 HB23.out
    have HR3 := HRS2.out w3 HB23.out
    obtain ⟨o0, o1, o2, o3, o4, o5⟩ := HO3.block (hbk w1.heap.size HO3.lt (by omega))
    obtain ⟨r0, r1, r2, r3, r4, r5⟩ := HR3.1.block (hbk w.heap.size HR3.1.lt (by omega))
    have hfr : ∀ j, w4.frozen? ⟨w.heap.size, j, none⟩ = false := fun j => by
      rw [World.frozen?_of_block (w := w3) (a := ⟨w.heap.size, j, none⟩) (hbk w.heap.size HR3.1.lt (by omega))]
      exact HR3.2 j
    have f0 := hfr 0
    have f1 := hfr 1
    have f2 := hfr 2
    have f3 := hfr 3
    have f4 := hfr 4
    have f5 := hfr 5
    simp only [En.zero] at r0 r1 r2 r3 r4 r5
    rw [hw4] at HEND
    clear hbk hfr HO3 HR3 hcd hfz
    go_wp2
    refine bodyPost_ret (v := .tuple #[old.v, .bool true]) ?_ rfl ⟨by rw [HRES.out.1, HRES.out.2], HEND.out⟩
    simp only [results, hresRemove]
    go_simp

set_option maxHeartbeats 4000000 in
theorem putBad {gd : Nat} (key : ByteArray) (en : En) (w : World) (hk : key.size ≤ maxLen) (hn : okKey key = false) : Calls Try.prog 11 #[.pointer (some ⟨gd, 0, none⟩), .string key, en.v] w fun e w' => e = .returned (.tuple #[En.zero.v, .bool false, .int .i64 42]) ∧ Below w.heap.size w w' := by
  obtain ⟨w0, hw0⟩ : ∃ w0, (w.alloc (.cells #[.int .i64 en.seg, .int .i64 en.pos, .int .i64 en.size, .int .i64 en.off, .int .i64 en.time, .bool en.tomb] 38)).alloc (.cells #[.int .i64 0, .int .i64 0, .int .i64 0, .int .i64 0, .int .i64 0, .bool false] 38) = w0 := ⟨_, rfl⟩
  have hb0 : Below w.heap.size w w0 := by rw [← hw0]; exact ((Below.refl _ _).alloc (Nat.le_refl _) _).alloc (by simp) _
  have HRS : EnAt w0 (w.heap.size + 1) En.zero ∧ ∀ j, w0.frozen? ⟨w.heap.size + 1, j, none⟩ = false := by
    have hq : (w.alloc (.cells #[.int .i64 en.seg, .int .i64 en.pos, .int .i64 en.size, .int .i64 en.off, .int .i64 en.time, .bool en.tomb] 38)).heap.size = w.heap.size + 1 := by simp
    refine ⟨by rw [← hw0, ← hq]; exact EnAt.new _ En.zero, fun j => ?_⟩
    rw [← hw0, ← hq]
    exact World.frozen?_alloc_at _ _ _ _ rfl
  have HIK : Hid (Calls Try.prog 40 #[.string key] w0 fun e w' => e = .returned (.bool false) ∧ w' = w0) := by
    have h := isKeyOf key w0 hk
    rw [hn] at h
    exact h
  have HEND : Hid (Below w.heap.size w (putEn w0 (w.heap.size + 1) En.zero)) := putEn_below En.zero hb0 (by omega)
  obtain ⟨⟨r0, r1, r2, r3, r4, r5⟩, hfr⟩ := HRS
  have f0 := hfr 0
  have f1 := hfr 1
  have f2 := hfr 2
  have f3 := hfr 3
  have f4 := hfr 4
  have f5 := hfr 5
  simp only [En.zero] at r0 r1 r2 r3 r4 r5
  clear hfr hn hk
  go_enter Try.func11, Try.ntmps11
  go_wp2_with fail
  refine HIK.out.mono ?_
  rintro e wk ⟨rfl, hwk⟩
  obtain rfl := hwk.symm
  go_wp2
  refine bodyPost_ret (v := .tuple #[En.zero.v, .bool false, .int .i64 42]) ?_ rfl ⟨rfl, HEND.out⟩
  simp only [results, hresPut, En.zero]
  go_simp

theorem newOf (w : World) : Calls Try.prog 4 #[] w fun e w' => e = .returned (.pointer (some ⟨w.heap.size, 0, none⟩)) ∧ w' = w.alloc (.cells #[.pointer none] 28) := by
  go_enter Try.func4, Try.ntmps4
  go_wp2
  go_ret
  exact ⟨rfl, rfl⟩
theorem DirAt.new (D : Nat → Prop) (w : World) (h : D w.heap.size) : DirAt D (w.alloc (.cells #[.pointer none] 28)) w.heap.size [] :=
  ⟨h, Srt.nil, World.frozen?_alloc_at _ _ _ _ rfl, 0, none, World.cell?_alloc_at _ _ _ _ rfl, TreeAt.nil _ _ _⟩
end Go.Proofs.Ytjhbaplnkigifaa

/-! keydir: Note. -/
namespace Go.Proofs.Ytjhbaplnkigifaa
open Go.RowKit Plain
set_option linter.unusedVariables false

/-- Would an entry with that offset be laid down? -/
def noteB (key : ByteArray) (en : En) (l : List Ke) : Bool := !((findL key l).isSome && decide (en.off ≤ (gotE (findL key l)).off))
def noteL (key : ByteArray) (en : En) (l : List Ke) : List Ke := if noteB key en l then insL key en l else l

theorem hresNote : Try.f13.results = #[.tmp 6, .tmp 7] := by kernel_rfl
set_option maxHeartbeats 4000000 in
theorem noteOf {D : Nat → Prop} {gd : Nat} {l : List Ke} (key : ByteArray) (en : En) (w : World) (hD : ∀ g, w.heap.size ≤ g → ¬ D g) (h : DirAt D w gd l) (hk1 : 1 ≤ key.size) (hk : key.size ≤ 64) (hl : l.length ≤ 1125899906842600) : Calls Try.prog 13 #[.pointer (some ⟨gd, 0, none⟩), .string key, en.v] w fun e w' => e = .returned (.tuple #[.bool (noteB key en l), .int .i64 0]) ∧ w.grownBy w' (some gd) ∧ DirAt D w' gd (noteL key en l) := by
  obtain ⟨w0, hw0⟩ : ∃ w0, w.alloc (.cells #[.int .i64 en.seg, .int .i64 en.pos, .int .i64 en.size, .int .i64 en.off, .int .i64 en.time, .bool en.tomb] 38) = w0 := ⟨_, rfl⟩
  have hs0 : w0.heap.size = w.heap.size + 1 := by rw [← hw0]; simp
  have hb0 : Below w.heap.size w w0 := by rw [← hw0]; exact (Below.refl _ _).alloc (Nat.le_refl _) _
  have HEN : Hid (∀ u, Below w0.heap.size w0 u → EnAt u w.heap.size en) := fun u hu => by
    have h : EnAt w0 w.heap.size en := by rw [← hw0]; exact EnAt.new w en
    exact h.block (hu.block _ h.lt)
  have hgl := h.lt
  have HDA : Hid (∀ u, Below w.heap.size w u → DirAt D u gd l) := fun u hu => h.later hu
  have HGE : Hid (Calls Try.prog 17 #[.pointer (some ⟨gd, 0, none⟩), .string key] w0 fun e w' => e = .returned (.tuple #[(gotE (findL key l)).v, .bool (findL key l).isSome]) ∧ Below w0.heap.size w0 w') := getOf key w0 (h.later hb0) (by unfold maxLen; omega)
  have HPU : Hid (∀ u, Below w.heap.size w u → Calls Try.prog 11 #[.pointer (some ⟨gd, 0, none⟩), .string key, en.v] u fun e w' => e = .returned (.tuple #[(gotE (findL key l)).v, .bool (findL key l).isSome, .int .i64 0]) ∧ u.grownBy w' (some gd) ∧ DirAt D w' gd (insL key en l)) := fun u hu => putOf key en u (fun g hg => hD g (Nat.le_trans hu.size hg)) (h.later hu) hk1 hk hl
  clear h
  obtain ⟨old, hold⟩ : ∃ old, gotE (findL key l) = old := ⟨_, rfl⟩
  obtain ⟨had, hhad⟩ : ∃ had, (findL key l).isSome = had := ⟨_, rfl⟩
  have HNB : Hid (noteB key en l = !(had && decide (en.off ≤ old.off))) := by unfold Hid noteB; rw [hold, hhad]
  rw [hold, hhad] at HGE HPU
  clear hold hhad
  go_enter Try.func13, Try.ntmps13
  go_wp2_with fail
  refine HGE.out.mono ?_
  rintro e w1 ⟨rfl, hb1⟩
  obtain ⟨w2, hw2⟩ : ∃ w2, w1.alloc (.cells #[.int .i64 old.seg, .int .i64 old.pos, .int .i64 old.size, .int .i64 old.off, .int .i64 old.time, .bool old.tomb] 38) = w2 := ⟨_, rfl⟩
  have hb12 : Below w1.heap.size w1 w2 := by rw [← hw2]; exact (Below.refl _ _).alloc (Nat.le_refl _) _
  have hb02 : Below w0.heap.size w0 w2 := hb1.trans (hb12.mono hb1.size)
  have hb2 : Below w.heap.size w w2 := hb0.trans (hb02.mono hb0.size)
  have HB2 : Hid (Below w.heap.size w w2) := hb2
  obtain ⟨o0, o1, o2, o3, o4, o5⟩ : EnAt w2 w1.heap.size old := by rw [← hw2]; exact EnAt.new w1 old
  obtain ⟨d0, d1, d2, d3, d4, d5⟩ := HEN.out w2 hb02
  clear hb1 hb12 HGE
  by_cases hc : (had && decide (en.off ≤ old.off)) = true
  · have HF : Hid (w.grownBy w2 (some gd) ∧ DirAt D w2 gd (noteL key en l) ∧ noteB key en l = false) := by
      have hn : noteB key en l = false := by rw [HNB.out, hc]; rfl
      exact ⟨below_grow hb2 _, by unfold noteL; rw [hn]; exact HDA.out w2 hb2, hn⟩
    simp at hc
    obtain ⟨rfl, hle⟩ := hc
    clear hb2 hb02
    go_wp2
    refine bodyPost_ret (v := .tuple #[.bool false, .int .i64 0]) ?_ rfl ⟨by rw [HF.out.2.2], HF.out.1, HF.out.2.1⟩
    simp only [results, hresNote]
    go_simp
  · have HN : Hid (noteB key en l = true) := by
      unfold Hid
      rw [HNB.out]
      cases hh : (had && decide (en.off ≤ old.off)) with
      | true => exact absurd hh hc
      | false => rfl
    have HEND : Hid (∀ w3 w4, w2.grownBy w3 (some gd) → DirAt D w3 gd (insL key en l) → Below w3.heap.size w3 w4 → w.grownBy w4 (some gd) ∧ DirAt D w4 gd (noteL key en l)) := fun w3 w4 h3 h4 h5 => ⟨grow_trans (grow_trans (below_grow HB2.out _) h3 (.inl rfl)) (below_grow h5 none) (.inr (.inl rfl)), by unfold noteL; rw [HN.out]; exact h4.later h5⟩
    have HPW := HPU.out w2 hb2
    clear hb2 hb02 HPU
    cases had with
    | false =>
      go_wp2_with fail
      refine HPW.mono ?_
      rintro e w3 ⟨rfl, hg3, hd3⟩
      have HE3 : Hid (∀ w4, Below w3.heap.size w3 w4 → w.grownBy w4 (some gd) ∧ DirAt D w4 gd (noteL key en l)) := fun w4 h => HEND.out w3 w4 hg3 hd3 h
      clear hg3 hd3 HEND
      go_wp2
      refine bodyPost_ret (v := .tuple #[.bool true, .int .i64 0]) ?_ rfl ⟨by rw [HN.out], HE3.out _ ?_⟩
      · simp only [results, hresNote]
        go_simp
      · exact (Below.refl _ _).alloc (Nat.le_refl _) _
    | true =>
      have hlt : old.off < en.off := by simp at hc; omega
      go_wp2_with fail
      refine HPW.mono ?_
      rintro e w3 ⟨rfl, hg3, hd3⟩
      have HE3 : Hid (∀ w4, Below w3.heap.size w3 w4 → w.grownBy w4 (some gd) ∧ DirAt D w4 gd (noteL key en l)) := fun w4 h => HEND.out w3 w4 hg3 hd3 h
      clear hg3 hd3 HEND
      go_wp2
      refine bodyPost_ret (v := .tuple #[.bool true, .int .i64 0]) ?_ rfl ⟨by rw [HN.out], HE3.out _ ?_⟩
      · simp only [results, hresNote]
        go_simp
      · exact (Below.refl _ _).alloc (Nat.le_refl _) _
end Go.Proofs.Ytjhbaplnkigifaa
