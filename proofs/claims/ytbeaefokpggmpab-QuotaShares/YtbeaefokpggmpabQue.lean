import Derived.Test.YtbeaefokpggmpabQup
/-! quota: the laws of shares and of weights: what both walk over. -/
namespace Go.Proofs.Ytbeaefokpggmpab
open Go.RowKit
set_option linter.unusedVariables false

/-- What Shares and Spread answer: the list F, or a refusal. -/
def Ans (good : Prop) (F : List Int) (w : World) (e : Ending) (w' : World) : Prop :=
  (good → ∃ (v : Value) (r : Option Nat), e = .returned (.tuple #[v, .int .i64 0]) ∧ OwnL w' v F r ∧ ∀ g, r = some g → w.heap.size ≤ g) ∧
  (¬ good → e = .returned (.tuple #[.slice none 0 0, .int .i64 131])) ∧ Below w.heap.size w w'
/-- In either case: a row, and a number. -/
theorem Ans.row {good : Prop} {F : List Int} {w w' : World} {e : Ending} (h : Ans good F w e w') : ∃ (v : Value) (r : Option Nat) (G : List Int) (z : Int), e = .returned (.tuple #[v, .int .i64 z]) ∧ OwnL w' v G r ∧ (∀ g, r = some g → w.heap.size ≤ g) ∧ Below w.heap.size w w' ∧ (good → G = F ∧ z = 0) ∧ (¬ good → G = [] ∧ z = 131) := by
  by_cases hg : good
  · obtain ⟨v, r, h1, h2, h3⟩ := h.1 hg
    exact ⟨v, r, F, 0, h1, h2, h3, h.2.2, fun _ => ⟨rfl, rfl⟩, fun k => absurd hg k⟩
  · exact ⟨_, none, [], 131, h.2.1 hg, OwnL.nil _, by simp, h.2.2, fun k => absurd k hg, fun _ => ⟨rfl, rfl⟩⟩
def topN : Nat := 1099511627776
/-- The greatest level up to n that total suffices for. -/
def lvlN (total : Int) (l : List Int) : Nat → Int
  | 0 => 0
  | n + 1 => if capsum l ((n + 1 : Nat) : Int) ≤ total then ((n + 1 : Nat) : Int) else lvlN total l n
theorem lvlN_zero (total : Int) (l : List Int) : lvlN total l 0 = 0 := rfl
theorem lvlN_succ (total : Int) (l : List Int) (n : Nat) : lvlN total l (n + 1) = if capsum l ((n + 1 : Nat) : Int) ≤ total then ((n + 1 : Nat) : Int) else lvlN total l n := rfl
theorem lvlN_is {total : Int} {l : List Int} {L : Int} (h : IsLvl total l L) (T : Int) (hT : T = 1099511627776) (n : Nat) (hn : L ≤ (n : Int)) (hm : (n : Int) ≤ T) : lvlN total l n = L := by
  have h0 := h.l0
  have htop := h.top
  have hle := h.le
  rw [← hT] at htop
  clear hT h
  induction n with
  | zero => rw [lvlN_zero]; omega
  | succ n ih =>
    rw [lvlN_succ]
    by_cases he : L = ((n + 1 : Nat) : Int)
    · rw [if_pos (by rw [← he]; exact hle)]; exact he.symm
    · have h1 := capsum_mono l (show L + 1 ≤ ((n + 1 : Nat) : Int) by omega)
      rw [if_neg (by rcases htop with e | e <;> omega)]
      exact ih (by omega) (by omega)
def sharesP (total : Int) (l : List Int) : List Int := sharesL (lvlN total l topN) (total - capsum l (lvlN total l topN)) l
theorem sharesP_is {total : Int} {l : List Int} {L : Int} (h : IsLvl total l L) : sharesP total l = sharesL L (total - capsum l L) l := by
  have e : lvlN total l topN = L := lvlN_is h (topN : Int) (by unfold topN; rfl) topN (by have := h.l1; unfold topN; omega) (Int.le_refl _)
  unfold sharesP
  rw [e]
theorem ShPost.ans {total : Int} {l : List Int} {w w' : World} {e : Ending} (h : ShPost total l w e w') : Ans (ShOk total l) (sharesP total l) w e w' := by
  refine ⟨fun hg => ?_, h.2.1, h.2.2⟩
  obtain ⟨L, v, r, h1, h2, h3, h4⟩ := h.1 hg
  refine ⟨v, r, h2, ?_, h4⟩
  rw [sharesP_is h1]
  exact h3
theorem SpPost.ans {total : Int} {l : List Int} {w w' : World} {e : Ending} (h : SpPost total l w e w') : Ans (SpOk total l) (spreadL total l.sum l) w e w' := h
theorem src_nums {w : World} {v : Value} {l : List Int} (h : NumsAt w v l) : Src Try.prog 1 22 v l.length (lcells l) w := by
  obtain ⟨a, cap, rfl, h1, h2, h3, h4⟩ := h
  by_cases hnil : l = []
  · subst hnil
    cases a with
    | none => exact Src.ofNil w Try.underlying22 cap
    | some a => exact Src.ofSlice w Try.underlying22 a 0 cap [] (by simp) (by simp) (by simp)
  · obtain ⟨b, off, rfl, h5⟩ := h4 hnil
    refine Src.ofSlice w Try.underlying22 _ _ cap _ (by rw [lcells_len]; simp) (fun j u hj => ?_) (lcells_one l)
    have hjl : j < l.length := by
      have := (List.getElem?_eq_some_iff.mp hj).1
      rwa [lcells_len] at this
    rw [WideShapes.add_plain, h5 j hjl, ← lcells_get l j hjl, hj]
theorem src_two (W : World) (x y : Int) : Src Try.prog 1 22 (.slice (some ⟨W.heap.size, 0, none⟩) 2 2) [x, y].length (lcells [x, y]) (W.alloc (.cells #[.int .i64 x, .int .i64 y] 2)) :=
  Src.ofSlice _ Try.underlying22 _ 2 2 _ (by simp [lcells]) (fun j u hj => by
    rw [WideShapes.add_plain, World.cell?_alloc_at _ _ _ _ rfl]
    simp only [lcells, List.map_cons, List.map_nil] at hj
    match j, hj with
    | 0, hj => simpa using hj
    | 1, hj => simpa using hj) (lcells_one [x, y])
theorem NumsAt.kept {w w' : World} {v : Value} {l : List Int} {g : Nat} (h : NumsAt w v l) (k : w.grownBy w' (some g)) (hlt : ∀ b off cap, v = .slice (some ⟨b, off, none⟩) l.length cap → b ≠ g) : NumsAt w' v l := by
  obtain ⟨a, cap, rfl, h1, h2, h3, h4⟩ := h
  refine ⟨a, cap, rfl, h1, h2, h3, fun hne => ?_⟩
  obtain ⟨b, off, rfl, h5⟩ := h4 hne
  refine ⟨b, off, rfl, fun j hj => ?_⟩
  have hlb := cell_lt (h5 j hj)
  rw [World.cell?_of_block (w := w) (a := ⟨b, off + j, none⟩) (k.block b hlb (by simpa using hlt b off cap rfl))]
  exact h5 j hj

theorem sharesP_len (total : Int) (l : List Int) : (sharesP total l).length ≤ l.length := by
  unfold sharesP
  rw [sharesL_len]; exact Nat.le_refl _
theorem spreadL_len (total W : Int) (l : List Int) : (spreadL total W l).length = l.length := by simp [spreadL]
theorem upL_len (l : List Int) : (upL l).length = l.length := by simp [upL]

set_option maxHeartbeats 4000000 in
set_option maxRecDepth 1000000 in
theorem sharesWalk (total : Int) (va : Value) (l : List Int) (W : World) (ht : I64 total) (h : NumsAt W va l) (hlen : l.length ≤ 17592186044416) : Calls Try.prog 4 #[.int .i64 total, va] W fun e w' => e = .returned (.bool true) ∧ Below W.heap.size W w' := by
  obtain ⟨a, cap, rfl, hm⟩ := h.shp
  have HN : Hid (NumsAt W (.slice a l.length cap) l) := h
  have HI : Hid (∀ c ∈ l, -9223372036854775808 ≤ c ∧ c ≤ 9223372036854775807) := by obtain ⟨_, _, _, _, _, h3, _⟩ := h; exact h3
  clear h hm
  have HTI : Hid (I64 total) := ht
  go_enter Try.func4, Try.ntmps4
  go_wp2_with (at_builtin; refine wpList_append_l _ rfl _ _ 22 22 rfl Try.underlying22 _ _ [] l (some W.heap.size) rfl rfl ?hOwn ?hByte ?hSrc ?hLen ?_)
  case hOwn => exact OwnL.empty W 2
  case hByte => exact HI.out
  case hSrc => exact src_nums (HN.out.later ((Below.refl _ _).alloc (Nat.le_refl _) _))
  case hLen => simp; omega
  intro v1 w1 r1 ho1 hg1 hr1 hn1
  have HB1 : Hid (Below W.heap.size W w1) := ((Below.refl _ _).alloc (Nat.le_refl _) _).grown hg1 (by simp) (fun k hk => by cases hk; exact Nat.le_refl _)
  have HR1 : Hid (∀ g, r1 = some g → W.heap.size ≤ g) := fun g hg => by
    rcases hr1 with rfl | rfl
    · simp at hg; omega
    · simp at hg; omega
  obtain ⟨a1, c1, rfl⟩ := ho1.shp
  have HO1 : Hid (OwnL w1 (.slice a1 l.length c1) l r1) := ho1
  clear ho1 hg1 hr1 hn1
  go_wp2_with (at_builtin; refine wpList_append_l _ rfl _ _ 22 22 rfl Try.underlying22 _ _ l [77, 78] r1 rfl rfl ?hOwn ?hByte ?hSrc ?hLen ?_)
  case hOwn => exact HO1.out.later ((Below.refl _ _).alloc (Nat.le_refl _) _)
  case hByte => first | (intro c hc; simp at hc; omega) | (simp; done)
  case hSrc => exact src_two w1 77 78
  case hLen => simp; omega
  intro v2 w2 r2 ho2 hg2 hr2 hn2
  obtain ⟨g, rfl⟩ : ∃ g, r2 = some g := by
    cases r2 with
    | none => first | exact absurd rfl (hn2 (by simp)) | exact (hn2 (by simp)).elim | (simp at hn2)
    | some g => exact ⟨g, rfl⟩
  obtain ⟨cf, rfl, hcf, hcm⟩ := ho2.shape
  have HB2 : Hid (Below W.heap.size W w2) := (HB1.out.alloc HB1.out.size _).grown hg2 (by have := HB1.out.size; simp; omega) (fun k hk => HR1.out k hk)
  have hgW : W.heap.size ≤ g := by
    rcases hr2 with e | e
    · exact HR1.out g e.symm
    · have := HB1.out.size; simp at e; omega
  have HO2 : Hid (OwnL w2 (.slice (some ⟨g, 0, none⟩) (l ++ [77, 78]).length cf) (l ++ [77, 78]) (some g)) := ho2
  have hcf2 : l.length + 2 ≤ cf := by simpa using hcf
  unfold maxLen at hcm
  clear ho2 hg2 hr2 hn2 HO1 HB1 HR1 hcf
  have hcfi : (l.length : Int) ≤ (cf : Int) := by omega
  have HAQ : Hid (∀ (v : Value) (k : List Int) (u : World), NumsAt u v k → Calls Try.prog 7 #[.int .i64 total, v] u (Ans (ShOk total k) (sharesP total k) u)) := fun v k u hk => (sharesOf total v k u HTI.out hk).mono fun e w' h => h.ans
  have HAR : Hid (∀ (v : Value) (k : List Int) (u : World), NumsAt u v k → Calls Try.prog 12 #[.int .i64 total, v] u (Ans (ShOk total k) (sharesP total k) u)) := fun v k u hk => (rsharesOf total v k u HTI.out hk).mono fun e w' h => h.ans
  have HLE : Hid (ShOk total l → (sharesP total l).length ≤ 64) := fun k => Nat.le_trans (sharesP_len total l) k.len
  go_wp2_with fail
  refine (movedOf g cf l [77, 78] w2 (by omega) HO2.out).mono ?_
  rintro e w3 ⟨rfl, ho3, hg3⟩
  have HB3 : Hid (Below W.heap.size W w3) := HB2.out.grown hg3 HB2.out.size (fun k hk => by cases hk; exact hgW)
  have HO3 : Hid (OwnL w3 (.slice (some ⟨g, 0, none⟩) (upL l ++ [77, 78]).length cf) (upL l ++ [77, 78]) (some g)) := by
    have e : (upL l ++ [77, 78]).length = (l ++ [77, 78]).length := by simp [upL_len]
    unfold Hid; rw [e]; exact ho3
  clear ho3 hg3 HO2 HB2
  go_wp2_with fail
  refine (HAQ.out _ (upL l) w3 (HO3.out.head (upL_len l).symm)).mono ?_
  intro e w4 h4
  obtain ⟨v4, r4, G4, z4, rfl, -, -, hb4, -, -⟩ := h4.row
  have HB4 : Hid (Below W.heap.size W w4) := HB3.out.trans (hb4.mono HB3.out.size)
  have HO4 : Hid (OwnL w4 (.slice (some ⟨g, 0, none⟩) (upL l ++ [77, 78]).length cf) (upL l ++ [77, 78]) (some g)) := HO3.out.later hb4
  clear hb4 h4 HO3 HB3
  have HBK : Hid (Calls Try.prog 10 #[.slice (some ⟨g, 0, none⟩) l.length cf, .slice a l.length cap] w4 fun e w' => (∃ v, e = .returned v) ∧ OwnL w' (.slice (some ⟨g, 0, none⟩) (l ++ [77, 78]).length cf) (l ++ [77, 78]) (some g) ∧ w4.grownBy w' (some g)) := by
    have e : (upL l ++ [77, 78]).length = (l ++ [77, 78]).length := by simp [upL_len]
    have := backOf g cf (upL l) l [77, 78] (.slice a l.length cap) w4 (by rw [upL_len]; omega) (upL_len l).symm HO4.out (fun u hu => HN.out.later (HB4.out.grown hu HB4.out.size (fun k hk => by cases hk; exact hgW)))
    rw [upL_len, e] at this
    exact this
  go_wp2_with fail
  refine HBK.out.mono ?_
  rintro e w5 ⟨⟨v5, rfl⟩, ho5, hg5⟩
  have HB5 : Hid (Below W.heap.size W w5) := HB4.out.grown hg5 HB4.out.size (fun k hk => by cases hk; exact hgW)
  have HO5 : Hid (OwnL w5 (.slice (some ⟨g, 0, none⟩) (l ++ [77, 78]).length cf) (l ++ [77, 78]) (some g)) := ho5
  clear ho5 hg5 HO4 HB4 HBK
  go_wp2_with fail
  refine (HAQ.out _ l w5 (HO5.out.head rfl)).mono ?_
  intro e w6 h6
  obtain ⟨vx, rx, Gx, zx, rfl, ox, fx, hb6, gx1, gx2⟩ := h6.row
  obtain ⟨ax, cx, rfl⟩ := ox.shp
  have HB6 : Hid (Below W.heap.size W w6) := HB5.out.trans (hb6.mono HB5.out.size)
  have HO6 : Hid (OwnL w6 (.slice (some ⟨g, 0, none⟩) (l ++ [77, 78]).length cf) (l ++ [77, 78]) (some g)) := HO5.out.later hb6
  have HX6 : Hid (OwnL w6 (.slice ax Gx.length cx) Gx rx) := ox
  clear hb6 h6 HO5 HB5 ox
  go_wp2_with fail
  refine (HAQ.out _ l w6 (HO6.out.head rfl)).mono ?_
  intro e w7 h7
  obtain ⟨vg, rg, Gg, zg, rfl, og, fg, hb7, gg1, gg2⟩ := h7.row
  obtain ⟨ag, cg, rfl⟩ := og.shp
  have HB7 : Hid (Below W.heap.size W w7) := HB6.out.trans (hb7.mono HB6.out.size)
  have HO7 : Hid (OwnL w7 (.slice (some ⟨g, 0, none⟩) (l ++ [77, 78]).length cf) (l ++ [77, 78]) (some g)) := HO6.out.later hb7
  have HX7 : Hid (OwnL w7 (.slice ax Gx.length cx) Gx rx) := HX6.out.later hb7
  have HLG : Hid (Gg.length ≤ 64) := by
    unfold Hid
    by_cases hgd : ShOk total l
    · rw [(gg1 hgd).1]; exact HLE.out hgd
    · rw [(gg2 hgd).1]; simp
  have HAPX : Hid (rx = none ∨ rx ≠ rg) := by
    cases rx with
    | none => exact .inl rfl
    | some q =>
      refine .inr (fun e => ?_)
      have h1 := HX6.out.lt
      have h2 := fg q e.symm
      omega
  have HAPF : Hid (rg ≠ some g) := fun e => by
    have h1 := HO6.out.lt
    have h2 := fg g e
    omega
  have HFG : Hid (∀ q, rg = some q → W.heap.size ≤ q) := fun q hq => Nat.le_trans HB6.out.size (fg q hq)
  have HG7 : Hid (OwnL w7 (.slice ag Gg.length cg) Gg rg) := og
  clear hb7 h7 HO6 HB6 og fg HX6
  go_wp2_with fail
  refine (markedOf _ Gg rg w7 HLG.out HG7.out).mono ?_
  rintro e w8 ⟨rfl, hg8⟩
  have HB8 : Hid (Below W.heap.size W w8) := HB7.out.grown hg8 HB7.out.size HFG.out
  have HO8 : Hid (OwnL w8 (.slice (some ⟨g, 0, none⟩) (l ++ [77, 78]).length cf) (l ++ [77, 78]) (some g)) := HO7.out.kept hg8 (.inr (Ne.symm HAPF.out))
  have HX8 : Hid (OwnL w8 (.slice ax Gx.length cx) Gx rx) := HX7.out.kept hg8 HAPX.out
  clear hg8 HO7 HB7 HX7 HG7
  go_wp2_with fail
  refine (HAR.out _ l w8 (HN.out.later HB8.out)).mono ?_
  intro e w9 h9
  obtain ⟨vy, ry, Gy, zy, rfl, oy, fy, hb9, gy1, gy2⟩ := h9.row
  obtain ⟨ay, cy, rfl⟩ := oy.shp
  have HB9 : Hid (Below W.heap.size W w9) := HB8.out.trans (hb9.mono HB8.out.size)
  have HO9 : Hid (OwnL w9 (.slice (some ⟨g, 0, none⟩) (l ++ [77, 78]).length cf) (l ++ [77, 78]) (some g)) := HO8.out.later hb9
  have HX9 : Hid (OwnL w9 (.slice ax Gx.length cx) Gx rx) := HX8.out.later hb9
  have HY9 : Hid (OwnL w9 (.slice ay Gy.length cy) Gy ry) := oy
  have HEQ : Gx = Gy ∧ zx = zy ∧ Gg.length = Gy.length := by
    by_cases hgd : ShOk total l
    · rw [(gx1 hgd).1, (gx1 hgd).2, (gy1 hgd).1, (gy1 hgd).2, (gg1 hgd).1]; exact ⟨rfl, rfl, rfl⟩
    · rw [(gx2 hgd).1, (gx2 hgd).2, (gy2 hgd).1, (gy2 hgd).2, (gg2 hgd).1]; exact ⟨rfl, rfl, rfl⟩
  obtain ⟨rfl, rfl, hgl⟩ := HEQ
  have HGL : Hid (Gg.length = Gx.length) := hgl
  rw [hgl]
  clear hb9 h9 HO8 HB8 HX8 oy gx1 gx2 gy1 gy2 gg1 gg2 hgl
  have HS1 : Hid (Calls Try.prog 13 #[.slice ax Gx.length cx, .slice ay Gx.length cy] w9 fun e w' => e = .returned (.bool true) ∧ Below w9.heap.size w9 w') := by
    have := sameNums _ _ Gx Gx w9 HX9.out.nums HY9.out.nums
    unfold Hid
    simpa using this
  have HS2 : Hid (∀ u, Below w9.heap.size w9 u → Calls Try.prog 13 #[.slice (some ⟨g, 0, none⟩) l.length cf, .slice a l.length cap] u fun e w' => e = .returned (.bool true) ∧ Below u.heap.size u w') := fun u hu => by
    have := sameNums _ _ l l u ((HO9.out.later hu).head rfl) (HN.out.later (HB9.out.trans (hu.mono HB9.out.size)))
    simpa using this
  have HC : Hid (∀ u, Below w9.heap.size w9 u → u.cell? ⟨g, l.length, none⟩ = some (.int .i64 77) ∧ u.cell? ⟨g, l.length + 1, none⟩ = some (.int .i64 78)) := fun u hu => by
    have h1 := ((HO9.out.later hu).cells (i := l.length) (by simp)).1
    have h2 := ((HO9.out.later hu).cells (i := l.length + 1) (by simp)).1
    rw [lgetD_right l [77, 78] (Nat.le_refl _)] at h1
    rw [lgetD_right l [77, 78] (by omega)] at h2
    have e1 : l.length - l.length = 0 := by omega
    have e2 : l.length + 1 - l.length = 1 := by omega
    rw [e1] at h1
    rw [e2] at h2
    exact ⟨h1, h2⟩
  have hgx : Gx.length ≤ 64 := by have := HGL.out; have := HLG.out; omega
  have hw1 : wrap64 ((Gx.length : Int) + 64) = (Gx.length : Int) + 64 := by unfold wrap64; omega
  have hw2 : wrap64 ((l.length : Int) + 1) = (l.length : Int) + 1 := by unfold wrap64; omega
  go_wp2_with fail
  refine HS1.out.mono ?_
  rintro e w10 ⟨rfl, hb10⟩
  have HP10 : Hid (Below w9.heap.size w9 w10) := hb10
  clear hb10
  go_wp2_with fail
  refine (HS2.out _ HP10.out).mono ?_
  rintro e w11 ⟨rfl, hb11⟩
  have HP11 : Hid (Below w9.heap.size w9 w11) := HP10.out.trans (hb11.mono HP10.out.size)
  obtain ⟨c0, c1'⟩ := HC.out w11 HP11.out
  have hi1 : (l.length : Int) < (l.length : Int) + 2 := by omega
  have hi2 : (l.length : Int) + 1 < (l.length : Int) + 2 := by omega
  have hi3 : l.length < l.length + 2 := by omega
  have hi4 : l.length + 1 < l.length + 2 := by omega
  clear hb11
  go_wp2
  go_ret
  exact ⟨by simp, HB9.out.trans (HP11.out.mono HB9.out.size)⟩
end Go.Proofs.Ytbeaefokpggmpab
