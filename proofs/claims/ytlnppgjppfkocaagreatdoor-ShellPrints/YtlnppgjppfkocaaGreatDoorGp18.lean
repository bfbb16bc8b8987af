import Derived.Test.YtlnppgjppfkocaaGreatDoorGp14
import Derived.Test.YtlnppgjppfkocaaGreatDoorGp17
/-! The law's copied. -/
namespace Go.Proofs.YtlnppgjppfkocaaGreatDoor.Xs
open Go.RowKit Plain
set_option linter.unusedVariables false
set_option linter.unusedSimpArgs false

set_option maxHeartbeats 8000000 in
set_option maxRecDepth 100000 in
theorem lcopiedOf (c : Cm) (vr vp : Value) (w : World) (h1 : BysAt w vr c.raw) (h2 : PksAt w vp c.picks) :
    Calls Tryz.prog 13 #[cmV c vr vp] w fun e w' => (∃ g h cr cp, e = .returned (cmV c (.slice (some ⟨g, 0, none⟩) c.raw.length cr) (.slice (some ⟨h, 0, none⟩) c.picks.length cp)) ∧ CpL w w' c.raw c.picks g h cr cp) ∧ Below w.heap.size w w' := by
  have hl1 : c.raw.length ≤ 140737488352000 := by obtain ⟨_, _, _, _, h, _⟩ := h1; exact h
  have hl2 : c.picks.length ≤ 17592186044000 := by obtain ⟨_, _, _, _, h, _⟩ := h2; exact h
  have HS1 : Hid (∀ u, Below w.heap.size w u → Src Tryz.prog 1 25 vr (nats c.raw).length (cellsOf (nats c.raw)) u) := fun u hu => bys_src (h1.later hu)
  have HS2 : Hid (∀ u, Below w.heap.size w u → Src Tryz.prog 1 26 vp (ints c.picks).length (ints c.picks) u) := fun u hu => pks_src (h2.later hu)
  obtain ⟨a1, c1, rfl⟩ : ∃ a k, vr = .slice a c.raw.length k := by obtain ⟨a, k, e, _⟩ := h1; exact ⟨a, k, e⟩
  obtain ⟨a2, c2, rfl⟩ : ∃ a k, vp = .slice a c.picks.length k := by obtain ⟨a, k, e, _⟩ := h2; exact ⟨a, k, e⟩
  obtain ⟨W1, hW1⟩ : ∃ W1, w.alloc (.cells (cmA c (.slice a1 c.raw.length c1) (.slice a2 c.picks.length c2)) 28) = W1 := ⟨_, rfl⟩
  have hX1 : Bx w W1 w.heap.size (cmA c (.slice a1 c.raw.length c1) (.slice a2 c.picks.length c2)).toList := by rw [← hW1]; exact Bx.new (Nat.le_refl _) _ 28
  have hb1 : Below w.heap.size w W1 := by rw [← hW1]; exact (Below.refl _ _).alloc (Nat.le_refl _) _
  have hs1 : W1.heap.size = w.heap.size + 1 := by rw [← hW1]; simp
  obtain ⟨W2, hW2⟩ : ∃ W2, W1.alloc (.cells #[.int .i64 0, .int .i64 0, .int .u32 0, .int .i64 0, .string ⟨#[]⟩, .string ⟨#[]⟩, .string ⟨#[]⟩, .int .i64 0, .int .i64 0, .int .i64 0, .int .i64 0, .slice none 0 0, .int .i64 0, .slice none 0 0] 28) = W2 := ⟨_, rfl⟩
  have hR2 : Bx w W2 (w.heap.size + 1) (cmA Cm.zero (.slice none 0 0) (.slice none 0 0)).toList := by rw [← hW2, ← hs1]; exact Bx.new hb1.size (cmA Cm.zero (.slice none 0 0) (.slice none 0 0)).toList 28
  have hb2 : Below w.heap.size w W2 := by rw [← hW2]; exact hb1.alloc (by rw [hs1]; omega) _
  have hs2 : W2.heap.size = w.heap.size + 2 := by rw [← hW2]; simp [hs1]
  have hX2 : Bx w W2 w.heap.size (cmA c (.slice a1 c.raw.length c1) (.slice a2 c.picks.length c2)).toList := hX1.later (by rw [← hW2]; exact (Below.refl _ _).alloc (Nat.le_refl _) _)
  clear hX1 hb1 h1 h2
  obtain ⟨z0, z1, z2, z3, z4, z5, z6, z7, z8, z9, z10, z11, z12, z13⟩ := hX2.cmd
  obtain ⟨vb, cn, ⟨id, op, tp, ky, vl, fo, nu, pi, sq⟩, x, n, p⟩ := c
  simp only at *
  have HX2 := mkH hX2
  have HR2 := mkH hR2
  have HB2 := mkH hb2
  clear hX2 hR2 hb2
  go_enter Tryz.func13, Tryz.ntmps13
  go_wp2_with (at_builtin; refine wpList_append_row _ rfl _ _ 25 25 rfl Tryz.underlying25 _ _ [] (nats x) (some (w.heap.size + 2)) rfl rfl ?hOwn ?hBy ?hSrc ?hLen ?_)
  case hOwn => rw [← hs2]; exact Own.empty W2 5
  case hBy => exact nats_lt x
  case hSrc => exact HS1.out _ (HB2.out.alloc (by omega) _)
  case hLen => rw [nats_len, List.length_nil]; omega
  intro v4 w4 r4 ho4 hg4 hr4 _
  obtain ⟨g4, rfl⟩ := opt_some hr4 (by simp)
  have hba : Below w.heap.size w (W2.alloc (.cells #[] 5)) := HB2.out.alloc (by omega) _
  have hg4b : w.heap.size + 2 ≤ g4 := by
    rcases hr4 with e | e
    · have := Option.some.inj e; omega
    · have e2 := Option.some.inj e
      try simp at e2
      omega
  have hB4 : Below w.heap.size w w4 := hba.trans (grow_below hg4 hba.size (fun g e => by cases e; omega))
  have hX4 := (HX2.out.later ((Below.refl _ W2).alloc (Nat.le_refl _) (.cells #[] 5))).grown hg4 (by simp)
  have hR4 := (HR2.out.later ((Below.refl _ W2).alloc (Nat.le_refl _) (.cells #[] 5))).grown hg4 (by simp)
  try rw [List.nil_append] at ho4
  obtain ⟨c4, rfl, hc4, _⟩ := ho4.shape
  rw [nats_len] at ho4 ⊢
  have HO4 := mkH ho4
  have HX4 := mkH hX4
  have HR4 := mkH hR4
  have HB4 := mkH hB4
  clear ho4 hX4 hR4 hB4 hg4 hr4 hba hc4 z0 z1 z2 z3 z4 z5 z6 z7 z8 z9 z10 z11 z12 z13 HX2 HR2
  obtain ⟨z0, z1, z2, z3, z4, z5, z6, z7, z8, z9, z10, z11, z12, z13⟩ := HX4.out.cmd (c := ⟨vb, cn, ⟨id, op, tp, ky, vl, fo, nu, pi, sq⟩, x, n, p⟩)
  simp only at z0 z1 z2 z3 z4 z5 z6 z7 z8 z9 z10 z11 z12 z13
  go_wp2_with (at_builtin; refine wpList_append_row _ rfl _ _ 25 25 rfl Tryz.underlying25 _ _ (nats x) [77] (some g4) rfl rfl ?hOwn ?hBy ?hSrc ?hLen ?_)
  case hOwn => exact HO4.out.later ((Below.refl _ _).alloc (Nat.le_refl _) _)
  case hBy => simp
  case hSrc => exact src_one w4 77 25 5 Tryz.underlying25
  case hLen => rw [nats_len]; simp; omega
  intro v5 w5 r5 ho5 hg5 hr5 _
  obtain ⟨g5, rfl⟩ := opt_some hr5 (by simp)
  have hba : Below w.heap.size w (w4.alloc (.cells #[.int .u8 77] 5)) := HB4.out.alloc (by have := HB4.out.size; omega) _
  have hb4s := HB4.out.size
  have hR4l := HR4.out.lt
  have hg5b : w.heap.size + 2 ≤ g5 := by
    rcases hr5 with e | e
    · have := Option.some.inj e; omega
    · have e2 := Option.some.inj e
      try simp at e2
      omega
  have hB5 : Below w.heap.size w w5 := hba.trans (grow_below hg5 hba.size (fun g e => by cases e; omega))
  have hX5 := (HX4.out.later ((Below.refl _ w4).alloc (Nat.le_refl _) (.cells #[.int .u8 77] 5))).grown hg5 (by simp; omega)
  have hR5 := (HR4.out.later ((Below.refl _ w4).alloc (Nat.le_refl _) (.cells #[.int .u8 77] 5))).grown hg5 (by simp; omega)
  obtain ⟨c5, rfl, hc5, _⟩ := ho5.shape
  have hl5 : (nats x ++ [77]).length = x.length + 1 := by rw [List.length_append, nats_len]; rfl
  rw [hl5] at ho5 hc5 ⊢
  obtain ⟨w6, hw6⟩ : ∃ u, w5.setCell ⟨w.heap.size, 11, none⟩ (.slice (some ⟨g5, 0, none⟩) (x.length + 1) c5) = u := ⟨_, rfl⟩
  have hX6 := hX5.set (i := 11) (by simp) (.slice (some ⟨g5, 0, none⟩) (x.length + 1) c5) rfl
  have hR6 := hR5.other (Y := w.heap.size) (by omega) 11 (.slice (some ⟨g5, 0, none⟩) (x.length + 1) c5)
  have hB6 := below_set hB5 (Nat.le_refl _) 11 (.slice (some ⟨g5, 0, none⟩) (x.length + 1) c5)
  have hO6 := ho5.kept (grow_setCells w5 w.heap.size 11 [.slice (some ⟨g5, 0, none⟩) (x.length + 1) c5]) (.inr (by simp; omega))
  have y11 := hX5.fz 11 (by simp)
  have y11c := hX5.c 11 (by simp)
  have hO6' : Own w6 (.slice (some ⟨g5, 0, none⟩) (x.length + 1) c5) (nats x ++ [77]) (some g5) := by rw [← hw6]; exact hO6
  rw [hw6] at hX6 hR6 hB6
  have HO6 := mkH hO6'
  have HX6 := mkH hX6
  have HR6 := mkH hR6
  have HB6 := mkH hB6
  have hg5l := hO6'.lt
  clear hO6 hO6' hX6 hR6 hB6 ho5 hX5 hR5 hB5 hg5 hr5 hba HX4 HR4 HO4 z0 z1 z2 z3 z4 z5 z6 z7 z8 z9 z10 z11 z12 z13 hg4b hb4s hR4l
  obtain ⟨z0, z1, z2, z3, z4, z5, z6, z7, z8, z9, z10, z11, z12, z13⟩ := Bx.cmd (c := ⟨vb, cn, ⟨id, op, tp, ky, vl, fo, nu, pi, sq⟩, x, n, p⟩) (vr := .slice (some ⟨g5, 0, none⟩) (x.length + 1) c5) (vp := .slice a2 p.length c2) HX6.out
  simp only at z0 z1 z2 z3 z4 z5 z6 z7 z8 z9 z10 z11 z12 z13
  have hX6l := HX6.out.lt
  have hR6l := HR6.out.lt
  go_wp2_with (at_builtin; refine wpList_append_ints _ rfl _ _ rfl _ _ [] (ints p) (some w6.heap.size) rfl rfl ?hOwn ?hSrc ?hLen (.inl (by simp)) ?_)
  case hOwn => exact OwnV.made w6
  case hSrc => exact HS2.out _ (HB6.out.alloc (by omega) _)
  case hLen => rw [ints_len, List.length_nil]; omega
  intro v7 w7 g7 ho7 hg7 hr7
  have hba : Below w.heap.size w (w6.alloc (.cells #[] 3)) := HB6.out.alloc (by omega) _
  have hg7b : w6.heap.size ≤ g7 := by
    rcases hr7 with e | e
    · omega
    · try simp at e
      omega
  have hB7 : Below w.heap.size w w7 := hba.trans (grow_below hg7 hba.size (fun g e => by cases e; omega))
  have hX7 := (HX6.out.later ((Below.refl _ w6).alloc (Nat.le_refl _) (.cells #[] 3))).grown hg7 (by simp; omega)
  have hR7 := (HR6.out.later ((Below.refl _ w6).alloc (Nat.le_refl _) (.cells #[] 3))).grown hg7 (by simp; omega)
  have hO7 := (HO6.out.later ((Below.refl _ w6).alloc (Nat.le_refl _) (.cells #[] 3))).kept hg7 (.inr (by simp; omega))
  try rw [List.nil_append] at ho7
  obtain ⟨a7, c7, rfl, _, hc7⟩ := ho7.shape
  rw [ints_len] at ho7 ⊢
  have HO7 := mkH ho7
  have HX7 := mkH hX7
  have HR7 := mkH hR7
  have HB7 := mkH hB7
  have HOx7 := mkH hO7
  have hX7l := hX7.lt
  have hR7l := hR7.lt
  have hg7s := hg7.size
  simp at hg7s
  clear ho7 hX7 hR7 hB7 hO7 hg7 hr7 hba hc7 z0 z1 z2 z3 z4 z5 z6 z7 z8 z9 z10 z11 z12 z13 HX6 HR6 HO6 HB6
  obtain ⟨z0, z1, z2, z3, z4, z5, z6, z7, z8, z9, z10, z11, z12, z13⟩ := Bx.cmd (c := ⟨vb, cn, ⟨id, op, tp, ky, vl, fo, nu, pi, sq⟩, x, n, p⟩) (vr := .slice (some ⟨g5, 0, none⟩) (x.length + 1) c5) (vp := .slice a2 p.length c2) HX7.out
  simp only at z0 z1 z2 z3 z4 z5 z6 z7 z8 z9 z10 z11 z12 z13
  go_wp2_with (at_builtin; refine wpList_append_ints _ rfl _ _ rfl _ _ (ints p) [.int .i64 (-77)] (some g7) rfl rfl ?hOwn ?hSrc ?hLen (.inl (by simp)) ?_)
  case hOwn => exact HO7.out.of_block (by simp) (fun g e => heap_alloc_old _ _ (by cases e; exact HO7.out.lt))
  case hSrc => exact srcOne w7 (-77)
  case hLen => rw [ints_len]; simp; omega
  intro v8 w8 g8 ho8 hg8 hr8
  have hba : Below w.heap.size w (w7.alloc (.cells #[.int .i64 (-77)] 3)) := HB7.out.alloc (by omega) _
  have hg8b : w6.heap.size ≤ g8 := by
    rcases hr8 with e | e
    · omega
    · try simp at e
      omega
  have hB8 : Below w.heap.size w w8 := hba.trans (grow_below hg8 hba.size (fun g e => by cases e; omega))
  have hX8 := (HX7.out.later ((Below.refl _ w7).alloc (Nat.le_refl _) (.cells #[.int .i64 (-77)] 3))).grown hg8 (by simp; omega)
  have hR8 := (HR7.out.later ((Below.refl _ w7).alloc (Nat.le_refl _) (.cells #[.int .i64 (-77)] 3))).grown hg8 (by simp; omega)
  have hO8 := (HOx7.out.later ((Below.refl _ w7).alloc (Nat.le_refl _) (.cells #[.int .i64 (-77)] 3))).kept hg8 (.inr (by simp; omega))
  obtain ⟨a8, c8, rfl, hc8m, hc8⟩ := ho8.shape
  have hl8 : (ints p ++ [Value.int .i64 (-77)]).length = p.length + 1 := by rw [List.length_append, ints_len]; rfl
  rw [hl8] at ho8 hc8 ⊢
  obtain ⟨rfl⟩ : a8 = some ⟨g8, 0, none⟩ := by
    rcases ho8 with ⟨e, _, _⟩ | ⟨g', cap, eg, e, _⟩
    · cases e
    · cases eg; injection e
  obtain ⟨w9, hw9⟩ : ∃ u, w8.setCell ⟨w.heap.size, 13, none⟩ (.slice (some ⟨g8, 0, none⟩) (p.length + 1) c8) = u := ⟨_, rfl⟩
  have y13 := hX8.fz 13 (by simp)
  have y13c := hX8.c 13 (by simp)
  have hX9 := hX8.set (i := 13) (by simp) (.slice (some ⟨g8, 0, none⟩) (p.length + 1) c8) rfl
  have hR9 := hR8.other (Y := w.heap.size) (by omega) 13 (.slice (some ⟨g8, 0, none⟩) (p.length + 1) c8)
  have hB9 := below_set hB8 (Nat.le_refl _) 13 (.slice (some ⟨g8, 0, none⟩) (p.length + 1) c8)
  have hO9 := hO8.kept (grow_setCells w8 w.heap.size 13 [.slice (some ⟨g8, 0, none⟩) (p.length + 1) c8]) (.inr (by simp; omega))
  have hP9 := ho8.kept (grow_setCells w8 w.heap.size 13 [.slice (some ⟨g8, 0, none⟩) (p.length + 1) c8]) (.inr (by simp; omega))
  have hO9' : Own w9 (.slice (some ⟨g5, 0, none⟩) (x.length + 1) c5) (nats x ++ [77]) (some g5) := by rw [← hw9]; exact hO9
  have hP9' : OwnV w9 (.slice (some ⟨g8, 0, none⟩) (p.length + 1) c8) (ints p ++ [.int .i64 (-77)]) (some g8) := by rw [← hw9]; exact hP9
  rw [hw9] at hX9 hR9 hB9
  clear hO9 hP9 hO8 ho8 hX8 hR8 hB8 hg8 hr8 hba HX7 HR7 HO7 HOx7 HB7 z0 z1 z2 z3 z4 z5 z6 z7 z8 z9 z10 z11 z12 z13 hX7l hR7l hX6l hR6l hg7s
  obtain ⟨W10, hW10⟩ : ∃ u, w9.setCell ⟨w.heap.size, 11, none⟩ (.slice (some ⟨g5, 0, none⟩) x.length c5) = u := ⟨_, rfl⟩
  have u11 := hX9.fz 11 (by simp)
  have u11c := hX9.c 11 (by simp)
  have u13c := hX9.c 13 (by simp)
  have hg5w := hO9'.lt
  have hg8w := hP9'.lt
  have hXA := hX9.set (i := 11) (by simp) (.slice (some ⟨g5, 0, none⟩) x.length c5) rfl
  have hRA := hR9.other (Y := w.heap.size) (by omega) 11 (.slice (some ⟨g5, 0, none⟩) x.length c5)
  have hBA := below_set hB9 (Nat.le_refl _) 11 (.slice (some ⟨g5, 0, none⟩) x.length c5)
  have hOA := hO9'.kept (grow_setCells w9 w.heap.size 11 [.slice (some ⟨g5, 0, none⟩) x.length c5]) (.inr (by simp; omega))
  have hPA := hP9'.kept (grow_setCells w9 w.heap.size 11 [.slice (some ⟨g5, 0, none⟩) x.length c5]) (.inr (by simp; omega))
  have hOA' : Own W10 (.slice (some ⟨g5, 0, none⟩) (x.length + 1) c5) (nats x ++ [77]) (some g5) := by rw [← hW10]; exact hOA
  have hPA' : OwnV W10 (.slice (some ⟨g8, 0, none⟩) (p.length + 1) c8) (ints p ++ [.int .i64 (-77)]) (some g8) := by rw [← hW10]; exact hPA
  rw [hW10] at hXA hRA hBA
  clear hOA hPA hX9 hR9 hB9 hO9' hP9'
  obtain ⟨W11, hW11⟩ : ∃ u, W10.setCell ⟨w.heap.size, 13, none⟩ (.slice (some ⟨g8, 0, none⟩) p.length c8) = u := ⟨_, rfl⟩
  have t13 := hXA.fz 13 (by simp)
  have t13c := hXA.c 13 (by simp)
  have hXB := hXA.set (i := 13) (by simp) (.slice (some ⟨g8, 0, none⟩) p.length c8) rfl
  have hRB := hRA.other (Y := w.heap.size) (by omega) 13 (.slice (some ⟨g8, 0, none⟩) p.length c8)
  have hBB := below_set hBA (Nat.le_refl _) 13 (.slice (some ⟨g8, 0, none⟩) p.length c8)
  have hOB := hOA'.kept (grow_setCells W10 w.heap.size 13 [.slice (some ⟨g8, 0, none⟩) p.length c8]) (.inr (by simp; omega))
  have hPB := hPA'.kept (grow_setCells W10 w.heap.size 13 [.slice (some ⟨g8, 0, none⟩) p.length c8]) (.inr (by simp; omega))
  have HCB : Hid (CpL w W11 x p g5 g8 c5 c8) := by
    rw [← hW11]
    exact ⟨hOB, hPB, by omega, by omega, by omega⟩
  rw [hW11] at hXB hRB hBB
  have HRB := mkH hRB
  have HBB := mkH hBB
  clear hOB hPB hXA hRA hBA hOA' hPA'
  obtain ⟨z0, z1, z2, z3, z4, z5, z6, z7, z8, z9, z10, z11, z12, z13⟩ := Bx.cmd (c := ⟨vb, cn, ⟨id, op, tp, ky, vl, fo, nu, pi, sq⟩, x, n, p⟩) (vr := .slice (some ⟨g5, 0, none⟩) x.length c5) (vp := .slice (some ⟨g8, 0, none⟩) p.length c8) hXB
  simp only at z0 z1 z2 z3 z4 z5 z6 z7 z8 z9 z10 z11 z12 z13
  obtain ⟨b0, b1, b2, b3, b4, b5, b6, b7, b8, b9, b10, b11, b12, b13⟩ := Bx.cmd (c := Cm.zero) HRB.out
  have HR9 : Hid (Bx w W11 (w.heap.size + 1) (cmLst Cm.zero nilV nilV)) := HRB.out
  obtain ⟨hB9, hb9, hg9⟩ := HR9.out.putCm HBB.out ⟨vb, cn, ⟨id, op, tp, ky, vl, fo, nu, pi, sq⟩, x, n, p⟩ (.slice (some ⟨g5, 0, none⟩) x.length c5) (.slice (some ⟨g8, 0, none⟩) p.length c8)
  obtain ⟨U9, hU9⟩ : ∃ u, cmPut W11 (w.heap.size + 1) ⟨vb, cn, ⟨id, op, tp, ky, vl, fo, nu, pi, sq⟩, x, n, p⟩ (.slice (some ⟨g5, 0, none⟩) x.length c5) (.slice (some ⟨g8, 0, none⟩) p.length c8) = u := ⟨_, rfl⟩
  rw [hU9] at hB9 hb9 hg9
  simp only [cmPut] at hU9
  have HCC : Hid (CpL w U9 x p g5 g8 c5 c8) := ⟨HCB.out.r.kept hg9 (.inr (by simp; omega)), HCB.out.p.kept hg9 (.inr (by simp; omega)), HCB.out.gB, HCB.out.hB, HCB.out.ne⟩
  have HB9 := mkH hB9
  have HE9 : Hid (Below w.heap.size w U9) := hb9
  clear hB9 hb9 hg9 HCB
  have f0 := HR9.out.fz 0 (by simp [cmLst])
  have f1 := HR9.out.fz 1 (by simp [cmLst])
  have f2 := HR9.out.fz 2 (by simp [cmLst])
  have f3 := HR9.out.fz 3 (by simp [cmLst])
  have f4 := HR9.out.fz 4 (by simp [cmLst])
  have f5 := HR9.out.fz 5 (by simp [cmLst])
  have f6 := HR9.out.fz 6 (by simp [cmLst])
  have f7 := HR9.out.fz 7 (by simp [cmLst])
  have f8 := HR9.out.fz 8 (by simp [cmLst])
  have f9 := HR9.out.fz 9 (by simp [cmLst])
  have f10 := HR9.out.fz 10 (by simp [cmLst])
  have f11 := HR9.out.fz 11 (by simp [cmLst])
  have f12 := HR9.out.fz 12 (by simp [cmLst])
  have f13 := HR9.out.fz 13 (by simp [cmLst])
  clear HRB HR9
  go_wp2
  clear z0 z1 z2 z3 z4 z5 z6 z7 z8 z9 z10 z11 z12 z13 b0 b1 b2 b3 b4 b5 b6 b7 b8 b9 b10 b11 b12 b13 f0 f1 f2 f3 f4 f5 f6 f7 f8 f9 f10 f11 f12 f13
  try rw [hU9]
  obtain ⟨a0, a1', a2', a3, a4, a5, a6, a7', a8', a9, a10, a11, a12, a13⟩ := HB9.out.cm
  clear hU9
  refine bodyPost_ret (v := cmV ⟨vb, cn, ⟨id, op, tp, ky, vl, fo, nu, pi, sq⟩, x, n, p⟩ (.slice (some ⟨g5, 0, none⟩) x.length c5) (.slice (some ⟨g8, 0, none⟩) p.length c8)) ?hres rfl ?_
  case hres =>
    rw [results_cell1 rfl]
    go_simp
  exact ⟨⟨g5, g8, c5, c8, rfl, HCC.out⟩, HE9.out⟩
end Go.Proofs.YtlnppgjppfkocaaGreatDoor.Xs

/-! The law's kept. -/
namespace Go.Proofs.YtlnppgjppfkocaaGreatDoor.Xs
open Go.RowKit Plain
set_option linter.unusedVariables false
set_option linter.unusedSimpArgs false

theorem CpL.mark {W w : World} {x : By} {p : List Int} {g h cr cp : Nat} (k : CpL W w x p g h cr cp) : w.cell? ⟨g, x.length, none⟩ = some (.int .u8 77) ∧ w.cell? ⟨h, p.length, none⟩ = some (.int .i64 (-77)) := by
  constructor
  · rcases k.r.2 with ⟨e, _, _⟩ | ⟨g', cap, eg, e, _, _, _, _, _, h5⟩
    · cases e
    · cases eg
      rw [h5 x.length (by rw [List.length_append, nats_len]; simp), List.getD_eq_getElem?_getD, List.getElem?_append_right (by rw [nats_len]; exact Nat.le_refl _), nats_len, Nat.sub_self]
      rfl
  · rcases k.p with ⟨e, _, _⟩ | ⟨g', cap, eg, e, _, _, _, _, _, h5⟩
    · cases e
    · cases eg
      rw [h5 p.length (by rw [List.length_append, ints_len]; simp), List.getElem?_append_right (by rw [ints_len]; exact Nat.le_refl _), ints_len, Nat.sub_self]
      rfl
theorem CpL.caps {W w : World} {x : By} {p : List Int} {g h cr cp : Nat} (k : CpL W w x p g h cr cp) : x.length + 1 ≤ cr ∧ cr ≤ maxLen ∧ p.length + 1 ≤ cp ∧ cp ≤ maxLen := by
  have h1 := Own.capOf k.r
  have h2 := OwnV.capOf k.p
  rw [List.length_append, nats_len, List.length_singleton] at h1
  rw [List.length_append, ints_len, List.length_singleton] at h2
  exact ⟨h1.2.1, h1.2.2, h2.2.1, h2.2.2⟩

set_option maxHeartbeats 8000000 in
set_option maxRecDepth 100000 in
theorem lkeptOf (c : Cm) (ur up : Value) (g h cr cp : Nat) (W w : World) (k : CpL W w c.raw c.picks g h cr cp) (k1 : BysAt w ur c.raw) (k2 : PksAt w up c.picks) :
    Calls Tryz.prog 15 #[cmV c (.slice (some ⟨g, 0, none⟩) c.raw.length cr) (.slice (some ⟨h, 0, none⟩) c.picks.length cp), cmV c ur up] w fun e w' => e = .returned (.bool true) ∧ Below w.heap.size w w' := by
  have hl1 : c.raw.length ≤ 140737488352000 := by obtain ⟨_, _, _, _, h, _⟩ := k1; exact h
  have hl2 : c.picks.length ≤ 17592186044000 := by obtain ⟨_, _, _, _, h, _⟩ := k2; exact h
  obtain ⟨wa, hwa⟩ : ∃ w0, w.alloc (.cells (cmA c (.slice (some ⟨g, 0, none⟩) c.raw.length cr) (.slice (some ⟨h, 0, none⟩) c.picks.length cp)) 28) = w0 := ⟨_, rfl⟩
  obtain ⟨w0, hw0⟩ : ∃ w0, wa.alloc (.cells (cmA c ur up) 28) = w0 := ⟨_, rfl⟩
  have hsa : wa.heap.size = w.heap.size + 1 := by rw [← hwa]; simp
  have HBA : Hid (Below w.heap.size w wa) := by rw [← hwa]; exact (cmBox w c _ _ 28).1
  have HBB : Hid (Below wa.heap.size wa w0) := by rw [← hw0]; exact (cmBox wa c ur up 28).1
  have HB0 : Hid (Below w.heap.size w w0) := below_on HBA.out HBB.out
  have HX : Hid (∀ u, Below w0.heap.size w0 u → CmAt u w.heap.size c (.slice (some ⟨g, 0, none⟩) c.raw.length cr) (.slice (some ⟨h, 0, none⟩) c.picks.length cp)) := fun u hu => by
    have h := (cmBox w c (.slice (some ⟨g, 0, none⟩) c.raw.length cr) (.slice (some ⟨h, 0, none⟩) c.picks.length cp) 28).2
    rw [hwa] at h
    exact (h.later HBB.out).later hu
  have HY : Hid (∀ u, Below w0.heap.size w0 u → CmAt u (w.heap.size + 1) c ur up) := fun u hu => by
    have h := (cmBox wa c ur up 28).2
    rw [hw0, hsa] at h
    exact h.later hu
  have HK : Hid (∀ u, Below w0.heap.size w0 u → CpL W u c.raw c.picks g h cr cp) := fun u hu => (k.later HB0.out).later hu
  have HSA : Hid (∀ u, Below w0.heap.size w0 u → Calls Tryz.prog 11 #[cmV c (.slice (some ⟨g, 0, none⟩) c.raw.length cr) (.slice (some ⟨h, 0, none⟩) c.picks.length cp), cmV c ur up] u fun e w' => e = .returned (.bool true) ∧ Below u.heap.size u w') := fun u hu =>
    lsameOf c _ _ _ _ u ((HK.out u hu).bys hl1) ((HK.out u hu).pks hl2) ((k1.later HB0.out).later hu) ((k2.later HB0.out).later hu)
  obtain ⟨q1, q2, q3, q4⟩ := k.caps
  clear k k1 k2
  obtain ⟨m0, m1, m2, m3, m4, m5, m6, m7, m8, m9, m10, m11, m12, m13⟩ := HX.out w0 (Below.refl _ _)
  obtain ⟨n0, n1, n2, n3, n4, n5, n6, n7, n8, n9, n10, n11, n12, n13⟩ := HY.out w0 (Below.refl _ _)
  obtain ⟨vb, cn, ⟨id, op, tp, ky, vl, fo, nu, pi, sq⟩, x, n, p⟩ := c
  simp only at *
  go_enter Tryz.func15, Tryz.ntmps15
  go_wp2_with fail
  refine (HSA.out _ (Below.refl _ _)).mono ?_
  rintro e w4 ⟨rfl, hb⟩
  clear m0 m1 m2 m3 m4 m5 m6 m7 m8 m9 m10 m11 m12 m13 n0 n1 n2 n3 n4 n5 n6 n7 n8 n9 n10 n11 n12 n13 HSA
  obtain ⟨m0, m1, m2, m3, m4, m5, m6, m7, m8, m9, m10, m11, m12, m13⟩ := HX.out w4 hb
  obtain ⟨e1, e2⟩ := (HK.out w4 hb).mark
  have HB4 : Hid (Below w.heap.size w w4) := below_on HB0.out hb
  clear hb HK HX HY
  go_wp2
  go_ret
  exact ⟨rfl, HB4.out⟩
end Go.Proofs.YtlnppgjppfkocaaGreatDoor.Xs

/-! ShellPrints: the command of the law's own, whose lists are written over. -/
namespace Go.Proofs.YtlnppgjppfkocaaGreatDoor.Xs
open Go.RowKit Plain
set_option linter.unusedVariables false
set_option linter.unusedSimpArgs false

theorem xor255 : ∀ c : UInt8, bits .xor .u8 (c.toNat : Int) 255 = (((UInt8.ofNat (255 - c.toNat)).toNat : Nat) : Int) := all256 (by decide +kernel)
theorem nats_set (x : By) (i : Nat) (y : UInt8) : (nats x).set i y.toNat = nats (x.set i y) := by
  unfold nats
  rw [List.map_set]
theorem ints_set (p : List Int) (i : Nat) (z : Int) : (ints p).set i (.int .i64 z) = ints (p.set i z) := by
  unfold ints
  rw [List.map_set]
theorem CpL.setB {W u : World} {x : By} {p : List Int} {g h cr cp : Nat} (k : CpL W u x p g h cr cp) {i : Nat} (hi : i < x.length) (y : UInt8) :
    u.frozen? ⟨g, i, none⟩ = false ∧ u.cell? ⟨g, i, none⟩ = some (.int .u8 ((x.getD i 0).toNat : Int)) ∧ CpL W (u.setCell ⟨g, i, none⟩ (.int .u8 (y.toNat : Int))) (x.set i y) p g h cr cp := by
  obtain ⟨g', e, _, h1, _, h3⟩ := own_put k.r (by omega : i < x.length + 1) y.toNat y.toNat_lt
  cases e
  refine ⟨h1, ?_, ?_, k.p.kept (grow_setCells u g i [.int .u8 (y.toNat : Int)]) (.inr (by have := k.ne; simp; omega)), k.gB, k.hB, k.ne⟩
  · rcases k.r.2 with ⟨e, _, _⟩ | ⟨g', cap, eg, e, _, _, _, _, _, h5⟩
    · cases e
    · cases eg
      have hj2 : i < (nats x).length := by rw [nats_len]; exact hi
      rw [h5 i (by rw [List.length_append, nats_len]; omega), List.getD_eq_getElem?_getD, List.getElem?_append_left hj2]
      simp [nats, List.getD_eq_getElem?_getD, hi]
  · have : (nats x ++ [77]).set i y.toNat = nats (x.set i y) ++ [77] := by
      rw [List.set_append_left _ _ (by rw [nats_len]; exact hi), nats_set]
    rw [this] at h3
    rw [List.length_set]
    exact h3
theorem CpL.setP {W u : World} {x : By} {p : List Int} {g h cr cp : Nat} (k : CpL W u x p g h cr cp) {i : Nat} (hi : i < p.length) (z : Int) :
    u.frozen? ⟨h, i, none⟩ = false ∧ u.cell? ⟨h, i, none⟩ = some (.int .i64 (p.getD i 0)) ∧ CpL W (u.setCell ⟨h, i, none⟩ (.int .i64 z)) x (p.set i z) g h cr cp := by
  obtain ⟨g', e, _, h1, _, h3⟩ := ownv_put k.p (by omega : i < p.length + 1) (.int .i64 z)
  cases e
  refine ⟨h1, ?_, k.r.kept (grow_setCells u h i [.int .i64 z]) (.inr (by have := k.ne; simp; omega)), ?_, k.gB, k.hB, k.ne⟩
  · rcases k.p with ⟨e, _, _⟩ | ⟨g', cap, eg, e, _, _, _, _, _, h5⟩
    · cases e
    · cases eg
      rw [h5 i (by rw [List.length_append, ints_len]; omega), List.getElem?_append_left (by rw [ints_len]; exact hi), ints_get hi]
  · have : (ints p ++ [Value.int .i64 (-77)]).set i (.int .i64 z) = ints (p.set i z) ++ [.int .i64 (-77)] := by
      rw [List.set_append_left _ _ (by rw [ints_len]; exact hi), ints_set]
    rw [this] at h3
    rw [List.length_set]
    exact h3
/-- The law's own command d (in the box Xd), its lists X and P in the blocks g and h. -/
structure PrS (W u : World) (Xd : Nat) (c : Cm) (g h cr cp : Nat) (X : By) (P : List Int) : Prop where
  l : CpL W u X P g h cr cp
  box : CmAt u Xd c (.slice (some ⟨g, 0, none⟩) c.raw.length cr) (.slice (some ⟨h, 0, none⟩) c.picks.length cp)
  be : Below W.heap.size W u
  lx : X.length = c.raw.length
  lp : P.length = c.picks.length
  ok : ∀ z ∈ P, I64 z
  n1 : g ≠ Xd
  n2 : h ≠ Xd
theorem PrS.later {W u u' : World} {Xd : Nat} {c : Cm} {g h cr cp : Nat} {X : By} {P : List Int} (k : PrS W u Xd c g h cr cp X P) (hb : Below u.heap.size u u') : PrS W u' Xd c g h cr cp X P :=
  ⟨k.l.later hb, k.box.later hb, k.be.trans (hb.mono k.be.size), k.lx, k.lp, k.ok, k.n1, k.n2⟩
theorem PrS.drew {W u : World} {Xd : Nat} {c : Cm} {g h cr cp : Nat} {X : By} {P : List Int} (k : PrS W u Xd c g h cr cp X P) : PrS W u.drew Xd c g h cr cp X P := k.later (Below.refl _ u).drew
theorem CmAt.set {u : World} {Xd : Nat} {c : Cm} {vr vp : Value} (h : CmAt u Xd c vr vp) {g : Nat} (hne : g ≠ Xd) (i : Nat) (x : Value) : CmAt (u.setCell ⟨g, i, none⟩ x) Xd c vr vp := by
  have key : ∀ j v, u.cell? ⟨Xd, j, none⟩ = some v → (u.setCell ⟨g, i, none⟩ x).cell? ⟨Xd, j, none⟩ = some v := fun j v e => by
    rw [World.cell?_setCell_other _ _ _ _ (by simp only [ne_eq, Addr.mk.injEq]; omega)]; exact e
  exact ⟨key _ _ h.c0, key _ _ h.c1, key _ _ h.c2, key _ _ h.c3, key _ _ h.c4, key _ _ h.c5, key _ _ h.c6, key _ _ h.c7, key _ _ h.c8, key _ _ h.c9, key _ _ h.c10, key _ _ h.c11, key _ _ h.c12, key _ _ h.c13⟩
theorem PrS.setB {W u : World} {Xd : Nat} {c : Cm} {g h cr cp : Nat} {X : By} {P : List Int} (k : PrS W u Xd c g h cr cp X P) {i : Nat} (hi : i < X.length) (y : UInt8) : PrS W (u.setCell ⟨g, i, none⟩ (.int .u8 (y.toNat : Int))).drew Xd c g h cr cp (X.set i y) P := by
  have hg := grow_setCells u g i [.int .u8 (y.toNat : Int)]
  exact PrS.drew ⟨(k.l.setB hi y).2.2, k.box.set k.n1 i _, k.be.trans (grow_below hg k.be.size (fun g' e => by cases e; exact k.l.gB)), by rw [List.length_set]; exact k.lx, k.lp, k.ok, k.n1, k.n2⟩
theorem PrS.setP {W u : World} {Xd : Nat} {c : Cm} {g h cr cp : Nat} {X : By} {P : List Int} (k : PrS W u Xd c g h cr cp X P) {i : Nat} (hi : i < P.length) (z : Int) (hz : I64 z) : PrS W (u.setCell ⟨h, i, none⟩ (.int .i64 z)).drew Xd c g h cr cp X (P.set i z) := by
  have hg := grow_setCells u h i [.int .i64 z]
  refine PrS.drew ⟨(k.l.setP hi z).2.2, k.box.set k.n2 i _, k.be.trans (grow_below hg k.be.size (fun g' e => by cases e; exact k.l.hB)), k.lx, by rw [List.length_set]; exact k.lp, fun y hy => ?_, k.n1, k.n2⟩
  rcases List.mem_or_eq_of_mem_set hy with e | e
  · exact k.ok y e
  · rw [e]; exact hz
theorem wrapI (z : Int) : I64 (RowKit.wrap64 z) := by
  unfold RowKit.wrap64
  constructor <;> omega
end Go.Proofs.YtlnppgjppfkocaaGreatDoor.Xs
