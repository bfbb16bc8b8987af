import Derived.Test.YtgpmhflndcppeaaRgd
import Derived.Test.YtgpmhflndcppeaaQp19
import Derived.Deep.RegionHeld3
import Derived.BigRegion
/-! The law on the past: note of a Truncate. -/
namespace Go.Proofs.Ytgpmhflndcppeaa
open Go.RowKit Go.Maps Plain
set_option linter.unusedVariables false
set_option linter.unusedSimpArgs false

theorem BytesAt.takeN {w : World} {a : Option Addr} {N c : Nat} {l : List Nat} (h : BytesAt w (.slice a N c) l) (n : Nat) (hn : n ≤ l.length) : BytesAt w (.slice a n c) (l.take n) := by
  obtain ⟨a', c', e, h1, h2, h3, h4⟩ := h
  cases e
  have hl : (l.take n).length = n := by rw [List.length_take]; omega
  refine ⟨a, c, by rw [hl], by omega, h2, fun x hx => h3 x (List.mem_of_mem_take hx), fun hne => ?_⟩
  obtain ⟨b, off, rfl, h5⟩ := h4 (fun e => hne (by rw [e]; simp))
  refine ⟨b, off, rfl, fun j hj => ?_⟩
  rw [hl] at hj
  rw [h5 j (by omega), List.getD_eq_getElem?_getD, List.getD_eq_getElem?_getD, List.getElem?_take_of_lt hj]
set_option maxHeartbeats 8000000 in
set_option maxRecDepth 100000 in
theorem noteTrunc {w : World} {gp : Nat} {p : Ps} {T : Nat → Prop} (nm to : ByteArray) (at' : Int) (n0 : Nat) (vb vp : Value) (h : PaAt w gp p T) (hk : p.Ok) (h1 : 1 ≤ p.dirs.length) (f : Nat) (hf : leadL p.last nm.data.toList = (f : Int)) (hfl : f < p.files.length) (hn0 : n0 ≤ ((p.files.getD f []).getD ((p.files.getD f []).length - 1) []).length) (hnl : n0 ≤ 70368744177664) (hsl : (p.files.getD f []).length < 2199023255000) :
    Calls Try.prog 9 #[.pointer (some ⟨gp, 0, none⟩), stepV 3 nm to at' (n0 : Int) vb vp] w (NtPost gp ⟨p.files.set f (p.files.getD f [] ++ [((p.files.getD f []).getD ((p.files.getD f []).length - 1) []).take n0]), p.grown.set f (p.grown.getD f [] ++ [(-1 : Int)]), p.dirs⟩ T w) := by
  obtain ⟨PP, hPP⟩ : ∃ PP : Ps, ⟨p.files.set f (p.files.getD f [] ++ [((p.files.getD f []).getD ((p.files.getD f []).length - 1) []).take n0]), p.grown.set f (p.grown.getD f [] ++ [(-1 : Int)]), p.dirs⟩ = PP := ⟨_, rfl⟩
  rw [hPP]
  have HPP := Hid.mkP hPP
  clear hPP
  obtain ⟨B, vF, vG, vD, rF, rG, rD, fv, gv, dv, rf, rg, sv, tv, hP, hT⟩ := h
  obtain ⟨w0, hw0⟩ : ∃ w0, w.alloc (.cells #[.int .i64 3, .string nm, .string to, .int .i64 at', .int .i64 (n0 : Int), vb, vp] 31) = w0 := ⟨_, rfl⟩
  have hb0 : Below w.heap.size w w0 := by rw [← hw0]; exact (Below.refl _ _).alloc (Nat.le_refl _) _
  have hS0 : SbAt w0 w.heap.size (stepC 3 nm to at' (n0 : Int) vb vp) := by rw [← hw0]; exact SbAt.new w _ _
  have hP0 := hP.later hb0
  have hpl : p.last.length ≤ 2199023255000 := hk.nl _ (by omega)
  have HLE : Hid (Calls Try.prog 30 #[.pointer (some ⟨gp, 0, none⟩), .string nm] w0 fun e w' => e = .returned (.int .i64 (f : Int)) ∧ ∃ n, w' = w0.drewN n) := by
    have := leadOf hP0 h1 nm hpl (by have := hk.dl; omega)
    rw [hf] at this
    exact this
  have z0 := hS0 0 _ rfl
  have z1 := hS0 1 _ rfl
  have HPM : Hid (PaM w gp p B vF vG vD rF rG rD fv gv dv rf rg sv tv) := hP
  have HB0 : Hid (Below w.heap.size w w0) := hb0
  have HS0 : Hid (SbAt w0 w.heap.size (stepC 3 nm to at' (n0 : Int) vb vp)) := hS0
  clear hP hP0 hb0 hS0 hf
  go_enter Try.func9, Try.ntmps9
  go_wp2_with fail
  refine HLE.out.mono ?_
  rintro e w' ⟨rfl, n, rfl⟩
  have HB1 : Hid (Below w.heap.size w (w0.drewN n)) := below_drewN HB0.out n
  have HS1 : Hid (SbAt (w0.drewN n) w.heap.size (stepC 3 nm to at' (n0 : Int) vb vp)) := HS0.out.later (below_drewN (Below.refl _ _) n)
  clear HLE z0 z1 HB0 HS0
  generalize w0.drewN n = w1 at HB1 HS1 ⊢
  have z0 := HS1.out 0 _ rfl
  have z1 := HS1.out 1 _ rfl
  have hf0 : ¬ (f : Int) < 0 := by omega
  have hf1 : (0 : Int) ≤ (f : Int) := by omega
  have hfi : (f : Int) < (p.files.length : Int) := by omega
  have hst1 := hk.one f hfl
  have hstl := (hk.gl f hfl).2
  obtain ⟨gF, capF, gi, cF, a, c, rfl, hrF, c0, hri, c1, hlfb⟩ := (HPM.out.later HB1.out).now hfl hst1
  have k0 := (HPM.out.later HB1.out).c0
  have k2 := (HPM.out.later HB1.out).c2
  have hN1 : ((p.files.getD f []).length : Int) - 1 = (((p.files.getD f []).length - 1 : Nat) : Int) := by omega
  have hNl : (((p.files.getD f []).length - 1 : Nat) : Int) < ((p.files.getD f []).length : Int) := by omega
  have HLB : Hid (leafB w1 B (.slice a ((p.files.getD f []).getD ((p.files.getD f []).length - 1) []).length c) ((p.files.getD f []).getD ((p.files.getD f []).length - 1) [])) := hlfb
  clear hlfb
  generalize hM : (p.files.getD f []).length = M at *
  have HM : Hid ((p.files.getD f []).length = M) := hM
  clear hM
  generalize (p.files.getD f []).getD (M - 1) [] = NOW at *
  generalize hLN : NOW.length = LN at *
  go_wp2_with fail
  go_quiet (fail)
  have HB2 : Hid (Below w.heap.size w (w1.drewN nq)) := below_drewN HB1.out nq
  have c0' : (w1.drewN nq).cell? ⟨gF, f, none⟩ = some (.slice (some ⟨gi, 0, none⟩) M cF) := c0
  have HLB2 : Hid (leafB (w1.drewN nq) B (.slice a LN c) NOW) := by
    have hh : leafB (w1.drewN nq) B (.slice a LN c) NOW := HLB.out.kept (Nat.le_refl _) (fun _ _ => rfl) (fun g e => e)
    exact hh
  have HS2 : Hid (SbAt (w1.drewN nq) w.heap.size (stepC 3 nm to at' (n0 : Int) vb vp)) := HS1.out.later (below_drewN (Below.refl _ _) nq)
  clear c0 c1 k0 k2 z0 z1 HB1 HS1 HLB
  generalize w1.drewN nq = w2 at HB2 HS2 HLB2 c0' ⊢
  have z0 := HS2.out 0 _ rfl
  have z1 := HS2.out 1 _ rfl
  have z4 := HS2.out 4 _ rfl
  have hP2 := HPM.out.later HB2.out
  have k0 := hP2.c0
  have hn00 : ¬ (n0 : Int) < 0 := by omega
  have hn01 : (0 : Int) ≤ (n0 : Int) := by omega
  have hn02 : ¬ (n0 : Int) > (LN : Int) := by omega
  have hn03 : (n0 : Int) ≤ (LN : Int) := by omega
  have hz2 : w2.frozen? ⟨gF, f, none⟩ = false := (hrF ▸ hP2.F.out : OwnV w2 _ fv (some gF)).fzAt (by rw [hP2.F.len]; exact hfl)
  have hgFl : gF < w.heap.size := HPM.out.F.out.rlt gF hrF
  have hgpl : gp < w.heap.size := cell_lt HPM.out.c0
  have hbxl := cell_lt z4
  simp only at hbxl
  -- what the region's loads read, at whatever world behind w2 in which the elder blocks stand but for the file's row
  have HCE : Hid (∀ u, Chg (fun g => rf f = some g) w2 u → u.cell? ⟨gp, 0, none⟩ = some (.slice (some ⟨gF, 0, none⟩) p.files.length capF) ∧ u.cell? ⟨gF, f, none⟩ = some (.slice (some ⟨gi, 0, none⟩) M cF) ∧ u.cell? ⟨w.heap.size, 4, none⟩ = some (.int .i64 (n0 : Int)) ∧ u.frozen? ⟨gF, f, none⟩ = false) := fun u hu => by
    have q1 : u.heap[gp]? = w2.heap[gp]? := hu.block gp (by have := HB2.out.size; omega) (fun e => (HPM.out.s1 gp (.inr ⟨f, hfl, e⟩)).1 rfl)
    have q2 : u.heap[gF]? = w2.heap[gF]? := hu.block gF (by have := HB2.out.size; omega) (fun e => HPM.out.F.sep f hfl gF e hrF)
    have q3 : u.heap[w.heap.size]? = w2.heap[w.heap.size]? := hu.block _ hbxl (fun e => by have := HPM.out.F.lt _ (.inr ⟨f, hfl, e⟩); omega)
    exact ⟨(World.cell?_of_block (w := w2) (a := ⟨gp, 0, none⟩) q1).trans k0, (World.cell?_of_block (w := w2) (a := ⟨gF, f, none⟩) q2).trans c0', (World.cell?_of_block (w := w2) (a := ⟨w.heap.size, 4, none⟩) q3).trans z4, (World.frozen?_of_block (w := w2) (a := ⟨gF, f, none⟩) q2).trans hz2⟩
  have HNB : Hid (∀ u, Below w2.heap.size w2 u → BytesAt u (.slice a n0 c) (NOW.take n0)) := fun u hu => by
    obtain ⟨r9, h9, -⟩ := HLB2.out
    exact (h9.later hu).bytes.takeN n0 (by rw [hLN]; exact hn0)
  have hnb := HNB.out w2 (Below.refl _ _)
  have hn256 : ∀ x ∈ NOW.take n0, x < 256 := hnb.byte
  have hNL : LN ≤ maxLen := by
    obtain ⟨r9, h9, -⟩ := HLB2.out
    rw [← hLN]; exact h9.bytes.len
  have hcap : LN ≤ c := by
    obtain ⟨r9, h9, -⟩ := HLB2.out
    obtain ⟨a', c', e, h1, -⟩ := h9.bytes
    cases e; rw [← hLN]; exact h1
  have hn04 : (n0 : Int) ≤ (c : Int) := by omega
  have hlT : (NOW.take n0).length = n0 := by rw [List.length_take]; omega
  obtain ⟨tx, htx, hy0, hy1, hy2⟩ := info_parts Try.infoB
  clear hnb
  have hfvf : fv.getD f undef = .slice (some ⟨gi, 0, none⟩) M cF := by
    obtain ⟨g', cap', a', c', e1, -, e3, e4, -⟩ := hP2.F.at hfl
    injection e1 with q1 q2 q3
    injection q1 with q4
    injection q4 with q5 q6 q7
    subst q5
    rw [c0'] at e4
    rw [e3, ← Option.some.inj e4]
  have HIN : Hid (∀ u, Below w2.heap.size w2 u → OwnV u (.slice (some ⟨gi, 0, none⟩) M cF) (sv f) (rf f)) := fun u hu => by
    have := (hP2.later hu).F.inn f hfl
    rw [hfvf] at this
    exact this
  have hsvl : (sv f).length = M := by rw [HPM.out.F.sl f hfl, HM.out]
  have hT0 : ∀ g, paT gp p B rF rG rD rf rg g → (fun g => T g ∧ g < w.heap.size) g := fun g hg => ⟨hT g hg, HPM.out.lt g hg⟩
  have HP2 := Hid.mkP hP2
  have HEND : Hid (∀ (w5 w7 : World) (v5 v7 : Value) (r5 : Option Nat) (g7 : Nat) (o : Obj), Below w2.heap.size w2 w5 → Own w5 v5 (NOW.take n0) r5 → (∀ g, r5 = some g → w2.heap.size ≤ g) → OwnV w7 v7 (sv f ++ [v5]) (some g7) → (w5.alloc o).grownBy w7 (rf f) → (some g7 = rf f ∨ g7 = (w5.alloc o).heap.size) → (PaAt (w7.setCell ⟨gF, f, none⟩ v7) gp ⟨p.files.set f (p.files.getD f [] ++ [NOW.take n0]), p.grown, p.dirs⟩ (Ext (fun g => T g ∧ g < w.heap.size) w2 (w7.setCell ⟨gF, f, none⟩ v7)) ∧ Chg (fun g => T g ∧ g < w.heap.size) w2 (w7.setCell ⟨gF, f, none⟩ v7)) ∧ Chg (fun g => rf f = some g) w2 w7) := fun w5 w7 v5 v7 r5 g7 o q1 q2 q3 q4 q5 q6 => by
    have hbo : Below w5.heap.size w5 (w5.alloc o) := (Below.refl _ _).alloc (Nat.le_refl _) _
    have hb5o : Below w2.heap.size w2 (w5.alloc o) := q1.trans (hbo.mono q1.size)
    have hs5 := q1.size
    have hso : (w5.alloc o).heap.size = w5.heap.size + 1 := by simp
    have hs7 := q5.size
    have hc7 : Chg (fun g => rf f = some g) w2 w7 := (Chg.ofBelow hb5o).grown q5 (fun g e => .inl e)
    have hrfl : ∀ g, rf f = some g → g < w2.heap.size := fun g e => HP2.out.F.lt g (.inr ⟨f, hfl, e⟩)
    refine ⟨HP2.out.storeF hT0 hfl hrF (fun g => B g ∨ r5 = some g) hc7 rfl q4 (q6.elim (fun e => .inl e) (fun e => .inr fun g e2 => by cases e2; omega)) (by rw [List.length_append, hsvl, List.length_append, HM.out]; rfl) ⟨fun g e => .inl e, fun g e => e.imp id (fun e2 => q3 g e2), fun g e => ?_⟩ (fun j hj => ?_) (fun g e hge hB => ?_), hc7⟩
    · rcases e with e | e
      · have := HP2.out.b g e; omega
      · have := q2.rlt' g e; omega
    · rw [List.length_append, List.length_singleton] at hj
      by_cases e : j < (sv f).length
      · rw [getD_app_lt' _ _ e, getD_app_lt' _ _ (by rw [HM.out, ← hsvl]; exact e)]
        exact (HP2.out.F.lf f hfl j e).kept hc7.size (fun g e2 => hc7.block g (HP2.out.b g e2) (fun e3 => (HPM.out.s1 g (.inr ⟨f, hfl, e3⟩)).2.2.2 e2)) (fun g e2 => .inl e2)
      · have e2 : j = (sv f).length := by omega
        subst e2
        rw [getD_app_eq', hsvl, ← HM.out, getD_app_eq']
        refine ⟨r5, q2.of_block (by omega) (fun g e3 => ?_), fun g e3 => .inr e3⟩
        have hlt := q2.rlt' g e3
        have hge := q3 g e3
        exact (q5.block g (by omega) (fun e4 => by have := hrfl g e4.symm; omega)).trans (hbo.block g hlt)
    · cases e
      rcases hB with e2 | e2
      · have := HP2.out.b g7 e2; omega
      · have hlt := q2.rlt' g7 e2
        rcases q6 with e3 | e3
        · have := hrfl g7 e3.symm; omega
        · omega
  have hMl : M < 2199023255000 := hsl
  clear hP2 hfvf
  obtain ⟨ti, hti, hi0, hi1, hi2⟩ := info_parts Try.infoINT
  have hbi : I64 (-1 : Int) := by constructor <;> decide
  have hne1 : gF ≠ gp := fun e => (HPM.out.s1 gF (.inl hrF)).1 e
  have hne2 : gF ≠ w.heap.size := by omega
  have hbE : Below w2.heap.size w2 (w2.alloc (.cells #[] 5)).drew := Below.drew ((Below.refl _ w2).alloc (Nat.le_refl _) _)
  have HOE : Hid (Own (w2.alloc (.cells #[] 5)).drew (.slice (some ⟨w2.heap.size, 0, none⟩) 0 0) [] (some w2.heap.size)) := (Own.made0 w2 5).later (Below.drew (Below.refl _ _))
  have HSE : Hid (Src Try.prog 1 28 (.slice a n0 c) (NOW.take n0).length (cellsOf (NOW.take n0)) (w2.alloc (.cells #[] 5)).drew) := src_of Try.underlying28 (HNB.out _ hbE)
  have HBE := Hid.mkP hbE
  rcases HCE.out _ (Chg.ofBelow hbE) with ⟨s01, s02, s03, s04⟩
  clear hbE
  go_wp2_with fail
  refine wp_region_noPanic ?_
  refine Till.start 21 (S := fun u => u.cell? ⟨gp, 0, none⟩ = some (.slice (some ⟨gF, 0, none⟩) p.files.length capF) ∧ u.cell? ⟨w.heap.size, 4, none⟩ = some (.int .i64 (n0 : Int)) ∧ u.cell? ⟨gF, f, none⟩ = some (.slice (some ⟨gi, 0, none⟩) M cF)) (by kernel_rfl) ⟨k0, z4, c0'⟩ (fun hHeld => ?_)
  refine' Till.take 0 rfl (by kernel_rfl) (by kernel_rfl) (by kernel_rfl) (by kernel_rfl) (fun _ _ _ h => h) (Or.inl ⟨by rfl, ?_⟩) (by assumption) ?_
  rotate_left
  · (intro w hSw; (try dsimp only at hSw); go_simp <;> with_reducible rfl)
  try simp only [Act.put, List.setIfInBounds_toArray, List.set_cons_zero, List.set_cons_succ]
  refine' Till.take 1 rfl (by kernel_rfl) (by kernel_rfl) (by kernel_rfl) (by kernel_rfl) (fun _ _ _ h => h) (Or.inl ⟨by rfl, ?_⟩) (by assumption) ?_
  rotate_left
  · (intro w hSw; (try dsimp only at hSw); go_simp <;> with_reducible rfl)
  try simp only [Act.put, List.setIfInBounds_toArray, List.set_cons_zero, List.set_cons_succ]
  refine' Till.take 2 rfl (by kernel_rfl) (by kernel_rfl) (by kernel_rfl) (by kernel_rfl) (fun _ _ _ h => h) (Or.inl ⟨by rfl, ?_⟩) (by assumption) ?_
  rotate_left
  · (intro w hSw; (try dsimp only at hSw); go_simp <;> with_reducible rfl)
  try simp only [Act.put, List.setIfInBounds_toArray, List.set_cons_zero, List.set_cons_succ]
  refine' Till.take 3 rfl (by kernel_rfl) (by kernel_rfl) (by kernel_rfl) (by kernel_rfl) (fun _ _ _ h => h) (Or.inl ⟨by rfl, ?_⟩) (by assumption) ?_
  rotate_left
  · (intro w hSw; (try dsimp only at hSw); go_simp <;> with_reducible rfl)
  try simp only [Act.put, List.setIfInBounds_toArray, List.set_cons_zero, List.set_cons_succ]
  refine' Till.take 4 rfl (by kernel_rfl) (by kernel_rfl) (by kernel_rfl) (by kernel_rfl) (fun _ _ _ h => h) (Or.inl ⟨by rfl, ?_⟩) (by assumption) ?_
  rotate_left
  · (intro w hSw; (try dsimp only at hSw); go_simp <;> with_reducible rfl)
  try simp only [Act.put, List.setIfInBounds_toArray, List.set_cons_zero, List.set_cons_succ]
  refine' Till.take 5 rfl (by kernel_rfl) (by kernel_rfl) (by kernel_rfl) (by kernel_rfl) (fun _ _ _ h => h) (Or.inl ⟨by rfl, ?_⟩) (by assumption) ?_
  rotate_left
  · (intro w hSw; (try dsimp only at hSw); go_simp <;> with_reducible rfl)
  try simp only [Act.put, List.setIfInBounds_toArray, List.set_cons_zero, List.set_cons_succ]
  refine' Till.take 6 rfl (by kernel_rfl) (by kernel_rfl) (by kernel_rfl) (by kernel_rfl) (fun _ _ _ h => h) (Or.inl ⟨by rfl, ?_⟩) (by assumption) ?_
  rotate_left
  · (intro w hSw; (try dsimp only at hSw); go_simp <;> with_reducible rfl)
  try simp only [Act.put, List.setIfInBounds_toArray, List.set_cons_zero, List.set_cons_succ]
  refine' Till.take 7 rfl (by kernel_rfl) (by kernel_rfl) (by kernel_rfl) (by kernel_rfl) (fun _ _ _ h => h) (Or.inl ⟨by rfl, ?_⟩) (by assumption) ?_
  rotate_left
  · (intro w hSw; (try dsimp only at hSw); go_simp <;> with_reducible rfl)
  try simp only [Act.put, List.setIfInBounds_toArray, List.set_cons_zero, List.set_cons_succ]
  refine' Till.take 8 rfl (by kernel_rfl) (by kernel_rfl) (by kernel_rfl) (by kernel_rfl) (fun _ _ _ h => h) (Or.inl ⟨by rfl, ?_⟩) (by assumption) ?_
  rotate_left
  · (intro w hSw; (try dsimp only at hSw); go_simp <;> with_reducible rfl)
  try simp only [Act.put, List.setIfInBounds_toArray, List.set_cons_zero, List.set_cons_succ]
  refine' Till.take 9 rfl (by kernel_rfl) (by kernel_rfl) (by kernel_rfl) (by kernel_rfl) (fun _ _ _ h => h) (Or.inl ⟨by rfl, ?_⟩) (by assumption) ?_
  rotate_left
  · (intro w hSw; (try dsimp only at hSw); go_simp <;> with_reducible rfl)
  try simp only [Act.put, List.setIfInBounds_toArray, List.set_cons_zero, List.set_cons_succ]
  refine' Till.take 10 rfl (by kernel_rfl) (by kernel_rfl) (by kernel_rfl) (by kernel_rfl) (fun _ _ _ h => h) (Or.inl ⟨by rfl, ?_⟩) (by assumption) ?_
  rotate_left
  · (intro w hSw; (try dsimp only at hSw); go_simp <;> with_reducible rfl)
  try simp only [Act.put, List.setIfInBounds_toArray, List.set_cons_zero, List.set_cons_succ]
  refine' Till.take 11 rfl (by kernel_rfl) (by kernel_rfl) (by kernel_rfl) (by kernel_rfl) (fun _ _ _ h => h) (Or.inl ⟨by rfl, ?_⟩) (by assumption) ?_
  rotate_left
  · (intro w hSw; (try dsimp only at hSw); go_simp <;> with_reducible rfl)
  try simp only [Act.put, List.setIfInBounds_toArray, List.set_cons_zero, List.set_cons_succ]
  refine' Till.take 13 rfl (by kernel_rfl) (by kernel_rfl) (by kernel_rfl) (by kernel_rfl) (fun _ _ _ h => h) (Or.inl ⟨by rfl, ?_⟩) (by assumption) ?_
  rotate_left
  · (intro w hSw; (try dsimp only at hSw); go_simp <;> with_reducible rfl)
  try simp only [Act.put, List.setIfInBounds_toArray, List.set_cons_zero, List.set_cons_succ]
  refine' Till.take 14 rfl (by kernel_rfl) (by kernel_rfl) (by kernel_rfl) (by kernel_rfl) (fun _ _ _ h => h) (Or.inl ⟨by rfl, ?_⟩) (by assumption) ?_
  rotate_left
  · (intro w hSw; (try dsimp only at hSw); go_simp <;> with_reducible rfl)
  try simp only [Act.put, List.setIfInBounds_toArray, List.set_cons_zero, List.set_cons_succ]
  refine' Till.take 15 rfl (by kernel_rfl) (by kernel_rfl) (by kernel_rfl) (by kernel_rfl) (fun _ _ _ h => h) (Or.inl ⟨by rfl, ?_⟩) (by assumption) ?_
  rotate_left
  · (intro w hSw; (try dsimp only at hSw); go_simp <;> with_reducible rfl)
  try simp only [Act.put, List.setIfInBounds_toArray, List.set_cons_zero, List.set_cons_succ]
  refine' Till.take 16 rfl (by kernel_rfl) (by kernel_rfl) (by kernel_rfl) (by kernel_rfl) (fun _ _ _ h => h) (Or.inl ⟨by rfl, ?_⟩) (by assumption) ?_
  rotate_left
  · (intro w hSw; (try dsimp only at hSw); go_simp <;> with_reducible rfl)
  try simp only [Act.put, List.setIfInBounds_toArray, List.set_cons_zero, List.set_cons_succ]
  refine Till.one 12 (by kernel_rfl) rfl (fun K hK => ?_)
  go_simp
  refine hK.out _ _ ?_ (fun hHeld => ?_)
  · exact ⟨s01, s03, s02⟩
  clear hK K
  try simp only [Act.put, List.setIfInBounds_toArray, List.set_cons_zero, List.set_cons_succ]
  refine Till.one 17 (by kernel_rfl) rfl (fun K hK => ?_)
  refine step_append_byt rfl (.tmp 170) (.tmp 174) 28 28 rfl Try.underlying28 (.slice (some ⟨w2.heap.size, 0, none⟩) 0 0) (.slice a n0 c) [] (NOW.take n0) (some w2.heap.size) (by first | rfl | simp [Act.eval, Act.put]) (by first | rfl | simp [Act.eval, Act.put]) HOE.out hn256 HSE.out (by rw [hlT, List.length_nil]; omega) ?_
  intro v5 w5 r5 ho5 hg5 hr5
  have hb5 : Below w2.heap.size w2 w5 := HBE.out.grown hg5 HBE.out.size (fun g e => by cases e; exact Nat.le_refl _)
  have hn5 : ∀ g, r5 = some g → w2.heap.size ≤ g := fun g e => hr5.elim (fun e2 => by rw [e2] at e; cases e; exact Nat.le_refl _) (fun e2 => by rw [e2] at e; cases e; exact HBE.out.size)
  rw [List.nil_append] at ho5
  have hv5 : ∃ a5 N5 c5, v5 = .slice a5 N5 c5 := ho5.bytes.elim fun a5 h => h.elim fun c5 h2 => ⟨a5, _, c5, h2.1⟩
  rcases hv5 with ⟨a5, N5, c5, rfl⟩
  rcases HCE.out w5 (Chg.ofBelow hb5) with ⟨s51, s52, s53, s54⟩
  have hb6 : Below w2.heap.size w2 (w5.alloc (.cells #[.slice a5 N5 c5] 28)) := hb5.trans (((Below.refl _ w5).alloc (Nat.le_refl _) _).mono hb5.size)
  rcases HCE.out _ (Chg.ofBelow hb6) with ⟨s61, s62, s63, s64⟩
  have HO5 := Hid.mkP ho5
  have HB5 := Hid.mkP hb5
  have HB6 := Hid.mkP hb6
  have HN5 := Hid.mkP hn5
  clear ho5 hb5 hn5 hg5 hr5 hb6
  refine hK.out _ _ ?_ (fun hHeld => ?_)
  · exact ⟨s51, s53, s52⟩
  clear hK K
  try simp only [Act.put, List.setIfInBounds_toArray, List.set_cons_zero, List.set_cons_succ]
  refine Till.one 18 (by kernel_rfl) rfl (fun K hK => ?_)
  go_simp
  refine hK.out _ _ ?_ (fun hHeld => ?_)
  · exact ⟨s61, s63, s62⟩
  clear hK K
  try simp only [Act.put, List.setIfInBounds_toArray, List.set_cons_zero, List.set_cons_succ]
  refine Till.one 19 (by kernel_rfl) rfl (fun K hK => ?_)
  refine step_append_val2 rfl (.tmp 169) (.tmp 176) 80 28 tx (.slice none 0 0) Try.underlying80 htx hy0 rfl hy1 (by rw [hy2]; decide) rfl (.slice (some ⟨gi, 0, none⟩) M cF) (.slice (some ⟨w5.heap.size, 0, none⟩) 1 1) (.slice a5 N5 c5) (sv f) (rf f) (by first | rfl | simp [Act.eval, Act.put]) (by first | rfl | simp [Act.eval, Act.put]) (HIN.out _ HB6.out) (src_val _ _ rfl _ 28 _ Try.underlying80) (by rw [hsvl]; omega) ?_
  intro v7 w7 g7 ho7 hg7 hr7
  have hv7 : ∃ a7 N7 c7, v7 = .slice a7 N7 c7 := ho7.shape.elim fun a6 h => h.elim fun cc6 h2 => ⟨a6, _, cc6, h2.1⟩
  rcases hv7 with ⟨a7, N7, c7, rfl⟩
  rcases HEND.out w5 w7 (.slice a5 N5 c5) (.slice a7 N7 c7) r5 g7 (.cells #[.slice a5 N5 c5] 28) HB5.out HO5.out HN5.out ho7 hg7 hr7 with ⟨hE7, hc7⟩
  rcases HCE.out w7 hc7 with ⟨s71, s72, s73, s74⟩
  have s75 : (w7.setCell ⟨gF, f, none⟩ (.slice a7 N7 c7)).cell? ⟨gp, 0, none⟩ = some (.slice (some ⟨gF, 0, none⟩) p.files.length capF) := (World.cell?_setCell_far w7 ⟨gF, f, none⟩ ⟨gp, 0, none⟩ _ hne1).trans s71
  have s76 : (w7.setCell ⟨gF, f, none⟩ (.slice a7 N7 c7)).cell? ⟨w.heap.size, 4, none⟩ = some (.int .i64 (n0 : Int)) := (World.cell?_setCell_far w7 ⟨gF, f, none⟩ ⟨w.heap.size, 4, none⟩ _ hne2).trans s73
  have HE7 := Hid.mkP hE7
  clear hE7 hc7 ho7 hg7 hr7
  refine hK.out _ _ ?_ (fun hHeld => ?_)
  · exact ⟨s71, s73, s72⟩
  clear hK K
  try simp only [Act.put, List.setIfInBounds_toArray, List.set_cons_zero, List.set_cons_succ]
  refine' Till.take 20 rfl (by kernel_rfl) (by kernel_rfl) (by kernel_rfl) (by kernel_rfl) (fun _ _ _ h => h) (Or.inl ⟨by rfl, ?_⟩) (by assumption) ?_
  rotate_left
  · (intro w hSw; (try dsimp only at hSw); go_simp <;> with_reducible rfl)
  try simp only [Act.put, List.setIfInBounds_toArray, List.set_cons_zero, List.set_cons_succ]
  refine Till.last (by kernel_rfl) (by kernel_rfl) rfl (fun K hK => ?_)
  go_simp
  refine hK.out _ _ ?_
  clear hK K
  try simp only [Act.put, List.setIfInBounds_toArray, List.set_cons_zero, List.set_cons_succ]
  refine NoPanic.normal ?_
  all_goals
    have hc8 := HE7.out.2
    have hs8 : w2.heap.size ≤ (w7.setCell ⟨gF, f, none⟩ (.slice a7 N7 c7)).heap.size := hc8.size
    rcases grownStep HE7.out (f := f) (by rw [hk.len]; exact hfl) (-1 : Int) hbi with ⟨gG, capG, aG, cG, ts, rq, hG, hS10⟩
    clear s01 s02 s03 s04 s51 s52 s53 s54 s61 s62 s63 s64 s71 s72 s73 s74 s75 HO5 HB5 HB6 HN5 HE7 HOE HSE HBE HEND HIN HNB HCE HLB2 HS2
    clear c0' k0 z0 z1 z4 hz2 hc8 HP2
    generalize w7.setCell ⟨gF, f, none⟩ (.slice a7 N7 c7) = w8 at *
    have hcG := hG.c1
    have hcf := hG.cf
    have hfzG := hG.fz
    have hgl : (p.grown.getD f []).length ≤ 2199023255000 := by have := hk.gl f hfl; omega
    have hbl : w.heap.size < w2.heap.size := hbxl
    have hnb1 : gG ≠ w.heap.size := fun e => hG.gE.elim (fun e2 => by have := e2.2; omega) (fun e2 => by omega)
    have hnb2 : rq ≠ some w.heap.size := fun e => (hG.qE _ e).1.elim (fun e2 => by have := e2.2; omega) (fun e2 => by omega)
    have HGA := Hid.mkP hG
    have HS10 := Hid.mkP hS10
    have hts := hG.len
    have hgN : (f : Int) < ((⟨p.files.set f (p.files.getD f [] ++ [NOW.take n0]), p.grown, p.dirs⟩ : Ps).grown.length : Int) := by show (f : Int) < (p.grown.length : Int); rw [hk.len]; exact hfi
    clear hG hS10
    have hgp8 : gp < w8.heap.size := cell_lt hcG
    have hgG8 : gG < w8.heap.size := cell_lt hcf
    have hbE8 : Below w8.heap.size w8 (w8.alloc (.cells #[.int .i64 (-1)] 3)).drew := Below.drew ((Below.refl _ w8).alloc (Nat.le_refl _) _)
    have t1 := (hbE8.cell (p := ⟨gp, 1, none⟩) hgp8).trans hcG
    have t2 := (hbE8.cell (p := ⟨gG, f, none⟩) hgG8).trans hcf
    have t3 := (hbE8.cell (p := ⟨w.heap.size, 4, none⟩) (cell_lt s76)).trans s76
    have HBE8 := Hid.mkP hbE8
    have HSR : Hid (Src Try.prog 1 29 (.slice (some ⟨w8.heap.size, 0, none⟩) 1 1) 1 [.int .i64 (-1)] (w8.alloc (.cells #[.int .i64 (-1)] 3)).drew) := src_val w8.drew _ rfl _ 3 _ Try.underlying29
    clear hbE8
    generalize (p.grown.getD f []).length = LG at *
    go_wp2_with fail
    refine wp_region_noPanic ?_
    refine Till.start 15 (S := fun u => u.cell? ⟨gp, 1, none⟩ = some (.slice (some ⟨gG, 0, none⟩) (⟨p.files.set f (p.files.getD f [] ++ [NOW.take n0]), p.grown, p.dirs⟩ : Ps).grown.length capG) ∧ u.cell? ⟨w.heap.size, 4, none⟩ = some (.int .i64 (n0 : Int)) ∧ u.cell? ⟨gG, f, none⟩ = some (.slice aG LG cG)) (by kernel_rfl) ⟨hcG, s76, hcf⟩ (fun hHeld => ?_)
    refine' Till.take 0 rfl (by kernel_rfl) (by kernel_rfl) (by kernel_rfl) (by kernel_rfl) (fun _ _ _ h => h) (Or.inl ⟨by rfl, ?_⟩) (by assumption) ?_
    rotate_left
    · (intro w hSw; (try dsimp only at hSw); go_simp <;> with_reducible rfl)
    try simp only [Act.put, List.setIfInBounds_toArray, List.set_cons_zero, List.set_cons_succ]
    refine' Till.take 1 rfl (by kernel_rfl) (by kernel_rfl) (by kernel_rfl) (by kernel_rfl) (fun _ _ _ h => h) (Or.inl ⟨by rfl, ?_⟩) (by assumption) ?_
    rotate_left
    · (intro w hSw; (try dsimp only at hSw); go_simp <;> with_reducible rfl)
    try simp only [Act.put, List.setIfInBounds_toArray, List.set_cons_zero, List.set_cons_succ]
    refine' Till.take 2 rfl (by kernel_rfl) (by kernel_rfl) (by kernel_rfl) (by kernel_rfl) (fun _ _ _ h => h) (Or.inl ⟨by rfl, ?_⟩) (by assumption) ?_
    rotate_left
    · (intro w hSw; (try dsimp only at hSw); go_simp <;> with_reducible rfl)
    try simp only [Act.put, List.setIfInBounds_toArray, List.set_cons_zero, List.set_cons_succ]
    refine' Till.take 3 rfl (by kernel_rfl) (by kernel_rfl) (by kernel_rfl) (by kernel_rfl) (fun _ _ _ h => h) (Or.inl ⟨by rfl, ?_⟩) (by assumption) ?_
    rotate_left
    · (intro w hSw; (try dsimp only at hSw); go_simp <;> with_reducible rfl)
    try simp only [Act.put, List.setIfInBounds_toArray, List.set_cons_zero, List.set_cons_succ]
    refine' Till.take 4 rfl (by kernel_rfl) (by kernel_rfl) (by kernel_rfl) (by kernel_rfl) (fun _ _ _ h => h) (Or.inl ⟨by rfl, ?_⟩) (by assumption) ?_
    rotate_left
    · (intro w hSw; (try dsimp only at hSw); go_simp <;> with_reducible rfl)
    try simp only [Act.put, List.setIfInBounds_toArray, List.set_cons_zero, List.set_cons_succ]
    refine' Till.take 5 rfl (by kernel_rfl) (by kernel_rfl) (by kernel_rfl) (by kernel_rfl) (fun _ _ _ h => h) (Or.inl ⟨by rfl, ?_⟩) (by assumption) ?_
    rotate_left
    · (intro w hSw; (try dsimp only at hSw); go_simp <;> with_reducible rfl)
    try simp only [Act.put, List.setIfInBounds_toArray, List.set_cons_zero, List.set_cons_succ]
    refine' Till.take 6 rfl (by kernel_rfl) (by kernel_rfl) (by kernel_rfl) (by kernel_rfl) (fun _ _ _ h => h) (Or.inl ⟨by rfl, ?_⟩) (by assumption) ?_
    rotate_left
    · (intro w hSw; (try dsimp only at hSw); go_simp <;> with_reducible rfl)
    try simp only [Act.put, List.setIfInBounds_toArray, List.set_cons_zero, List.set_cons_succ]
    refine' Till.take 7 rfl (by kernel_rfl) (by kernel_rfl) (by kernel_rfl) (by kernel_rfl) (fun _ _ _ h => h) (Or.inl ⟨by rfl, ?_⟩) (by assumption) ?_
    rotate_left
    · (intro w hSw; (try dsimp only at hSw); go_simp <;> with_reducible rfl)
    try simp only [Act.put, List.setIfInBounds_toArray, List.set_cons_zero, List.set_cons_succ]
    refine' Till.take 8 rfl (by kernel_rfl) (by kernel_rfl) (by kernel_rfl) (by kernel_rfl) (fun _ _ _ h => h) (Or.inl ⟨by rfl, ?_⟩) (by assumption) ?_
    rotate_left
    · (intro w hSw; (try dsimp only at hSw); go_simp <;> with_reducible rfl)
    try simp only [Act.put, List.setIfInBounds_toArray, List.set_cons_zero, List.set_cons_succ]
    refine' Till.take 9 rfl (by kernel_rfl) (by kernel_rfl) (by kernel_rfl) (by kernel_rfl) (fun _ _ _ h => h) (Or.inl ⟨by rfl, ?_⟩) (by assumption) ?_
    rotate_left
    · (intro w hSw; (try dsimp only at hSw); go_simp <;> with_reducible rfl)
    try simp only [Act.put, List.setIfInBounds_toArray, List.set_cons_zero, List.set_cons_succ]
    refine' Till.take 10 rfl (by kernel_rfl) (by kernel_rfl) (by kernel_rfl) (by kernel_rfl) (fun _ _ _ h => h) (Or.inl ⟨by rfl, ?_⟩) (by assumption) ?_
    rotate_left
    · (intro w hSw; (try dsimp only at hSw); go_simp <;> with_reducible rfl)
    try simp only [Act.put, List.setIfInBounds_toArray, List.set_cons_zero, List.set_cons_succ]
    refine' Till.take 11 rfl (by kernel_rfl) (by kernel_rfl) (by kernel_rfl) (by kernel_rfl) (fun _ _ _ h => h) (Or.inl ⟨by rfl, ?_⟩) (by assumption) ?_
    rotate_left
    · (intro w hSw; (try dsimp only at hSw); go_simp <;> with_reducible rfl)
    try simp only [Act.put, List.setIfInBounds_toArray, List.set_cons_zero, List.set_cons_succ]
    refine Till.one 12 (by kernel_rfl) rfl (fun K hK => ?_)
    go_simp
    refine hK.out _ _ ?_ (fun hHeld => ?_)
    · exact ⟨t1, t3, t2⟩
    clear hK K
    try simp only [Act.put, List.setIfInBounds_toArray, List.set_cons_zero, List.set_cons_succ]
    refine Till.one 13 (by kernel_rfl) rfl (fun K hK => ?_)
    refine step_append_val2 rfl (.tmp 190) (.tmp 191) 29 3 ti (.int .i64 0) Try.underlying29 hti hi0 rfl hi1 (by rw [hi2]; decide) rfl (.slice aG LG cG) (.slice (some ⟨w8.heap.size, 0, none⟩) 1 1) (.int .i64 (-1)) ts rq (by first | rfl | simp [Act.eval, Act.put]) (by first | rfl | simp [Act.eval, Act.put]) (HGA.out.row _ HBE8.out) HSR.out (by rw [hts]; omega) ?_
    intro v10 w10 g10 ho10 hg10 hr10
    have hv10 : ∃ a N c, v10 = .slice a N c := ho10.shape.elim fun a6 h => h.elim fun cc6 h2 => ⟨a6, _, cc6, h2.1⟩
    rcases hv10 with ⟨a10, N10, c10, rfl⟩
    rcases HS10.out _ w10 (.slice a10 N10 c10) g10 HBE8.out ho10 hg10 hr10 with ⟨hE10, hq10⟩
    have u1 := (hq10 ⟨gp, 1, none⟩ hgp8 (fun e => (HGA.out.qE _ e).2.1 rfl)).1.trans hcG
    have u2 := (hq10 ⟨gG, f, none⟩ hgG8 (fun e => (HGA.out.qE _ e).2.2 rfl)).1.trans hcf
    have u3 := (hq10 ⟨gG, f, none⟩ hgG8 (fun e => (HGA.out.qE _ e).2.2 rfl)).2.trans hfzG
    have u4 := (hq10 ⟨w.heap.size, 4, none⟩ (cell_lt s76) hnb2).1.trans s76
    have u5 := (World.cell?_setCell_far w10 ⟨gG, f, none⟩ ⟨gp, 1, none⟩ (.slice a10 N10 c10) HGA.out.ne).trans u1
    have u6 := (World.cell?_setCell_far w10 ⟨gG, f, none⟩ ⟨w.heap.size, 4, none⟩ (.slice a10 N10 c10) hnb1).trans u4
    have HE10 := Hid.mkP hE10
    clear hE10 hq10 ho10 hg10 hr10
    refine hK.out _ _ ?_ (fun hHeld => ?_)
    · exact ⟨u1, u4, u2⟩
    clear hK K
    try simp only [Act.put, List.setIfInBounds_toArray, List.set_cons_zero, List.set_cons_succ]
    refine' Till.take 14 rfl (by kernel_rfl) (by kernel_rfl) (by kernel_rfl) (by kernel_rfl) (fun _ _ _ h => h) (Or.inl ⟨by rfl, ?_⟩) (by assumption) ?_
    rotate_left
    · (intro w hSw; (try dsimp only at hSw); go_simp <;> with_reducible rfl)
    try simp only [Act.put, List.setIfInBounds_toArray, List.set_cons_zero, List.set_cons_succ]
    refine Till.last (by kernel_rfl) (by kernel_rfl) rfl (fun K hK => ?_)
    go_simp
    refine hK.out _ _ ?_
    clear hK K
    try simp only [Act.put, List.setIfInBounds_toArray, List.set_cons_zero, List.set_cons_succ]
    refine NoPanic.normal ?_
    all_goals
      clear u1 u2 u3 u4 u5 u6 t1 t2 t3 hcG hcf hfzG s76
      go_wp2
      go_ret
      exact ⟨rfl, HPP.out ▸ nt_back HB2.out (nt_later HE10.out (by first | exact Below.refl _ _ | exact Below.drew (Below.refl _ _)))⟩
end Go.Proofs.Ytgpmhflndcppeaa
