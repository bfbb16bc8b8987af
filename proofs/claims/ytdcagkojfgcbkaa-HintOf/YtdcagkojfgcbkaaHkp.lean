import Derived.Test.YtdcagkojfgcbkaaHko
/-! hint: the walk of the law of Of. -/
namespace Go.Proofs.Ytdcagkojfgcbkaa
open Go.RowKit Plain Go.WideMaps Go.Maps
set_option linter.unusedVariables false
set_option linter.unusedSimpArgs false
def markP : Pl := ⟨0, 0, 0, 0, 0, ⟨#[]⟩, ⟨#[]⟩, -77, 0⟩
theorem src_mark (W : World) : Src Try.prog 9 22 (.slice (some ⟨W.heap.size, 0, none⟩) 1 1) [markP].length (pcells [markP]) (W.alloc (.cells #[.int .i64 0, .int .i64 0, .int .i64 0, .int .i64 0, .int .i64 0, .string ⟨#[]⟩, .string ⟨#[]⟩, .int .i64 (-77), .int .i64 0] 32)) :=
  Src.ofSlice _ Try.underlying22 _ 1 1 _ (by rfl) (fun j u hj => by
    rw [WideShapes.add_plain, World.cell?_alloc_at _ _ _ _ rfl, Nat.zero_add, ← hj]
    simp [pcells, Pl.cells, markP]) (pcells_one _)
theorem OwnPl.head {w : World} {v : Value} {g : Nat} {st ks : List Pl} (h : OwnPl w v (st ++ ks) (some g)) (c : Nat) (hl : st.length ≤ 2199023255000) (hok : ∀ x ∈ st, x.Ok) : PlsAt w (.slice (some ⟨g, 0, none⟩) st.length c) st := by
  refine ⟨_, c, rfl, hl, hok, fun _ => ⟨g, 0, rfl, fun j hj => ?_⟩⟩
  have h1 := h.at (j := j) (by rw [List.length_append]; omega)
  rw [Nat.zero_add]
  have e : (st ++ ks).getD j Pl.zero = st.getD j Pl.zero := by simp [List.getD_eq_getElem?_getD, List.getElem?_append_left hj]
  rw [e] at h1
  exact h1
theorem OwnPl.addr {w : World} {a : Option Addr} {n c g : Nat} {st : List Pl} (h : OwnPl w (.slice a n c) st (some g)) : a = some ⟨g, 0, none⟩ := by
  rcases h with ⟨_, _, h⟩ | ⟨g', c', h1, h2, _⟩
  · cases h
  · cases h1; simp at h2; exact h2.1
theorem getD_ok {us : List Pl} (h : ∀ x ∈ us, x.Ok) {i : Nat} (hi : i < us.length) : (us.getD i Pl.zero).Ok := by
  rw [List.getD_eq_getElem?_getD, List.getElem?_eq_getElem hi]
  exact h _ (List.getElem_mem hi)
set_option maxHeartbeats 4000000 in
set_option maxRecDepth 100000 in
theorem ofWalk (s z : Int) (a : Option Addr) (cap : Nat) (st : List Pl) (w : World) (h : PlsAt w (.slice a st.length cap) st) : Calls Try.prog 4 #[.int .i64 s, .int .i64 z, .slice a st.length cap] w fun e w' => e = .returned (.bool true) ∧ Below w.heap.size w w' := by
  have HPL : Hid (∀ u, Below w.heap.size w u → PlsAt u (.slice a st.length cap) st) := fun u hu => h.later hu
  obtain ⟨a', cap', he, hcl, hok, -⟩ := h
  obtain ⟨rfl, -, rfl⟩ : a = a' ∧ True ∧ cap = cap' := by simpa using he
  have HOK : Hid (∀ x ∈ st, x.Ok) := hok
  clear hok he
  go_enter Try.func4, Try.ntmps4
  go_wp2_with (at_builtin; refine wpList_append_p _ rfl _ _ rfl _ _ [] st (some w.heap.size) rfl rfl ?hOwn ?hSrc ?hLen ?hR ?_)
  case hOwn => exact OwnPl.empty w _
  case hSrc => exact src_pls (HPL.out _ ((Below.refl _ _).alloc (Nat.le_refl _) _))
  case hLen => simp; omega
  case hR => exact .inl (by simp)
  intro v1 w1 g1 ho1 hg1 hr1
  have HB1 : Hid (Below w.heap.size w w1) := ((Below.refl _ w).alloc (Nat.le_refl _) _).trans (grow_below hg1 (by simp) (fun g e => by cases e; omega))
  obtain ⟨al, cl, rfl, hcl1, hcl2⟩ := ho1.shape
  have HL1 : Hid (OwnPl w1 (.slice al st.length cl) st (some g1)) := ho1
  have hgw : w.heap.size ≤ g1 := by rcases hr1 with e | e <;> first | omega | (simp at e; omega)
  have HOF : Hid (Calls Try.prog 5 #[.int .i64 s, .int .i64 z, .slice al st.length cl] w1 (OfE s z st w1)) := ofE s z _ st w1 (ho1.recs hcl HOK.out)
  clear ho1 hg1 hr1
  go_wp2_with fail
  refine HOF.out.mono ?_
  rintro e w2 ⟨aa, ca, ra, rfl, ha2, hb2⟩
  have HA2 : Hid (HAt w2 aa ca (entsOf st) w1.heap.size ra) := ha2
  have HB2 : Hid (Below w1.heap.size w1 w2) := hb2
  clear ha2 hb2 HOF
  obtain ⟨w3, hw3⟩ : ∃ w3, w2.alloc (.cells #[.int .i64 s, .int .i64 z, .slice aa (entsOf st).length ca] 25) = w3 := ⟨_, rfl⟩
  have hb3 : Below w2.heap.size w2 w3 := by rw [← hw3]; exact (Below.refl _ _).alloc (Nat.le_refl _) _
  have HAM3 : Hid (Hb w3 w2.heap.size s z (.slice aa (entsOf st).length ca)) := by rw [← hw3]; exact Hb.new _ _ _ _
  have HA3 : Hid (HAt w3 aa ca (entsOf st) w1.heap.size ra) := HA2.out.later hb3
  have HB3 : Hid (Below w1.heap.size w1 w3) := HB2.out.trans (hb3.mono HB2.out.size)
  have HW3 : Hid (w2.alloc (.cells #[.int .i64 s, .int .i64 z, .slice aa (entsOf st).length ca] 25) = w3) := hw3
  have hs3 : w2.heap.size < w3.heap.size := HAM3.out.lt
  have hra : ∀ g, ra = some g → w1.heap.size ≤ g ∧ g < w2.heap.size := fun g e => ⟨HA2.out.new g e, by have h := HA2.out.own; rw [e] at h; exact h.lt⟩
  have hs2 := HB2.out.size
  have HOF : Hid (Calls Try.prog 6 #[.int .i64 s, .int .i64 z, .slice a st.length cap] w3 (OfE s z st w3)) := rofE s z _ st w3 (HPL.out _ (HB1.out.trans (HB3.out.mono HB1.out.size)))
  clear hb3 hw3 HA2 HB2
  go_wp2_with fail
  rw [HW3.out]
  refine HOF.out.mono ?_
  rintro e w4 ⟨ab, cb, rb, rfl, hb4, hbl4⟩
  obtain ⟨w5, hw5⟩ : ∃ w5, w4.alloc (.cells #[.int .i64 s, .int .i64 z, .slice ab (entsOf st).length cb] 25) = w5 := ⟨_, rfl⟩
  have hb5 : Below w4.heap.size w4 w5 := by rw [← hw5]; exact (Below.refl _ _).alloc (Nat.le_refl _) _
  have HBM5 : Hid (Hb w5 w4.heap.size s z (.slice ab (entsOf st).length cb)) := by rw [← hw5]; exact Hb.new _ _ _ _
  have HBL5 : Hid (Below w3.heap.size w3 w5) := hbl4.trans (hb5.mono hbl4.size)
  have HB5 : Hid (HAt w5 ab cb (entsOf st) w3.heap.size rb) := hb4.later hb5
  have HA5 : Hid (HAt w5 aa ca (entsOf st) w1.heap.size ra) := HA3.out.later HBL5.out
  have HAM5 : Hid (Hb w5 w2.heap.size s z (.slice aa (entsOf st).length ca)) := HAM3.out.block (HBL5.out.block _ hs3)
  have HBW5 : Hid (Below w1.heap.size w1 w5) := HB3.out.trans (HBL5.out.mono HB3.out.size)
  have HW5 : Hid (w4.alloc (.cells #[.int .i64 s, .int .i64 z, .slice ab (entsOf st).length cb] 25) = w5) := hw5
  have hrb : ∀ g, rb = some g → w3.heap.size ≤ g ∧ g < w4.heap.size := fun g e => ⟨hb4.new g e, by have h := hb4.own; rw [e] at h; exact h.lt⟩
  have hs4 := hbl4.size
  have hs5 : w4.heap.size < w5.heap.size := HBM5.out.lt
  have HL5 : Hid (OwnPl w5 (.slice al st.length cl) st (some g1)) := HL1.out.later HBW5.out
  have HSH : Hid (∀ u, Below w5.heap.size w5 u → Calls Try.prog 7 #[.agg #[.int .i64 s, .int .i64 z, .slice aa (entsOf st).length ca], .agg #[.int .i64 s, .int .i64 z, .slice ab (entsOf st).length cb]] u fun e w' => e = .returned (.bool true) ∧ Below u.heap.size u w') := fun u hu => sameHintOf s z _ _ (entsOf st) u ((HA5.out.later hu).hes HOK.out hcl) ((HB5.out.later hu).hes HOK.out hcl)
  have HSP : Hid (∀ u, Below w5.heap.size w5 u → Calls Try.prog 8 #[.slice al st.length cl, .slice a st.length cap] u fun e w' => e = .returned (.bool true) ∧ ∃ n, w' = u.drewN n) := fun u hu => samePlOf _ _ st u ((HL5.out.later hu).recs hcl HOK.out) (HPL.out u (HB1.out.trans ((HBW5.out.trans (hu.mono HBW5.out.size)).mono HB1.out.size)))
  obtain ⟨a0, a1, a2, -⟩ := HAM5.out
  obtain ⟨b0, b1, b2, -⟩ := HBM5.out
  clear hb4 hbl4 hb5 HOF HA3 HAM3 HB3 HW3
  go_wp2_with fail
  refine (HSH.out w5 (Below.refl _ _)).mono ?_
  rintro e w6 ⟨rfl, hb6⟩
  have HB6 : Hid (Below w5.heap.size w5 w6) := hb6
  clear hb6 hw5 a0 a1 a2 b0 b1 b2
  go_wp2_with fail
  refine (HSP.out w6 HB6.out).mono ?_
  rintro e w7 ⟨rfl, n7, hw7⟩
  have HB7 : Hid (Below w5.heap.size w5 w7) := by unfold Hid; rw [hw7]; exact below_drewN HB6.out _
  clear hw7 HB6
  have HOF : Hid (Calls Try.prog 5 #[.int .i64 s, .int .i64 z, .slice al st.length cl] w7 (OfE s z st w7)) := ofE s z _ st w7 ((HL5.out.later HB7.out).recs hcl HOK.out)
  have hs7 := HB7.out.size
  go_wp2_with fail
  refine HOF.out.mono ?_
  rintro e w8 ⟨ac, cc, rc, rfl, hc8, hbl8⟩
  obtain ⟨w9, hw9⟩ : ∃ w9, w8.alloc (.cells #[.int .i64 s, .int .i64 z, .slice ac (entsOf st).length cc] 25) = w9 := ⟨_, rfl⟩
  have hb9 : Below w8.heap.size w8 w9 := by rw [← hw9]; exact (Below.refl _ _).alloc (Nat.le_refl _) _
  have HCM9 : Hid (Hb w9 w8.heap.size s z (.slice ac (entsOf st).length cc)) := by rw [← hw9]; exact Hb.new _ _ _ _
  have HBL9 : Hid (Below w5.heap.size w5 w9) := HB7.out.trans ((hbl8.trans (hb9.mono hbl8.size)).mono hs7)
  have HC9 : Hid (HAt w9 ac cc (entsOf st) w7.heap.size rc) := hc8.later hb9
  have hrc : ∀ g, rc = some g → w7.heap.size ≤ g ∧ g < w8.heap.size := fun g e => ⟨hc8.new g e, by have h := hc8.own; rw [e] at h; exact h.lt⟩
  have hs8 := hbl8.size
  have hs9 : w8.heap.size < w9.heap.size := HCM9.out.lt
  clear hc8 hbl8 hb9 HOF HB7
  go_wp2_with fail
  refine (ofE s z (.slice al (st.length / 2) cl) (st.take (st.length / 2)) w9 ((((HL5.out.later HBL9.out).recs hcl HOK.out)).take (st.length / 2) cl (by omega))).mono ?_
  rintro e w10 ⟨ax, cx, rx, rfl, -, hb10⟩
  have HB10 : Hid (Below w5.heap.size w5 w10) := HBL9.out.trans (hb10.mono HBL9.out.size)
  have HC10 : Hid (HAt w10 ac cc (entsOf st) w7.heap.size rc) := HC9.out.later hb10
  have HCM10 : Hid (Hb w10 w8.heap.size s z (.slice ac (entsOf st).length cc)) := HCM9.out.block (hb10.block _ hs9)
  have hs10 := hb10.size
  obtain ⟨a0, a1, a2, -⟩ := HAM5.out.block (HB10.out.block _ HAM5.out.lt)
  obtain ⟨b0, b1, b2, -⟩ := HBM5.out.block (HB10.out.block _ HBM5.out.lt)
  clear hb10 HBL9 HC9 HCM9 hw9
  go_wp2_with fail
  refine (HSH.out w10 HB10.out).mono ?_
  rintro e w11 ⟨rfl, hb11⟩
  have HB11 : Hid (Below w10.heap.size w10 w11) := hb11
  have hs11 := hb11.size
  clear hb11 a0 a1 a2 b0 b1 b2
  have HB511 : Hid (Below w5.heap.size w5 w11) := HB10.out.trans (HB11.out.mono HB10.out.size)
  obtain ⟨c0, c1, c2, -⟩ := HCM10.out.block (HB11.out.block _ HCM10.out.lt)
  obtain ⟨b0, b1, b2, -⟩ := HBM5.out.block (HB511.out.block _ HBM5.out.lt)
  have HSC : Hid (∀ u, HAt u ac cc (entsOf st) w7.heap.size rc → HAt u ab cb (entsOf st) w3.heap.size rb → Calls Try.prog 7 #[.agg #[.int .i64 s, .int .i64 z, .slice ac (entsOf st).length cc], .agg #[.int .i64 s, .int .i64 z, .slice ab (entsOf st).length cb]] u fun e w' => e = .returned (.bool true) ∧ Below u.heap.size u w') := fun u hc hb => sameHintOf s z _ _ (entsOf st) u (hc.hes HOK.out hcl) (hb.hes HOK.out hcl)
  go_wp2_with fail
  refine (HSC.out w11 (HC10.out.later HB11.out) (HB5.out.later HB511.out)).mono ?_
  rintro e w12 ⟨rfl, hb12⟩
  have HB12 : Hid (Below w5.heap.size w5 w12) := HB511.out.trans (hb12.mono HB511.out.size)
  have HBC12 : Hid (Below w10.heap.size w10 w12) := HB11.out.trans (hb12.mono HB11.out.size)
  have hs12 := hb12.size
  clear hb12 c0 c1 c2 b0 b1 b2 HB11 HB511
  have HA12 : Hid (HAt w12 aa ca (entsOf st) w1.heap.size ra) := HA5.out.later HB12.out
  obtain ⟨a0, a1, a2, -⟩ := HAM5.out.block (HB12.out.block _ HAM5.out.lt)
  have hel := entsOf_len st
  go_wp2_with fail
  refine (spoilOf s z _ (entsOf st) ra w12 HA12.out.own (Nat.le_trans hel hcl)).mono ?_
  rintro e w13 ⟨rfl, hg13⟩
  have HG13 : Hid (w12.grownBy w13 ra) := hg13
  have hs13 := hg13.size
  clear a0 a1 a2 hg13
  have HK : Hid (∀ x, x < w12.heap.size → (x < w1.heap.size ∨ w2.heap.size ≤ x) → w13.heap[x]? = w12.heap[x]?) := fun x hx ho => HG13.out.block x hx (fun e => by have := hra x e.symm; omega)
  have HC13 : Hid (HAt w13 ac cc (entsOf st) w7.heap.size rc) := ⟨(HC10.out.later HBC12.out).own.kept HG13.out (by cases hrce : rc with
    | none => exact .inl rfl
    | some g => exact .inr (fun e => by have h1 := hrc g hrce; have h2 := hra g e.symm; omega)), HC10.out.new⟩
  have HB13 : Hid (HAt w13 ab cb (entsOf st) w3.heap.size rb) := ⟨(HB5.out.later HB12.out).own.kept HG13.out (by cases hrbe : rb with
    | none => exact .inl rfl
    | some g => exact .inr (fun e => by have h1 := hrb g hrbe; have h2 := hra g e.symm; omega)), HB5.out.new⟩
  have HCM13 : Hid (Hb w13 w8.heap.size s z (.slice ac (entsOf st).length cc)) := (HCM10.out.block (HBC12.out.block _ HCM10.out.lt)).block (HK.out _ (by omega) (by omega))
  have HBM13 : Hid (Hb w13 w4.heap.size s z (.slice ab (entsOf st).length cb)) := (HBM5.out.block (HB12.out.block _ HBM5.out.lt)).block (HK.out _ (by omega) (by omega))
  have hg1l : g1 < w1.heap.size := HL1.out.lt
  have HL13 : Hid (OwnPl w13 (.slice al st.length cl) st (some g1)) := (HL5.out.later HB12.out).kept HG13.out (.inr (fun e => by have := hra g1 e.symm; omega))
  have hsw1 := HB1.out.size
  have HBW13 : Hid (Below w.heap.size w w13) := (HB1.out.trans (HBW5.out.mono hsw1)).trans ((HB12.out.mono (by omega)).trans (grow_below HG13.out (by omega) (fun g e => by have := hra g e; omega)))
  obtain ⟨c0, c1, c2, -⟩ := HCM13.out
  obtain ⟨b0, b1, b2, -⟩ := HBM13.out
  clear HA12 HA5 HAM5 HBM5 HC10 HCM10 HB10 HB12 HBC12 HL5 HB5 HBW5 HBL5 HSH HSP HK HL1 HB1 HW5
  go_wp2_with fail
  refine (HSC.out w13 HC13.out HB13.out).mono ?_
  rintro e w14 ⟨rfl, hb14⟩
  have HB14 : Hid (Below w13.heap.size w13 w14) := hb14
  have hs14 := hb14.size
  clear hb14 c0 c1 c2 b0 b1 b2
  obtain ⟨b0, b1, b2, -⟩ := HBM13.out.block (HB14.out.block _ HBM13.out.lt)
  have HBW14 : Hid (Below w.heap.size w w14) := HBW13.out.trans (HB14.out.mono HBW13.out.size)
  go_wp2_with (at_builtin; refine wpList_append_p _ rfl _ _ rfl _ _ [] st (some w14.heap.size) rfl rfl ?hOwn2 ?hSrc2 ?hLen2 ?hR2 ?_)
  case hOwn2 => exact OwnPl.empty w14 _
  case hSrc2 => exact src_pls (HPL.out _ (HBW14.out.alloc HBW14.out.size _))
  case hLen2 => simp; omega
  case hR2 => exact .inl (by simp)
  intro v15 w15 g15 ho15 hg15 hr15
  obtain ⟨a15, c15, rfl, hq1, hq2⟩ := ho15.shape
  have HO15 : Hid (OwnPl w15 (.slice a15 st.length c15) st (some g15)) := ho15
  have HB15 : Hid (Below w14.heap.size w14 w15) := ((Below.refl _ w14).alloc (Nat.le_refl _) _).trans (grow_below hg15 (by simp) (fun g e => by cases e; omega))
  have hg15l : w14.heap.size ≤ g15 := by rcases hr15 with e | e <;> first | omega | (simp at e; omega)
  clear ho15 hg15 hr15 hq1 hq2 b0 b1 b2
  go_wp2_with (at_builtin; refine wpList_append_p _ rfl _ _ rfl _ _ st [markP] (some g15) rfl rfl ?hOwn3 ?hSrc3 ?hLen3 ?hR3 ?_)
  case hOwn3 => exact HO15.out.later ((Below.refl _ _).alloc (Nat.le_refl _) _)
  case hSrc3 => exact src_mark w15
  case hLen3 => simp; omega
  case hR3 => exact .inl (by simp)
  intro v16 w16 g16 ho16 hg16 hr16
  obtain ⟨a16, c16, rfl, hq1, hq2⟩ := ho16.shape
  obtain rfl := ho16.addr
  have hl16 : (st ++ [markP]).length = st.length + 1 := by simp
  rw [hl16] at ho16 hq2 ⊢
  have HO16 : Hid (OwnPl w16 (.slice (some ⟨g16, 0, none⟩) (st.length + 1) c16) (st ++ [markP]) (some g16)) := ho16
  have HB16 : Hid (Below w14.heap.size w14 w16) := HB15.out.trans (((Below.refl _ w15).alloc (Nat.le_refl _) _ |>.mono HB15.out.size).trans (grow_below hg16 (by have := HB15.out.size; simp; omega) (fun g e => by cases e; omega)))
  clear ho16 hg16 hr16 hq1
  go_wp2_with fail
  refine (ofE s z (.slice (some ⟨g16, 0, none⟩) st.length c16) st w16 (HO16.out.head c16 hcl HOK.out)).mono ?_
  rintro e w17 ⟨ay, cy, ry, rfl, -, hb17⟩
  have HB17 : Hid (Below w14.heap.size w14 w17) := HB16.out.trans (hb17.mono HB16.out.size)
  have HM := (HO16.out.later hb17).at (j := st.length) (by simp)
  rw [show (st ++ [markP]).getD st.length Pl.zero = markP by simp [List.getD_eq_getElem?_getD]] at HM
  obtain ⟨m0, m1, m2, m3, m4, m5, m6, m7, m8⟩ := HM
  have HB1317 : Hid (Below w13.heap.size w13 w17) := HB14.out.trans (HB17.out.mono hs14)
  have hs17 := HB1317.out.size
  obtain ⟨b0, b1, b2, -⟩ := HBM13.out.block (HB1317.out.block _ HBM13.out.lt)
  clear hb17 m0 m1 m2 m3 m4 m5 m6 m8
  have HLX : Hid (∀ u, Below w13.heap.size w13 u → PlsAt u (.slice al st.length cl) st) := fun u hu => (HL13.out.later hu).recs hcl HOK.out
  have HOX : Hid (∀ u, Below w13.heap.size w13 u → Calls Try.prog 5 #[.int .i64 s, .int .i64 z, .slice al st.length cl] u (OfE s z st u)) := fun u hu => ofE s z _ st u (HLX.out u hu)
  have HSX : Hid (∀ (u : World) (az : Option Addr) (cz B : Nat) (rz : Option Nat), HAt u az cz (entsOf st) B rz → Below w13.heap.size w13 u → Calls Try.prog 7 #[.agg #[.int .i64 s, .int .i64 z, .slice az (entsOf st).length cz], .agg #[.int .i64 s, .int .i64 z, .slice ab (entsOf st).length cb]] u fun e w' => e = .returned (.bool true) ∧ Below u.heap.size u w') := fun u az cz B rz hz hu => sameHintOf s z _ _ (entsOf st) u (hz.hes HOK.out hcl) ((HB13.out.later hu).hes HOK.out hcl)
  go_wp2_with fail
  go_region_with (first
    | (go_at_call 5
       refine (HOX.out _ (Below.drew HB1317.out)).mono ?_
       rintro e w18 ⟨az, cz, rz, rfl, hz18, hb18⟩
       have HB18 : Hid (Below w13.heap.size w13 w18) := (Below.drew HB1317.out).trans (hb18.mono hs17)
       have HZ18 : Hid (HAt w18 az cz (entsOf st) w17.heap.size rz) := hz18
       rcases HBM13.out.block (HB18.out.block _ HBM13.out.lt) with ⟨t0, t1, t2, tf⟩
       clear hz18 hb18 tf)
    | (go_at_call 7
       refine (HSX.out _ az cz _ rz HZ18.out HB18.out).mono ?_
       rintro e w19 ⟨rfl, hb19⟩
       have HB19 : Hid (Below w13.heap.size w13 w19) := HB18.out.trans (hb19.mono HB18.out.size)
       clear hb19))
  all_goals
    have HL19 : Hid (OwnPl w19 (.slice al st.length cl) st (some g1)) := HL13.out.later HB19.out
    have HBW19 : Hid (Below w.heap.size w w19) := HBW13.out.trans (HB19.out.mono HBW13.out.size)
    clear t0 t1 t2
    go_wp2
    clear HL13 HB19 HBW13 HC13 HB13 HCM13 HBM13 HLX HOX HSX HPL HG13 HB14 HBW14 HO15 HB15 HO16 HB16 HB17 HB1317 HB18 HZ18 HSC b0 b1 b2 m7
    go_loopg [13] (st.length / 2) (fun gk s13 wx => ∃ (i : Nat) (us : List Pl), i + gk = st.length / 2 ∧ s13 = .int .i64 i ∧ us.length = st.length ∧ Hid (∀ x ∈ us, x.Ok) ∧ Hid (OwnPl wx (.slice al st.length cl) us (some g1)) ∧ Hid (Below w.heap.size w wx))
    case atStart => exact ⟨0, st, by omega, rfl, rfl, HOK.out, HL19.out, HBW19.out⟩
    case round =>
      obtain ⟨i, us, hig, rfl, hus, HUO, HOW, HBW⟩ := hrel
      have HUS : Hid (us.length = st.length) := hus
      clear hus HL19 HBW19
      cases gk with
      | zero =>
        have HP : Hid (PlsAt wr (.slice al st.length cl) us) := by
          have h := HOW.out
          rw [← HUS.out] at h
          unfold Hid
          rw [← HUS.out]
          exact h.recs (by rw [HUS.out]; exact hcl) HUO.out
        have hul : us.length ≤ 2199023255000 := by rw [HUS.out]; exact hcl
        have HOF : Hid (∀ u, Below wr.heap.size wr u → Calls Try.prog 5 #[.int .i64 s, .int .i64 z, .slice al st.length cl] u (OfE s z us u)) := fun u hu => ofE s z _ us u (HP.out.later hu)
        have HROF : Hid (∀ u, Below wr.heap.size wr u → Calls Try.prog 6 #[.int .i64 s, .int .i64 z, .slice al st.length cl] u (OfE s z us u)) := fun u hu => rofE s z _ us u (HP.out.later hu)
        obtain rfl : i = st.length / 2 := by omega
        clear hig HOW HP
        go_wp2_with fail
        refine (HOF.out wr (Below.refl _ _)).mono ?_
        rintro e w20 ⟨ad, cd, rd, rfl, hd20, hb20⟩
        have HD20 : Hid (HAt w20 ad cd (entsOf us) wr.heap.size rd) := hd20
        have HB20 : Hid (Below wr.heap.size wr w20) := hb20
        clear hd20 hb20 HOF
        go_wp2_with fail
        refine (HROF.out w20 HB20.out).mono ?_
        rintro e w21 ⟨ae, ce, re, rfl, he21, hb21⟩
        have HE21 : Hid (HAt w21 ae ce (entsOf us) w20.heap.size re) := he21
        have HB21 : Hid (Below w20.heap.size w20 w21) := hb21
        clear he21 hb21 HROF
        go_wp2_with fail
        refine (sameHintOf s z _ _ (entsOf us) w21 ((HD20.out.later HB21.out).hes HUO.out hul) (HE21.out.hes HUO.out hul)).mono ?_
        rintro e w22 ⟨rfl, hb22⟩
        have hz20 := HB20.out.size
        have hz21 := HB21.out.size
        have HFN : Hid (Below w.heap.size w w22) := HBW.out.trans ((HB20.out.trans ((HB21.out.trans (hb22.mono hz21)).mono hz20)).mono HBW.out.size)
        clear hb22
        go_wp2
        go_ret
        exact ⟨rfl, HFN.out⟩
      | succ gk1 =>
        obtain ⟨j, hj⟩ : ∃ j : Nat, j + 1 + i = st.length := ⟨st.length - 1 - i, by omega⟩
        have hej : (st.length : Int) - 1 - (i : Int) = (j : Int) := by omega
        have hij : i < j := by omega
        have hlt : (i : Int) < (st.length : Int) / 2 := by omega
        have hii : (i : Int) < (st.length : Int) := by omega
        have hjj : (j : Int) < (st.length : Int) := by omega
        obtain rfl := HOW.out.addr
        have hx := HOW.out.at (j := i) (by rw [HUS.out]; omega)
        obtain ⟨x, hxe⟩ : ∃ x, us.getD i Pl.zero = x := ⟨_, rfl⟩
        have HXO : Hid (x.Ok) := by unfold Hid; rw [← hxe]; exact getD_ok HUO.out (by rw [HUS.out]; omega)
        rw [hxe] at hx
        obtain ⟨y, hye⟩ : ∃ y, us.getD j Pl.zero = y := ⟨_, rfl⟩
        have HYO : Hid (y.Ok) := by unfold Hid; rw [← hye]; exact getD_ok HUO.out (by rw [HUS.out]; omega)
        have hy := HOW.out.at (j := j) (by rw [HUS.out]; omega)
        rw [hye] at hy
        obtain ⟨xk, xo, xt, xp, xq, xkey, xval, xpos, xlen⟩ := x
        obtain ⟨yk, yo, yt, yp, yq, ykey, yval, ypos, ylen⟩ := y
        have hgr : g1 < wr.heap.size := HOW.out.lt
        obtain ⟨wA, hwA⟩ : ∃ wA, wr.alloc (.cells #[.int .i64 xk, .int .i64 xo, .int .i64 xt, .int .i64 xp, .int .i64 xq, .string xkey, .string xval, .int .i64 xpos, .int .i64 xlen] 32) = wA := ⟨_, rfl⟩
        have hbA : Below wr.heap.size wr wA := by rw [← hwA]; exact (Below.refl _ _).alloc (Nat.le_refl _) _
        have HXA : Hid (Pl.CellsAt wA wr.heap.size 0 ⟨xk, xo, xt, xp, xq, xkey, xval, xpos, xlen⟩) := by
          unfold Hid
          rw [← hwA]
          constructor <;> exact World.cell?_alloc_at _ _ _ _ rfl
        have HOA : Hid (OwnPl wA (.slice (some ⟨g1, 0, none⟩) st.length cl) us (some g1)) := HOW.out.later hbA
        have HYA : Hid (Pl.CellsAt wA g1 (j * 9) ⟨yk, yo, yt, yp, yq, ykey, yval, ypos, ylen⟩) := by
          have h := HOA.out.at (j := j) (by rw [HUS.out]; omega)
          rw [hye] at h
          exact h
        obtain ⟨wB, hwB⟩ : ∃ wB, wA.setCells g1 (i * 9) (Pl.cells ⟨yk, yo, yt, yp, yq, ykey, yval, ypos, ylen⟩) = wB := ⟨_, rfl⟩
        have HOB : Hid (OwnPl wB (.slice (some ⟨g1, 0, none⟩) st.length cl) (us.set i ⟨yk, yo, yt, yp, yq, ykey, yval, ypos, ylen⟩) (some g1)) := by
          unfold Hid
          rw [← hwB]
          exact HOA.out.set _ (by rw [HUS.out]; omega)
        have HGB : Hid (wA.grownBy wB (some g1)) := by
          unfold Hid
          rw [← hwB]
          exact grow_setCells wA g1 _ _
        have HXB : Hid (Pl.CellsAt wB wr.heap.size 0 ⟨xk, xo, xt, xp, xq, xkey, xval, xpos, xlen⟩) := HXA.out.block (HGB.out.block _ HXA.out.lt (fun e => by simp at e; omega))
        obtain ⟨wC, hwC⟩ : ∃ wC, wB.setCells g1 (j * 9) (Pl.cells ⟨xk, xo, xt, xp, xq, xkey, xval, xpos, xlen⟩) = wC := ⟨_, rfl⟩
        have HOC : Hid (OwnPl wC (.slice (some ⟨g1, 0, none⟩) st.length cl) ((us.set i ⟨yk, yo, yt, yp, yq, ykey, yval, ypos, ylen⟩).set j ⟨xk, xo, xt, xp, xq, xkey, xval, xpos, xlen⟩) (some g1)) := by
          unfold Hid
          rw [← hwC]
          exact HOB.out.set _ (by rw [List.length_set, HUS.out]; omega)
        have HGC : Hid (wB.grownBy wC (some g1)) := by
          unfold Hid
          rw [← hwC]
          exact grow_setCells wB g1 _ _
        have HBC : Hid (Below w.heap.size w wC) := (HBW.out.trans (hbA.mono HBW.out.size)).trans ((grow_below HGB.out (Nat.le_trans HBW.out.size hbA.size) (fun g e => by cases e; exact hgw)).trans (grow_below HGC.out (by have := HBW.out.size; have := hbA.size; have := HGB.out.size; omega) (fun g e => by cases e; exact hgw)))
        have HUC : Hid (∀ x ∈ (us.set i ⟨yk, yo, yt, yp, yq, ykey, yval, ypos, ylen⟩).set j ⟨xk, xo, xt, xp, xq, xkey, xval, xpos, xlen⟩, x.Ok) := fun x hx => by
          rcases List.mem_or_eq_of_mem_set hx with h | h
          · rcases List.mem_or_eq_of_mem_set h with h | h
            · exact HUO.out x h
            · rw [h]; exact HYO.out
          · rw [h]; exact HXO.out
        have HLC : Hid (((us.set i ⟨yk, yo, yt, yp, yq, ykey, yval, ypos, ylen⟩).set j ⟨xk, xo, xt, xp, xq, xkey, xval, xpos, xlen⟩).length = st.length) := by
          unfold Hid
          rw [List.length_set, List.length_set]
          exact HUS.out
        obtain ⟨⟨p, hp⟩, f0, f1, f2, f3, f4, f5, f6, f7, f8⟩ := HOA.out.open (j := i) (by rw [HUS.out]; omega)
        obtain ⟨⟨o, ho⟩, e0, e1, e2, e3, e4, e5, e6, e7, e8⟩ := HOB.out.open (j := j) (by rw [List.length_set, HUS.out]; omega)
        obtain ⟨p0, p1, p2, p3, p4, p5, p6, p7, p8⟩ := hp
        obtain ⟨o0, o1, o2, o3, o4, o5, o6, o7, o8⟩ := ho
        obtain ⟨d0, d1, d2, d3, d4, d5, d6, d7, d8⟩ := hx
        obtain ⟨q0, q1, q2, q3, q4, q5, q6, q7, q8⟩ := HYA.out
        obtain ⟨x0, x1, x2, x3, x4, x5, x6, x7, x8⟩ := HXB.out
        simp only [World.setCells, Pl.cells, Nat.add_assoc, Nat.reduceAdd] at hwB hwC
        simp only [Nat.zero_add] at x1 x2 x3 x4 x5 x6 x7 x8
        simp only at d0 d1 d2 d3 d4 d5 d6 d7 d8 q0 q1 q2 q3 q4 q5 q6 q7 q8 x0 x1 x2 x3 x4 x5 x6 x7 x8
        clear hy hxe hye hbA HOA HYA HXA HGB HGC HOB HXB hra hrb hrc hs2 hs3 hs4 hs5 hs7 hs8 hs9 hs10 hs11 hs12 hs13 hs14 hs17 hg15l hq2 hl16 hel hsw1
        go_wp2
        go_roundg gk1
        case rel => exact ⟨i + 1, _, by omega, by go_num, HLC.out, HUC.out, HOC.out, HBC.out⟩
        case measure => exact Nat.lt_succ_self _
end Go.Proofs.Ytdcagkojfgcbkaa
