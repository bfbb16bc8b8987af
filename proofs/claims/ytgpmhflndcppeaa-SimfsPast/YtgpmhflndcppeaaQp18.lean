import Derived.Test.YtgpmhflndcppeaaQp17
import Derived.Deep.RegionLaw
/-! The law on the past: note of a Remove. -/
namespace Go.Proofs.Ytgpmhflndcppeaa
open Go.RowKit Go.Maps Plain
set_option linter.unusedVariables false
set_option linter.unusedSimpArgs false

/-- The file's row, and its last bytes. -/
theorem PaM.now {w : World} {gp : Nat} {p : Ps} {B : Nat → Prop} {vF vG vD : Value} {rF rG rD : Option Nat} {fv gv dv : List Value} {rf rg : Nat → Option Nat} {sv tv : Nat → List Value} (h : PaM w gp p B vF vG vD rF rG rD fv gv dv rf rg sv tv) {f : Nat} (hf : f < p.files.length) (h1 : 1 ≤ (p.files.getD f []).length) :
    ∃ gF capF gi cF a c, vF = .slice (some ⟨gF, 0, none⟩) p.files.length capF ∧ rF = some gF ∧ w.cell? ⟨gF, f, none⟩ = some (.slice (some ⟨gi, 0, none⟩) (p.files.getD f []).length cF) ∧ rf f = some gi ∧ w.cell? ⟨gi, (p.files.getD f []).length - 1, none⟩ = some (.slice a ((p.files.getD f []).getD ((p.files.getD f []).length - 1) []).length c) ∧ leafB w B (.slice a ((p.files.getD f []).getD ((p.files.getD f []).length - 1) []).length c) ((p.files.getD f []).getD ((p.files.getD f []).length - 1) []) := by
  obtain ⟨g, cap, a, c, e1, e2, -, e4, e5⟩ := h.F.at hf
  obtain ⟨gi, e6, e7, e8, e9⟩ := e5 ((p.files.getD f []).length - 1) (by omega)
  obtain ⟨a2, c2, e10, -, -, -⟩ := e9.is
  rw [e6] at e4
  rw [e10] at e8 e9
  exact ⟨g, cap, gi, c, a2, c2, e1, e2, e4, e7, e8, e9⟩
theorem Hid.mkP {p : Prop} (h : p) : Hid p := h
/-- A directory more. -/
theorem PaM.pushD {w w6 w7 : World} {gp : Nat} {p : Ps} {B : Nat → Prop} {vF vG vD v6 v7 : Value} {rF rG rD r6 : Option Nat} {fv gv dv : List Value} {rf rg : Nat → Option Nat} {sv tv : Nat → List Value} {l : List (Nm × Nat)} {g7 : Nat} {T : Nat → Prop} (h : PaM w gp p B vF vG vD rF rG rD fv gv dv rf rg sv tv) (hT : ∀ g, paT gp p B rF rG rD rf rg g → T g)
    (hn6 : NwNew w w6 v6 (l.map nwOf) r6) (o : Obj) (ho7 : OwnV w7 v7 (dv ++ [v6]) (some g7)) (hg7 : (w6.alloc o).grownBy w7 rD) (hr7 : some g7 = rD ∨ g7 = (w6.alloc o).heap.size) :
    (PaAt (w7.setCell ⟨gp, 2, none⟩ v7) gp ⟨p.files, p.grown, p.dirs ++ [l]⟩ (Ext T w (w7.setCell ⟨gp, 2, none⟩ v7)) ∧ Chg T w (w7.setCell ⟨gp, 2, none⟩ v7)) ∧ w7.cell? ⟨gp, 2, none⟩ = some vD ∧ w7.frozen? ⟨gp, 2, none⟩ = false := by
  have hbo : Below w6.heap.size w6 (w6.alloc o) := (Below.refl _ _).alloc (Nat.le_refl _) _
  have hb6 : Below w.heap.size w (w6.alloc o) := hn6.below.trans (hbo.mono hn6.below.size)
  have hs6 := hn6.below.size
  have hso : (w6.alloc o).heap.size = w6.heap.size + 1 := by simp
  have hs7 := hg7.size
  have hu : Chg (fun g => rD = some g) w w7 := (Chg.ofBelow hb6).grown hg7 (fun g e => .inl e)
  have hgpl : gp < w.heap.size := cell_lt h.c0
  have hgp7 : w7.heap[gp]? = w.heap[gp]? := hu.block gp hgpl (fun e => (h.s3 gp e).1 rfl)
  have hrl : ∀ g, rD = some g → g < w.heap.size := h.D.rlt
  refine ⟨h.dirs hT (fun g => B g ∨ r6 = some g) hu rfl ho7 (hr7.elim (fun e => .inl e) (fun e => .inr fun g e2 => by cases e2; omega)) (by simp [h.dl]) ⟨fun g e => .inl e, fun g e => e.imp id (fun e2 => hn6.new g e2), fun g e => ?_⟩ (fun j hj => ?_) (fun g e hge hB => ?_), (World.cell?_of_block (w := w) (a := ⟨gp, 2, none⟩) hgp7).trans h.c2, (World.frozen?_of_block (w := w) (a := ⟨gp, 2, none⟩) hgp7).trans (h.fz 2)⟩
  · rcases e with e | e
    · have := h.b g e; omega
    · have := hn6.row.rlt g e; omega
  · rw [List.length_append, List.length_singleton] at hj
    by_cases e : j < dv.length
    · rw [getD_app_lt' _ _ e, getD_app_lt' _ _ (by rw [← h.dl]; exact e)]
      exact (h.dn j e).kept hu.size (fun g e2 => hu.block g (h.b g e2) (fun e3 => (h.s3 g e3).2 e2)) (fun g e2 => .inl e2)
    · have e2 : j = dv.length := by omega
      subst e2
      rw [getD_app_eq', h.dl, getD_app_eq']
      refine ⟨r6, hn6.row.of_block (by omega) (fun g e3 => ?_), fun g e3 => .inr e3⟩
      have hlt := hn6.row.rlt g e3
      have hge := hn6.new g e3
      exact (hg7.block g (by omega) (fun e4 => by have := hrl g e4.symm; omega)).trans (hbo.block g hlt)
  · cases e
    rcases hB with e2 | e2
    · have := h.b g7 e2; omega
    · have hlt := hn6.row.rlt g7 e2
      rcases hr7 with e3 | e3
      · have := hrl g7 e3.symm; omega
      · omega
set_option maxHeartbeats 8000000 in
set_option maxRecDepth 100000 in
theorem noteRemove {w : World} {gp : Nat} {p : Ps} {T : Nat → Prop} (nm to : ByteArray) (at' m : Int) (vb vp : Value) (h : PaAt w gp p T) (hk : p.Ok) (h1 : 1 ≤ p.dirs.length) (f : Nat) (hf : leadL p.last nm.data.toList = (f : Int)) (hfl : f < p.files.length) (hd : p.dirs.length < 2199023255000) :
    Calls Try.prog 9 #[.pointer (some ⟨gp, 0, none⟩), stepV 7 nm to at' m vb vp] w (NtPost gp ⟨p.files, p.grown, p.dirs ++ [leftL p.last nm.data.toList]⟩ T w) := by
  obtain ⟨B, vF, vG, vD, rF, rG, rD, fv, gv, dv, rf, rg, sv, tv, hP, hT⟩ := h
  obtain ⟨w0, hw0⟩ : ∃ w0, w.alloc (.cells #[.int .i64 7, .string nm, .string to, .int .i64 at', .int .i64 m, vb, vp] 31) = w0 := ⟨_, rfl⟩
  have hb0 : Below w.heap.size w w0 := by rw [← hw0]; exact (Below.refl _ _).alloc (Nat.le_refl _) _
  have hS0 : SbAt w0 w.heap.size (stepC 7 nm to at' m vb vp) := by rw [← hw0]; exact SbAt.new w _ _
  have hP0 := hP.later hb0
  have hpl : p.last.length ≤ 2199023255000 := hk.nl _ (by omega)
  have HLE : Hid (Calls Try.prog 30 #[.pointer (some ⟨gp, 0, none⟩), .string nm] w0 fun e w' => e = .returned (.int .i64 (f : Int)) ∧ ∃ n, w' = w0.drewN n) := by
    have := leadOf hP0 h1 nm hpl (by have := hk.dl; omega)
    rw [hf] at this
    exact this
  have z0 := hS0 0 _ rfl
  have z1 := hS0 1 _ rfl
  have HPM : Hid (PaM w gp p B vF vG vD rF rG rD fv gv dv rf rg sv tv) := hP
  have HB0 : Hid (Below w.heap.size w w0) := hb0
  have HS0 : Hid (SbAt w0 w.heap.size (stepC 7 nm to at' m vb vp)) := hS0
  clear hP hP0 hb0 hS0 hf
  go_enter Try.func9, Try.ntmps9
  go_wp2_with fail
  refine HLE.out.mono ?_
  rintro e w' ⟨rfl, n, rfl⟩
  have HB1 : Hid (Below w.heap.size w (w0.drewN n)) := below_drewN HB0.out n
  have HS1 : Hid (SbAt (w0.drewN n) w.heap.size (stepC 7 nm to at' m vb vp)) := HS0.out.later (below_drewN (Below.refl _ _) n)
  clear HLE z0 z1 HB0 HS0
  generalize w0.drewN n = w1 at HB1 HS1 ⊢
  have z0 := HS1.out 0 _ rfl
  have z1 := HS1.out 1 _ rfl
  have hf0 : ¬ (f : Int) < 0 := by omega
  have hf1 : (0 : Int) ≤ (f : Int) := by omega
  have hfi : (f : Int) < (p.files.length : Int) := by omega
  have hst1 := hk.one f hfl
  have hstl := (hk.gl f hfl).2
  obtain ⟨gF, capF, gi, cF, a, c, rfl, -, c0, -, c1, -⟩ := (HPM.out.later HB1.out).now hfl hst1
  have k0 := (HPM.out.later HB1.out).c0
  have k2 := (HPM.out.later HB1.out).c2
  have hN1 : ((p.files.getD f []).length : Int) - 1 = (((p.files.getD f []).length - 1 : Nat) : Int) := by omega
  have hNl : (((p.files.getD f []).length - 1 : Nat) : Int) < ((p.files.getD f []).length : Int) := by omega
  generalize (p.files.getD f []).length = M at *
  generalize ((p.files.getD f []).getD (M - 1) []).length = LN at *
  go_wp2_with fail
  go_quiet (fail)
  have HB2 : Hid (Below w.heap.size w (w1.drewN nq)) := below_drewN HB1.out nq
  have HS2 : Hid (SbAt (w1.drewN nq) w.heap.size (stepC 7 nm to at' m vb vp)) := HS1.out.later (below_drewN (Below.refl _ _) nq)
  clear c0 c1 k0 k2 z0 z1 HB1 HS1
  generalize w1.drewN nq = w2 at HB2 HS2 ⊢
  have z0 := HS2.out 0 _ rfl
  have z1 := HS2.out 1 _ rfl
  have k2 := (HPM.out.later HB2.out).c2
  have f2 := (HPM.out.later HB2.out).fz 2
  have hdv : dv.length = p.dirs.length := HPM.out.dl
  obtain ⟨aD, capD, rfl⟩ : ∃ aD capD, vD = .slice aD p.dirs.length capD := by
    obtain ⟨aD, capD, e, -, -⟩ := HPM.out.D.shape
    rw [HPM.out.dl] at e
    exact ⟨aD, capD, e⟩
  have HLF : Hid (∀ u, (u = w2 ∨ u = w2.drew) → Calls Try.prog 31 #[.pointer (some ⟨gp, 0, none⟩), .string nm] u fun e w' => ∃ a N c r, e = .returned (.slice a N c) ∧ NwNew w w' (.slice a N c) ((leftL p.last nm.data.toList).map nwOf) r ∧ Below w2.heap.size w2 w') := fun u hu => by
    have hbu : Below w2.heap.size w2 u := by rcases hu with e | e <;> rw [e] <;> first | exact Below.refl _ _ | exact Below.drew (Below.refl _ _)
    refine (leftOf ((HPM.out.later HB2.out).later hbu) h1 nm hpl (by have := hk.dl; omega)).mono ?_
    rintro e w' ⟨v, r, rfl, hn⟩
    obtain ⟨a, c, e, -, -⟩ := hn.row.shape
    subst e
    have hbw : Below w.heap.size w u := HB2.out.trans (hbu.mono HB2.out.size)
    exact ⟨a, _, c, r, rfl, ⟨hn.row, fun g e => by have := hn.new g e; have := hbw.size; omega, hbw.trans (hn.below.mono hbw.size)⟩, hbu.trans (hn.below.mono hbu.size)⟩
  have HRD : Hid (∀ u, Below w2.heap.size w2 u → OwnV u (.slice aD p.dirs.length capD) dv rD) := fun u hu => ((HPM.out.later HB2.out).later hu).D
  obtain ⟨tx, htx, hy0, hy1, hy2⟩ := info_parts Try.infoNMS
  have HEND : Hid (∀ (w6 w7 : World) (v6 v7 : Value) (r6 : Option Nat) (g7 : Nat) (o : Obj), NwNew w w6 v6 ((leftL p.last nm.data.toList).map nwOf) r6 → OwnV w7 v7 (dv ++ [v6]) (some g7) → (w6.alloc o).grownBy w7 rD → (some g7 = rD ∨ g7 = (w6.alloc o).heap.size) → (PaAt (w7.setCell ⟨gp, 2, none⟩ v7) gp ⟨p.files, p.grown, p.dirs ++ [leftL p.last nm.data.toList]⟩ (Ext T w (w7.setCell ⟨gp, 2, none⟩ v7)) ∧ Chg T w (w7.setCell ⟨gp, 2, none⟩ v7)) ∧ w7.cell? ⟨gp, 2, none⟩ = some (.slice aD p.dirs.length capD) ∧ w7.frozen? ⟨gp, 2, none⟩ = false) := fun w6 w7 v6 v7 r6 g7 o q1 q2 q3 q4 => HPM.out.pushD hT q1 o q2 q3 q4
  go_wp2_with fail
  go_region_law (first
    | (refine step_append_val2 rfl (.tmp 260) (.tmp 265) 47 54 tx (.slice none 0 0) Try.underlying47 htx hy0 rfl hy1 (by rw [hy2]; decide) rfl (.slice aD p.dirs.length capD) (.slice (some ⟨w6.heap.size, 0, none⟩) 1 1) (.slice a6 N6 c6) dv rD (by first | rfl | simp [Act.eval, Act.put]) (by first | rfl | simp [Act.eval, Act.put]) (HRD.out _ (hb6.trans (((Below.refl _ w6).alloc (Nat.le_refl _) _).mono hb6.size))) (src_val _ _ rfl _ 54 _ Try.underlying47) (by rw [hdv]; omega) ?_
       intro v7 w7 g7 ho7 hg7 hr7
       have hsh : ∃ a N c, v7 = .slice a N c := ho7.shape.elim fun a6 h => h.elim fun cc6 h2 => ⟨a6, _, cc6, h2.1⟩
       rcases hsh with ⟨a7, N7, c7, rfl⟩
       rcases HEND.out w6 w7 (.slice a6 N6 c6) (.slice a7 N7 c7) r6 g7 _ hn6 ho7 hg7 hr7 with ⟨hE7, e7, f7⟩
       have HE7 := Hid.mkP hE7
       clear hE7)
    | (go_simp
       go_at_call 31
       refine (HLF.out _ (by first | exact .inl rfl | exact .inr rfl)).mono ?_
       rintro e w6 ⟨a6, N6, c6, r6, rfl, hn6, hb6⟩
       have e6 := (hb6.cell (p := ⟨gp, 2, none⟩) (cell_lt k2)).trans k2
       have e6b : (w6.alloc (.cells #[.slice a6 N6 c6] 54)).cell? ⟨gp, 2, none⟩ = some (.slice aD p.dirs.length capD) := (((Below.refl _ w6).alloc (Nat.le_refl _) _).cell (p := ⟨gp, 2, none⟩) (cell_lt e6)).trans e6))
  all_goals
    clear e6 e7 f7 hn6 hb6 ho7 hg7 hr7
    go_wp2
    go_ret
    exact ⟨rfl, nt_later HE7.out (by first | exact Below.refl _ _ | exact Below.drew (Below.refl _ _))⟩
end Go.Proofs.Ytgpmhflndcppeaa
