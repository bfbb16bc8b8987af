import Derived.Test.YtgpmhflndcppeaaQp16
import Derived.BigRegion
/-! The law on the past: known. -/
namespace Go.Proofs.Ytgpmhflndcppeaa
open Go.RowKit Go.Maps Plain
set_option linter.unusedVariables false
set_option linter.unusedSimpArgs false

/-- What is kept is in order: the files that names lead to are there. -/
structure Ps.Ok (p : Ps) : Prop where
  fl : p.files.length ≤ 2199023255000
  dl : p.dirs.length ≤ 2199023255000
  nl : ∀ j, j < p.dirs.length → (p.dirs.getD j []).length ≤ 2199023255000
  ref : ∀ j, j < p.dirs.length → ∀ x ∈ p.dirs.getD j [], x.2 < p.files.length
  len : p.grown.length = p.files.length
  gl : ∀ f, f < p.files.length → (p.grown.getD f []).length = (p.files.getD f []).length ∧ (p.files.getD f []).length ≤ 2199023255000
  one : ∀ f, f < p.files.length → 1 ≤ (p.files.getD f []).length
theorem known_stop {p : Ps} {im : List (Nm × List Nat)} {k : Nat} (h : ∀ j, j < k → fitsB p (p.dirs.getD j []) im = false) : (k < p.dirs.length → fitsB p (p.dirs.getD k []) im = true → knownB p im = true) ∧ (p.dirs.length ≤ k → knownB p im = false) := by
  refine ⟨fun h1 h2 => List.any_eq_true.mpr ⟨k, List.mem_range.mpr h1, h2⟩, fun h1 => ?_⟩
  unfold knownB
  rw [List.any_eq_false]
  intro j hj
  rw [h j (by have := List.mem_range.mp hj; omega)]
  simp
set_option maxHeartbeats 4000000 in
set_option maxRecDepth 100000 in
theorem knownOf {w : World} {gp : Nat} {p : Ps} {B : Nat → Prop} {vF vG vD : Value} {rF rG rD : Option Nat} {fv gv dv : List Value} {rf rg : Nat → Option Nat} {sv tv : Nat → List Value} (h : PaM w gp p B vF vG vD rF rG rD fv gv dv rf rg sv tv) (hk : p.Ok)
    (v : Value) (im : List (Nm × List Nat)) (base : Nat) (hi : ImgAt w v im base) (hil : im.length ≤ 2199023255552) :
    Calls Try.prog 6 #[.pointer (some ⟨gp, 0, none⟩), v] w fun e w' => e = .returned (.bool (knownB p im)) ∧ ∃ n, w' = w.drewN n := by
  obtain ⟨ai, ci, rfl⟩ : ∃ ai ci, v = .slice ai im.length ci := by
    obtain ⟨ts, r, blk, hm⟩ := hi
    obtain ⟨a, c, e, -, -⟩ := hm.row.shape
    rw [hm.len] at e
    exact ⟨a, c, e⟩
  have hdl := hk.dl
  have HJ : Hid (∀ j, j < p.dirs.length → ∃ gD capD a c, vD = .slice (some ⟨gD, 0, none⟩) p.dirs.length capD ∧ w.cell? ⟨gD, j, none⟩ = some (.slice a (p.dirs.getD j []).length c) ∧ ∀ n, Calls Try.prog 16 #[.pointer (some ⟨gp, 0, none⟩), .slice a (p.dirs.getD j []).length c, .slice ai im.length ci] (w.drewN n) fun e w' => e = .returned (.bool (fitsB p (p.dirs.getD j []) im)) ∧ ∃ m, w' = (w.drewN n).drewN m) := fun j hj => by
    obtain ⟨gD, capD, a, c, r, e1, e2, e3, -⟩ := h.lastRow hj
    refine ⟨gD, capD, a, c, e1, e2, fun n => ?_⟩
    refine fitsOf (h.drewN n) (by have := hk.fl; omega) a c _ r (e3.later (below_drewN (Below.refl _ _) n)) (hk.nl j hj) (fun x hx => ?_) ai ci im base (hi.later (below_drewN (Below.refl _ _) n)) hil
    have hr := hk.ref j hj x hx
    exact ⟨hr, by rw [hk.len]; exact hr, (hk.gl _ hr).1, by have := (hk.gl _ hr).2; omega⟩
  have c2 := h.c2
  obtain ⟨aD, capD, hvD⟩ : ∃ aD capD, vD = .slice aD p.dirs.length capD := by
    obtain ⟨aD, capD, e, -, -⟩ := h.D.shape
    rw [h.dl] at e
    exact ⟨aD, capD, e⟩
  subst hvD
  clear h hi hk
  go_enter Try.func6, Try.ntmps6
  go_wp2
  go_loopw [5] (fun i wr => ∃ k : Nat, k ≤ p.dirs.length ∧ i = .int .i64 k ∧ Hid (∃ n, wr = w.drewN n) ∧ Hid (∀ j, j < k → fitsB p (p.dirs.getD j []) im = false)) (fun i _ => p.dirs.length - (intOf i).toNat)
  case atStart => exact ⟨0, by omega, rfl, ⟨0, rfl⟩, fun j hj => by omega⟩
  case round =>
    obtain ⟨k, hk, rfl, HD, HB⟩ := hrel
    obtain ⟨n, hn⟩ := HD.out
    subst hn
    clear HD
    by_cases hlt : k < p.dirs.length
    · have hki : (k : Int) < (p.dirs.length : Int) := by omega
      obtain ⟨gD, capD', a, c, e1, d0, hf⟩ := HJ.out k hlt
      injection e1 with e2 e3 e4
      subst e2 e4
      clear e3
      have HFI : Hid (Calls Try.prog 16 #[.pointer (some ⟨gp, 0, none⟩), .slice a (p.dirs.getD k []).length c, .slice ai im.length ci] (w.drewN n) fun e w' => e = .returned (.bool (fitsB p (p.dirs.getD k []) im)) ∧ ∃ m, w' = (w.drewN n).drewN m) := hf n
      have HST : Hid ((fitsB p (p.dirs.getD k []) im = true → knownB p im = true) ∧ (fitsB p (p.dirs.getD k []) im = false → ∀ j, j < k + 1 → fitsB p (p.dirs.getD j []) im = false)) := ⟨fun h => (known_stop HB.out).1 hlt h, fun h j hj => by
        by_cases e : j = k
        · subst e; exact h
        · exact HB.out j (by omega)⟩
      clear hf HB
      generalize (p.dirs.getD k []).length = M at d0 HFI
      generalize fitsB p (p.dirs.getD k []) im = fb at HFI HST
      go_wp2_with fail
      refine HFI.out.mono ?_
      rintro e w2 ⟨rfl, m, rfl⟩
      rw [World.drewN_drewN]
      generalize n + m = n2
      cases fb with
      | true =>
        have HF : Hid (knownB p im = true) := HST.out.1 rfl
        clear HST
        go_wp2
        go_ret
        exact ⟨by rw [HF.out]; try rfl, n2, rfl⟩
      | false =>
        have HF : Hid (∀ j, j < k + 1 → fitsB p (p.dirs.getD j []) im = false) := HST.out.2 rfl
        clear HST
        go_wp2
        go_roundw
        case rel => exact ⟨k + 1, by omega, by go_num, ⟨n2, rfl⟩, HF⟩
        case measure => simp [intOf]; omega
    · have HF : Hid (knownB p im = false) := (known_stop HB.out).2 (by omega)
      have hke : k = p.dirs.length := by omega
      subst hke
      clear HB
      go_wp2
      go_ret
      exact ⟨by rw [HF.out]; try rfl, n, rfl⟩
end Go.Proofs.Ytgpmhflndcppeaa

/-! The law on the past: note of a SyncDir, of a Remove. -/
namespace Go.Proofs.Ytgpmhflndcppeaa
open Go.RowKit Go.Maps Plain
set_option linter.unusedVariables false
set_option linter.unusedSimpArgs false

/-- What the law keeps, its blocks among T. -/
def PaAt (w : World) (gp : Nat) (p : Ps) (T : Nat → Prop) : Prop := ∃ B vF vG vD rF rG rD fv gv dv rf rg sv tv, PaM w gp p B vF vG vD rF rG rD fv gv dv rf rg sv tv ∧ ∀ g, paT gp p B rF rG rD rf rg g → T g
def NtPost (gp : Nat) (p' : Ps) (T : Nat → Prop) (w : World) (e : Ending) (w' : World) : Prop := e = .returned (.bool true) ∧ PaAt w' gp p' (Ext T w w') ∧ Chg T w w'
theorem OwnV.one (w : World) (u : Value) (t : TypeId) : OwnV (w.alloc (.cells #[u] t)) (.slice (some ⟨w.heap.size, 0, none⟩) 1 1) [u] (some w.heap.size) :=
  .inr ⟨w.heap.size, 1, rfl, rfl, by simp, by simp, by unfold maxLen; omega, fun j hj => World.frozen?_alloc_at _ _ _ _ rfl, fun j hj => by
    rw [World.cell?_alloc_at _ _ _ _ rfl]
    have : j = 0 := by omega
    subst this; rfl, fun j hj => by
    rw [World.cell?_alloc_at _ _ _ _ rfl]
    simp⟩
theorem PaM.later {w w' : World} {gp : Nat} {p : Ps} {B : Nat → Prop} {vF vG vD : Value} {rF rG rD : Option Nat} {fv gv dv : List Value} {rf rg : Nat → Option Nat} {sv tv : Nat → List Value} (h : PaM w gp p B vF vG vD rF rG rD fv gv dv rf rg sv tv) (hb : Below w.heap.size w w') : PaM w' gp p B vF vG vD rF rG rD fv gv dv rf rg sv tv := h.kept hb.size (fun g hg => hb.block g (h.lt g hg))
abbrev stepV (kd : Int) (nm to : ByteArray) (at' m : Int) (vb vp : Value) : Value := .agg #[.int .i64 kd, .string nm, .string to, .int .i64 at', .int .i64 m, vb, vp]
/-- A step in its box. -/
def SbAt (w : World) (b : Nat) (cs : List Value) : Prop := ∀ j u, cs[j]? = some u → w.cell? ⟨b, j, none⟩ = some u
theorem SbAt.new (w : World) (cs : List Value) (t : TypeId) : SbAt (w.alloc (.cells cs.toArray t)) w.heap.size cs := fun j u hj => by
  rw [World.cell?_alloc_at _ _ _ _ rfl, ← hj]; simp
theorem SbAt.later {w w' : World} {b : Nat} {cs : List Value} (h : SbAt w b cs) (hb : Below w.heap.size w w') : SbAt w' b cs := fun j u hj => (hb.cell (p := ⟨b, j, none⟩) (cell_lt (h j u hj))).trans (h j u hj)
theorem SbAt.of_block {w w' : World} {b : Nat} {cs : List Value} (h : SbAt w b cs) (hb : w'.heap[b]? = w.heap[b]?) : SbAt w' b cs := fun j u hj => (World.cell?_of_block (w := w) (a := ⟨b, j, none⟩) hb).trans (h j u hj)
abbrev stepC (kd : Int) (nm to : ByteArray) (at' m : Int) (vb vp : Value) : List Value := [.int .i64 kd, .string nm, .string to, .int .i64 at', .int .i64 m, vb, vp]
/-- The last row of a directory that was made, or was there, is stored. -/
theorem PaM.dirs {w u w' : World} {gp : Nat} {p : Ps} {B : Nat → Prop} {vF vG vD v' : Value} {rF rG rD r' : Option Nat} {fv gv dv dv' : List Value} {rf rg : Nat → Option Nat} {sv tv : Nat → List Value} {ds : List (List (Nm × Nat))} {T : Nat → Prop} (h : PaM w gp p B vF vG vD rF rG rD fv gv dv rf rg sv tv) (hT : ∀ g, paT gp p B rF rG rD rf rg g → T g) (B' : Nat → Prop)
    (hu : Chg (fun g => rD = some g) w u) (e : u.setCell ⟨gp, 2, none⟩ v' = w') (hout : OwnV u v' dv' r') (hr : r' = rD ∨ ∀ g, r' = some g → w.heap.size ≤ g) (hl : dv'.length = ds.length) (hB : NewB w u B B') (hlf : ∀ j, j < dv'.length → leafN u B' (dv'.getD j undef) (ds.getD j [])) (hn : ∀ g, r' = some g → w.heap.size ≤ g → ¬ B' g) :
    PaAt w' gp ⟨p.files, p.grown, ds⟩ (Ext T w w') ∧ Chg T w w' := by
  have hg := grow_setCells u gp 2 [v']
  have hg' : u.grownBy w' (some gp) := by rw [← e]; exact hg
  have hgpl : gp < w.heap.size := cell_lt h.c0
  have hsz := hu.size
  have hgpu : u.heap[gp]? = w.heap[gp]? := hu.block gp hgpl (fun e2 => (h.s3 gp e2).1 rfl)
  have hcu : ∀ j, u.cell? ⟨gp, j, none⟩ = w.cell? ⟨gp, j, none⟩ := fun j => World.cell?_of_block (w := w) (a := ⟨gp, j, none⟩) hgpu
  have hnr : r' ≠ some gp := fun e2 => by
    rcases hr with e3 | e3
    · exact (h.s3 gp (by rw [← e3]; exact e2)).1 rfl
    · have := e3 gp e2; omega
  have hBgp : ¬ B' gp := fun e2 => (hB.new gp e2).elim h.s4 (fun e3 => by omega)
  have hc : Chg (fun g => g = gp ∨ rD = some g) w w' := (hu.mono (fun g e2 => .inr e2)).grown hg' (fun g e2 => .inl (.inl (by cases e2; rfl)))
  have hc2 : Chg T w w' := hc.mono (fun g e2 => hT g (e2.elim (fun e3 => .inl e3) (fun e3 => .inr (.inr (.inr (.inl e3))))))
  have hP := h.putD (v' := v') (r' := r') (dv' := dv') (ds := ds) (B' := B') hc
    (by rw [← e, World.cell?_setCell_other _ _ _ _ (by intro e2; injection e2; omega), hcu]; exact h.c0) (by rw [← e, World.cell?_setCell_other _ _ _ _ (by intro e2; injection e2; omega), hcu]; exact h.c1)
    (by rw [← e]; exact World.cell?_setCell_same' _ _ _ (by rw [hcu, h.c2]; rfl)) (fun j => by rw [← e, World.frozen?_setCell, World.frozen?_of_block (w := w) (a := ⟨gp, j, none⟩) hgpu]; exact h.fz j)
    (hout.kept hg' (.inr hnr)) hr hl ⟨hB.sub, hB.new, fun g e2 => Nat.lt_of_lt_of_le (hB.lt g e2) hg'.size⟩ (fun j hj => (hlf j hj).kept hg'.size (fun g e2 => hg'.block g (hB.lt g e2) (fun e3 => hBgp (by cases e3; exact e2))) (fun g e2 => e2)) hn
  refine ⟨⟨B', vF, vG, v', rF, rG, r', fv, gv, dv', rf, rg, sv, tv, hP, fun g hg2 => ?_⟩, hc2⟩
  have hlt := hP.lt g hg2
  rcases hg2 with e2 | e2 | e2 | e2 | e2
  · exact .inl (hT g (.inl e2))
  · exact .inl (hT g (.inr (.inl e2)))
  · exact .inl (hT g (.inr (.inr (.inl e2))))
  · rcases hr with e3 | e3
    · exact .inl (hT g (.inr (.inr (.inr (.inl (by rw [← e3]; exact e2))))))
    · exact .inr ⟨e3 g e2, hlt⟩
  · rcases hB.new g e2 with e3 | e3
    · exact .inl (hT g (.inr (.inr (.inr (.inr e3)))))
    · exact .inr ⟨e3, hlt⟩
theorem nt_later {gp : Nat} {p : Ps} {T : Nat → Prop} {w w' w'' : World} (h : PaAt w' gp p (Ext T w w') ∧ Chg T w w') (hb : Below w'.heap.size w' w'') : PaAt w'' gp p (Ext T w w'') ∧ Chg T w w'' := by
  obtain ⟨⟨B, vF, vG, vD, rF, rG, rD, fv, gv, dv, rf, rg, sv, tv, hP, hT⟩, hc⟩ := h
  have hsz := hb.size
  exact ⟨⟨B, vF, vG, vD, rF, rG, rD, fv, gv, dv, rf, rg, sv, tv, hP.later hb, fun g hg => (hT g hg).imp id (fun e => ⟨e.1, by omega⟩)⟩, hc.more hb⟩
set_option maxHeartbeats 4000000 in
set_option maxRecDepth 100000 in
theorem noteSyncDir {w : World} {gp : Nat} {p : Ps} {T : Nat → Prop} (nm to : ByteArray) (at' m : Int) (vb vp : Value) (h : PaAt w gp p T) (hk : p.Ok) (h1 : 1 ≤ p.dirs.length) :
    Calls Try.prog 9 #[.pointer (some ⟨gp, 0, none⟩), stepV 5 nm to at' m vb vp] w (NtPost gp ⟨p.files, p.grown, [p.last]⟩ T w) := by
  obtain ⟨B, vF, vG, vD, rF, rG, rD, fv, gv, dv, rf, rg, sv, tv, hP, hT⟩ := h
  obtain ⟨w0, hw0⟩ : ∃ w0, w.alloc (.cells #[.int .i64 5, .string nm, .string to, .int .i64 at', .int .i64 m, vb, vp] 31) = w0 := ⟨_, rfl⟩
  have hb0 : Below w.heap.size w w0 := by rw [← hw0]; exact (Below.refl _ _).alloc (Nat.le_refl _) _
  have hS0 : SbAt w0 w.heap.size (stepC 5 nm to at' m vb vp) := by rw [← hw0]; exact SbAt.new w _ _
  have z0 := hS0 0 _ rfl
  have hP0 := hP.later hb0
  obtain ⟨gD, capD, a, c, r, rfl, hcd, hrow, hrB⟩ := hP0.lastRow (j := p.dirs.length - 1) (by omega)
  have hlast : p.dirs.getD (p.dirs.length - 1) [] = p.last := rfl
  rw [hlast] at hcd hrow
  have c2 := hP0.c2
  have f2 := hP0.fz 2
  have hdl := hk.dl
  have hN1 : (p.dirs.length : Int) - 1 = ((p.dirs.length - 1 : Nat) : Int) := by omega
  have hNl : ((p.dirs.length - 1 : Nat) : Int) < (p.dirs.length : Int) := by omega
  have HPM : Hid (PaM w gp p B vF vG (.slice (some ⟨gD, 0, none⟩) p.dirs.length capD) rF rG rD fv gv dv rf rg sv tv) := hP
  have HB0 : Hid (Below w.heap.size w w0) := hb0
  have HROW : Hid (OwnNw w0 (.slice a p.last.length c) (p.last.map nwOf) r ∧ ∀ g, r = some g → B g) := ⟨hrow, hrB⟩
  clear hP hP0 hb0 hrow hrB hlast
  generalize p.dirs.length = N at *
  generalize hLL : p.last.length = LL at *
  have k1 : ((w0.alloc (.cells #[.slice a LL c] 54)).drew).cell? ⟨gp, 2, none⟩ = some (.slice (some ⟨gD, 0, none⟩) N capD) := (((Below.refl _ w0).alloc (Nat.le_refl _) _).cell (p := ⟨gp, 2, none⟩) (cell_lt c2)).trans c2
  have k2 : ((w0.alloc (.cells #[.slice a LL c] 54)).drew).frozen? ⟨gp, 2, none⟩ = false := (((Below.refl _ w0).alloc (Nat.le_refl _) _).frozen (p := ⟨gp, 2, none⟩) (cell_lt c2)).trans f2
  go_enter Try.func9, Try.ntmps9
  go_wp2
  go_region
  have hbU : Below w0.heap.size w0 (w0.alloc (.cells #[.slice a LL c] 54)) := (Below.refl _ _).alloc (Nat.le_refl _) _
  have hbW : Below w.heap.size w (w0.alloc (.cells #[.slice a LL c] 54)) := HB0.out.trans (hbU.mono HB0.out.size)
  have HE : Hid (PaAt ((w0.alloc (.cells #[.slice a LL c] 54)).setCell ⟨gp, 2, none⟩ (.slice (some ⟨w0.heap.size, 0, none⟩) 1 1)) gp ⟨p.files, p.grown, [p.last]⟩ (Ext T w ((w0.alloc (.cells #[.slice a LL c] 54)).setCell ⟨gp, 2, none⟩ (.slice (some ⟨w0.heap.size, 0, none⟩) 1 1))) ∧ Chg T w ((w0.alloc (.cells #[.slice a LL c] 54)).setCell ⟨gp, 2, none⟩ (.slice (some ⟨w0.heap.size, 0, none⟩) 1 1))) := by
    refine HPM.out.dirs hT B (Chg.ofBelow hbW) rfl (OwnV.one w0 (.slice a LL c) 54) (.inr fun g e => by cases e; exact HB0.out.size) rfl (NewB.refl HPM.out.b hbW.size) (fun j hj => ?_) (fun g e hg hB => ?_)
    · have : j = 0 := by simpa using hj
      subst this
      exact ⟨r, HROW.out.1.later hbU, HROW.out.2⟩
    · have := HPM.out.b g hB; omega
  clear hbU hbW k1 k2
  generalize (w0.alloc (.cells #[.slice a LL c] 54)).setCell ⟨gp, 2, none⟩ (.slice (some ⟨w0.heap.size, 0, none⟩) 1 1) = w3 at HE ⊢
  go_wp2
  go_ret
  exact ⟨rfl, nt_later HE.out (Below.drew (Below.refl _ _))⟩
end Go.Proofs.Ytgpmhflndcppeaa

/-! Rows of slices: one more. -/
namespace Go.Proofs.Ytgpmhflndcppeaa
open Go.RowKit Go.Maps Plain
set_option linter.unusedVariables false
set_option linter.unusedSimpArgs false

theorem run_append_val2 (w : World) (t ty e : TypeId) (i : TypeInfo) (z : Value) (ht : Try.prog.underlying t = some (.slice e)) (hi : Try.prog.info? e = some i) (hz0 : i.zero = some z) (hzc : z.cells.size = 1) (hz1 : i.size = 1) (hz2 : i.bytes ≤ 32)
    (v x u : Value) (vs : List Value) (r : Option Nat) (hown : OwnV w v vs r) (hs : Src Try.prog 1 t x 1 [u] w) (hlen : vs.length ≤ 2199023255552) :
    ∃ v' w' g, (Builtin.append_ #[t, t] ty #[v, x]).run Try.prog w = .ok v' w' ∧ OwnV w' v' (vs ++ [u]) (some g) ∧ w.grownBy w' r ∧ (some g = r ∨ g = w.heap.size) := by
  have hs' : Src Try.prog i.size t x 1 [u] w := by rw [hz1]; exact hs
  have hl2 : (vs ++ [u]).length = vs.length + 1 := by simp
  have grow : ∀ (base : Option Addr) (sCap : Nat), (Builtin.firstCells i.size vs.length (.slice base vs.length sCap)).run Try.prog w.drew = .ok vs.toArray w.drew → sCap < vs.length + 1 →
      ∃ v' w' g, (Builtin.append_ #[t, t] ty #[.slice base vs.length sCap, x]).run Try.prog w = .ok v' w' ∧ OwnV w' v' (vs ++ [u]) (some g) ∧ w.grownBy w' r ∧ (some g = r ∨ g = w.heap.size) := by
    intro base sCap hold hg
    have hfit : (vs.length + 1) * i.bytes ≤ 140737488355328 := Nat.le_trans (Nat.mul_le_mul_left _ hz2) (by omega)
    have hr := run_append_grow_src (P := Try.prog) w t t ty e i z ht hi hz0 base vs.length sCap vs hold x 1 [u] hs' hg (by omega) (growslice_fits hg hfit)
    have hge := grownCap_ge w (vs.length + 1) sCap e
    have hcm := grownCap_le_maxLen w (vs.length + 1) sCap e (by unfold maxLen; omega)
    refine ⟨_, _, w.heap.size, hr, ?_, ⟨rfl, rfl, rfl, by simp, fun k hk _ => Below.heap_alloc w.drew _ k hk⟩, .inr rfl⟩
    obtain ⟨C, hC⟩ : ∃ C, (vs ++ [u]).toArray ++ Builtin.zeroCells z.cells (grownCap w (vs.length + 1) sCap e - (vs.length + 1)) = C := ⟨_, rfl⟩
    have hCs : C.size = grownCap w (vs.length + 1) sCap e := by
      rw [← hC, Array.size_append, List.size_toArray, size_zeroCells, hzc, hl2]
      omega
    have hCg : ∀ j, j < vs.length + 1 → C[j]? = (vs ++ [u])[j]? := fun j hj => by
      rw [← hC, Array.getElem?_append_left (by rw [List.size_toArray, hl2]; exact hj), List.getElem?_toArray]
    rw [hC]
    refine .inr ⟨w.heap.size, grownCap w (vs.length + 1) sCap e, rfl, by rw [hl2], by simp, by rw [hl2]; exact hge, hcm, fun j hj => ?_, fun j hj => ?_, fun j hj => ?_⟩
    · exact World.frozen?_alloc_at _ _ _ _ rfl
    · show ((w.drew.alloc (Obj.cells C e)).cell? ⟨w.drew.heap.size, j, none⟩).isSome = true
      rw [World.cell?_alloc_at _ _ _ _ rfl, Array.getElem?_eq_getElem (by omega)]; rfl
    · rw [hl2] at hj
      show (w.drew.alloc (Obj.cells C e)).cell? ⟨w.drew.heap.size, j, none⟩ = _
      rw [World.cell?_alloc_at _ _ _ _ rfl]; exact hCg j hj
  rcases hown with ⟨rfl, rfl, rfl⟩ | ⟨g, cap, rfl, rfl, hg, h1, h2, h3, h4, h5⟩
  · exact grow none 0 (by rw [List.length_nil]; exact run_firstCells_none w.drew _ _ _ _) (by simp)
  · by_cases hroom : vs.length + 1 ≤ cap
    · have hr := run_append_room_src (P := Try.prog) w t t ty e i ht hi g 0 vs.length cap x 1 [u] hs' hroom
        (fun j hj => by rw [hz1]; simp at hj; subst hj; simpa using h4 vs.length (by omega))
        (fun j hj => by rw [hz1]; simp at hj; subst hj; simpa using h3 vs.length (by omega))
      rw [hz1, Nat.zero_add, Nat.mul_one] at hr
      refine ⟨_, _, g, hr, .inr ⟨g, cap, rfl, by rw [hl2], ?_, by omega, h2, fun j hj => ?_, fun j hj => ?_, fun j hj => ?_⟩, grow_setCells w g _ _, .inl rfl⟩
      · rw [setCells_size]; exact hg
      · rw [World.frozen?_setCells]; exact h3 j hj
      · exact isSome_setCells g _ _ w _ (h4 j hj)
      · rw [hl2] at hj
        by_cases hj' : j < vs.length
        · rw [World.cell?_setCells_out g _ _ w _ (fun _ _ => .inl hj'), h5 j hj', List.getElem?_append_left hj']
        · obtain rfl : j = vs.length := by omega
          have := World.cell?_setCells_in g [u] vs.length w (fun m hm => h4 _ (by simp at hm; omega)) 0 (by simp)
          rw [Nat.add_zero] at this
          rw [this]
          simp
    · refine grow _ cap ?_ (by omega)
      rw [hz1]
      refine run_firstCells_some w.drew 1 vs.length ⟨g, 0, none⟩ _ _ vs (by omega) (fun j u hj => ?_)
      have hjl : j < vs.length := (List.getElem?_eq_some_iff.mp hj).1
      rw [WideShapes.add_plain, Nat.zero_add]
      show w.cell? ⟨g, j, none⟩ = some u
      rw [h5 j hjl, hj]

theorem step_append_val2 {ops : Array Oper} {o : Oper} {a : Act} {w : World} {K : Act → World → Prop} {Q : Exit → Act → World → Prop} {E : Prop}
    (hg : o.guard = none) (s x : Operand) (t e : TypeId) (i : TypeInfo) (z : Value) (ht : Try.prog.underlying t = some (.slice e)) (hi : Try.prog.info? e = some i) (hz0 : i.zero = some z) (hzc : z.cells.size = 1) (hz1 : i.size = 1) (hz2 : i.bytes ≤ 32)
    (hop : o.op = Op.call { callee := Callee.builtin Builtin.append, args := #[s, x], argTypes := #[t, t] }) (v xv u : Value) (vs : List Value) (r : Option Nat)
    (hs : a.eval s = v) (hx : a.eval x = xv) (hown : OwnV w v vs r) (hsrc : Src Try.prog 1 t xv 1 [u] w) (hlen : vs.length ≤ 2199023255552)
    (hK : ∀ v' w' g, OwnV w' v' (vs ++ [u]) (some g) → w.grownBy w' r → (some g = r ∨ g = w.heap.size) → K (a.put o.dst v') w') :
    if Region.wanted o (yielded ops a.tmps) = true then Oper.wp Try.prog o a w K Q else E := by
  have hw : Region.wanted o (yielded ops a.tmps) = true := by simp [Region.wanted, hg]
  rw [if_pos hw]
  obtain ⟨v', w', g, hrun, h1, h2, h3⟩ := run_append_val2 w t o.type e i z ht hi hz0 hzc hz1 hz2 v xv u vs r hown hsrc hlen
  unfold Oper.wp
  simp [execOp, hop, resolve, invoke, builtin, hs, hx, hrun, Result.andThen]
  exact hK v' w' g h1 h2 h3

theorem wpList_append_val2 {ops : Array Oper} {rest : List Oper} {o : Oper} {a : Act} {Q : Exit → Act → World → Prop} (w : World) (hgd : o.guard = none) (s x : Operand) (t e : TypeId) (i : TypeInfo) (z : Value)
    (ho : o.op = .call { callee := .builtin .append, args := #[s, x], argTypes := #[t, t] }) (ht : Try.prog.underlying t = some (.slice e)) (hi : Try.prog.info? e = some i) (hz0 : i.zero = some z) (hzc : z.cells.size = 1) (hz1 : i.size = 1) (hz2 : i.bytes ≤ 32)
    (v xv u : Value) (vs : List Value) (r : Option Nat)
    (hs : a.eval s = v) (hx : a.eval x = xv) (hown : OwnV w v vs r) (hsrc : Src Try.prog 1 t xv 1 [u] w) (hlen : vs.length ≤ 2199023255552)
    (h : ∀ v' w' g, OwnV w' v' (vs ++ [u]) (some g) → w.grownBy w' r → (some g = r ∨ g = w.heap.size) → wpList Try.prog ops Q rest (a.put o.dst v') w') : wpList Try.prog ops Q (o :: rest) a w :=
  wpList_plain hgd fun _ hK => by
    obtain ⟨v', w', g, hr, h1, h2, h3⟩ := run_append_val2 w t o.type e i z ht hi hz0 hzc hz1 hz2 v xv u vs r hown hsrc hlen
    unfold Oper.wp execOp
    simp only [ho, resolve, invoke, builtin, Sem.run_bind, Sem.run_pure, Result.andThen_ok, List.map_toArray, List.map_cons, List.map_nil, hs, hx, hr]
    exact hK _ _ (h v' w' g h1 h2 h3)
theorem Try.infoNMS : (Try.prog.info? 54).map (fun i => (i.zero, i.size, i.bytes)) = some (some (Value.slice none 0 0), 1, 24) := by kernel_rfl
theorem Try.infoBS : (Try.prog.info? 80).map (fun i => (i.zero, i.size, i.bytes)) = some (some (Value.slice none 0 0), 1, 24) := by kernel_rfl
theorem Try.infoB : (Try.prog.info? 28).map (fun i => (i.zero, i.size, i.bytes)) = some (some (Value.slice none 0 0), 1, 24) := by kernel_rfl
theorem Try.infoIS : (Try.prog.info? 29).map (fun i => (i.zero, i.size, i.bytes)) = some (some (Value.slice none 0 0), 1, 24) := by kernel_rfl
theorem Try.infoINT : (Try.prog.info? 3).map (fun i => (i.zero, i.size, i.bytes)) = some (some (Value.int .i64 0), 1, 8) := by kernel_rfl
end Go.Proofs.Ytgpmhflndcppeaa
