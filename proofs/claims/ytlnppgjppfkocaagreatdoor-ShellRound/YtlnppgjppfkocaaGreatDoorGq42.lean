import Derived.Test.YtlnppgjppfkocaaGreatDoorGq05
import Derived.Deep.CondSized
import Derived.LaidLaws
import Derived.Test.YtlnppgjppfkocaaGreatDoorGq10
import Derived.Test.YtlnppgjppfkocaaGreatDoorGq13
import Derived.Test.YtlnppgjppfkocaaGreatDoorRows
import Derived.ProofKit
import Derived.OpenShut
import Derived.SizedLaws
import Derived.ChangeSlices
import Derived.Deep.Slices
import Derived.Deep.Strs
import Derived.Lib.SmallJoins
import Derived.Test.YtlnppgjppfkocaaGreatDoorGq14
/-! The wraps for a row with a condition whose variables are laid. -/
namespace Go.Proofs.YtlnppgjppfkocaaGreatDoor.Xs
open Go.RowKit Go.ChangeShapes
set_option linter.unusedVariables false

theorem rec_ok {w : World} {v : Value} {l : List Sr} (h : SrsAt w v l) : ∀ x ∈ l, x.Ok := by
  obtain ⟨_, _, _, _, _, h, _⟩ := h
  exact h
section
variable {H : Type} {enc : TypeId × Value → H}
theorem handed_cond_and {a : Assume} {C : Checked} {os : Os} {f : FuncId} {fn : Func} {s : OpenSpec} {k : (H : Type) → List (DataW H) → Bool} (hk : s.cond = some k) {F : Stop.Interp} {conds : List PathCond} {apart fresh handsOn again : Bool} {X : World → Array Value → Prop}
    (hX : ∀ (w w' : World) (args : Array Value), w.heap = w'.heap → X w args → X w' args)
    (own : ownKnob C.prog.godebug = none) (started : os.Started) (noInit : C.prog.inits.idxOf? f = none) (hfn : C.prog.funcs[f]? = some fn)
    (witness : ∃ (w : World) (tape : Tape) (i : Input), w.os = os ∧ (w.forCall tape i).Shaped C.prog ∧ i.vars = [] ∧ Input.okWide C.prog (w.forCall tape i) .any w.heap.size f i ∧
      ((s.pre enc C.prog fn conds apart (w.forCall tape i).memory i.args ∧ X (w.forCall tape i).memory i.args) ∧ sizedMet enc C.prog fn s apart (w.forCall tape i).memory i.args) ∧ a.holds C.prog (lone (Frame.enter C.prog f i.args .normal) [] (w.forCall tape i)))
    (contract : ∀ (W : World) (base : Nat) (args : Array Value) (ds gs : List (DataW H)) (before : List MemPlace),
      (∀ (j : Nat) t v, fn.params[j]? = some t → args[j]? = some v → Value.okWide C.prog W .any base t v) →
      DataW.Whole enc C.prog fn.params.toList s.vars apart W args.toList ds gs before →
      conds.all (PathCond.test C.prog ⟨fn.params.toList, ds, s.bare.plain.varTypes C.prog, gs⟩) = true → k H (ds ++ gs) = true →
      (DataW.weightsEach C.prog (fn.params.toList ++ s.bare.plain.varTypes C.prog) (ds ++ gs)).all (· ≤ reachBytes) = true → X W args →
      a.holds C.prog (lone (Frame.enter C.prog f args .normal) [] W) →
      Calls C.prog f args W fun e W' => ∃ v, e = .returned v ∧ (s.at F).post enc C.prog fn apart fresh handsOn again W args v W') :
    ReturnsInHanded a C os f .any (fun w args => (s.pre enc C.prog fn conds apart w args ∧ X w args) ∧ sizedMet enc C.prog fn s apart w args) ((s.at F).post enc C.prog fn apart fresh handsOn again) := by
  refine returnsInHanded_of_calls own started noInit witness ?_
  intro w tape i _ _ _ hok hpre hholds
  obtain ⟨_, _, _, fn', hfn', _, _, _, _, hval⟩ := hok
  have e : fn' = fn := Option.some.inj (hfn'.symm.trans hfn)
  subst e
  obtain ⟨⟨hp0, hx⟩, hz⟩ := hpre
  obtain ⟨ds, gs, before, hw, hc, hkk⟩ := (OpenSpec.pre_some hk conds apart _ _).1 hp0
  have hw' := DataW.Whole.of_heap (w' := w.forCall tape i) (by rfl) hw
  refine (contract (w.forCall tape i) w.heap.size i.args ds gs before hval hw' hc hkk (hz.weights hw) (hX _ _ _ (by rfl) hx) hholds).mono fun e W' ⟨v, he, hp⟩ => ?_
  subst he
  exact ChangeSpec.post_blind hp
theorem witness_cond_and {C : Checked} {os : Os} {f : FuncId} {fn : Func} {s : OpenSpec} {k : (H : Type) → List (DataW H) → Bool} (hk : s.cond = some k) {conds : List PathCond} {apart : Bool} {X : World → Array Value → Prop} (modest : Bool) (w0 : World) (args : Array Value) (fuel : Nat) (hos : w0.os = os)
    (hsh : (w0.forCall (fun _ _ => 0) ⟨#[], args, []⟩).Shaped C.prog)
    (hok : Input.okWideB C.prog (w0.forCall (fun _ _ => 0) ⟨#[], args, []⟩) f ⟨#[], args, []⟩ = true)
    {x : List (DataW H) × List (DataW H) × List MemPlace} (hx : DataW.whole enc C.prog (w0.forCall (fun _ _ => 0) ⟨#[], args, []⟩).memory fn.params.toList s.vars apart args.toList fuel = some x)
    (hconds : conds.all (PathCond.test C.prog ⟨fn.params.toList, x.1, s.bare.plain.varTypes C.prog, x.2.1⟩) = true) (hkk : k H (x.1 ++ x.2.1) = true)
    (hsz : s.bare.sizedB enc C.prog fn apart (w0.forCall (fun _ _ => 0) ⟨#[], args, []⟩).memory args fuel = true)
    (hX : X (w0.forCall (fun _ _ => 0) ⟨#[], args, []⟩).memory args) :
    ∃ (w : World) (tape : Tape) (i : Input), w.os = os ∧ (w.forCall tape i).Shaped C.prog ∧ i.vars = [] ∧ Input.okWide C.prog (w.forCall tape i) .any w.heap.size f i ∧
      ((s.pre enc C.prog fn conds apart (w.forCall tape i).memory i.args ∧ X (w.forCall tape i).memory i.args) ∧ sizedMet enc C.prog fn s apart (w.forCall tape i).memory i.args) ∧ ({ modest := modest } : Assume).holds C.prog (lone (Frame.enter C.prog f i.args .normal) [] (w.forCall tape i)) :=
  ⟨w0, fun _ _ => 0, ⟨#[], args, []⟩, hos, hsh, (Input.okWide_of_okWideB (base := 0) hok).1, (Input.okWide_of_okWideB hok).2, ⟨⟨(OpenSpec.pre_some hk conds apart _ _).2 ⟨x.1, x.2.1, x.2.2, DataW.Whole_of_whole hx, hconds, hkk⟩, hX⟩, sizedMet_of_sizedB hsz⟩, by
    simp only [Assume.holds]
    exact ⟨by simp, by simp, fun _ => Modest.zero, by simp, by simp⟩⟩
end
end Go.Proofs.YtlnppgjppfkocaaGreatDoor.Xs

/-! Commands that came in. -/
namespace Go.Proofs.YtlnppgjppfkocaaGreatDoor.Xs
open Go.RowKit Go.Deep Go.ChangeShapes Go.WideShapes Go.ChangeAt Go.Joins Plain
set_option linter.unusedVariables false
set_option linter.unusedSimpArgs false

theorem wfS {z : Int} (h : (Lit.int .i64 z).wf = true) : I64 z := by
  have := bounds_i64 h
  unfold I64
  omega
theorem cells_2s : Tryz.prog.cellsOf 2 = 1 := by kernel_rfl
theorem cells_3s : Tryz.prog.cellsOf 3 = 1 := by kernel_rfl
theorem cells_4s : Tryz.prog.cellsOf 4 = 1 := by kernel_rfl
theorem cells_5s : Tryz.prog.cellsOf 5 = 1 := by kernel_rfl
theorem cells_9s : Tryz.prog.cellsOf 9 = 1 := by kernel_rfl
theorem cells_U32s : Tryz.prog.cellsOf 22 = 1 := by kernel_rfl
theorem cells_Bs : Tryz.prog.cellsOf 25 = 1 := by kernel_rfl
theorem cells_ISs : Tryz.prog.cellsOf 26 = 1 := by kernel_rfl
theorem cells_RQs : Tryz.prog.cellsOf 24 = 9 := by kernel_rfl
theorem cells_CMs : Tryz.prog.cellsOf 28 = 14 := by kernel_rfl
theorem bytes_3s : Tryz.prog.bytesOf 3 = 8 := by kernel_rfl
theorem bytes_5s : Tryz.prog.bytesOf 5 = 1 := by kernel_rfl
theorem weights_aggS {H : Type} {P : Program} {t t' : TypeId} {fs : Array Field} {parts : List (DataW H)} {d : DataW H} {j : Nat} (hu : P.underlying t = some (.struct fs)) (ht : (fs.toList.map (·.type))[j]? = some t') (hd : parts[j]? = some d) : ∀ n ∈ d.weights P t', n ∈ (DataW.agg parts).weights P t := fun n hn => by
  simp only [DataW.weights, hu]
  exact DataW.weights_mem_each ht hd n hn
theorem ba_list (s : ByteArray) : ba s.data.toList = s := by
  apply ByteArray.ext
  simp [ba]
theorem open_intsS {H : Type} {enc : TypeId × Value → H} {W : World} {fuel : Nat} {v : Value} {x : DataW H × List MemPlace} (h : DataW.trod enc Tryz.prog W 0 (fun _ => true) true fuel 26 [v] = some x) (hsz : ∀ m ∈ x.1.weights Tryz.prog 26, m ≤ reachBytes) : ∃ l : List Int, PksAt W v l ∧ ∀ z ∈ l, I64 z := by
  rcases open_ints Tryz.underlying26 Tryz.underlying3 cells_3s h with ⟨hcs, _⟩ | ⟨x0, len, cap, zs, hcs, hbk, hl, hm, hz, hx, hcell, hwz⟩
  · simp at hcs
    subst hcs
    exact ⟨[], ⟨none, 0, rfl, by simp, by simp, by simp⟩, by simp⟩
  · simp at hcs
    subst hcs
    simp only [if_true] at hz
    have hlt : (zs.take len).length = len := by simp; omega
    have hbig : len ≤ 17592186043904 := by
      have hw : ((lits (H := H) .i64 (zs.take len)).length + (lits (H := H) .i64 (zs.drop len)).length) * Tryz.prog.bytesOf 3 ≤ reachBytes := by
        refine hsz _ ?_
        rw [hx]
        simp [DataW.weights, Tryz.underlying26]
      rw [bytes_3s] at hw
      simp only [lits, List.length_map, List.length_take, List.length_drop, reachBytes] at hw
      omega
    obtain ⟨b, off, spot⟩ := x0
    refine ⟨zs.take len, ⟨_, cap, by rw [hlt], by rw [hlt]; exact hl, by rw [hlt]; omega, fun hne => ?_⟩, fun z hz' => wfS (hwz z (List.mem_of_mem_take hz'))⟩
    have hlen : 0 < len := by
      rcases Nat.eq_zero_or_pos len with rfl | h
      · simp at hne
      · exact h
    have hspot : spot = none := by
      have := World.cell?_spot (hcell 0 (by omega))
      simpa [Addr.add] using this
    subst hspot
    refine ⟨b, off, rfl, fun j hj => ?_⟩
    rw [hlt] at hj
    have h6 := hcell j (by omega)
    rw [WideShapes.add_plain] at h6
    rw [h6]
    simp [List.getD_eq_getElem?_getD, hj]
theorem open_bysS {H : Type} {enc : TypeId × Value → H} {W : World} {fuel : Nat} {v : Value} {x : DataW H × List MemPlace} (h : DataW.trod enc Tryz.prog W 0 (fun _ => true) true fuel 25 [v] = some x) (hsz : ∀ m ∈ x.1.weights Tryz.prog 25, m ≤ reachBytes) : ∃ l : By, BysAt W v l := by
  rcases open_ints Tryz.underlying25 Tryz.underlying5 cells_5s h with ⟨hcs, _⟩ | ⟨x0, len, cap, zs, hcs, hbk, hl, hm, hz, hx, hcell, hwz⟩
  · simp at hcs
    subst hcs
    exact ⟨[], ⟨none, 0, rfl, by simp, by simp, by simp⟩⟩
  · simp at hcs
    subst hcs
    simp only [if_true] at hz
    have hlt : ((zs.take len).map (fun z => UInt8.ofNat z.toNat)).length = len := by simp; omega
    have hbig : len ≤ 140737488351232 := by
      have hw : ((lits (H := H) .u8 (zs.take len)).length + (lits (H := H) .u8 (zs.drop len)).length) * Tryz.prog.bytesOf 5 ≤ reachBytes := by
        refine hsz _ ?_
        rw [hx]
        simp [DataW.weights, Tryz.underlying25]
      rw [bytes_5s] at hw
      simp only [lits, List.length_map, List.length_take, List.length_drop, reachBytes] at hw
      omega
    obtain ⟨b, off, spot⟩ := x0
    refine ⟨(zs.take len).map (fun z => UInt8.ofNat z.toNat), ⟨_, cap, by rw [hlt], by rw [hlt]; exact hl, by rw [hlt]; omega, fun hne => ?_⟩⟩
    have hlen : 0 < len := by
      rcases Nat.eq_zero_or_pos len with rfl | h
      · simp at hne
      · exact h
    have hspot : spot = none := by
      have := World.cell?_spot (hcell 0 (by omega))
      simpa [Addr.add] using this
    subst hspot
    refine ⟨b, off, rfl, fun j hj => ?_⟩
    rw [hlt] at hj
    have h6 := hcell j (by omega)
    rw [WideShapes.add_plain] at h6
    rw [h6]
    have hjz : j < zs.length := by omega
    have hmem : zs.getD j 0 ∈ zs := by rw [List.getD_eq_getElem?_getD, List.getElem?_eq_getElem hjz]; exact List.getElem_mem hjz
    have hb := bounds_u8 (hwz _ hmem)
    have e : ((zs.take len).map (fun z => UInt8.ofNat z.toNat)).getD j 0 = UInt8.ofNat (zs.getD j 0).toNat := by
      simp [List.getD_eq_getElem?_getD, hj, hjz]
    rw [e, UInt8.toNat_ofNat_of_lt' (by show _ < 256; omega)]
    congr 2
    omega
/-- A command that came in. -/
def CmIn (W : World) (v : Value) : Prop := ∃ (c : Cm) (vr vp : Value), v = cmV c vr vp ∧ BysAt W vr c.raw ∧ PksAt W vp c.picks ∧ WfC c ∧ SzC c
set_option maxRecDepth 100000 in
theorem open_cm {H : Type} {enc : TypeId × Value → H} {W : World} {base : Nat} {v : Value} {d : DataW H} {p : List MemPlace} (hv : Value.okWide Tryz.prog W .any base 28 v) (h : DataW.Trod enc Tryz.prog W 0 (fun _ => true) true 28 v d p) (hw : ∀ m ∈ d.weights Tryz.prog 28, m ≤ reachBytes) : CmIn W v := by
  obtain ⟨cs, rfl, hs⟩ := okWide_struct Tryz.underlying28 hv
  obtain ⟨v0, v1, v2, v3, v4, v5, v6, v7, v8, v9, v10, v11, v12, v13, rfl⟩ : ∃ v0 v1 v2 v3 v4 v5 v6 v7 v8 v9 v10 v11 v12 v13, cs = #[v0, v1, v2, v3, v4, v5, v6, v7, v8, v9, v10, v11, v12, v13] := by
    obtain ⟨l⟩ := cs
    match l, hs.trans cells_CMs with
    | [c0, c1, c2, c3, c4, c5, c6, c7, c8, c9, c10, c11, c12, c13], _ => exact ⟨c0, c1, c2, c3, c4, c5, c6, c7, c8, c9, c10, c11, c12, c13, rfl⟩
  obtain ⟨fuel, hf⟩ := h
  obtain ⟨xs, m, _, hx, hl, hlen, hfs⟩ := DataW.trod_struct Tryz.underlying28 hf
  have hlen : xs.length = 6 := hlen
  match xs, hlen with
  | [y0, y1, y2, y3, y4, y5], _ =>
    have k0 : DataW.trod enc Tryz.prog W 0 (fun _ => true) true m 3 [v0] = some y0 := by simpa [Value.cells, cells_3s, cells_RQs, cells_Bs, cells_2s, cells_ISs] using hfs 0 _ rfl
    have k1 : DataW.trod enc Tryz.prog W 0 (fun _ => true) true m 3 [v1] = some y1 := by simpa [Value.cells, cells_3s, cells_RQs, cells_Bs, cells_2s, cells_ISs] using hfs 1 _ rfl
    have k2 : DataW.trod enc Tryz.prog W 0 (fun _ => true) true m 24 [v2, v3, v4, v5, v6, v7, v8, v9, v10] = some y2 := by simpa [Value.cells, cells_3s, cells_RQs, cells_Bs, cells_2s, cells_ISs] using hfs 2 _ rfl
    have k3 : DataW.trod enc Tryz.prog W 0 (fun _ => true) true m 25 [v11] = some y3 := by simpa [Value.cells, cells_3s, cells_RQs, cells_Bs, cells_2s, cells_ISs] using hfs 3 _ rfl
    have k4 : DataW.trod enc Tryz.prog W 0 (fun _ => true) true m 2 [v12] = some y4 := by simpa [Value.cells, cells_3s, cells_RQs, cells_Bs, cells_2s, cells_ISs] using hfs 4 _ rfl
    have k5 : DataW.trod enc Tryz.prog W 0 (fun _ => true) true m 26 [v13] = some y5 := by simpa [Value.cells, cells_3s, cells_RQs, cells_Bs, cells_2s, cells_ISs] using hfs 5 _ rfl
    obtain ⟨n0, e0, _, w0⟩ := DataW.trod_int Tryz.underlying3 k0
    obtain ⟨n1, e1, _, w1⟩ := DataW.trod_int Tryz.underlying3 k1
    obtain ⟨n4, e4, _, w4⟩ := DataW.trod_int Tryz.underlying2 k4
    simp only [List.cons.injEq, and_true] at e0 e1 e4
    subst e0 e1 e4
    obtain ⟨zs, m2, _, hx2, hl2, hlen2, hfs2⟩ := DataW.trod_struct Tryz.underlying24 k2
    have hlen2 : zs.length = 9 := hlen2
    have hd : d = .agg [y0.1, y1.1, y2.1, y3.1, y4.1, y5.1] := by
      simp only [Prod.mk.injEq] at hx
      simpa using hx.1
    match zs, hlen2 with
    | [r0, r1, r2, r3, r4, r5, r6, r7, r8], _ =>
      have j0 : DataW.trod enc Tryz.prog W 0 (fun _ => true) true m2 22 [v2] = some r0 := by simpa [cells_U32s, cells_3s, cells_9s, cells_2s] using hfs2 0 _ rfl
      have j1 : DataW.trod enc Tryz.prog W 0 (fun _ => true) true m2 3 [v3] = some r1 := by simpa [cells_U32s, cells_3s, cells_9s, cells_2s] using hfs2 1 _ rfl
      have j2 : DataW.trod enc Tryz.prog W 0 (fun _ => true) true m2 9 [v4] = some r2 := by simpa [cells_U32s, cells_3s, cells_9s, cells_2s] using hfs2 2 _ rfl
      have j3 : DataW.trod enc Tryz.prog W 0 (fun _ => true) true m2 9 [v5] = some r3 := by simpa [cells_U32s, cells_3s, cells_9s, cells_2s] using hfs2 3 _ rfl
      have j4 : DataW.trod enc Tryz.prog W 0 (fun _ => true) true m2 9 [v6] = some r4 := by simpa [cells_U32s, cells_3s, cells_9s, cells_2s] using hfs2 4 _ rfl
      have j5 : DataW.trod enc Tryz.prog W 0 (fun _ => true) true m2 2 [v7] = some r5 := by simpa [cells_U32s, cells_3s, cells_9s, cells_2s] using hfs2 5 _ rfl
      have j6 : DataW.trod enc Tryz.prog W 0 (fun _ => true) true m2 2 [v8] = some r6 := by simpa [cells_U32s, cells_3s, cells_9s, cells_2s] using hfs2 6 _ rfl
      have j7 : DataW.trod enc Tryz.prog W 0 (fun _ => true) true m2 2 [v9] = some r7 := by simpa [cells_U32s, cells_3s, cells_9s, cells_2s] using hfs2 7 _ rfl
      have j8 : DataW.trod enc Tryz.prog W 0 (fun _ => true) true m2 2 [v10] = some r8 := by simpa [cells_U32s, cells_3s, cells_9s, cells_2s] using hfs2 8 _ rfl
      obtain ⟨i0, f0, _, u0⟩ := DataW.trod_int Tryz.underlying22 j0
      obtain ⟨i1, f1, _, u1⟩ := DataW.trod_int Tryz.underlying3 j1
      obtain ⟨s2, f2, sw2, u2⟩ := DataW.trod_string Tryz.underlying9 j2
      obtain ⟨s3, f3, sw3, u3⟩ := DataW.trod_string Tryz.underlying9 j3
      obtain ⟨s4, f4, sw4, u4⟩ := DataW.trod_string Tryz.underlying9 j4
      obtain ⟨i5, f5, _, u5⟩ := DataW.trod_int Tryz.underlying2 j5
      obtain ⟨i6, f6, _, u6⟩ := DataW.trod_int Tryz.underlying2 j6
      obtain ⟨i7, f7, _, u7⟩ := DataW.trod_int Tryz.underlying2 j7
      obtain ⟨i8, f8, _, u8⟩ := DataW.trod_int Tryz.underlying2 j8
      simp only [List.cons.injEq, and_true] at f0 f1 f2 f3 f4 f5 f6 f7 f8
      subst f0 f1 f2 f3 f4 f5 f6 f7 f8
      obtain ⟨l3, hl3⟩ := open_bysS k3 (fun q hq => hw q (by rw [hd]; exact weights_aggS (j := 3) Tryz.underlying28 rfl rfl q hq))
      obtain ⟨l5, hl5, ok5⟩ := open_intsS k5 (fun q hq => hw q (by rw [hd]; exact weights_aggS (j := 5) Tryz.underlying28 rfl rfl q hq))
      have b0 := bounds_u32 u0
      have hd2 : y2.1 = .agg [r0.1, r1.1, r2.1, r3.1, r4.1, r5.1, r6.1, r7.1, r8.1] := by
        rw [hx2]; simp
      have hq : ∀ q ∈ y2.1.weights Tryz.prog 24, q ≤ reachBytes := fun q hq => hw q (by rw [hd]; exact weights_aggS (j := 2) Tryz.underlying28 rfl rfl q hq)
      rw [hd2] at hq
      have z2 : s2.data.toList.length ≤ 1125899906842624 := by
        have := hq s2.data.toList.length (weights_aggS (j := 2) Tryz.underlying24 rfl rfl _ (by rw [sw2]; simp [DataW.weights]))
        simp only [reachBytes] at this; omega
      have z3 : s3.data.toList.length ≤ 1125899906842624 := by
        have := hq s3.data.toList.length (weights_aggS (j := 3) Tryz.underlying24 rfl rfl _ (by rw [sw3]; simp [DataW.weights]))
        simp only [reachBytes] at this; omega
      have z4 : s4.data.toList.length ≤ 1125899906842624 := by
        have := hq s4.data.toList.length (weights_aggS (j := 4) Tryz.underlying24 rfl rfl _ (by rw [sw4]; simp [DataW.weights]))
        simp only [reachBytes] at this; omega
      refine ⟨⟨n0, n1, ⟨i0, i1, s2.data.toList, s3.data.toList, s4.data.toList, i5, i6, i7, i8⟩, l3, n4, l5⟩, v11, v13, ?_, hl3, hl5, ⟨wfS w0, wfS w1, ⟨(by omega : 0 ≤ i0), (by omega : i0 ≤ 4294967295), wfS u1, wfS u5, wfS u6, wfS u7, wfS u8⟩, wfS w4, ok5⟩, ⟨z2, z3, z4⟩⟩
      show Value.agg _ = Value.agg _
      simp only [ba_list]
end Go.Proofs.YtlnppgjppfkocaaGreatDoor.Xs

/-! The law's works. -/
namespace Go.Proofs.YtlnppgjppfkocaaGreatDoor.Xs
open Go.RowKit Plain
set_option linter.unusedVariables false
set_option linter.unusedSimpArgs false

set_option maxHeartbeats 8000000 in
set_option maxRecDepth 100000 in
theorem lworksOf {Tb : World → Prop} (hTb : Kept Tb) (hP : PrintOk Tb) (hR : ParseOk Tb) (w : World) (ht : Tb w) : Calls Tryz.prog 9 #[] w fun e w' => e = .returned (.bool true) ∧ Below w.heap.size w w' := by
  obtain ⟨W1, hW1⟩ : ∃ u, w.alloc (.cells #[.int .i64 0, .int .i64 (-1), .int .i64 7] 3) = u := ⟨_, rfl⟩
  have hs1 : W1.heap.size = w.heap.size + 1 := by rw [← hW1]; simp
  have hb1 : Below w.heap.size w W1 := by rw [← hW1]; exact (Below.refl _ _).alloc (Nat.le_refl _) _
  have hc1 : ∀ j, j < 3 → W1.cell? ⟨w.heap.size, j, none⟩ = some (.int .i64 (([0, -1, 7] : List Int).getD j 0)) := fun j hj => by
    rw [← hW1, World.cell?_alloc_at _ _ _ _ rfl]
    have : j = 0 ∨ j = 1 ∨ j = 2 := by omega
    rcases this with e | e | e <;> subst e <;> rfl
  have hp1 : PksAt W1 (.slice (some ⟨w.heap.size, 0, none⟩) 3 3) wkC.picks := ⟨_, 3, rfl, by decide, by decide, fun _ => ⟨_, 0, rfl, fun j hj => by rw [Nat.zero_add]; exact hc1 j hj⟩⟩
  obtain ⟨W2, hW2⟩ : ∃ u, W1.alloc (.cells #[.int .i64 5, .int .i64 0, .int .u32 0, .int .i64 0, .string ⟨#[]⟩, .string ⟨#[]⟩, .string ⟨#[]⟩, .int .i64 0, .int .i64 0, .int .i64 0, .int .i64 0, .slice none 0 0, .int .i64 0, .slice (some ⟨w.heap.size, 0, none⟩) 3 3] 28) = u := ⟨_, rfl⟩
  have hx2 := cmBox W1 wkC (.slice none 0 0) (.slice (some ⟨w.heap.size, 0, none⟩) 3 3) 28
  rw [show (W1.alloc (.cells (cmA wkC (.slice none 0 0) (.slice (some ⟨w.heap.size, 0, none⟩) 3 3)) 28)) = W2 from hW2, hs1] at hx2
  have HX2 : Hid (∀ u, Below W2.heap.size W2 u → CmAt u (w.heap.size + 1) wkC (.slice none 0 0) (.slice (some ⟨w.heap.size, 0, none⟩) 3 3)) := fun u hu => hx2.2.later hu
  have hbx : Below W1.heap.size W1 W2 := by rw [hs1]; exact hx2.1
  have HB2 : Hid (Below w.heap.size w W2) := below_on hb1 hbx
  have hp2 := hp1.later hbx
  have HP2 : Hid (∀ u, Below W2.heap.size W2 u → PksAt u (.slice (some ⟨w.heap.size, 0, none⟩) 3 3) wkC.picks) := fun u hu => hp2.later hu
  have HPR : Hid (Calls Tryz.prog 8 #[.agg #[.int .i64 5, .int .i64 0, .int .u32 0, .int .i64 0, .string ⟨#[]⟩, .string ⟨#[]⟩, .string ⟨#[]⟩, .int .i64 0, .int .i64 0, .int .i64 0, .int .i64 0, .slice none 0 0, .int .i64 0, .slice (some ⟨w.heap.size, 0, none⟩) 3 3]] W2 fun e w' => (∃ l z, e = .returned (.tuple #[.string (ba l), .int .i64 z]) ∧ PriA wkC l z) ∧ Below W2.heap.size W2 w') := hP wkC (.slice none 0 0) (.slice (some ⟨w.heap.size, 0, none⟩) 3 3) W2 (hTb w W2 ht HB2.out) ⟨none, 0, rfl, Nat.le_refl _, Nat.zero_le _, fun h => absurd rfl h⟩ hp2 wk_wf wk_sz
  have HPA : Hid (∀ u, Below w.heap.size w u → Calls Tryz.prog 10 #[.string ⟨#[115, 116, 101, 112, 115, 32, 48, 32, 45, 49, 32, 55]⟩] u fun e w' => (∃ c vr vp z, e = .returned (.tuple #[cmV c vr vp, .int .i64 z]) ∧ WfC c ∧ ParA wkL c z ∧ NewL u w' c vr vp) ∧ Below u.heap.size u w') := fun u hu => hR wkL u (hTb w u ht hu) (by decide)
  obtain ⟨z0, z1, z2, z3, z4, z5, z6, z7, z8, z9, z10, z11, z12, z13⟩ := hx2.2
  clear hx2 hbx hp1 hp2 hc1 hb1
  go_enter Tryz.func9, Tryz.ntmps9
  go_wp2_with fail
  refine HPR.out.mono ?_
  rintro e w4 ⟨⟨l, z, rfl, hpr⟩, hb4⟩
  obtain ⟨rfl, rfl⟩ := wk_pri hpr
  rw [show ba wkL = (⟨#[115, 116, 101, 112, 115, 32, 48, 32, 45, 49, 32, 55]⟩ : ByteArray) from rfl]
  clear hpr HPR hW1 hW2
  go_wp2_with fail
  refine (HPA.out _ (below_on HB2.out hb4)).mono ?_
  rintro e w5 ⟨⟨c, vr, vp, z, rfl, hwf, hpa, hnew⟩, hb5⟩
  have hrd := hnew.reads hpa
  obtain ⟨rfl, rfl⟩ := wk_par hwf hpa
  have hb25 : Below W2.heap.size W2 w5 := below_on hb4 hb5
  have HB5 : Hid (Below w.heap.size w w5) := below_on HB2.out hb25
  have HRV := mkH hrd
  clear hrd hnew
  obtain ⟨ar, cr, rfl, _⟩ := HRV.out.1
  obtain ⟨ap, cp, rfl, _⟩ := HRV.out.2
  have hx6 := cmBox w5 wkC (.slice ar wkC.raw.length cr) (.slice ap wkC.picks.length cp) 28
  obtain ⟨W6, hW6⟩ : ∃ u, w5.alloc (.cells #[.int .i64 wkC.verb, .int .i64 wkC.conn, .int .u32 wkC.req.id, .int .i64 wkC.req.op, .string (ba wkC.req.topic), .string (ba wkC.req.key), .string (ba wkC.req.value), .int .i64 wkC.req.offset, .int .i64 wkC.req.number, .int .i64 wkC.req.pid, .int .i64 wkC.req.seq, .slice ar wkC.raw.length cr, .int .i64 wkC.n, .slice ap wkC.picks.length cp] 28) = u := ⟨_, rfl⟩
  rw [hW6] at hx6
  have HB6 : Hid (Below w.heap.size w W6) := below_on HB5.out hx6.1
  have hb26 : Below W2.heap.size W2 W6 := below_on hb25 hx6.1
  have hn : Hid (BysAt W6 (.slice none 0 0) wkC.raw) := ⟨none, 0, rfl, Nat.le_refl _, Nat.zero_le _, fun h => absurd rfl h⟩
  have HSA : Hid (Calls Tryz.prog 11 #[cmV wkC (.slice none 0 0) (.slice (some ⟨w.heap.size, 0, none⟩) 3 3), cmV wkC (.slice ar wkC.raw.length cr) (.slice ap wkC.picks.length cp)] W6 fun e w' => e = .returned (.bool true) ∧ Below W6.heap.size W6 w') := lsameOf wkC _ _ _ _ W6 hn.out (HP2.out _ hb26) (HRV.out.1.later hx6.1) (HRV.out.2.later hx6.1)
  clear z0 z1 z2 z3 z4 z5 z6 z7 z8 z9 z10 z11 z12 z13
  obtain ⟨z0, z1, z2, z3, z4, z5, z6, z7, z8, z9, z10, z11, z12, z13⟩ := HX2.out _ hb26
  obtain ⟨y0, y1, y2, y3, y4, y5, y6, y7, y8, y9, y10, y11, y12, y13⟩ := hx6.2
  clear hx6 hb26 hb25 hb5 hb4 HRV hpa hwf HX2 HP2 HPA hn HB5 HB2
  go_wp2_with fail
  refine HSA.out.mono ?_
  rintro e w7 ⟨rfl, hb7⟩
  have HB7 : Hid (Below w.heap.size w w7) := below_on HB6.out hb7
  clear hb7 HSA HB6 z0 z1 z2 z3 z4 z5 z6 z7 z8 z9 z10 z11 z12 z13 y0 y1 y2 y3 y4 y5 y6 y7 y8 y9 y10 y11 y12 y13 hW6
  go_wp2
  go_ret
  exact ⟨rfl, HB7.out⟩
end Go.Proofs.YtlnppgjppfkocaaGreatDoor.Xs

/-! The law's visible. -/
namespace Go.Proofs.YtlnppgjppfkocaaGreatDoor.Xs
open Go.RowKit Plain
set_option linter.unusedVariables false
set_option linter.unusedSimpArgs false

set_option maxHeartbeats 8000000 in
set_option maxRecDepth 100000 in
theorem lvisibleOf (s : By) (hs : s.length ≤ 1125899906842624) (hv : Vis s) (w : World) : Calls Tryz.prog 12 #[.string (ba s)] w fun e w' => e = .returned (.bool true) ∧ w' = w := by
  have hsz : (ba s).size = s.length := rfl
  go_enter Tryz.func12, Tryz.ntmps12
  go_wp2
  go_loopw [3] (fun i wl => ∃ k : Nat, k ≤ s.length ∧ i = .int .i64 k ∧ wl = w) (fun i _ => s.length - (intOf i).toNat)
  case atStart => exact ⟨0, Nat.zero_le _, rfl, rfl⟩
  case round =>
    obtain ⟨k, hk, rfl, rfl⟩ := hrel
    by_cases hp : k < s.length
    · have hki : (k : Int) < (s.length : Int) := by omega
      have hkb : k < (ba s).size := by rw [hsz]; exact hp
      have hy : (((ba s)[k]'hkb).toNat : Int) = ((s.getD k 0).toNat : Int) := by rw [ba_get hkb]
      have hc : 32 ≤ (s.getD k 0).toNat ∧ (s.getD k 0).toNat ≤ 126 := hv _ (by rw [List.getD_eq_getElem?_getD, List.getElem?_eq_getElem hp]; exact List.getElem_mem hp)
      have ix : ∀ u, (Instr.index 9 (.string (ba s)) (.int .i64 (k : Int))).run Tryz.prog u = .ok (.int .u8 ((s.getD k 0).toNat : Int)) u := fun u => by
        rw [run_index_string u 9 (ba s) .i64 _ Tryz.underlying9, dif_pos ⟨by omega, by rw [hsz]; omega⟩]
        have : ((k : Int)).toNat = k := by omega
        simp only [this, hy]
      generalize (s.getD k 0).toNat = z at hc ix hy
      have hz1 : ¬ ((z : Int) < 32) := by omega
      have hz2 : ¬ ((126 : Int) < (z : Int)) := by omega
      clear hy hc
      go_wp2
      go_roundw
      case rel => exact ⟨k + 1, by omega, by go_num, by first | rfl | trivial⟩
      case measure => simp [intOf]; omega
    · have hki : ¬ (k : Int) < (s.length : Int) := by omega
      go_wp2
      go_ret
      exact ⟨rfl, by first | rfl | trivial⟩
end Go.Proofs.YtlnppgjppfkocaaGreatDoor.Xs
