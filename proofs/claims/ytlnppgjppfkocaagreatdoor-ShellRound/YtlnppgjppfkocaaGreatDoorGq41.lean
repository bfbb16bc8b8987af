import Derived.Test.YtlnppgjppfkocaaGreatDoorGq39
import Derived.Test.YtlnppgjppfkocaaGreatDoorGq40
import Derived.Test.YtlnppgjppfkocaaGreatDoorGq18
import Derived.Test.YtlnppgjppfkocaaGreatDoorGq13
/-! The program's Parse. -/
namespace Go.Proofs.YtlnppgjppfkocaaGreatDoor.Xs
open Go.RowKit Plain
set_option linter.unusedVariables false
set_option linter.unusedSimpArgs false

/-- What Parse answers. -/
def PaP (w : World) (line : By) (e : Ending) (w' : World) : Prop := (∃ c vr vp z, e = .returned (.tuple #[cmV c vr vp, .int .i64 z]) ∧ WfC c ∧ ParA line c z ∧ NewL w w' c vr vp) ∧ Below w.heap.size w w'
theorem par_noc {line : By} (h : NoC line) : ParA line Cm.zero 230 := par_none fun d hw hd => h d ⟨hw, hd.1, hd.2.1⟩
theorem rd_made {w : World} {v : Value} {ps : List By} {r : Option Nat} (h : OwnV w v (strs ps) r) (hne : ps ≠ []) : ∃ b cap, v = .slice (some ⟨b, 0, none⟩) ps.length cap ∧ r = some b ∧ ∀ t, RdAt (w.alloc (.cells #[.slice (some ⟨b, 0, none⟩) ps.length cap] t)) w.heap.size b ps := by
  rcases h with ⟨_, e2, _⟩ | ⟨g, cap, e, e2, hg, h1, h2, h3, h4, h5⟩
  · exfalso
    apply hne
    have := congrArg List.length e2
    rw [strs_len] at this
    exact List.length_eq_zero_iff.1 this
  · rw [strs_len] at e2 h1 h5
    refine ⟨g, cap, e2, e, fun t => ⟨⟨0, cap, ?_, h1, h2, fun i hi => ?_⟩, World.frozen?_alloc_at _ _ _ _ rfl, by simp; omega, by omega⟩⟩
    · rw [World.cell?_alloc_at _ _ _ _ rfl]; rfl
    · rw [((Below.refl _ w).alloc (Nat.le_refl _) _ : Below w.heap.size w _).cell (show (⟨g, 0 + i, none⟩ : Addr).block < w.heap.size from hg), Nat.zero_add, h5 i hi, strs_get hi]
theorem results_cell2 {fn : Func} {p q : Tmp} {ty ty' : TypeId} (h : fn.results = #[.cell p ty, .cell q ty']) (tmps : Array Value) (P : Program) (w : World) :
    (results fn tmps).run P w =
      ((asAddr (tmps.getD p undef)).run P w).andThen fun a w₁ => ((loadVar ty a).run P w₁).andThen fun v w₂ => ((asAddr (tmps.getD q undef)).run P w₂).andThen fun b w₃ => ((loadVar ty' b).run P w₃).andThen fun u w₄ => .ok (.tuple #[v, u]) w₄ := by
  simp only [results, h]
  simp [Sem.run_bind, Result.andThen]
set_option maxHeartbeats 4000000 in
set_option maxRecDepth 100000 in
/-- What is read at the end. -/
theorem leave_ok {W U : World} {R1 R2 : Nat} {c : Cm} {ar ap : Option Addr} {n1 n2 cr cp : Nat} {z : Int} (tmps : Array Value) (h2 : tmps.getD 2 undef = .pointer (some ⟨R1, 0, none⟩)) (h3 : tmps.getD 3 undef = .pointer (some ⟨R2, 0, none⟩)) (hb1 : Bx W U R1 (cmLst c (.slice ar n1 cr) (.slice ap n2 cp))) (hb2 : Bx W U R2 [.int .i64 z]) :
    (results Tryz.f10 tmps).run Tryz.prog U = .ok (.tuple #[cmV c (.slice ar n1 cr) (.slice ap n2 cp), .int .i64 z]) U := by
  obtain ⟨a0, a1, a2, a3, a4, a5, a6, a7, a8, a9, a10, a11, a12, a13⟩ := hb1.cm
  have b0 : U.cell? ⟨R2, 0, none⟩ = some (.int .i64 z) := hb2.c 0 (by simp)
  rw [results_cell2 rfl, h2, h3]
  go_simp
theorem own_slice {w : World} {v : Value} {x : By} {r : Option Nat} (h : Own w v (nats x) r) : ∃ a cap, v = .slice a x.length cap := by
  rcases h.2 with ⟨e, e2, _⟩ | ⟨g', cap, _, e, _⟩
  · exact ⟨none, 0, by rw [e]; have := congrArg List.length e2; rw [nats_len] at this; rw [this]; rfl⟩
  · exact ⟨_, cap, by rw [e, nats_len]⟩
theorem ownv_slice {w : World} {v : Value} {x : List Int} {r : Option Nat} (h : OwnV w v (ints x) r) : ∃ a cap, v = .slice a x.length cap := by
  obtain ⟨a, c', e, _⟩ := h.shape
  exact ⟨a, c', by rw [e, ints_len]⟩
theorem pap_none {w w' : World} {line : By} (h : ParA line Cm.zero 230) (hb : Below w.heap.size w w') : PaP w line (.returned (.tuple #[cmV Cm.zero nilV nilV, .int .i64 230])) w' :=
  ⟨⟨Cm.zero, nilV, nilV, 230, rfl, wfc_zero, h, ⟨none, none, Own.nil _, OwnV.nil _, (fun g e => by cases e), (fun g e => by cases e), .inl rfl⟩⟩, hb⟩
theorem caught {W u : World} {R1 R2 : Nat} {c : Cm} {vr vp : Value} {y : Int} (h1 : Bx W u R1 (cmLst c vr vp)) (h2 : Bx W u R2 [.int .i64 y]) (hne : R1 ≠ R2) (hb : Below W.heap.size W u) :
    Bx W ((cmPut u R1 Cm.zero nilV nilV).setCell ⟨R2, 0, none⟩ (.int .i64 230)) R1 (cmLst Cm.zero nilV nilV) ∧ Bx W ((cmPut u R1 Cm.zero nilV nilV).setCell ⟨R2, 0, none⟩ (.int .i64 230)) R2 [.int .i64 230] ∧ Below W.heap.size W ((cmPut u R1 Cm.zero nilV nilV).setCell ⟨R2, 0, none⟩ (.int .i64 230)) := by
  obtain ⟨k1, k2, k3⟩ := h1.putCm hb Cm.zero nilV nilV
  exact ⟨k1.other hne 0 _, (h2.grown k3 (fun e => hne (Option.some.inj e))).set (i := 0) (by simp) _ rfl, below_set k2 h2.ge 0 _⟩
theorem told {W u : World} {R1 R2 : Nat} {c : Cm} {vr vp : Value} {y : Int} (h1 : Bx W u R1 (cmLst c vr vp)) (h2 : Bx W u R2 [.int .i64 y]) (hne : R1 ≠ R2) (hb : Below W.heap.size W u) :
    Bx W ((cmPut u R1 c vr vp).setCell ⟨R2, 0, none⟩ (.int .i64 0)) R1 (cmLst c vr vp) ∧ Bx W ((cmPut u R1 c vr vp).setCell ⟨R2, 0, none⟩ (.int .i64 0)) R2 [.int .i64 0] ∧ Below W.heap.size W ((cmPut u R1 c vr vp).setCell ⟨R2, 0, none⟩ (.int .i64 0)) ∧ Ch (fun j => j = R1 ∨ j = R2) u ((cmPut u R1 c vr vp).setCell ⟨R2, 0, none⟩ (.int .i64 0)) := by
  obtain ⟨k1, k2, k3⟩ := h1.putCm hb c vr vp
  exact ⟨k1.other hne 0 _, (h2.grown k3 (fun e => hne (Option.some.inj e))).set (i := 0) (by simp) _ rfl, below_set k2 h2.ge 0 _, ((Ch.refl _ _).grown k3 (fun x e => by cases e; exact .inl (.inl rfl))).set 0 _ (.inr rfl)⟩
set_option maxHeartbeats 32000000 in
set_option maxRecDepth 100000 in
theorem parseQ (line : By) (w : World) (hE : ErrAt w) (hO : OpsAt w) (hT : Tab w) (hU : Lib.Utf8Tabs 4 5 w) (hlen : line.length ≤ 1125899906842624) :
    Calls Tryz.prog 10 #[.string (ba line)] w (PaP w line) := by
  have hmf : ∀ (fn : Fn) (first cap : Array Value) (w : World), (Instr.makeFunc fn first cap).run Tryz.prog w = .ok (.func fn first cap) w := fun _ _ _ _ => rfl
  have hsz : (ba line).size = line.length := rfl
  have HE := mkW hE
  have HO := mkW hO
  have HT := mkW hT
  have HU := mkW hU
  obtain ⟨R1, hR1⟩ : ∃ R, w.heap.size = R := ⟨_, rfl⟩
  have HR1 := mkW hR1
  clear hE hO hT hU
  by_cases hl : line.length ≤ 4096
  · have hli : ¬ (4096 : Int) < (line.length : Int) := by omega
    clear hlen
    go_enter_defers Tryz.func10, Tryz.ntmps10
    go_wp2_with fail
    obtain ⟨W0, hW0⟩ : ∃ W0, w.alloc (.cells #[.int .i64 0, .int .i64 0, .int .u32 0, .int .i64 0, .string ⟨#[]⟩, .string ⟨#[]⟩, .string ⟨#[]⟩, .int .i64 0, .int .i64 0, .int .i64 0, .int .i64 0, .slice none 0 0, .int .i64 0, .slice none 0 0] 28) = W0 := ⟨_, rfl⟩
    obtain ⟨W1, hW1⟩ : ∃ W1, W0.alloc (.cells #[.int .i64 0] 29) = W1 := ⟨_, rfl⟩
    rw [hW0, hW1]
    have hb0 : Below w.heap.size w W0 := by rw [← hW0]; exact (Below.refl _ _).alloc (Nat.le_refl _) _
    have hs0 : W0.heap.size = R1 + 1 := by rw [← hW0, ← hR1]; simp
    have hb1 : Below W0.heap.size W0 W1 := by rw [← hW1]; exact (Below.refl _ _).alloc (Nat.le_refl _) _
    have hx0 : Bx w W0 w.heap.size (cmLst Cm.zero nilV nilV) := by rw [← hW0]; exact Bx.new (Nat.le_refl _) (cmLst Cm.zero nilV nilV) 28
    have hx2 : Bx w W1 W0.heap.size [.int .i64 0] := by rw [← hW1]; exact Bx.new hb0.size [.int .i64 0] 29
    have HB1 := mkW (below_on hb0 hb1)
    have HX1 := mkW (hx0.later hb1)
    have HX2 := mkW hx2
    rw [hR1] at HX1
    rw [hs0] at HX2
    have hne : R1 ≠ R1 + 1 := by omega
    clear hb0 hs0 hb1 hx0 hx2 hW0 hW1 hR1
    refine (cutOf line hl W1).mono ?_
    rintro e w2 ⟨⟨v, ps, r, rfl, ho, hnew, hpne, hpl, hpx, hpd⟩, hb2⟩
    obtain ⟨b, cap, rfl, rfl, hmk⟩ := rd_made ho hpne
    have hbn := hnew b rfl
    have HPD := mkW hpd
    have HPL := mkW hpl
    have HB2 := mkW (below_on HB1.out hb2)
    have HX12 := mkW (HX1.out.later hb2)
    have HX22 := mkW (HX2.out.later hb2)
    have HRD2 : Hid (∀ t, RdW w (w2.alloc (.cells #[.slice (some ⟨b, 0, none⟩) ps.length cap] t)) w2.heap.size b ps) := fun t => ⟨hmk t, HB2.out.trans ((Below.refl _ w2).alloc HB2.out.size _), HB2.out.size, by have := HB1.out.size; omega, hpx⟩
    clear ho hnew hpne hpl hpx hpd hmk hb2 HB1 HX1 HX2 hbn
    go_wp2_with fail
    obtain ⟨w3, hw3⟩ : ∃ w3, w2.alloc (.cells #[.slice (some ⟨b, 0, none⟩) ps.length cap] 62) = w3 := ⟨_, rfl⟩
    have hb3 : Below w2.heap.size w2 w3 := by rw [← hw3]; exact (Below.refl _ _).alloc (Nat.le_refl _) _
    have HRD3 : Hid (RdW w w3 w2.heap.size b ps) := by rw [← hw3]; exact HRD2.out _
    have HB3 := mkW (below_on HB2.out hb3)
    have HX13 := mkW (HX12.out.later hb3)
    have HX23 := mkW (HX22.out.later hb3)
    have HG : Hid (R1 + 1 < w2.heap.size) := HX22.out.lt
    try rw [hw3]
    clear hb3 HRD2 HB2 HX12 HX22 hw3
    obtain ⟨g, hg⟩ : ∃ g, w2.heap.size = g := ⟨_, rfl⟩
    rw [hg] at HRD3 HG ⊢
    clear hg
    refine (readCommandOf w w3 line g b ps HRD3.out HE.out HO.out HU.out HPD.out HPL.out).mono ?_
    rintro e w4 (⟨c, vr, vp, r, s, rfl, hwf, hsz2, hl1, hl2, hrd, ho, hp, hr, hs, hd, hch⟩ | ⟨hno, rfl, hch⟩)
    · obtain ⟨ar, cr, rfl⟩ := own_slice ho
      obtain ⟨ap, cp, rfl⟩ := ownv_slice hp
      have HX14 := mkW (HX13.out.ch hch (by have := HG.out; omega))
      have HX24 := mkW (HX23.out.ch hch (by have := HG.out; omega))
      have hb4 : Below w.heap.size w w4 := Ch.on HB3.out hch (fun j e => by rw [e]; exact HRD3.out.gW)
      have HRS : Hid ((∀ x, r = some x → w.heap.size ≤ x ∧ x ≠ R1 ∧ x ≠ R1 + 1) ∧ (∀ x, s = some x → w.heap.size ≤ x ∧ x ≠ R1 ∧ x ≠ R1 + 1)) := by
        have h1 := HX13.out.lt
        have h2 := HX23.out.lt
        have h3 := HB3.out.size
        exact ⟨fun x e => (by have := hr x e; exact ⟨by omega, by omega, by omega⟩), fun x e => (by have := hs x e; exact ⟨by omega, by omega, by omega⟩)⟩
      have HWF := mkW hwf
      have HSZ := mkW hsz2
      have HLN := mkW (And.intro hl1 hl2)
      have HRD := mkW hrd
      have HDS : Hid (r = none ∨ r ≠ s) := by
        rcases hd with e | e
        · exact .inl e
        · rcases r with _ | x
          · exact .inl rfl
          · exact .inr (by rw [e]; simp)
      obtain ⟨hB9, hb9, hg9⟩ := HX14.out.putCm hb4 c (.slice ar c.raw.length cr) (.slice ap c.picks.length cp)
      obtain ⟨U9, hU9⟩ : ∃ u, cmPut w4 R1 c (.slice ar c.raw.length cr) (.slice ap c.picks.length cp) = u := ⟨_, rfl⟩
      rw [hU9] at hB9 hb9 hg9
      simp only [cmPut] at hU9
      have HB9 := mkW hB9
      have HBE := mkW hb9
      have HX29 := mkW (HX24.out.grown hg9 (fun e => by cases e))
      have HO9 : Hid (Own U9 (.slice ar c.raw.length cr) (nats c.raw) r) := ho.kept hg9 (by
        rcases r with _ | x
        · exact .inl rfl
        · exact .inr (fun e => (HRS.out.1 x rfl).2.1 (Option.some.inj e)))
      have HP9 : Hid (OwnV U9 (.slice ap c.picks.length cp) (ints c.picks) s) := hp.kept hg9 (by
        rcases s with _ | x
        · exact .inl rfl
        · exact .inr (fun e => (HRS.out.2 x rfl).2.1 (Option.some.inj e)))
      have HPQ : Hid (Calls Tryz.prog 8 #[cmV c (.slice ar c.raw.length cr) (.slice ap c.picks.length cp)] U9 fun e w' => (∃ l z, e = .returned (.tuple #[.string (ba l), .int .i64 z]) ∧ PriA c l z) ∧ Below U9.heap.size U9 w') :=
        printQ c _ _ U9 (HO.out.later HBE.out) (HT.out.later HBE.out) (own_bys HO9.out (by have := HLN.out.1; omega)) (ownv_pks HP9.out (by have := HLN.out.2; omega)) HWF.out HSZ.out
      obtain ⟨b0, b1, b2, b3, b4, b5, b6, b7, b8, b9, b10, b11, b12, b13⟩ := HX14.out.cm
      have f0 := HX14.out.fz 0 (by simp [cmLst])
      have f1 := HX14.out.fz 1 (by simp [cmLst])
      have f2 := HX14.out.fz 2 (by simp [cmLst])
      have f3 := HX14.out.fz 3 (by simp [cmLst])
      have f4 := HX14.out.fz 4 (by simp [cmLst])
      have f5 := HX14.out.fz 5 (by simp [cmLst])
      have f6 := HX14.out.fz 6 (by simp [cmLst])
      have f7 := HX14.out.fz 7 (by simp [cmLst])
      have f8 := HX14.out.fz 8 (by simp [cmLst])
      have f9 := HX14.out.fz 9 (by simp [cmLst])
      have f10 := HX14.out.fz 10 (by simp [cmLst])
      have f11 := HX14.out.fz 11 (by simp [cmLst])
      have f12 := HX14.out.fz 12 (by simp [cmLst])
      have f13 := HX14.out.fz 13 (by simp [cmLst])
      obtain ⟨a0, a1, a2, a3, a4, a5, a6, a7, a8, a9, a10, a11, a12, a13⟩ := HB9.out.cm
      clear hwf hsz2 hl1 hl2 hrd ho hp hr hs hd hch hb4 hB9 hb9 hg9 HX13 HX23 HX14 HX24 HB3 HRD3 HG
      go_wp2_with fail
      clear b0 b1 b2 b3 b4 b5 b6 b7 b8 b9 b10 b11 b12 b13 f0 f1 f2 f3 f4 f5 f6 f7 f8 f9 f10 f11 f12 f13 a0 a1 a2 a3 a4 a5 a6 a7 a8 a9 a10 a11 a12 a13 hU9
      refine HPQ.out.mono ?_
      rintro e w6 ⟨⟨l, z, rfl, hpri⟩, hb6⟩
      have HPA := mkW (par_of HRD.out hpri)
      have HX16 := mkW (HB9.out.later hb6)
      have HX26 := mkW (HX29.out.later hb6)
      have HB6 := mkW (below_on HBE.out hb6)
      have HO6 := mkW (HO9.out.later hb6)
      have HP6 := mkW (ownV_later HP9.out hb6)
      clear hpri hb6 HPQ HB9 HX29 HBE HO9 HP9
      by_cases hk : z = 0 ∧ l = line
      · have HPF := mkW (HPA.out.1 hk)
        obtain ⟨rfl, rfl⟩ := hk
        obtain ⟨t1, t2, t3, t4⟩ := told HX16.out HX26.out hne HB6.out
        obtain ⟨V9, hV9⟩ : ∃ u, (cmPut w6 R1 c (.slice ar c.raw.length cr) (.slice ap c.picks.length cp)).setCell ⟨R1 + 1, 0, none⟩ (.int .i64 0) = u := ⟨_, rfl⟩
        rw [hV9] at t1 t2 t3 t4
        simp only [cmPut] at hV9
        have HT1 := mkW t1
        have HT2 := mkW t2
        have HT3 := mkW t3
        have HT4 := mkW t4
        obtain ⟨b0, b1, b2, b3, b4, b5, b6, b7, b8, b9, b10, b11, b12, b13⟩ := HX16.out.cm
        have f0 := HX16.out.fz 0 (by simp [cmLst])
        have f1 := HX16.out.fz 1 (by simp [cmLst])
        have f2 := HX16.out.fz 2 (by simp [cmLst])
        have f3 := HX16.out.fz 3 (by simp [cmLst])
        have f4 := HX16.out.fz 4 (by simp [cmLst])
        have f5 := HX16.out.fz 5 (by simp [cmLst])
        have f6 := HX16.out.fz 6 (by simp [cmLst])
        have f7 := HX16.out.fz 7 (by simp [cmLst])
        have f8 := HX16.out.fz 8 (by simp [cmLst])
        have f9 := HX16.out.fz 9 (by simp [cmLst])
        have f10 := HX16.out.fz 10 (by simp [cmLst])
        have f11 := HX16.out.fz 11 (by simp [cmLst])
        have f12 := HX16.out.fz 12 (by simp [cmLst])
        have f13 := HX16.out.fz 13 (by simp [cmLst])
        have y0 : w6.cell? ⟨R1 + 1, 0, none⟩ = some (.int .i64 0) := HX26.out.c 0 (by simp)
        have g0 := HX26.out.fz 0 (by simp)
        clear t1 t2 t3 t4 HPA HX16 HX26 HB6
        go_wp2
        clear b0 b1 b2 b3 b4 b5 b6 b7 b8 b9 b10 b11 b12 b13 f0 f1 f2 f3 f4 f5 f6 f7 f8 f9 f10 f11 f12 f13 y0 g0
        try rw [hV9]
        clear hV9
        refine leaves_cons (f := 24) (args := #[.pointer (some ⟨R1, 0, none⟩), .pointer (some ⟨R1 + 1, 0, none⟩)]) (by simp) (by simp [go_sem]) ?_
        refine (catch_none R1 (R1 + 1) _).mono ?_
        rintro e u' w'' ⟨rfl, rfl, rfl⟩
        exact ⟨_, leave_ok _ rfl rfl HT1.out HT2.out, ⟨⟨c, _, _, 0, rfl, HWF.out, HPF.out, ⟨r, s, own_ch HO6.out HT4.out (fun x e => by
          have h1 := (HRS.out.1 x e).2
          rintro (h | h)
          · exact h1.1 h
          · exact h1.2 h), ownv_ch HP6.out HT4.out (fun x e => by
          have h1 := (HRS.out.2 x e).2
          rintro (h | h)
          · exact h1.1 h
          · exact h1.2 h), fun x e => (HRS.out.1 x e).1, fun x e => (HRS.out.2 x e).1, HDS.out⟩⟩, HT3.out⟩⟩
      · have HPF := mkW (HPA.out.2 hk)
        have hcase : (¬ z = 0) ∨ (z = 0 ∧ (l == line) = false) := by
          by_cases h : z = 0
          · exact .inr ⟨h, by simpa using fun e => hk ⟨h, e⟩⟩
          · exact .inl h
        clear hk HPA
        rcases hcase with h1 | ⟨rfl, h2⟩
        all_goals
          go_wp2_with (go_at_call 27; refine (gaveOf _).mono ?_; rintro e w7 ⟨rfl, rfl⟩)
          refine leaves_cons (f := 24) (args := #[.pointer (some ⟨R1, 0, none⟩), .pointer (some ⟨R1 + 1, 0, none⟩)]) (by simp) (by simp [go_sem]) ?_
          refine (catch_gave R1 (R1 + 1) _ w c _ _ HX16.out HX26.out hne).mono ?_
          rintro e u' w'' ⟨rfl, rfl, rfl⟩
          obtain ⟨t1, t2, t3⟩ := caught HX16.out HX26.out hne HB6.out
          exact ⟨_, leave_ok _ rfl rfl t1 t2, pap_none HPF.out t3⟩
    · have HX14 := mkW (HX13.out.ch hch (by have := HG.out; omega))
      have HX24 := mkW (HX23.out.ch hch (by have := HG.out; omega))
      have hb4 : Below w.heap.size w w4 := Ch.on HB3.out hch (fun j e => by rw [e]; exact HRD3.out.gW)
      refine leaves_cons (f := 24) (args := #[.pointer (some ⟨R1, 0, none⟩), .pointer (some ⟨R1 + 1, 0, none⟩)]) (by simp) (by simp [go_sem]) ?_
      refine (catch_gave R1 (R1 + 1) _ w Cm.zero nilV nilV HX14.out HX24.out hne).mono ?_
      rintro e u' w'' ⟨rfl, rfl, rfl⟩
      obtain ⟨t1, t2, t3⟩ := caught HX14.out HX24.out hne hb4
      exact ⟨_, leave_ok _ rfl rfl t1 t2, pap_none (par_noc hno) t3⟩
  · have hli : (4096 : Int) < (line.length : Int) := by omega
    have HPF : Hid (ParA line Cm.zero 230) := par_none fun d _ hd => by have := hd.2.2; omega
    go_enter_defers Tryz.func10, Tryz.ntmps10
    go_wp2
    obtain ⟨W0, hW0⟩ : ∃ W0, w.alloc (.cells #[.int .i64 0, .int .i64 0, .int .u32 0, .int .i64 0, .string ⟨#[]⟩, .string ⟨#[]⟩, .string ⟨#[]⟩, .int .i64 0, .int .i64 0, .int .i64 0, .int .i64 0, .slice none 0 0, .int .i64 0, .slice none 0 0] 28) = W0 := ⟨_, rfl⟩
    obtain ⟨W1, hW1⟩ : ∃ W1, W0.alloc (.cells #[.int .i64 230] 29) = W1 := ⟨_, rfl⟩
    rw [hW0, hW1]
    have hb0 : Below w.heap.size w W0 := by rw [← hW0]; exact (Below.refl _ _).alloc (Nat.le_refl _) _
    have hs0 : W0.heap.size = R1 + 1 := by rw [← hW0, ← hR1]; simp
    have hb1 : Below W0.heap.size W0 W1 := by rw [← hW1]; exact (Below.refl _ _).alloc (Nat.le_refl _) _
    have hx0 : Bx w W0 w.heap.size (cmLst Cm.zero nilV nilV) := by rw [← hW0]; exact Bx.new (Nat.le_refl _) (cmLst Cm.zero nilV nilV) 28
    have hx2 : Bx w W1 W0.heap.size [.int .i64 230] := by rw [← hW1]; exact Bx.new hb0.size [.int .i64 230] 29
    have HX1 := hx0.later hb1
    rw [hR1] at HX1
    rw [hs0] at hx2
    exact ⟨_, leave_ok _ rfl rfl HX1 hx2, pap_none HPF.out (below_on hb0 hb1)⟩
end Go.Proofs.YtlnppgjppfkocaaGreatDoor.Xs
