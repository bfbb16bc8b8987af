import Derived.Test.YtlnppgjppfkocaaGreatDoorGq35
import Derived.Test.YtlnppgjppfkocaaGreatDoorGq38
/-! The program's readCommand. -/
namespace Go.Proofs.YtlnppgjppfkocaaGreatDoor.Xs
open Go.RowKit Plain
set_option linter.unusedVariables false
set_option linter.unusedSimpArgs false

theorem vbs_ch {w w' : World} {b : Nat} {S : Nat → Prop} (h : VbsAt w b) (k : Ch S w w') (hb : ¬ S b) (hl : b < w.heap.size) : VbsAt w' b := by
  have hbk := k.block b hl hb
  have e : ∀ o, w'.cell? ⟨b, o, none⟩ = w.cell? ⟨b, o, none⟩ := fun o => World.cell?_of_block (w := w) (a := ⟨b, o, none⟩) hbk
  intro i hi
  obtain ⟨c0, c1, c2, c3, c4, c5⟩ := h i hi
  exact ⟨(e _).trans c0, (e _).trans c1, (e _).trans c2, (e _).trans c3, (e _).trans c4, (e _).trans c5⟩
/-- What a verb's row reads. -/
theorem readVerbOf (W w : World) (line : By) (g b X : Nat) (v : Int) (ps : List By) (h : Rdy W w line g b X v ps) (hO : OpsAt W) (hU : Lib.Utf8Tabs 4 5 W) :
    Calls Tryz.prog (rowV v).rf #[.pointer (some ⟨g, 0, none⟩), .pointer (some ⟨X, 0, none⟩)] w (ReadP W w line g X) := by
  have h0 := h.v0
  have h1 := h.v1
  have hrow : rowV v = vrL.getD v.toNat Vr.zero := by unfold rowV; rw [if_pos ⟨h0, h1⟩]
  have hv : v = 0 ∨ v = 1 ∨ v = 2 ∨ v = 3 ∨ v = 4 ∨ v = 5 ∨ v = 6 ∨ v = 7 ∨ v = 8 ∨ v = 9 ∨ v = 10 := by omega
  rw [hrow]
  rcases hv with e | e | e | e | e | e | e | e | e | e | e <;> subst e
  · exact readConnV W w line g b X 0 ps h (.inl rfl)
  · exact readConnV W w line g b X 1 ps h (.inr rfl)
  · exact readSayV W w line g b X ps h hO hU
  · exact readRawV W w line g b X ps h
  · exact readNV W w line g b X 4 ps h (.inl rfl)
  · exact readPicksV W w line g b X 5 ps h (.inl rfl)
  · exact readTakeV W w line g b X ps h
  · exact readNV W w line g b X 7 ps h (.inr rfl)
  · exact readPicksV W w line g b X 8 ps h (.inr rfl)
  · exact readNoneV W w line g b X 9 ps h (.inl rfl)
  · exact readNoneV W w line g b X 10 ps h (.inr rfl)
/-- What readCommand answers. -/
def RcP (w : World) (line : By) (g : Nat) (e : Ending) (w' : World) : Prop :=
  (∃ c vr vp r s, e = .returned (cmV c vr vp) ∧ WfC c ∧ SzC c ∧ c.raw.length ≤ 10000 ∧ c.picks.length ≤ 10000 ∧ RdC line c ∧ Own w' vr (nats c.raw) r ∧ OwnV w' vp (ints c.picks) s ∧ (∀ x, r = some x → w.heap.size ≤ x) ∧ (∀ x, s = some x → w.heap.size ≤ x) ∧ (r = none ∨ s = none) ∧ Ch (· = g) w w') ∨
  (NoC line ∧ e = .panicked [gaveE] ∧ Ch (· = g) w w')
theorem ch_drop {w w1 w' : World} {g X : Nat} (h : Ch (· = g) w w1) (k : Ch (fun j => j = g ∨ j = X) w1 w') (hX : w.heap.size ≤ X) : Ch (· = g) w w' :=
  ⟨k.os.trans h.os, k.tape.trans h.tape, k.output.trans h.output, Nat.le_trans h.size k.size, fun j hj hn => (k.block j (Nat.lt_of_lt_of_le hj h.size) (fun e => by
    rcases e with e | e
    · exact hn e
    · omega)).trans (h.block j hj hn)⟩
set_option maxHeartbeats 32000000 in
set_option maxRecDepth 100000 in
theorem readCommandOf (W w : World) (line : By) (g b : Nat) (ps : List By) (hrd : RdW W w g b ps) (hE : ErrAt W) (hO : OpsAt W) (hU : Lib.Utf8Tabs 4 5 W) (hP : ∀ d, Of line d → ps = verbT d.verb :: argsL d) (hln : ps.length ≤ 5000) :
    Calls Tryz.prog 25 #[.pointer (some ⟨g, 0, none⟩)] w (RcP w line g) := by
  have hmf : ∀ (fn : Fn) (first cap : Array Value) (w : World), (Instr.makeFunc fn first cap).run Tryz.prog w = .ok (.func fn first cap) w := fun _ _ _ _ => rfl
  have HR := mkW hrd
  have HE := mkW hE
  have HO := mkW hO
  have HU := mkW hU
  have HP := mkW hP
  have HLN := mkW hln
  obtain ⟨W0, hW0⟩ : ∃ W0, w.alloc (.cells #[.int .i64 0, .int .i64 0, .int .u32 0, .int .i64 0, .string ⟨#[]⟩, .string ⟨#[]⟩, .string ⟨#[]⟩, .int .i64 0, .int .i64 0, .int .i64 0, .int .i64 0, .slice none 0 0, .int .i64 0, .slice none 0 0] 28) = W0 := ⟨_, rfl⟩
  have hb0 : Below w.heap.size w W0 := by rw [← hW0]; exact (Below.refl _ _).alloc (Nat.le_refl _) _
  have hR0 : Bx w W0 w.heap.size (cmLst Cm.zero nilV nilV) := by rw [← hW0]; exact Bx.new (Nat.le_refl _) (cmLst Cm.zero nilV nilV) 28
  have HRW : Hid (g < w.heap.size ∧ b < w.heap.size) := ⟨hrd.rd.glt, hrd.rd.lt⟩
  obtain ⟨R, hRd⟩ : ∃ R, w.heap.size = R := ⟨_, rfl⟩
  have HRE := mkW hRd
  rw [hRd] at hR0
  have HB0 : Hid (Below w.heap.size w W0) := hb0
  have HR0 := mkW hR0
  clear hrd hE hO hU hP hln hb0 hR0
  go_enter Tryz.func25, Tryz.ntmps25
  go_wp2_with fail
  clear hW0 hRd
  refine (verbsOf _).mono ?_
  rintro e w1 ⟨bv, rfl, hv1, hbv1, hb1⟩
  have HV1 := mkW hv1
  have HB1 := mkW (below_on HB0.out hb1)
  have HR1 := mkW (HR0.out.later hb1)
  have hrd1 := HR.out.later HB1.out
  have HVB : Hid (bv ≠ g ∧ bv < w1.heap.size ∧ bv ≠ R) := by
    have h1 := HRW.out.1
    have h2 := HB0.out.size
    have h3 := HR0.out.lt
    exact ⟨by omega, cell_lt (hv1 0 (by omega)).c0, by omega⟩
  have HRD1 := mkW hrd1
  clear hv1 hbv1 hb1 HR0 hrd1
  go_wp2_with (go_at_call 45; refine (rWordOf _ g b ps HRD1.out.rd).mono ?_)
  rintro e w2 (⟨p, qs, rfl, rfl, hr2, hc2⟩ | ⟨rfl, rfl, rfl⟩)
  · have HRD2 := mkW (HRD1.out.go hr2 hc2)
    have HV2 := mkW (vbs_ch HV1.out hc2 HVB.out.1 HVB.out.2.1)
    have HR2 : Hid (Bx w w2 R (cmLst Cm.zero nilV nilV)) := HR1.out.ch hc2 (by have := HRE.out; have := HRW.out.1; omega)
    have HC2 : Hid (Ch (· = g) w w2) := (Ch.of HB1.out).trans hc2
    clear hr2 hc2 HRD1 HV1 HR1
    obtain ⟨w3, hw3⟩ : ∃ w3, w2.alloc (.cells #[.string (ba p)] 9) = w3 := ⟨_, rfl⟩
    have hb3 : Below w2.heap.size w2 w3 := by rw [← hw3]; exact (Below.refl _ _).alloc (Nat.le_refl _) _
    have hcB : w3.cell? ⟨w2.heap.size, 0, none⟩ = some (.string (ba p)) := by rw [← hw3, World.cell?_alloc_at _ _ _ _ rfl]; rfl
    have HRD3 := mkW (HRD2.out.later hb3)
    have HV3 := mkW (HV2.out.later hb3)
    have HR3 := mkW (HR2.out.later hb3)
    have HC3 := mkW (HC2.out.more hb3)
    obtain ⟨B, hBe⟩ : ∃ B, w2.heap.size = B := ⟨_, rfl⟩
    rw [hBe] at hcB
    have HCB := mkW hcB
    clear hb3 hcB HRD2 HV2 HR2 HC2
    go_wp2_with fail
    clear hw3 hBe
    refine (indexFuncOf bv B p w3 HV3.out HCB.out).mono ?_
    rintro e w4 ⟨⟨n, rfl, hf⟩, hb4⟩
    have HF := mkW hf
    have HRD4 := mkW (HRD3.out.later hb4)
    have HV4 := mkW (HV3.out.later hb4)
    have HR4 := mkW (HR3.out.later hb4)
    have HC4 := mkW (HC3.out.more hb4)
    clear hf hb4 HRD3 HV3 HR3 HC3 HCB
    by_cases hneg : n < 0
    · have HNO : Hid (NoC line) := noc_verb HP.out (fun j h0 h1 e => by
        have := HF.out.is j.toNat (by omega) (by rw [Int.toNat_of_nonneg h0]; exact e.symm)
        omega)
      go_wp2_with (go_at_call 27; refine (gaveOf _).mono ?_; rintro e w5 ⟨rfl, rfl⟩)
      exact ⟨by trivial, Or.inr ⟨HNO.out, rfl, HC4.out⟩⟩
    · obtain ⟨k, hk⟩ : ∃ k : Nat, n = (k : Int) := ⟨n.toNat, by omega⟩
      subst hk
      have hk11 : k < 11 := by have := HF.out.hi; omega
      have HIS : Hid (∀ d, Of line d → (k : Int) = d.verb ∧ qs = argsL d) := fun d hd => by
        have e := HP.out d hd
        have h1 := hd.2.1.v1
        have h2 := hd.2.1.v2
        have := HF.out.is d.verb.toNat (by omega) (by rw [Int.toNat_of_nonneg h1]; exact (List.cons.inj e).1.symm)
        exact ⟨by omega, (List.cons.inj e).2⟩
      have hrw : rowV (k : Int) = vrL.getD k Vr.zero := by unfold rowV; rw [if_pos ⟨by omega, by omega⟩, Int.toNat_natCast]
      have hcf := (call_row (n := (k : Int)) ⟨by omega, by omega⟩).2
      have HRV : Hid (∀ w X, Rdy W w line g b X (k : Int) qs → Calls Tryz.prog (rowV (k : Int)).rf #[.pointer (some ⟨g, 0, none⟩), .pointer (some ⟨X, 0, none⟩)] w (ReadP W w line g X)) := fun w X h => readVerbOf W w line g b X (k : Int) qs h HO.out HU.out
      obtain ⟨v, hv⟩ : ∃ v, rowV (k : Int) = v := ⟨_, rfl⟩
      have hvx := HV4.out k hk11
      rw [← hrw, hv] at hvx
      rw [hv] at hcf HRV
      obtain ⟨c0, c1, c2, c3, c4, c5⟩ := hvx
      have c5a : ∀ C t, (w4.alloc (.cells C t)).cell? ⟨bv, k * 6 + 5, none⟩ = some (fnV v.rf) := fun C t => by
        rw [((Below.refl _ w4).alloc (Nat.le_refl _) _ : Below w4.heap.size w4 _).cell (cell_lt c5)]; exact c5
      have HXW : Hid (w.heap.size ≤ w4.heap.size ∧ g < w4.heap.size ∧ b < w4.heap.size ∧ R < w4.heap.size) := ⟨HC4.out.size, HRD4.out.rd.glt, HRD4.out.rd.lt, HR4.out.lt⟩
      have hki : (k : Int) < 11 := by omega
      have hkn : ¬ (k : Int) < 0 := by omega
      clear hrw hv hneg c0 c1 c2 c3 c4
      go_wp2_with fail
      obtain ⟨w5, hw5⟩ : ∃ w5, w4.alloc (.cells #[.int .i64 (k : Int), .int .i64 0, .int .u32 0, .int .i64 0, .string ⟨#[]⟩, .string ⟨#[]⟩, .string ⟨#[]⟩, .int .i64 0, .int .i64 0, .int .i64 0, .int .i64 0, .slice none 0 0, .int .i64 0, .slice none 0 0] 28) = w5 := ⟨_, rfl⟩
      rw [hw5]
      have hb5 : Below w4.heap.size w4 w5 := by rw [← hw5]; exact (Below.refl _ _).alloc (Nat.le_refl _) _
      have hX5 : Bx W w5 w4.heap.size (cmLst (cm0 (k : Int)) nilV nilV) := by rw [← hw5]; exact Bx.new HRD4.out.bel.size (cmLst (cm0 (k : Int)) nilV nilV) 28
      have HRD5 := mkW (HRD4.out.later hb5)
      have HR5 := mkW (HR4.out.later hb5)
      have HC5 := mkW (HC4.out.more hb5)
      have HX5 := mkW hX5
      have HRV5 : Hid (Calls Tryz.prog v.rf #[.pointer (some ⟨g, 0, none⟩), .pointer (some ⟨w4.heap.size, 0, none⟩)] w5 (ReadP W w5 line g w4.heap.size)) := HRV.out w5 _ ⟨HRD5.out, HX5.out, by have := HXW.out.2.1; omega, by have := HXW.out.2.2.1; omega, HE.out, HIS.out, by omega, by omega, by have := HLN.out; simp only [List.length_cons] at this; omega⟩
      obtain ⟨X, hXe⟩ : ∃ X, w4.heap.size = X := ⟨_, rfl⟩
      rw [hXe] at HX5 HXW HRV5 ⊢
      clear hb5 hX5 HRD4 HR4 HC4 HV4 HRV hw5 hXe c5 c5a
      refine HRV5.out.mono ?_
      rintro e w6 (⟨c, vr, vp, r, s, rfl, hwf, hsz, hl1, hl2, hrd6, hx6, ho6, hp6, hr6, hs6, hdis, hch⟩ | ⟨hno, rfl, hch⟩)
      · obtain ⟨ar, cr, rfl⟩ : ∃ a cap, vr = .slice a c.raw.length cap := by
          rcases ho6.2 with ⟨e, e2, _⟩ | ⟨g', cap, _, e, _⟩
          · exact ⟨none, 0, by rw [e]; have := congrArg List.length e2; rw [nats_len] at this; rw [this]; rfl⟩
          · exact ⟨_, cap, by rw [e, nats_len]⟩
        obtain ⟨ap, cp, rfl⟩ : ∃ a cap, vp = .slice a c.picks.length cap := by
          obtain ⟨a, c', e, _⟩ := hp6.shape
          exact ⟨a, c', by rw [e, ints_len]⟩
        have HC6 : Hid (Ch (· = g) w w6) := ch_drop HC5.out hch HXW.out.1
        have HR6 : Hid (Bx w w6 R (cmLst Cm.zero nilV nilV)) := HR5.out.ch hch (fun e => by
          have h1 := HRE.out
          have h2 := HRW.out.1
          have h3 := HXW.out.2.2.2
          rcases e with e | e <;> omega)
        have hws : w.heap.size ≤ w5.heap.size := HC5.out.size
        have hR5l := HR5.out.lt
        have HFIN : Hid (WfC c ∧ SzC c ∧ c.raw.length ≤ 10000 ∧ c.picks.length ≤ 10000 ∧ RdC line c ∧ Own w6 (.slice ar c.raw.length cr) (nats c.raw) r ∧ OwnV w6 (.slice ap c.picks.length cp) (ints c.picks) s ∧ (∀ x, r = some x → w.heap.size ≤ x ∧ x ≠ R) ∧ (∀ x, s = some x → w.heap.size ≤ x ∧ x ≠ R) ∧ (r = none ∨ s = none)) :=
          ⟨hwf, hsz, hl1, hl2, hrd6, ho6, hp6, (fun x e => by have := (hr6 x e).1; exact ⟨by omega, by omega⟩), (fun x e => by have := (hs6 x e).1; exact ⟨by omega, by omega⟩), hdis⟩
        have HX6 := mkW hx6
        clear hwf hsz hl1 hl2 hrd6 hx6 ho6 hp6 hr6 hs6 hdis hch HR5 HX5 HRV5 HC5 HRD5 hws hR5l
        have HRW6 : Hid (Bx W w6 R (cmLst Cm.zero nilV nilV)) := ⟨HR6.out.c, HR6.out.fz, by have h1 := HRE.out; have h2 := HR.out.bel.size; omega, HR6.out.lt⟩
        have hbw6 : Below W.heap.size W w6 := Ch.on HR.out.bel HC6.out (fun j e => by rw [e]; exact HR.out.gW)
        obtain ⟨hB9, hb9, hg9⟩ := HRW6.out.putCm hbw6 c (.slice ar c.raw.length cr) (.slice ap c.picks.length cp)
        obtain ⟨U9, hU9⟩ : ∃ u, cmPut w6 R c (.slice ar c.raw.length cr) (.slice ap c.picks.length cp) = u := ⟨_, rfl⟩
        rw [hU9] at hB9 hb9 hg9
        simp only [cmPut] at hU9
        have HB9 := mkW hB9
        have HG9 := mkW hg9
        have HCF : Hid (Ch (· = g) w U9) := HC6.out.grown hg9 (fun x e => by cases e; exact .inr (Nat.le_of_eq HRE.out))
        clear hB9 hb9 hg9 hbw6
        obtain ⟨z0, z1, z2, z3, z4, z5, z6, z7, z8, z9, z10, z11, z12, z13⟩ := HX6.out.cm
        obtain ⟨b0, b1, b2, b3, b4, b5, b6, b7, b8, b9, b10, b11, b12, b13⟩ := HRW6.out.cm
        have f0 := HRW6.out.fz 0 (by simp [cmLst])
        have f1 := HRW6.out.fz 1 (by simp [cmLst])
        have f2 := HRW6.out.fz 2 (by simp [cmLst])
        have f3 := HRW6.out.fz 3 (by simp [cmLst])
        have f4 := HRW6.out.fz 4 (by simp [cmLst])
        have f5 := HRW6.out.fz 5 (by simp [cmLst])
        have f6 := HRW6.out.fz 6 (by simp [cmLst])
        have f7 := HRW6.out.fz 7 (by simp [cmLst])
        have f8 := HRW6.out.fz 8 (by simp [cmLst])
        have f9 := HRW6.out.fz 9 (by simp [cmLst])
        have f10 := HRW6.out.fz 10 (by simp [cmLst])
        have f11 := HRW6.out.fz 11 (by simp [cmLst])
        have f12 := HRW6.out.fz 12 (by simp [cmLst])
        have f13 := HRW6.out.fz 13 (by simp [cmLst])
        clear HRW6 HR6 HX6
        go_wp2
        clear z0 z1 z2 z3 z4 z5 z6 z7 z8 z9 z10 z11 z12 z13 b0 b1 b2 b3 b4 b5 b6 b7 b8 b9 b10 b11 b12 b13 f0 f1 f2 f3 f4 f5 f6 f7 f8 f9 f10 f11 f12 f13
        try rw [hU9]
        obtain ⟨a0, a1, a2, a3, a4, a5, a6, a7, a8, a9, a10, a11, a12, a13⟩ := HB9.out.cm
        clear hU9
        refine bodyPost_ret (v := cmV c (.slice ar c.raw.length cr) (.slice ap c.picks.length cp)) ?hres rfl ?_
        case hres =>
          rw [results_cell1 rfl]
          go_simp
        obtain ⟨k1, k2, k3, k4, k5, k6, k7, k8, k9, k10⟩ := HFIN.out
        exact Or.inl ⟨c, _, _, r, s, rfl, k1, k2, k3, k4, k5, k6.kept HG9.out (by
          rcases r with _ | x
          · exact .inl rfl
          · exact .inr (fun e => (k8 x rfl).2 (Option.some.inj e))), k7.kept HG9.out (by
          rcases s with _ | x
          · exact .inl rfl
          · exact .inr (fun e => (k9 x rfl).2 (Option.some.inj e))), (fun x e => (k8 x e).1), (fun x e => (k9 x e).1), k10, HCF.out⟩
      · exact ⟨by trivial, Or.inr ⟨hno, rfl, ch_drop HC5.out hch HXW.out.1⟩⟩
  · have HNO : Hid (NoC line) := fun d hd => by have := HP.out d hd; cases this
    exact ⟨by trivial, Or.inr ⟨HNO.out, rfl, Ch.of HB1.out⟩⟩
end Go.Proofs.YtlnppgjppfkocaaGreatDoor.Xs
