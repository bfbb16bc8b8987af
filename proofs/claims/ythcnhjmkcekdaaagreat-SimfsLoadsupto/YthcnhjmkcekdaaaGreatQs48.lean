import Derived.Test.YthcnhjmkcekdaaaGreatQs44
import Derived.Test.YthcnhjmkcekdaaaGreatQs45
import Derived.Test.YthcnhjmkcekdaaaGreatQs46
import Derived.Test.YthcnhjmkcekdaaaGreatQs47
import Derived.Test.YthcnhjmkcekdaaaGreatQs37
namespace Go.Proofs.YthcnhjmkcekdaaaGreat
open Go.RowKit Go.Maps Plain
set_option linter.unusedVariables false
set_option linter.unusedSimpArgs false
set_option maxHeartbeats 8000000 in
set_option maxRecDepth 1000000 in
theorem stepAsk {W w : World} {gb d gp n : Nat} {k : Dk} {r : Rk} (h : BoAt W gb d gp k r w) (hi : BInv k r n) (hdi : DInv r) (kd : Int) (hkd : kd = 8 ∨ kd = 9 ∨ kd = 10 ∨ kd = 13) (nm to : ByteArray) (at' m : Int) (vb vp : Value)
    (hask : ∀ u, BoAt W gb d gp k r u → Calls Tryz.prog 15 #[.pointer (some ⟨gb, 0, none⟩), stepV kd nm to at' m vb vp] u fun e w' => e = .returned (.bool true) ∧ Below u.heap.size u w') :
    Calls Tryz.prog 7 #[.pointer (some ⟨gb, 0, none⟩), stepV kd nm to at' m vb vp] w fun e w' => e = .returned (.bool true) ∧ BoI W gb n w' := by
  obtain ⟨w0, hw0⟩ : ∃ w0, w.alloc (.cells #[.int .i64 kd, .string nm, .string to, .int .i64 at', .int .i64 m, vb, vp] 37) = w0 := ⟨_, rfl⟩
  have hb0 : Below w.heap.size w w0 := by rw [← hw0]; exact (Below.refl _ _).alloc (Nat.le_refl _) _
  have hx0 : w0.heap[w.heap.size]? = some (.cells #[.int .i64 kd, .string nm, .string to, .int .i64 at', .int .i64 m, vb, vp] 37) := by rw [← hw0]; show (w.heap.push _)[w.heap.size]? = _; simp
  have z0 : w0.cell? ⟨w.heap.size, 0, none⟩ = some (.int .i64 kd) := by simp [World.cell?, hx0]
  have z1 : w0.cell? ⟨w.heap.size, 1, none⟩ = some (.string nm) := by simp [World.cell?, hx0]
  have z2 : w0.cell? ⟨w.heap.size, 2, none⟩ = some (.string to) := by simp [World.cell?, hx0]
  have z3 : w0.cell? ⟨w.heap.size, 3, none⟩ = some (.int .i64 at') := by simp [World.cell?, hx0]
  have z4 : w0.cell? ⟨w.heap.size, 4, none⟩ = some (.int .i64 m) := by simp [World.cell?, hx0]
  have z5 : w0.cell? ⟨w.heap.size, 5, none⟩ = some vb := by simp [World.cell?, hx0]
  have z6 : w0.cell? ⟨w.heap.size, 6, none⟩ = some vp := by simp [World.cell?, hx0]
  have HK := Hid.mkR (hask w0 (h.later hb0))
  have HB : Hid (∀ u, Below w0.heap.size w0 u → BoI W gb n u) := fun u hu => ⟨d, gp, k, r, (h.later hb0).later hu, hi, hdi⟩
  unfold stepV at HK
  clear h hi hdi hask hx0
  rcases hkd with rfl | rfl | rfl | rfl
  all_goals
    go_enter Tryz.func7, Tryz.ntmps7
    go_wp2_with fail
    refine HK.out.mono ?_
    rintro e w2 ⟨rfl, hb2⟩
    have HF := Hid.mkR (HB.out _ hb2)
    clear HK HB hb2
    go_wp2
    go_ret
    exact ⟨rfl, HF.out⟩
theorem BoI.up {W w : World} {gb n : Nat} (h : BoI W gb n w) : BoI W gb (n + 1) w := by
  obtain ⟨d, gp, k, r, a, b, c⟩ := h
  exact ⟨d, gp, k, r, a, b.more (by omega), c⟩
theorem stepAll {W w : World} {gb n : Nat} (h : BoI W gb n w) (hn0 : 65536 ≤ n) (hn : n ≤ 1999999999999) (kd : Int) (nm to : ByteArray) (at' m : Int) (ab : Option Addr) (cb : Nat) {pa : Option Addr} {pn pc : Nat} {ps : List Int} (l : List Nat) (hs : nm.size ≤ maxLen) (ht : to.size ≤ maxLen) (hat : I64 at') (hm : I64 m) (hw : ∀ w', Below W.heap.size W w' → BytesAt w' (.slice ab l.length cb) l) (hl : l.length ≤ 140737488351232) (hps : ∀ w', Below W.heap.size W w' → PicksAt w' (.slice pa pn pc) ps) (hpo : ∀ C, W.heap.size ≤ C → PicksOff C (.slice pa pn pc)) :
    Calls Tryz.prog 7 #[.pointer (some ⟨gb, 0, none⟩), stepV kd nm to at' m (.slice ab l.length cb) (.slice pa pn pc)] w fun e w' => e = .returned (.bool true) ∧ BoI W gb (n + 1) w' := by
  obtain ⟨d, gp, k, r, hB, hi, hdi⟩ := h
  by_cases hk : kd < 1 ∨ 14 < kd
  · exact (stepNone hB hi hdi kd hk nm to at' m _ _ hm).mono fun e w' h => ⟨h.1, h.2.up⟩
  have hk2 : kd = 1 ∨ kd = 2 ∨ kd = 3 ∨ kd = 4 ∨ kd = 5 ∨ kd = 6 ∨ kd = 7 ∨ kd = 8 ∨ kd = 9 ∨ kd = 10 ∨ kd = 11 ∨ kd = 12 ∨ kd = 13 ∨ kd = 14 := by omega
  rcases hk2 with rfl | rfl | rfl | rfl | rfl | rfl | rfl | rfl | rfl | rfl | rfl | rfl | rfl | rfl
  · exact step1 hB hi hdi hn nm to at' m ab cb _ l hs ht hm hw hl
  · exact step2 hB hi hdi hn nm to at' m ab cb _ l hs ht hm hw hl
  · exact step3 hB hi hdi hn nm to at' m ab cb _ l hs ht hm hw hl
  · exact step4 hB hi hdi hn nm to at' m ab cb _ l hs ht hm hw hl
  · exact step5 hB hi hdi hn nm to at' m ab cb _ l hs ht hm hw hl
  · exact step6 hB hi hdi hn nm to at' m ab cb _ l hs ht hm hw hl
  · exact step7 hB hi hdi hn nm to at' m ab cb _ l hs ht hm hw hl
  · exact (stepAsk hB hi hdi 8 (by decide) nm to at' m _ _ (fun u hu => asked8 hu hi (by omega) nm to at' m _ _ hs hat hm)).mono fun e w' h => ⟨h.1, h.2.up⟩
  · exact (stepAsk hB hi hdi 9 (by decide) nm to at' m _ _ (fun u hu => asked9 hu hi (by omega) nm to at' m _ _ hs)).mono fun e w' h => ⟨h.1, h.2.up⟩
  · exact (stepAsk hB hi hdi 10 (by decide) nm to at' m _ _ (fun u hu => asked10 hu hi (by omega) nm to at' m _ _)).mono fun e w' h => ⟨h.1, h.2.up⟩
  · exact (stepQuota hB hi hdi nm to at' m _ _ hm).mono fun e w' h => ⟨h.1, h.2.up⟩
  · exact (stepFuse hB hi hdi nm to at' m _ _ hm).mono fun e w' h => ⟨h.1, h.2.up⟩
  · exact (stepAsk hB hi hdi 13 (by decide) nm to at' m _ _ (fun u hu => asked13 hu hi (by omega) nm to at' m hdi _ hps hpo)).mono fun e w' h => ⟨h.1, h.2.up⟩
  · exact (stepReborn hB hi hdi (by omega) hn0 nm to at' m _ hps hpo).mono fun e w' h => ⟨h.1, h.2.up⟩
end Go.Proofs.YthcnhjmkcekdaaaGreat

namespace Go.Proofs.YthcnhjmkcekdaaaGreat
open Go.RowKit Go.Maps Plain
open Go.Deep Go.ChangeShapes Go.WideShapes Go.ChangeAt
set_option linter.unusedVariables false
set_option linter.unusedSimpArgs false
theorem open_pk {H : Type} {enc : TypeId × Value → H} {W : World} {fuel : Nat} {v : Value} {x : DataW H × List MemPlace} (h : DataW.trod enc Tryz.prog W 0 (fun _ => true) true fuel 35 [v] = some x) : ∃ ps, PicksAt W v ps ∧ PicksOff W.heap.size v := by
  rcases open_ints Tryz.underlying35 Tryz.underlying3 (by kernel_rfl) h with ⟨hcs, _⟩ | ⟨x, len, cap, zs, hcs, hbk, hl, hm, hz, hx, hcell, hwz⟩
  · simp at hcs
    subst hcs
    exact ⟨[], ⟨none, 0, rfl, by simp, by simp, by simp, by simp⟩, fun b off n c e => by cases e⟩
  · simp at hcs
    subst hcs
    simp only [if_true] at hz
    have hlt : (zs.take len).length = len := by simp; omega
    obtain ⟨b, off, spot⟩ := x
    refine ⟨zs.take len, ⟨_, cap, by rw [hlt], by rw [hlt]; exact hl, hm, fun x hx' => ?_, fun hne => ?_⟩, fun b1 off1 n1 c1 e1 h0 => ?_⟩
    · have := bounds_i64 (hwz x (List.mem_of_mem_take hx'))
      unfold I64
      omega
    · have hlen : 0 < len := by
        rcases Nat.eq_zero_or_pos len with rfl | h
        · simp at hne
        · exact h
      have hspot : spot = none := by
        have := World.cell?_spot (hcell 0 (by omega))
        simpa [Addr.add] using this
      subst hspot
      refine ⟨b, off, rfl, fun j x hj => ?_⟩
      have hj' := (List.getElem?_eq_some_iff.mp hj).1
      rw [hlt] at hj'
      have h6 := hcell j (by omega)
      rw [WideShapes.add_plain] at h6
      rw [h6]
      rw [List.getElem?_take_of_lt hj'] at hj
      simp [List.getD_eq_getElem?_getD, hj]
    · simp only [Value.slice.injEq, Option.some.injEq, Addr.mk.injEq] at e1
      obtain ⟨⟨rfl, rfl, rfl⟩, rfl, rfl⟩ := e1
      have h6 := hcell 0 (by omega)
      rw [WideShapes.add_plain] at h6
      exact cell_lt h6
set_option maxRecDepth 100000 in
theorem open_picks {H : Type} {enc : TypeId × Value → H} {W : World} {fuel : Nat} {v : Value} {x : DataW H × List MemPlace} {st : List Sp} (h : DataW.trod enc Tryz.prog W 0 (fun _ => true) true fuel 22 [v] = some x) (hs : ScrAt W v st) : ∀ s ∈ st, ∃ ps, PicksAt W s.vp ps ∧ PicksOff W.heap.size s.vp := by
  intro s hsm
  obtain ⟨a0, cap0, rfl, -, -, -, -, hcs0⟩ := hs
  obtain ⟨b, off, rfl, hc0⟩ := hcs0 (List.ne_nil_of_mem hsm)
  obtain ⟨i, hi, e⟩ := List.getElem_of_mem hsm
  have e6 := (hc0 i hi).c6
  have es : st.getD i Sp.none = s := by rw [List.getD_eq_getElem?_getD, List.getElem?_eq_getElem hi, e]; rfl
  rw [es] at e6
  rcases open_slice Tryz.underlying22 h with ⟨hcs, hx⟩ | ⟨a, len, cap, m, n, D, Pl, hcs, hb, hl, hm, hmm, hx, hel⟩
  · simp at hcs
  · simp at hcs
    obtain ⟨rfl, rfl, rfl⟩ := hcs
    obtain ⟨cs', h1, h2⟩ := hel i (by simp only [if_true] at hmm; omega)
    rw [cells_step] at h1
    obtain ⟨_, hlen0, hcell⟩ := World.cells?_some h1
    obtain ⟨xs, m2, _, hx2, hl2, hlen2, hf⟩ := DataW.trod_struct Tryz.underlying37 h2
    rw [cells_step] at hl2
    have hlen2 : xs.length = 7 := hlen2
    match cs', hl2 with
    | [v0, v1, v2, v3, v4, v5, v6], _ =>
      match xs, hlen2 with
      | [y0, y1, y2, y3, y4, y5, y6], _ =>
        have k6 : DataW.trod enc Tryz.prog W 0 (fun _ => true) true m2 35 [v6] = some y6 := by simpa [cells_I] using hf 6 _ rfl
        have h6 := hcell 6 (by omega)
        rw [WideShapes.add_plain, WideShapes.add_plain] at h6
        rw [e6] at h6
        have : s.vp = v6 := by simpa using h6
        rw [this]
        exact open_pk k6
end Go.Proofs.YthcnhjmkcekdaaaGreat

namespace Go.Proofs.YthcnhjmkcekdaaaGreat
open Go.RowKit Go.Maps Plain
set_option linter.unusedVariables false
set_option linter.unusedSimpArgs false
theorem BoAt.mk {W w1 w2 : World} {d gp : Nat} {k : Dk} {r : Rk} {B : Nat → Prop} {blk : Nat → Option Nat} {vF vD : Value} {xs : List Ino} {dv : List Value} {sv tv : Nat → List Value} (hD : Dsk W d k w1) (hM : RdM w2 gp r B blk vF vD xs dv sv tv) (hT : ∀ g, rdT gp B blk g → w1.heap.size ≤ g) (hb : Below w1.heap.size w1 w2) : BoAt W w2.heap.size d gp k r (w2.alloc (.cells #[.pointer (some ⟨d, 0, none⟩), .pointer (some ⟨gp, 0, none⟩)] 32)) := by
  obtain ⟨h1, S, h2, h3⟩ := hD
  have hA : Below w2.heap.size w2 (w2.alloc (.cells #[.pointer (some ⟨d, 0, none⟩), .pointer (some ⟨gp, 0, none⟩)] 32)) := (Below.refl _ _).alloc (Nat.le_refl _) _
  have hbA : Below w1.heap.size w1 (w2.alloc (.cells #[.pointer (some ⟨d, 0, none⟩), .pointer (some ⟨gp, 0, none⟩)] 32)) := hb.trans (hA.mono hb.size)
  have s1 := h1.size
  have s2 := hb.size
  have sA : (w2.alloc (.cells #[.pointer (some ⟨d, 0, none⟩), .pointer (some ⟨gp, 0, none⟩)] 32)).heap.size = w2.heap.size + 1 := by simp
  refine ⟨h1.trans (hbA.mono s1), ?_, by omega, S, rdT gp B blk, h2.later hbA, ⟨B, blk, vF, vD, xs, dv, sv, tv, hM.later hA, fun x e => e⟩, fun x hx => ⟨fun e => ?_, ?_, h3 x hx⟩, fun x hx => ⟨?_, ?_, ?_⟩⟩
  · show (w2.heap.push _)[w2.heap.size]? = _; simp
  · have := h2.rng x hx; have := hT x e; omega
  · have := h2.rng x hx; omega
  · have := hT x hx; omega
  · have := hM.lt x hx; omega
  · have := hM.lt x hx; omega
theorem BoI.facts {W w : World} {gb n : Nat} (h : BoI W gb n w) (hn : n ≤ 2000000000000) : Calls Tryz.prog 8 #[.pointer (some ⟨gb, 0, none⟩)] w fun e w' => e = .returned (.bool true) ∧ BoI W gb n w' := by
  obtain ⟨d, gp, k, r, hB, hi, hdi⟩ := h
  refine (factsOf hB hi hn).mono ?_
  rintro e w' ⟨rfl, hb⟩
  exact ⟨rfl, d, gp, k, r, hB.later hb, hi, hdi⟩
theorem BoI.below {W w : World} {gb n : Nat} (h : BoI W gb n w) : Below W.heap.size W w := by
  obtain ⟨d, gp, k, r, hB, -, -⟩ := h
  exact hB.below
set_option maxHeartbeats 16000000 in
set_option maxRecDepth 1000000 in
theorem scriptsWalk (q : Int) (hq : I64 q) (v : Value) (st : List Sp) (w : World) (h : ScrAt w v st) (hpk : ∀ s ∈ st, ∃ ps, PicksAt w s.vp ps ∧ PicksOff w.heap.size s.vp) : Calls Tryz.prog 3 #[.int .i64 q, v] w fun e w' => e = .returned (.bool true) ∧ Below w.heap.size w w' := by
  obtain ⟨a, cap, rfl, hlc, hcm, hlen, hok, hcells⟩ := h
  unfold maxLen at hcm
  have HC : Hid (st ≠ [] → ∃ b off, a = some ⟨b, off, none⟩ ∧ ∀ j, j < st.length → SpAt w b (off + j * 7) (st.getD j Sp.none)) := hcells
  have HOK : Hid (∀ s ∈ st, s.Ok) := hok
  have HPK : Hid (∀ s ∈ st, ∃ ps, PicksAt w s.vp ps ∧ PicksOff w.heap.size s.vp) := hpk
  clear hcells hok hpk
  by_cases hqb : qB q = true
  case neg =>
    have hqb : qB q = false := by simpa using hqb
    have HN := Hid.mkR (newBad q hq hqb w)
    have HRN := Hid.mkR (rnewBad q hqb w)
    clear HC HOK HPK
    go_enter Tryz.func3, Tryz.ntmps3
    go_wp2_with fail
    refine HN.out.mono ?_
    rintro e w1 ⟨rfl, rfl⟩
    go_wp2_with fail
    refine HRN.out.mono ?_
    rintro e w2 ⟨rfl, hb⟩
    have HF := Hid.mkR hb
    clear hb HN HRN
    go_wp2
    go_ret
    exact ⟨rfl, HF.out⟩
  case pos =>
    have hq' : 0 ≤ q ∧ q ≤ 1073741824 := by simpa [qB] using hqb
    have HN := Hid.mkR (newOf q hq'.1 hq'.2 w)
    have HRN : Hid (∀ u, Calls Tryz.prog 6 #[.int .i64 q] u fun e w' => ∃ gp B blk vF vD xs dv sv tv, e = .returned (.tuple #[.pointer (some ⟨gp, 0, none⟩), .int .i64 0]) ∧ RdM w' gp (rk0 q) B blk vF vD xs dv sv tv ∧ (∀ g, rdT gp B blk g → u.heap.size ≤ g) ∧ Below u.heap.size u w') := fun u => rnewOf q hqb u
    have HZ : Hid (BInv (Dk.fresh q) (rk0 q) (65536 + 0) ∧ DInv (rk0 q)) := ⟨BInv.zero hqb _, DInv.zero q⟩
    clear hqb hq'
    go_enter Tryz.func3, Tryz.ntmps3
    go_wp2_with fail
    refine HN.out.mono ?_
    rintro e w1 ⟨rfl, hD⟩
    have HD := Hid.mkR hD
    clear hD HN
    go_wp2_with fail
    refine (HRN.out _).mono ?_
    rintro e w2 ⟨gp, B, blk, vF, vD, xs, dv, sv, tv, rfl, hM, hT, hb2⟩
    have H0 : Hid (BoI w w2.heap.size (65536 + 0) (w2.alloc (.cells #[.pointer (some ⟨w.heap.size, 0, none⟩), .pointer (some ⟨gp, 0, none⟩)] 32))) := ⟨_, _, _, _, BoAt.mk HD.out hM hT hb2, HZ.out.1, HZ.out.2⟩
    clear hM hT hb2 HD HRN HZ
    obtain ⟨gb, hgb⟩ : ∃ gb, w2.heap.size = gb := ⟨_, rfl⟩
    rw [hgb] at H0
    go_wp2_with fail
    go_loopg [10] st.length (fun gk s10 wx => ∃ (i : Nat), i + gk = st.length ∧ s10 = .int .i64 i ∧ Hid (BoI w gb (65536 + i) wx))
    case atStart => exact ⟨0, by omega, rfl, H0.out⟩
    case round =>
      obtain ⟨i, hig, rfl, HV⟩ := hrel
      cases gk with
      | zero =>
        have hii : st.length = i := by omega
        have HFA := Hid.mkR (HV.out.facts (by omega))
        clear HV H0
        go_wp2_with fail
        refine HFA.out.mono ?_
        rintro e w3 ⟨rfl, hB3⟩
        have HF := Hid.mkR hB3.below
        clear hB3 HFA
        go_wp2
        go_ret
        exact ⟨rfl, HF.out⟩
      | succ gk1 =>
        have hi : i < st.length := by omega
        have hne : st ≠ [] := by rintro rfl; simp at hi
        obtain ⟨b, off, rfl, hc⟩ := HC.out hne
        have hsp := (hc i hi)
        have hmem : st.getD i Sp.none ∈ st := by simp [hi]
        have hsok := HOK.out (st.getD i Sp.none) hmem
        obtain ⟨ps, hps, hpo⟩ := HPK.out (st.getD i Sp.none) hmem
        have hspr := hsp.later HV.out.below
        generalize st.getD i Sp.none = x at hsp hsok hspr hps hpo
        obtain ⟨kd, nm, to, at', n, vb, vp, data⟩ := x
        obtain ⟨c0, c1, c2, c3, c4, c5, c6, _⟩ := hspr
        obtain ⟨o1, o2, o3, o4, o5, o6, o7⟩ := hsok
        have hrow := hsp.row
        simp only at c0 c1 c2 c3 c4 c5 c6 o1 o2 o3 o4 o5 o6 o7 hrow hps hpo
        obtain ⟨ap, mp, cp, rfl⟩ := o6
        have HROW : Hid (BytesAt w vb data) := hrow
        obtain ⟨ab, cb, hvb, hb1, hb2, _⟩ := hrow
        unfold maxLen at hb2
        subst hvb
        have HST := Hid.mkR (stepAll HV.out (by omega) (by omega) kd nm to at' n ab cb (ps := ps) data o3 o4 o7 o2 (fun w' hb => HROW.out.later hb) o5 (fun w' hb => hps.cells hpo (fun b hb2 => hb.block b hb2)) (fun C hC b off n c e h0 => Nat.lt_of_lt_of_le (hpo b off n c e h0) hC))
        unfold stepV at HST
        obtain ⟨o1a, o1b⟩ := o1
        clear HV hc hsp hne hps hpo HROW H0
        go_wp2_with fail
        refine HST.out.mono ?_
        rintro e w3 ⟨rfl, hB3⟩
        have HFA := Hid.mkR (hB3.facts (by omega))
        clear HST hB3 c0 c1 c2 c3 c4 c5 c6
        go_wp2_with fail
        refine HFA.out.mono ?_
        rintro e w4 ⟨rfl, hB4⟩
        have HNX : Hid (BoI w gb (65536 + (i + 1)) w4) := hB4
        clear HFA hB4
        go_wp2
        go_roundg gk1
        case measure => omega
        case rel => exact ⟨i + 1, by omega, by go_num, HNX.out⟩
end Go.Proofs.YthcnhjmkcekdaaaGreat
