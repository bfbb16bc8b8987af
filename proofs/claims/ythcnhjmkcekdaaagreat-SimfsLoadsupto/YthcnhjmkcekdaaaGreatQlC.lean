import Derived.Test.YthcnhjmkcekdaaaGreatQs48
import Derived.Test.YthcnhjmkcekdaaaGreatQlB
import Derived.Test.YthcnhjmkcekdaaaGreatRows
namespace Go.Proofs.YthcnhjmkcekdaaaGreat
open Go.RowKit Go.Maps Plain
set_option linter.unusedVariables false
set_option linter.unusedSimpArgs false
theorem goodI_all {im : List (Nm × List Nat)} (h : ∀ i, i < im.length → goodI im i = true) (hfew : im.length ≤ 65536) (hs : ∀ p ∈ im, p.2.length ≤ 1073741824) : ImOk im ∧ im.Pairwise fun a b => a.1 < b.1 := by
  have hup : ∀ (i : Nat) p q, im[i]? = some p → im[i + 1]? = some q → leB q.1 p.1 = false := fun i p q e1 e2 => (goodI_is e2 (h (i + 1) (List.getElem?_eq_some_iff.mp e2).1)).2 i p rfl e1
  have hpw := up_pairs hup
  refine ⟨imOk_of hfew (fun p hp => ?_) hpw hs, hpw⟩
  obtain ⟨i, hi, e⟩ := List.getElem_of_mem hp
  exact (goodI_is (p := p) (by rw [List.getElem?_eq_getElem hi, e]) (h i hi)).1
theorem BoAt.mk2 {W w1 w2 w3 w4 w5 : World} {d gp : Nat} {k : Dk} {r : Rk} {P : Nat → Prop} (hb1 : Below W.heap.size W w1) (hD : Dsk w1 d k w2) (hR : RdNew w2 gp r w3) (hb4 : Below w3.heap.size w3 w4) (hc : Chg P w4 w5) (hP : ∀ x, P x → W.heap.size ≤ x ∧ x < w1.heap.size) : BoAt W w5.heap.size d gp k r (w5.alloc (.cells #[.pointer (some ⟨d, 0, none⟩), .pointer (some ⟨gp, 0, none⟩)] 32)) := by
  obtain ⟨h1, S, h2, h3⟩ := hD
  obtain ⟨⟨B, blk, vF, vD, xs, dv, sv, tv, hM, hT⟩, hR2⟩ := hR
  have hA : Below w5.heap.size w5 (w5.alloc (.cells #[.pointer (some ⟨d, 0, none⟩), .pointer (some ⟨gp, 0, none⟩)] 32)) := (Below.refl _ _).alloc (Nat.le_refl _) _
  have s1 := hb1.size
  have s2 := h1.size
  have s3 := hR2.size
  have s4 := hb4.size
  have s5 := hc.size
  have b24 : Below w2.heap.size w2 w4 := hR2.trans (hb4.mono s3)
  have b14 : Below w1.heap.size w1 w4 := h1.trans (b24.mono s2)
  have bW4 : Below W.heap.size W w4 := hb1.trans (b14.mono s1)
  have bW5 : Below W.heap.size W w5 := chgB bW4 (Nat.le_refl _) hc (fun x e => (hP x e).1)
  have sA : (w5.alloc (.cells #[.pointer (some ⟨d, 0, none⟩), .pointer (some ⟨gp, 0, none⟩)] 32)).heap.size = w5.heap.size + 1 := by simp
  have hS : ∀ x, S x → w1.heap.size ≤ x ∧ x < w2.heap.size := fun x hx => ⟨h3 x hx, h2.rng x hx⟩
  have hTx : ∀ x, rdT gp B blk x → w2.heap.size ≤ x ∧ x < w3.heap.size := fun x hx => ⟨hT x hx, hM.lt x hx⟩
  have d5 : DiskAt w5 d k S := (h2.later b24).apart hc (fun x hx e => by have := (hS x hx).1; have := (hP x e).2; omega)
  have m5 := hM.kept (w' := w5) (by omega) (fun x hx => (hc.block x (by have := (hTx x hx).2; omega) (fun e => by have := (hP x e).2; have := (hTx x hx).1; omega)).trans (hb4.block x (hTx x hx).2))
  refine ⟨bW5.trans (hA.mono bW5.size), ?_, by omega, S, rdT gp B blk, d5.later hA, ⟨B, blk, vF, vD, xs, dv, sv, tv, m5.later hA, fun x e => e⟩, fun x hx => ⟨fun e => ?_, ?_, ?_⟩, fun x hx => ⟨?_, ?_, ?_⟩⟩
  · show (w5.heap.push _)[w5.heap.size]? = _; simp
  · have := (hS x hx).2; have := (hTx x e).1; omega
  · have := (hS x hx).2; omega
  · have := (hS x hx).1; omega
  · have := (hTx x hx).1; omega
  · have := (hTx x hx).2; omega
  · have := (hTx x hx).2; omega
set_option maxHeartbeats 8000000 in
set_option maxRecDepth 1000000 in
theorem loadsBad (q z : Int) (hz : z ≠ 0) (aI : Option Addr) (nI cI : Nat) (vs : Value) (im : List (Nm × List Nat)) (w : World) (hi : ImO w (.slice aI nI cI) im) (hfew : im.length ≤ 1048576) (hs : ∀ p ∈ im, p.2.length ≤ 1073741824)
    (hL : ∀ a l c u, ImgAt u (.slice a l c) im w.heap.size → Calls Tryz.prog 10 #[.slice a l c, .int .i64 q] u fun e w' => e = .returned (.tuple #[.pointer none, .int .i64 z]) ∧ Below u.heap.size u w')
    (hR : ∀ u, Below w.heap.size w u → Calls Tryz.prog 11 #[.slice aI nI cI, .int .i64 q] u fun e w' => e = .returned (.tuple #[.pointer none, .int .i64 z]) ∧ Below u.heap.size u w') :
    Calls Tryz.prog 4 #[.slice aI nI cI, .int .i64 q, vs] w fun e w' => e = .returned (.bool true) ∧ Below w.heap.size w w' := by
  have HTW := Hid.mkR (twinO _ im w hi hfew hs)
  have HI := Hid.mkR hi
  have HL := Hid.mkR hL
  have HR := Hid.mkR hR
  clear hi hfew hs hL hR
  go_enter Tryz.func4, Tryz.ntmps4
  go_wp2_with fail
  refine HTW.out.mono ?_
  rintro e w1 ⟨a1, l1, c1, rfl, hm1, hb1⟩
  have HM1 := Hid.mkR hm1
  have HL1 := Hid.mkR (HL.out _ _ _ _ hm1)
  clear HTW hm1 HL
  go_wp2_with fail
  refine HL1.out.mono ?_
  rintro e w2 ⟨rfl, hb2⟩
  have bw2 : Below w.heap.size w w2 := hb1.trans (hb2.mono hb1.size)
  have HR1 := Hid.mkR (HR.out _ bw2)
  clear HL1 HR
  go_wp2_with fail
  refine HR1.out.mono ?_
  rintro e w3 ⟨rfl, hb3⟩
  have bw3 : Below w.heap.size w w3 := bw2.trans (hb3.mono bw2.size)
  have b13 : Below w1.heap.size w1 w3 := hb2.trans (hb3.mono hb2.size)
  have HSI := Hid.mkR (sameImageO _ _ im w3 (HM1.out.later b13).read (HI.out.after bw3))
  have BW3 := Hid.mkR bw3
  clear HR1 hb1 hb2 hb3 bw2 bw3 b13 HM1 HI
  have hzz : decide (z ≠ z) = false := by simp
  go_wp2_with fail
  refine HSI.out.mono ?_
  rintro e w4 ⟨rfl, hb4⟩
  have HF : Hid (Below w.heap.size w w4) := BW3.out.trans (hb4.mono BW3.out.size)
  clear HSI hb4 BW3
  go_wp2
  go_ret
  exact ⟨rfl, HF.out⟩
set_option maxHeartbeats 16000000 in
set_option maxRecDepth 1000000 in
theorem loadsGood (q : Int) (hqb : qB q = true) (aI : Option Addr) (nI cI : Nat) (v : Value) (im : List (Nm × List Nat)) (st : List Sp) (w : World) (hi : ImO w (.slice aI nI cI) im) (hfew : im.length ≤ 65536) (hz : ∀ p ∈ im, (str p.1).size ≤ maxLen) (hs : ∀ p ∈ im, p.2.length ≤ 1073741824) (hgd : ∀ i, i < im.length → goodI im i = true) (h : ScrAt w v st) (hpk : ∀ s ∈ st, ∃ ps, PicksAt w s.vp ps ∧ PicksOff w.heap.size s.vp) :
    Calls Tryz.prog 4 #[.slice aI nI cI, .int .i64 q, v] w fun e w' => e = .returned (.bool true) ∧ Below w.heap.size w w' := by
  obtain ⟨hok, hpw⟩ := goodI_all hgd hfew hs
  obtain ⟨a, cap, rfl, hlc, hcm, hlen, hok2, hcells⟩ := h
  unfold maxLen at hcm
  have HC : Hid (st ≠ [] → ∃ b off, a = some ⟨b, off, none⟩ ∧ ∀ j, j < st.length → SpAt w b (off + j * 7) (st.getD j Sp.none)) := hcells
  have HOK : Hid (∀ s ∈ st, s.Ok) := hok2
  have HPK : Hid (∀ s ∈ st, ∃ ps, PicksAt w s.vp ps ∧ PicksOff w.heap.size s.vp) := hpk
  have HTW := Hid.mkR (twinO _ im w hi (by omega) hs)
  have HI := Hid.mkR hi
  have HLD : Hid (∀ a1 l1 c1 u, ImgAt u (.slice a1 l1 c1) im w.heap.size → Calls Tryz.prog 10 #[.slice a1 l1 c1, .int .i64 q] u fun e w' => ∃ xs k d, xs.map (·.1) = im ∧ LdI q xs k ∧ e = .returned (.tuple #[.pointer (some ⟨d, 0, none⟩), .int .i64 0]) ∧ Dsk u d k.settled w') := fun a1 l1 c1 u hm => loadIm q hqb _ im u hm.read hok
  have HRL : Hid (∀ u, Below w.heap.size w u → Calls Tryz.prog 11 #[.slice aI nI cI, .int .i64 q] u fun e w' => ∃ gp, e = .returned (.tuple #[.pointer (some ⟨gp, 0, none⟩), .int .i64 0]) ∧ RdNew u gp (rkB q im) w') := fun u hu => by
    refine (rloadTo q hqb _ im im.length u (HI.out.after hu) hfew (Nat.le_refl _) hz hgd (fun e => by omega) (fun p hp => by have := hs p hp; omega)).mono ?_
    rintro e w' (⟨-, gp, e1, e2⟩ | ⟨e1, -⟩)
    · exact ⟨gp, e1, e2⟩
    · omega
  have HBN : Hid (∀ xs k, LdI q xs k → xs.map (·.1) = im → BInv k.settled (rkB q im) (65536 + 0) ∧ DInv (rkB q im)) := fun xs k h1 h2 => ⟨BInv.born h1 h2 hpw hfew hs (by omega), DInv.born hfew hok.names⟩
  have HS := Hid.mkR hs
  clear hcells hok2 hpk hi hfew hz hs hgd hok hpw hqb
  go_enter Tryz.func4, Tryz.ntmps4
  go_wp2_with fail
  refine HTW.out.mono ?_
  rintro e w1 ⟨a1, l1, c1, rfl, hm1, hb1⟩
  have HM1 := Hid.mkR hm1
  have HL1 := Hid.mkR (HLD.out _ _ _ _ hm1)
  have HB1 := Hid.mkR hb1
  clear HTW hm1 HLD hb1
  go_wp2_with fail
  refine HL1.out.mono ?_
  rintro e w2 ⟨xs, k, d, hxs, hld, rfl, hD⟩
  have hb2 := hD.1
  have bw2 : Below w.heap.size w w2 := HB1.out.trans (hb2.mono HB1.out.size)
  have HR1 := Hid.mkR (HRL.out _ bw2)
  have HD := Hid.mkR hD
  have HBI := Hid.mkR (HBN.out _ _ hld hxs)
  clear HL1 HRL hD hxs hld HBN
  go_wp2_with fail
  refine HR1.out.mono ?_
  rintro e w3 ⟨gp, rfl, hrn⟩
  have hb3 := hrn.2
  have bw3 : Below w.heap.size w w3 := bw2.trans (hb3.mono bw2.size)
  have b13 : Below w1.heap.size w1 w3 := hb2.trans (hb3.mono hb2.size)
  have HSI := Hid.mkR (sameImageO _ _ im w3 (HM1.out.later b13).read (HI.out.after bw3))
  have HRN := Hid.mkR hrn
  have B13 := Hid.mkR b13
  clear HR1 hb2 hb3 bw2 bw3 b13 HI hrn
  go_wp2_with fail
  refine HSI.out.mono ?_
  rintro e w4 ⟨rfl, hb4⟩
  have b14 : Below w1.heap.size w1 w4 := B13.out.trans (hb4.mono B13.out.size)
  have HB4 := Hid.mkR hb4
  obtain ⟨ts0, rr, blk, hG, htl⟩ := HM1.out.gn b14.size (fun x h1 h2 => b14.block x h2) HS.out
  have HP : Hid (∀ x, (w.heap.size ≤ x ∧ x < w1.heap.size) → w.heap.size ≤ x ∧ x < w1.heap.size) := fun x e => e
  generalize hPP : (fun g => w.heap.size ≤ g ∧ g < w1.heap.size) = P at hG
  have HP2 : Hid (∀ x, P x → w.heap.size ≤ x ∧ x < w1.heap.size) := fun x e => by rw [← hPP] at e; exact e
  obtain ⟨hl1, hl2, hl3⟩ := hG.len
  unfold maxLen at hl3
  obtain ⟨bb, hab⟩ := hG.base
  have HA : Hid (0 < l1 → a1 = some ⟨bb, 0, none⟩ ∧ rr = some bb) := hab
  have HG0 : Hid (∃ ts, Gn w4 w4 (.slice a1 l1 c1) ts rr blk P 0 ∧ ts.length = l1) := ⟨ts0, hG, hl1.symm⟩
  have HB0 : Hid (∀ u, Chg P w4 u → BoI w u.heap.size (65536 + 0) (u.alloc (.cells #[.pointer (some ⟨d, 0, none⟩), .pointer (some ⟨gp, 0, none⟩)] 32))) := fun u hu => ⟨_, _, _, _, BoAt.mk2 HB1.out HD.out HRN.out HB4.out hu HP2.out, HBI.out.1, HBI.out.2⟩
  clear HSI hb4 b14 hG htl hab hl1 hPP HP HP2 HBI HD HRN HB4 HB1 B13 HM1 HS
  go_wp2_with fail
  go_loopg [12] l1 (fun gk s12 wx => ∃ (i : Nat), i + gk = l1 ∧ s12 = .int .i64 i ∧ Hid (∃ ts, Gn w4 wx (.slice a1 l1 c1) ts rr blk P 0 ∧ ts.length = l1))
  case atStart => exact ⟨0, by omega, rfl, HG0.out⟩
  case round =>
    obtain ⟨i, hi, rfl, HV⟩ := hrel
    cases gk with
    | succ gk1 =>
      have him : i < l1 := by omega
      obtain ⟨rfl, rfl⟩ := HA.out (by omega)
      obtain ⟨ts, hG, hts⟩ := HV.out
      obtain ⟨ad, nd, cd, ld, hd, hown, hld, hnd⟩ := hG.own i (Nat.zero_le _) (by omega)
      obtain ⟨-, hq2, hq3⟩ := hown.len2
      unfold maxLen at hq3
      have HH : Hid (Gn w4 wr (.slice (some ⟨bb, 0, none⟩) l1 c1) ts (some bb) blk P 0) := hG
      have HCELL : Hid (∀ wx o, Gn w4 wx (.slice (some ⟨bb, 0, none⟩) l1 c1) ts (some bb) blk P o → wx.cell? ⟨bb, i * 2 + 1, none⟩ = some (.slice ad nd cd)) := fun wx o hx => by
        obtain ⟨b', e1, e2, q0, q1, q2⟩ := hx.at (i := i) (by omega)
        simp only [Option.some.injEq] at e2
        subst e2
        rw [q1, hd]
      have hcell := HCELL.out _ _ hG
      have HD : Hid ((ts.getD i Fi.none).data = .slice ad nd cd ∧ ts.length = l1) := ⟨hd, hts⟩
      clear hG hd hown hld HV hts
      go_wp2_with fail
      go_loopg [13] nd (fun g2 s13 wx => ∃ (k : Nat), k + g2 = nd ∧ s13 = .int .i64 k ∧ Hid (Gn w4 wx (.slice (some ⟨bb, 0, none⟩) l1 c1) ts (some bb) blk P 0))
      case atStart => exact ⟨0, by omega, rfl, HH.out⟩
      case round =>
        obtain ⟨k3, hk, rfl, HK⟩ := hrel
        have hcell := HCELL.out _ _ HK.out
        cases gk with
        | succ g3 =>
          obtain ⟨g, rfl, hfz, ⟨u, hu⟩, hs'⟩ := HK.out.write (i := i) (k := k3) (c := 76) (by have := HD.out.2; omega) (Nat.zero_le _) HD.out.1 (by omega) (by omega)
          have HN : Hid (Gn w4 (wr.setCell ⟨g, k3, none⟩ (.int .u8 76)) (.slice (some ⟨bb, 0, none⟩) l1 c1) ts (some bb) blk P 0) := hs'
          clear hs' HK
          go_wp2
          go_roundg g3
          case measure => omega
          case rel => exact ⟨k3 + 1, by omega, by go_num, HN.out⟩
        | zero =>
          have hknd : nd = k3 := by omega
          subst hknd
          obtain ⟨b', e1, e2, q0, q1, q2⟩ := HK.out.at (i := i) (by have := HD.out.2; omega)
          simp only [Option.some.injEq] at e2
          subst e2
          have HN : Hid (∀ s : ByteArray, ∃ ts, Gn w4 (wr.setCell ⟨bb, i * 2, none⟩ (.string s)) (.slice (some ⟨bb, 0, none⟩) l1 c1) ts (some bb) blk P 0 ∧ ts.length = l1) := fun s => ⟨_, HK.out.name (by have := HD.out.2; omega) s, by rw [List.length_set]; exact HD.out.2⟩
          clear HK HH e1 q1
          go_wp2
          go_roundg gk1
          case measure => omega
          case rel => exact ⟨i + 1, by omega, by go_num, HN.out _⟩
    | zero =>
      have hmi : l1 = i := by omega
      subst hmi
      obtain ⟨ts, hG, hts⟩ := HV.out
      have H00 := Hid.mkR (HB0.out _ hG.chg)
      clear hG hts HV HA HG0 HB0
      obtain ⟨gb, hgb⟩ : ∃ gb, wr.heap.size = gb := ⟨_, rfl⟩
      rw [hgb] at H00
      have HFA0 := Hid.mkR (H00.out.facts (by omega))
      clear H00
      go_wp2_with fail
      refine HFA0.out.mono ?_
      rintro e w6 ⟨rfl, hB6⟩
      have H0 : Hid (BoI w gb (65536 + 0) w6) := hB6
      clear HFA0 hB6
      go_wp2_with fail
      go_loopg [15] st.length (fun gk s15 wx => ∃ (i : Nat), i + gk = st.length ∧ s15 = .int .i64 i ∧ Hid (BoI w gb (65536 + i) wx))
      case atStart => exact ⟨0, by omega, rfl, H0.out⟩
      case round =>
        obtain ⟨i, hig, rfl, HV⟩ := hrel
        cases gk with
        | zero =>
          have hii : st.length = i := by omega
          have HF := Hid.mkR HV.out.below
          clear HV H0
          go_wp2
          go_ret
          exact ⟨rfl, HF.out⟩
        | succ gk1 =>
          have hi : i < st.length := by omega
          have hne : st ≠ [] := by rintro rfl; simp at hi
          obtain ⟨b, off, rfl, hc⟩ := HC.out hne
          have hsp := (hc i hi)
          have hmem : st.getD i Sp.none ∈ st := by simp [hi]
          have hsok := HOK.out (st.getD i Sp.none) hmem
          obtain ⟨ps, hps, hpo⟩ := HPK.out (st.getD i Sp.none) hmem
          have hspr := hsp.later HV.out.below
          generalize st.getD i Sp.none = x at hsp hsok hspr hps hpo
          obtain ⟨kd, nm, to, at', n, vb, vp, data⟩ := x
          obtain ⟨c0, c1, c2, c3, c4, c5, c6, _⟩ := hspr
          obtain ⟨o1, o2, o3, o4, o5, o6, o7⟩ := hsok
          have hrow := hsp.row
          simp only at c0 c1 c2 c3 c4 c5 c6 o1 o2 o3 o4 o5 o6 o7 hrow hps hpo
          obtain ⟨ap, mp, cp, rfl⟩ := o6
          have HROW : Hid (BytesAt w vb data) := hrow
          obtain ⟨ab, cb, hvb, hb1, hb2, _⟩ := hrow
          unfold maxLen at hb2
          subst hvb
          have HST := Hid.mkR (stepAll HV.out (by omega) (by omega) kd nm to at' n ab cb (ps := ps) data o3 o4 o7 o2 (fun w' hb => HROW.out.later hb) o5 (fun w' hb => hps.cells hpo (fun b hb2 => hb.block b hb2)) (fun C hC b off n c e h0 => Nat.lt_of_lt_of_le (hpo b off n c e h0) hC))
          unfold stepV at HST
          obtain ⟨o1a, o1b⟩ := o1
          clear HV hc hsp hne hps hpo HROW H0
          go_wp2_with fail
          refine HST.out.mono ?_
          rintro e w3 ⟨rfl, hB3⟩
          have HFA := Hid.mkR (hB3.facts (by omega))
          clear HST hB3 c0 c1 c2 c3 c4 c5 c6
          go_wp2_with fail
          refine HFA.out.mono ?_
          rintro e w4 ⟨rfl, hB4⟩
          have HNX : Hid (BoI w gb (65536 + (i + 1)) w4) := hB4
          clear HFA hB4
          go_wp2
          go_roundg gk1
          case measure => omega
          case rel => exact ⟨i + 1, by omega, by go_num, HNX.out⟩
theorem loadsWalk (q : Int) (hq : I64 q) (va v : Value) (im : List (Nm × List Nat)) (st : List Sp) (w : World) (hi : ImO w va im) (hfew : im.length ≤ 1048576) (hz : ∀ p ∈ im, (str p.1).size ≤ maxLen) (hs : ∀ p ∈ im, p.2.length ≤ 1073741824) (h : ScrAt w v st) (hpk : ∀ s ∈ st, ∃ ps, PicksAt w s.vp ps ∧ PicksOff w.heap.size s.vp) :
    Calls Tryz.prog 4 #[va, .int .i64 q, v] w fun e w' => e = .returned (.bool true) ∧ Below w.heap.size w w' := by
  have hi0 := hi
  obtain ⟨aI, cI, rfl, p1, p2, -⟩ := hi0
  cases hqb : qB q with
  | false => exact loadsBad q 3 (by decide) _ _ _ _ im w hi hfew hs (fun a l c u hm => loadQ q hq hqb a l c u) (fun u hu => rloadQ q hqb _ _ _ u)
  | true =>
    by_cases hmany : 65536 < im.length
    · refine loadsBad q 35 (by decide) _ _ _ _ im w hi hfew hs (fun a l c u hm => ?_) (fun u hu => rloadMany q hqb _ _ _ hmany (by omega) u)
      obtain ⟨a', c', e, -⟩ := hm.read
      simp only [Value.slice.injEq] at e
      obtain ⟨_, rfl, _⟩ := e
      exact loadMany q hqb a _ c hmany (by omega) u
    · rcases goodI_first im with hg | ⟨i0, g1, g2, g3⟩
      · exact loadsGood q hqb _ _ _ v im st w hi (by omega) hz hs hg h hpk
      · refine loadsBad q 36 (by decide) _ _ _ _ im w hi hfew hs (fun a l c u hm => loadWrong q hqb _ im i0 u hm.read (by omega) g1 hz g2 g3) (fun u hu => ?_)
        refine (rloadTo q hqb _ im i0 u (hi.after hu) (by omega) (by omega) hz g2 (fun _ => g3) (fun p hp => by have := hs p hp; omega)).mono ?_
        rintro e w' (⟨e1, -⟩ | ⟨-, e1, e2⟩)
        · omega
        · exact ⟨e1, e2⟩
end Go.Proofs.YthcnhjmkcekdaaaGreat
namespace Go.Proofs.YthcnhjmkcekdaaaGreat
open Go.RowKit Go.Deep Go.ChangeShapes Go.WideShapes Go.ChangeAt Go.Maps Plain
set_option linter.unusedVariables false
set_option linter.unusedSimpArgs false
set_option linter.constructorNameAsVariable false
theorem bulk_pos {H : Type} (d : DataW H) : 1 ≤ Rows.uptoBulk d := by
  cases d with
  | lit l => cases l <;> simp [Rows.uptoBulk]
  | _ => simp [Rows.uptoBulk]
theorem bulk_len {H : Type} : ∀ ds : List (DataW H), ds.length ≤ Rows.uptoBulkAll ds
  | [] => by simp
  | d :: r => by
    have h1 := bulk_pos d
    have h2 := bulk_len r
    simp only [Rows.uptoBulkAll, List.length_cons]
    omega
theorem bulk_mem {H : Type} : ∀ {ds : List (DataW H)} {d : DataW H}, d ∈ ds → Rows.uptoBulk d ≤ Rows.uptoBulkAll ds
  | [], d, h => by simp at h
  | x :: r, d, h => by
    simp only [Rows.uptoBulkAll]
    rcases List.mem_cons.mp h with rfl | h
    · omega
    · have := bulk_mem h; omega
theorem bulk_part {H : Type} {parts : List (DataW H)} {d : DataW H} (h : d ∈ parts) : Rows.uptoBulk d ≤ Rows.uptoBulk (.agg parts) := by
  have := bulk_mem h
  simp only [Rows.uptoBulk]
  omega
theorem bulk_elem {H : Type} {el sp : List (DataW H)} {d : DataW H} (h : d ∈ el) : Rows.uptoBulk d ≤ Rows.uptoBulk (.slice el sp) := by
  have := bulk_mem h
  simp only [Rows.uptoBulk]
  omega
theorem bulk_slice2 {H : Type} {el sp : List (DataW H)} (h : Rows.uptoBulk (.slice el sp) ≤ 1048576) : el.length + sp.length ≤ 1048576 := by
  simp only [Rows.uptoBulk] at h
  have h1 := bulk_len el
  have h2 := bulk_len sp
  omega
set_option maxRecDepth 100000 in
theorem open_spN {H : Type} {enc : TypeId × Value → H} {W : World} {n : Nat} {a : Addr} {i : Nat} {x : DataW H × List MemPlace} {cs' : List Value} (h1 : W.cells? 0 (a.add (i * Tryz.prog.cellsOf 37)) (Tryz.prog.cellsOf 37) = some cs')
    (h2 : DataW.trod enc Tryz.prog W 0 (fun _ => true) true n 37 cs' = some x) (hbk : Rows.uptoBulk x.1 ≤ 1048576) :
    ∃ s : Sp, s.Ok ∧ BytesAt W s.vb s.data ∧ W.cell? ((a.add (i * 7)).add 0) = some (.int .i64 s.kd) ∧ W.cell? ((a.add (i * 7)).add 1) = some (.string s.nm) ∧ W.cell? ((a.add (i * 7)).add 2) = some (.string s.to) ∧ W.cell? ((a.add (i * 7)).add 3) = some (.int .i64 s.at') ∧
      W.cell? ((a.add (i * 7)).add 4) = some (.int .i64 s.n) ∧ W.cell? ((a.add (i * 7)).add 5) = some s.vb ∧ W.cell? ((a.add (i * 7)).add 6) = some s.vp := by
  rw [cells_step] at h1
  obtain ⟨_, hlen0, hcell⟩ := World.cells?_some h1
  obtain ⟨xs, m, _, hx, hl, hlen, hf⟩ := DataW.trod_struct Tryz.underlying37 h2
  rw [cells_step] at hl
  have hlen : xs.length = 7 := hlen
  match cs', hl with
  | [v0, v1, v2, v3, v4, v5, v6], _ =>
    match xs, hlen with
    | [y0, y1, y2, y3, y4, y5, y6], _ =>
      have k0 : DataW.trod enc Tryz.prog W 0 (fun _ => true) true m 3 [v0] = some y0 := by simpa [cells_3] using hf 0 _ rfl
      have k1 : DataW.trod enc Tryz.prog W 0 (fun _ => true) true m 9 [v1] = some y1 := by simpa [cells_9] using hf 1 _ rfl
      have k2 : DataW.trod enc Tryz.prog W 0 (fun _ => true) true m 9 [v2] = some y2 := by simpa [cells_9] using hf 2 _ rfl
      have k3 : DataW.trod enc Tryz.prog W 0 (fun _ => true) true m 3 [v3] = some y3 := by simpa [cells_3] using hf 3 _ rfl
      have k4 : DataW.trod enc Tryz.prog W 0 (fun _ => true) true m 3 [v4] = some y4 := by simpa [cells_3] using hf 4 _ rfl
      have k5 : DataW.trod enc Tryz.prog W 0 (fun _ => true) true m 34 [v5] = some y5 := by simpa [cells_B] using hf 5 _ rfl
      have k6 : DataW.trod enc Tryz.prog W 0 (fun _ => true) true m 35 [v6] = some y6 := by simpa [cells_I] using hf 6 _ rfl
      have hv6 : ∃ a m c, v6 = .slice a m c := by
        rcases open_ints Tryz.underlying35 Tryz.underlying3 cells_3 k6 with ⟨hcs, _⟩ | ⟨x0, l, c, zs, hcs, _⟩
        · simp at hcs; exact ⟨_, _, _, hcs⟩
        · simp at hcs; exact ⟨_, _, _, hcs⟩
      obtain ⟨n0, a0, _, w0⟩ := DataW.trod_int Tryz.underlying3 k0
      obtain ⟨s1, a1, _, w1⟩ := DataW.trod_string Tryz.underlying9 k1
      obtain ⟨s2, a2, _, w2⟩ := DataW.trod_string Tryz.underlying9 k2
      obtain ⟨n3, a3, _, w3⟩ := DataW.trod_int Tryz.underlying3 k3
      obtain ⟨n4, a4, _, w4⟩ := DataW.trod_int Tryz.underlying3 k4
      simp only [List.cons.injEq, and_true] at a0 a1 a2 a3 a4
      subst a0 a1 a2 a3 a4
      obtain ⟨l, hB, hll⟩ : ∃ l : List Nat, BytesAt W v5 l ∧ l.length ≤ 140737488351232 := by
        rcases open_ints Tryz.underlying34 Tryz.underlying5 cells_u8 k5 with ⟨hcs, _⟩ | ⟨x0, l, c, zs, hcs, _, hl0, hm0, hz, hx0, hcell0, hwz⟩
        · simp at hcs
          subst hcs
          exact ⟨[], BytesAt.nil W, by simp⟩
        · simp at hcs
          subst hcs
          simp only [if_true] at hz
          obtain ⟨l', g1, g2⟩ := bytes_of_row (w := W) (a := some x0) (len := l) (cap := c) (zs := zs) (.inr ⟨x0, rfl, hl0, hm0, hz, hcell0, hwz⟩)
          refine ⟨l', g2, ?_⟩
          have hw := bulk_part (d := y5.1) (parts := [y0.1, y1.1, y2.1, y3.1, y4.1, y5.1, y6.1]) (by simp)
          have hw2 : Rows.uptoBulk x.1 = Rows.uptoBulk (DataW.agg [y0.1, y1.1, y2.1, y3.1, y4.1, y5.1, y6.1]) := by rw [hx]; rfl
          rw [← hw2] at hw
          rw [hx0] at hw
          simp only [Rows.uptoBulk] at hw
          have hw3 := bulk_len (lits (H := H) .u8 (zs.take l))
          have hw4 := bulk_len (lits (H := H) .u8 (zs.drop l))
          simp only [lits, List.length_map, List.length_take, List.length_drop] at hw hw3 hw4
          omega
      exact ⟨⟨n0, s1, s2, n3, n4, v5, v6, l⟩, ⟨wfI w0, wfI w4, w1, w2, hll, hv6, wfI w3⟩, hB, by simpa using hcell 0 (by omega), by simpa using hcell 1 (by omega), by simpa using hcell 2 (by omega), by simpa using hcell 3 (by omega), by simpa using hcell 4 (by omega), by simpa using hcell 5 (by omega), by simpa using hcell 6 (by omega)⟩
theorem open_scriptN {H : Type} {enc : TypeId × Value → H} {W : World} {fuel : Nat} {v : Value} {x : DataW H × List MemPlace} (h : DataW.trod enc Tryz.prog W 0 (fun _ => true) true fuel 22 [v] = some x)
    (hbk : Rows.uptoBulk x.1 ≤ 1048576) : ∃ st : List Sp, ScrAt W v st := by
  rcases open_slice Tryz.underlying22 h with ⟨hcs, hx⟩ | ⟨a, len, cap, m, n, D, Pl, hcs, hb, hl, hm, hmm, hx, hel⟩
  · simp at hcs
    subst hcs
    exact ⟨[], none, 0, rfl, by simp, by simp, by simp, by simp, by simp⟩
  · simp at hcs
    subst hcs
    simp only [if_true] at hmm
    subst hmm
    have each : ∀ i, i < len → ∃ s : Sp, s.Ok ∧ BytesAt W s.vb s.data ∧ W.cell? ((a.add (i * 7)).add 0) = some (.int .i64 s.kd) ∧ W.cell? ((a.add (i * 7)).add 1) = some (.string s.nm) ∧ W.cell? ((a.add (i * 7)).add 2) = some (.string s.to) ∧ W.cell? ((a.add (i * 7)).add 3) = some (.int .i64 s.at') ∧
      W.cell? ((a.add (i * 7)).add 4) = some (.int .i64 s.n) ∧ W.cell? ((a.add (i * 7)).add 5) = some s.vb ∧ W.cell? ((a.add (i * 7)).add 6) = some s.vp := by
      intro i hi
      obtain ⟨cs', h1, h2⟩ := hel i (by omega)
      refine open_spN h1 h2 ?_
      rw [hx] at hbk
      exact Nat.le_trans (bulk_elem (List.mem_map.mpr ⟨i, List.mem_range.mpr hi, rfl⟩)) hbk
    have iT : Inhabited Sp := ⟨Sp.none⟩
    obtain ⟨q, hq⟩ := choose_lt each
    have hbig : len ≤ 1400000000000 := by
      rw [hx] at hbk
      have := bulk_slice2 hbk
      simp at this
      omega
    have hlenq : ((List.range len).map q).length = len := by simp
    refine ⟨(List.range len).map q, some a, m, by rw [hlenq], by rw [hlenq]; exact hl, hm, by rw [hlenq]; exact hbig, ?_, ?_⟩
    · intro t ht
      obtain ⟨i, hi, rfl⟩ := List.mem_map.mp ht
      exact (hq i (List.mem_range.mp hi)).1
    · intro hne
      have hlen : 0 < len := by
        rcases Nat.eq_zero_or_pos len with rfl | h
        · simp at hne
        · exact h
      obtain ⟨b, off, spot⟩ := a
      have hspot : spot = none := by
        have := World.cell?_spot (hq 0 hlen).2.2.1
        simpa [Addr.add] using this
      subst hspot
      refine ⟨b, off, rfl, fun k hk => ?_⟩
      have hk' : k < len := by simpa using hk
      obtain ⟨_, hB, c0, c1, c2, c3, c4, c5, c6⟩ := hq k hk'
      rw [WideShapes.add_plain, WideShapes.add_plain] at c0 c1 c2 c3 c4 c5 c6
      have e : ((List.range len).map q).getD k Sp.none = q k := by simp [hk']
      rw [e]
      exact ⟨c0, c1, c2, c3, c4, c5, c6, hB⟩
theorem cells_F : Tryz.prog.cellsOf 46 = 2 := by kernel_rfl
set_option maxRecDepth 100000 in
theorem open_fileN {H : Type} {enc : TypeId × Value → H} {W : World} {n : Nat} {a : Addr} {i : Nat} {x : DataW H × List MemPlace} {cs' : List Value} (h1 : W.cells? 0 (a.add (i * Tryz.prog.cellsOf 46)) (Tryz.prog.cellsOf 46) = some cs')
    (h2 : DataW.trod enc Tryz.prog W 0 (fun _ => true) true n 46 cs' = some x) (hbk : Rows.uptoBulk x.1 ≤ 1048576) :
    ∃ p : ByteArray × Value × List Nat, (∃ ad nd cd, p.2.1 = .slice ad nd cd) ∧ BytesAt W p.2.1 p.2.2 ∧ p.2.2.length ≤ 1048576 ∧ p.1.size ≤ maxLen ∧ W.cell? ((a.add (i * 2)).add 0) = some (.string p.1) ∧ W.cell? ((a.add (i * 2)).add 1) = some p.2.1 := by
  rw [cells_F] at h1
  obtain ⟨_, hlen0, hcell⟩ := World.cells?_some h1
  obtain ⟨xs, m, _, hx, hl, hlen, hf⟩ := DataW.trod_struct Tryz.underlying46 h2
  rw [cells_F] at hl
  have hlen : xs.length = 2 := hlen
  match cs', hl with
  | [v0, v1], _ =>
    match xs, hlen with
    | [y0, y1], _ =>
      have k0 : DataW.trod enc Tryz.prog W 0 (fun _ => true) true m 9 [v0] = some y0 := by simpa [cells_9] using hf 0 _ rfl
      have k1 : DataW.trod enc Tryz.prog W 0 (fun _ => true) true m 34 [v1] = some y1 := by simpa [cells_B] using hf 1 _ rfl
      obtain ⟨s0, a0, _, w0⟩ := DataW.trod_string Tryz.underlying9 k0
      simp only [List.cons.injEq, and_true] at a0
      subst a0
      obtain ⟨l, hsl, hB, hll⟩ : ∃ l : List Nat, (∃ ad nd cd, v1 = .slice ad nd cd) ∧ BytesAt W v1 l ∧ l.length ≤ 1048576 := by
        rcases open_ints Tryz.underlying34 Tryz.underlying5 cells_u8 k1 with ⟨hcs, _⟩ | ⟨x0, l, c, zs, hcs, _, hl0, hm0, hz, hx0, hcell0, hwz⟩
        · simp at hcs
          subst hcs
          exact ⟨[], ⟨_, _, _, rfl⟩, BytesAt.nil W, by simp⟩
        · simp at hcs
          subst hcs
          simp only [if_true] at hz
          obtain ⟨l', g1, g2⟩ := bytes_of_row (w := W) (a := some x0) (len := l) (cap := c) (zs := zs) (.inr ⟨x0, rfl, hl0, hm0, hz, hcell0, hwz⟩)
          refine ⟨l', ⟨_, _, _, rfl⟩, g2, ?_⟩
          have hw := bulk_part (d := y1.1) (parts := [y0.1, y1.1]) (by simp)
          have hw2 : Rows.uptoBulk x.1 = Rows.uptoBulk (DataW.agg [y0.1, y1.1]) := by rw [hx]; rfl
          rw [← hw2] at hw
          rw [hx0] at hw
          simp only [Rows.uptoBulk] at hw
          have hw3 := bulk_len (lits (H := H) .u8 (zs.take l))
          have hw4 := bulk_len (lits (H := H) .u8 (zs.drop l))
          simp only [lits, List.length_map, List.length_take, List.length_drop] at hw hw3 hw4
          omega
      exact ⟨⟨s0, v1, l⟩, hsl, hB, hll, w0, by simpa using hcell 0 (by omega), by simpa using hcell 1 (by omega)⟩
theorem open_imageN {H : Type} {enc : TypeId × Value → H} {W : World} {fuel : Nat} {v : Value} {x : DataW H × List MemPlace} (h : DataW.trod enc Tryz.prog W 0 (fun _ => true) true fuel 40 [v] = some x)
    (hbk : Rows.uptoBulk x.1 ≤ 1048576) : ∃ im : List (Nm × List Nat), ImO W v im ∧ im.length ≤ 1048576 ∧ (∀ p ∈ im, (str p.1).size ≤ maxLen) ∧ ∀ p ∈ im, p.2.length ≤ 1048576 := by
  rcases open_slice Tryz.underlying40 h with ⟨hcs, hx⟩ | ⟨a, len, cap, m, n, D, Pl, hcs, hb, hl, hm, hmm, hx, hel⟩
  · simp at hcs
    subst hcs
    exact ⟨[], ⟨none, 0, rfl, by simp, by simp, by simp⟩, by simp, by simp, by simp⟩
  · simp at hcs
    subst hcs
    simp only [if_true] at hmm
    subst hmm
    rw [hx] at hbk
    have each : ∀ i, i < len → ∃ p : ByteArray × Value × List Nat, (∃ ad nd cd, p.2.1 = .slice ad nd cd) ∧ BytesAt W p.2.1 p.2.2 ∧ p.2.2.length ≤ 1048576 ∧ p.1.size ≤ maxLen ∧ W.cell? ((a.add (i * 2)).add 0) = some (.string p.1) ∧ W.cell? ((a.add (i * 2)).add 1) = some p.2.1 := by
      intro i hi
      obtain ⟨cs', h1, h2⟩ := hel i (by omega)
      exact open_fileN h1 h2 (Nat.le_trans (bulk_elem (List.mem_map.mpr ⟨i, List.mem_range.mpr hi, rfl⟩)) hbk)
    have iT : Inhabited (ByteArray × Value × List Nat) := ⟨⟨ByteArray.empty, .slice none 0 0, []⟩⟩
    obtain ⟨q, hq⟩ := choose_lt each
    have hbig : len ≤ 1048576 := by
      have := bulk_slice2 hbk
      simp at this
      omega
    unfold maxLen at hm
    have hlenq : ((List.range len).map fun i => ((q i).1.data.toList, (q i).2.2)).length = len := by simp
    refine ⟨(List.range len).map fun i => ((q i).1.data.toList, (q i).2.2), ⟨some a, m, by rw [hlenq], by rw [hlenq]; exact hl, by omega, fun hne => ?_⟩, by rw [hlenq]; exact hbig, fun p hp => ?_, fun p hp => ?_⟩
    · have hlen : 0 < len := by
        rcases Nat.eq_zero_or_pos len with rfl | h
        · simp at hne
        · exact h
      obtain ⟨b, off, spot⟩ := a
      have hspot : spot = none := by
        have := World.cell?_spot (hq 0 hlen).2.2.2.2.1
        simpa [Addr.add] using this
      subst hspot
      refine ⟨b, off, rfl, fun j k l hj => ?_⟩
      have hj' : j < len := by have := (List.getElem?_eq_some_iff.mp hj).1; simpa using this
      simp only [List.getElem?_map, List.getElem?_range hj', Option.map_some, Option.some.injEq, Prod.mk.injEq] at hj
      obtain ⟨rfl, rfl⟩ := hj
      obtain ⟨⟨ad, nd, cd, e⟩, hB, -, -, c0, c1⟩ := hq j hj'
      rw [WideShapes.add_plain, WideShapes.add_plain] at c0 c1
      refine ⟨ad, nd, cd, by rw [str_of]; exact c0, by rw [← e]; exact c1, by rw [← e]; exact hB⟩
    · obtain ⟨i, hi, rfl⟩ := List.mem_map.mp hp
      simp only [str_of]
      exact (hq i (List.mem_range.mp hi)).2.2.2.1
    · obtain ⟨i, hi, rfl⟩ := List.mem_map.mp hp
      exact (hq i (List.mem_range.mp hi)).2.2.1
end Go.Proofs.YthcnhjmkcekdaaaGreat
