import Derived.Test.YtklfmgkfcacfkaaEe
import Derived.BigRegion
/-! Tokens that are laid over: the law's own helper, and the law. -/
namespace Go.Proofs.Ytklfmgkfcacfkaa
open Go.RowKit Plain
set_option linter.unusedVariables false
set_option linter.unusedSimpArgs false

set_option maxHeartbeats 4000000 in
set_option maxRecDepth 100000 in
theorem expandPlacedAny (sv : Value) (tg : List Tg) (w : World) (h : TRd w sv tg) (hn : ∀ t ∈ tg, t.nums) (hlen : tg.length ≤ 3518437208790) : Calls Try.prog 17 #[sv] w fun e w' => e = .returned (.bool true) ∧ Below w.heap.size w w' := by
  have HTR : Hid (TRd w sv tg) := h
  obtain ⟨a, cap, rfl, hlc, hcm, hok, -⟩ := h
  unfold maxLen at hcm
  have HOK : Hid (∀ t ∈ tg, t.ok w) := hok
  have HNU : Hid (∀ t ∈ tg, t.nums) := hn
  have HOL : Hid ((others tg).length = tg.length) := others_len tg
  have HON : Hid (∀ t ∈ others tg, t.nums) := others_nums hn
  obtain ⟨N, hN⟩ : ∃ N, tg.length + 1 = N := ⟨_, rfl⟩
  have HN : Hid (tg.length + 1 = N) := hN
  have hNl : tg.length < N := by omega
  have hNb : N ≤ 3518437208801 := by omega
  clear hok hn hN
  go_enter Try.func17, Try.ntmps17
  go_wp2_with fail
  refine (otherAny _ tg w HTR.out (by omega)).mono ?_
  rintro e w1 ⟨v1, r1, rfl, ho1, hr1, hb1⟩
  have HO1 : Hid (TRd w1 v1 (others tg)) := ho1.rd (others_ok (fun t ht => ⟨(HOK.out t ht).1.later hb1, (HOK.out t ht).2⟩))
  have HB1 : Hid (Below w.heap.size w w1) := hb1
  obtain ⟨a1, n1, c1, rfl⟩ : ∃ a1 n1 c1, v1 = .slice a1 n1 c1 := by
    obtain ⟨a1, c1, e, -⟩ := HO1.out
    exact ⟨a1, _, c1, e⟩
  clear ho1 hr1 hb1
  go_wp2_with fail
  refine (twinsAny _ (others tg) w1 HO1.out HON.out (by rw [HOL.out]; omega)).mono ?_
  rintro e w2 ⟨gl, tw2, rfl, ht2, hb2⟩
  rw [HOL.out, HN.out]
  have HT2 : Hid (TwAt w1.heap.size w2 gl (others tg) tw2) := ht2
  have HD2 : Hid (TRd w2 (.slice (some ⟨gl, 0, none⟩) tg.length N) tw2) := by have := ht2.rd HON.out; rwa [HOL.out, HN.out] at this
  have HB2 : Hid (Below w.heap.size w w2) := below_on HB1.out hb2
  have HGL : Hid (w1.heap.size ≤ gl ∧ gl < w2.heap.size) := ⟨ht2.gb, ht2.own.lt⟩
  have HB12 : Hid (Below w1.heap.size w1 w2) := hb2
  clear ht2 hb2
  go_wp2_with fail
  refine (expandAll _ tw2 w2 HD2.out).mono ?_
  rintro e w3 ⟨v3, r3, X3, z3, rfl, he3, ho3, hr3, hb3⟩
  have HE3 : Hid (ExpIs tw2 X3 z3) := he3
  have HC2 : Hid (tw2.map Tg.c3 = (others tg).map Tg.c3) := HT2.out.c3
  have HX3 : Hid (Own w3 v3 X3 r3) := ho3
  have HR3 : Hid (∀ q, r3 = some q → w2.heap.size ≤ q) := hr3
  have HT3 : Hid (TwAt w1.heap.size w3 gl (others tg) tw2) := HT2.out.later hb3
  have HB13 : Hid (Below w1.heap.size w1 w3) := below_on HB12.out hb3
  have HB3 : Hid (Below w.heap.size w w3) := below_on HB2.out hb3
  have HS23 : Hid (w2.heap.size ≤ w3.heap.size) := hb3.size
  clear he3 ho3 hr3 hb3 HT2 HD2
  go_wp2_with fail
  refine (twinsAny _ tg w3 (HTR.out.later HB3.out) HNU.out (by omega)).mono ?_
  rintro e w4 ⟨gu, tw4, rfl, ht4, hb4⟩
  rw [HN.out]
  have HU4 : Hid (TwAt w3.heap.size w4 gu tg tw4) := ht4
  have HUO : Hid (OwnG w4 (.slice (some ⟨gu, 0, none⟩) N N) (tw4 ++ [mT]) (some gu)) := by have := ht4.own; rwa [HN.out] at this
  have HL4 : Hid (OwnG w4 (.slice (some ⟨gl, 0, none⟩) N N) (tw2 ++ [mT]) (some gl)) := by have := (HT3.out.later hb4).own; rwa [HOL.out, HN.out] at this
  have HX4 : Hid (Own w4 v3 X3 r3) := HX3.out.later hb4
  have HB14 : Hid (Below w1.heap.size w1 w4) := below_on HB13.out hb4
  have HB4 : Hid (Below w.heap.size w w4) := below_on HB3.out hb4
  have HW2 : Hid (tw2.length = tg.length) := by have := HT3.out.len; rw [HOL.out] at this; exact this
  have HW4 : Hid (tw4.length = tg.length) := ht4.len
  have HGU : Hid (w3.heap.size ≤ gu) := ht4.gb
  clear ht4 hb4 HX3 HT3
  go_wp2
  go_loopw [8] (fun s wr => ∃ i : Nat, s = .int .i64 i ∧ i ≤ tg.length ∧ OwnG wr (.slice (some ⟨gl, 0, none⟩) N N) (tw4.take i ++ (tw2 ++ [mT]).drop i) (some gl) ∧ w4.grownBy wr (some gl)) (fun s _ => tg.length - (intOf s).toNat)
  case atStart => exact ⟨0, rfl, by omega, by simpa using HL4.out, below_grow (Below.refl _ _) _⟩
  case round =>
    obtain ⟨i, rfl, hi, hown, hgr⟩ := hrel
    have HLI : Hid (OwnG wr (.slice (some ⟨gl, 0, none⟩) N N) (tw4.take i ++ (tw2 ++ [mT]).drop i) (some gl)) := hown
    have HGR : Hid (w4.grownBy wr (some gl)) := hgr
    clear hown hgr HL4
    by_cases hlt : i < tg.length
    · obtain ⟨t, ht⟩ : ∃ t, tw4[i]? = some t := ⟨_, List.getElem?_eq_getElem (by rw [HW4.out]; exact hlt)⟩
      obtain ⟨s, hs⟩ : ∃ s, (tw4.take i ++ (tw2 ++ [mT]).drop i)[i]? = some s := ⟨_, List.getElem?_eq_getElem (by have := HW4.out; have := HW2.out; simp; omega)⟩
      have hne : some gu ≠ some gl := by have := HGL.out; have := HS23.out; have := HGU.out; simp; omega
      obtain ⟨u0, u1, u2, -, -, -⟩ := (HUO.out.kept HGR.out (.inr hne)).cells3 (k := i) (t := t) (by rw [List.getElem?_append_left (by rw [HW4.out]; exact hlt)]; exact ht)
      obtain ⟨e0, e1, e2, f0, f1, f2⟩ := HLI.out.cells3 hs
      have HNX : Hid (OwnG (((wr.setCell ⟨gl, i * 3, none⟩ t.v).setCell ⟨gl, i * 3 + 1, none⟩ (.int .i64 t.d)).setCell ⟨gl, i * 3 + 2, none⟩ (.int .i64 t.n)) (.slice (some ⟨gl, 0, none⟩) N N) (tw4.take (i + 1) ++ (tw2 ++ [mT]).drop (i + 1)) (some gl) ∧ w4.grownBy (((wr.setCell ⟨gl, i * 3, none⟩ t.v).setCell ⟨gl, i * 3 + 1, none⟩ (.int .i64 t.d)).setCell ⟨gl, i * 3 + 2, none⟩ (.int .i64 t.n)) (some gl)) := by
        have h9 := HLI.out.set i (by have := HW4.out; have := HW2.out; simp; omega) t
        rw [setCells3, take_drop_set tw4 (tw2 ++ [mT]) i t (by rw [HW4.out]; exact hlt) ht (by have := HW4.out; have := HW2.out; simp; omega)] at h9
        have h8 := grow_setCells wr gl (i * 3) t.cells
        rw [setCells3] at h8
        exact ⟨h9, grow_trans HGR.out h8 (.inl rfl)⟩
      obtain ⟨tv, tl, td, tn⟩ := t
      obtain ⟨xv, xl, xd, xn⟩ := s
      simp only at u0 u1 u2 e0 e1 e2 HNX
      obtain ⟨a8, n8, c8, rfl⟩ : ∃ a8 n8 c8, tv = .slice a8 n8 c8 := by
        obtain ⟨G, hv, _⟩ := HU4.out.lits _ (List.mem_of_getElem? ht)
        exact ⟨_, _, _, hv⟩
      have hiN : i < N := by omega
      clear ht hs hne HUO
      go_wp2
      go_roundw
      case rel => exact ⟨i + 1, by go_num, by omega, HNX.out.1, HNX.out.2⟩
      case measure => simp [intOf]; omega
    · obtain rfl : i = tg.length := by omega
      have HL5 : Hid (TRd wr (.slice (some ⟨gl, 0, none⟩) tg.length N) tw4) := by
        have h1 := HLI.out
        rw [show tw4.take tg.length = tw4 by rw [← HW4.out, List.take_length]] at h1
        have h2 := h1.rdHead (fun t ht => ((HU4.out.lits t ht).kept HGR.out (fun x e => by simp at e; have := HGL.out; have := HS23.out; omega)).ok (c3_nums HU4.out.c3 HNU.out t ht))
        rwa [HW4.out] at h2
      have HX5 : Hid (Own wr v3 X3 r3) := HX4.out.kept HGR.out (by
        cases r3 with
        | none => exact .inl rfl
        | some q => exact .inr (fun e => by simp at e; have h1 := HR3.out q rfl; have h2 := HGL.out; omega))
      have HB5 : Hid (Below w.heap.size w wr) := HB4.out.trans (grow_below HGR.out HB4.out.size (fun x e => by simp at e; have := HGL.out; have := HB1.out.size; omega))
      have HB15 : Hid (Below w1.heap.size w4 wr) := grow_below HGR.out (by have := HGL.out; have := HS23.out; have := HUO.out.lt; have := HGU.out; omega) (fun x e => by simp at e; have := HGL.out; omega)
      have HO5 : Hid (TRd wr (.slice a1 n1 c1) (others tg)) := HO1.out.later (HB14.out.trans HB15.out)
      have HC4 : Hid (tw4.map Tg.c3 = tg.map Tg.c3) := HU4.out.c3
      clear HLI HGR HUO hlt hi HU4 HX4 HB4
      go_wp2_with fail
      refine (expandAll _ tw4 wr HL5.out).mono ?_
      rintro e w6 ⟨v6, r6, X6, z6, rfl, he6, ho6, -, hb6⟩
      have HE6 : Hid (ExpIs tw4 X6 z6) := he6
      have HX6 : Hid (Own w6 v6 X6 r6) := ho6
      have HY6 : Hid (Own w6 v3 X3 r3) := HX5.out.later hb6
      have HO6 : Hid (TRd w6 (.slice a1 n1 c1) (others tg)) := HO5.out.later hb6
      have HB6 : Hid (Below w.heap.size w w6) := below_on HB5.out hb6
      clear he6 ho6 hb6 HX5 HO5 HB5 HL5
      go_wp2_with fail
      refine (refExpandAll _ (others tg) w6 HO6.out).mono ?_
      rintro e w7 ⟨v7, r7, X7, z7, rfl, he7, ho7, -, hb7⟩
      obtain ⟨rfl, rfl⟩ := ExpIs.one HC2.out HE3.out he7
      have HX7 : Hid (Own w7 v7 X3 r7) := ho7
      have HY7 : Hid (Own w7 v3 X3 r3) := HY6.out.later hb7
      have HZ7 : Hid (Own w7 v6 X6 r6) := HX6.out.later hb7
      have HB7 : Hid (Below w.heap.size w w7) := below_on HB6.out hb7
      clear he7 ho7 hb7 HX6 HY6 HO6 HB6
      go_wp2_with fail
      refine (refExpandAll _ tg w7 (HTR.out.later HB7.out)).mono ?_
      rintro e w8 ⟨v8, r8, X8, z8, rfl, he8, ho8, -, hb8⟩
      obtain ⟨rfl, rfl⟩ := ExpIs.one HC4.out HE6.out he8
      have HX8 : Hid (Own w8 v8 X6 r8) := ho8
      have HY8 : Hid (Own w8 v3 X3 r3) := HY7.out.later hb8
      have HZ8 : Hid (Own w8 v6 X6 r6) := HZ7.out.later hb8
      have HW8 : Hid (Own w8 v7 X3 r7) := HX7.out.later hb8
      have HB8 : Hid (Below w.heap.size w w8) := below_on HB7.out hb8
      clear he8 ho8 hb8 HX7 HY7 HZ7 HB7
      go_wp2_with fail
      refine (sameYes _ _ X3 w8 HY8.out.bytes HW8.out.bytes).mono ?_
      rintro e w9 ⟨rfl, n9, rfl⟩
      go_wp2_with fail
      refine (sameYes _ _ X6 (w8.drewN n9) (HZ8.out.bytes.drewN n9) (HX8.out.bytes.drewN n9)).mono ?_
      rintro e w10 ⟨rfl, n10, rfl⟩
      go_wp2
      go_ret
      exact ⟨rfl, below_drewN HB8.out _⟩

set_option maxHeartbeats 2000000 in
set_option maxRecDepth 100000 in
theorem expandsWalk (sv : Value) (tg : List Tg) (w : World) (h : TRd w sv tg) (hn : ∀ t ∈ tg, t.nums) (hlen : tg.length ≤ 3518437208790) : Calls Try.prog 4 #[sv] w fun e w' => e = .returned (.bool true) ∧ Below w.heap.size w w' := by
  have HTR : Hid (TRd w sv tg) := h
  obtain ⟨a, cap, rfl, hlc, hcm, -, -⟩ := h
  unfold maxLen at hcm
  have HNU : Hid (∀ t ∈ tg, t.nums) := hn
  obtain ⟨N, hN⟩ : ∃ N, tg.length + 1 = N := ⟨_, rfl⟩
  have HN : Hid (tg.length + 1 = N) := hN
  have hNl : tg.length < N := by omega
  have hNb : N ≤ 3518437208801 := by omega
  clear hn hN
  go_enter Try.func4, Try.ntmps4
  go_wp2_with fail
  refine (refExpandAll _ tg w HTR.out).mono ?_
  rintro e w1 ⟨v1, r1, X, z, rfl, he1, ho1, hr1, hb1⟩
  have HE : Hid (ExpIs tg X z) := he1
  have HX1 : Hid (Own w1 v1 X r1) := ho1
  have HB1 : Hid (Below w.heap.size w w1) := hb1
  clear he1 ho1 hr1 hb1
  go_wp2_with fail
  refine (twinsAny _ tg w1 (HTR.out.later HB1.out) HNU.out (by omega)).mono ?_
  rintro e w2 ⟨gl, tw, rfl, ht2, hb2⟩
  rw [HN.out]
  have HT2 : Hid (TwAt w1.heap.size w2 gl tg tw) := ht2
  have HC : Hid (tg.map Tg.c3 = tw.map Tg.c3) := ht2.c3.symm
  have HD2 : Hid (TRd w2 (.slice (some ⟨gl, 0, none⟩) tg.length N) tw) := by have := ht2.rd HNU.out; rwa [HN.out] at this
  have HA2 : Hid (Own w2 v1 X r1) := HX1.out.later hb2
  have HB2 : Hid (Below w.heap.size w w2) := below_on HB1.out hb2
  have HRA : Hid (∀ q, r1 = some q → q < w2.heap.size) := fun q hq => by subst hq; exact HA2.out.lt
  clear ht2 hb2 HX1
  go_wp2_with fail
  refine (expandAll _ tw w2 HD2.out).mono ?_
  rintro e w3 ⟨v3, r3, X3, z3, rfl, he3, ho3, hr3, hb3⟩
  obtain ⟨rfl, rfl⟩ := ExpIs.one HC.out HE.out he3
  have HO3 : Hid (Own w3 v3 X r3) := ho3
  have HA3 : Hid (Own w3 v1 X r1) := HA2.out.later hb3
  have HD3 : Hid (TRd w3 (.slice (some ⟨gl, 0, none⟩) tg.length N) tw) := HD2.out.later hb3
  have HB23 : Hid (Below w2.heap.size w2 w3) := hb3
  have HR3 : Hid (∀ q, r3 = some q → w2.heap.size ≤ q) := hr3
  clear he3 ho3 hr3 hb3 HA2 HD2
  go_wp2_with fail
  refine (expandAll _ tw w3 HD3.out).mono ?_
  rintro e w4 ⟨v4, r4, X4, z4, rfl, he4, ho4, hr4, hb4⟩
  obtain ⟨rfl, rfl⟩ := ExpIs.one HC.out HE.out he4
  have HO4 : Hid (Own w4 v4 X r4) := ho4
  have HC4 : Hid (Own w4 v3 X r3) := HO3.out.later hb4
  have HA4 : Hid (Own w4 v1 X r1) := HA3.out.later hb4
  have HB24 : Hid (Below w2.heap.size w2 w4) := below_on HB23.out hb4
  have HR4 : Hid (∀ q, r4 = some q → w3.heap.size ≤ q) := hr4
  have HR3l : Hid (∀ q, r3 = some q → q < w3.heap.size) := fun q hq => by subst hq; exact HO3.out.lt
  clear he4 ho4 hr4 hb4 HA3 HO3 HD3
  go_wp2_with fail
  refine (sameYes _ _ X w4 HC4.out.bytes HA4.out.bytes).mono ?_
  rintro e w5 ⟨rfl, n5, rfl⟩
  go_wp2_with fail
  refine (fillAny _ X r3 17 (by omega) (w4.drewN n5) (HC4.out.later (below_drewN (Below.refl _ _) _)) HE.out.len).mono ?_
  rintro e w6 ⟨rfl, hg6⟩
  have HO6 : Hid (Own w6 v4 X r4) := (HO4.out.later (below_drewN (Below.refl _ _) n5)).kept hg6 (by
    cases r4 with
    | none => exact .inl rfl
    | some q => exact .inr (fun e => by have h1 := HR4.out q rfl; have h2 := HR3l.out q e.symm; omega))
  have HA6 : Hid (Own w6 v1 X r1) := (HA4.out.later (below_drewN (Below.refl _ _) n5)).kept hg6 (by
    cases r1 with
    | none => exact .inl rfl
    | some q => exact .inr (fun e => by have h1 := HRA.out q rfl; have h2 := HR3.out q e.symm; omega))
  have HB26 : Hid (Below w2.heap.size w2 w6) := (below_drewN HB24.out n5).trans (grow_below hg6 HB24.out.size (fun q hq => HR3.out q hq))
  have HB6 : Hid (Below w.heap.size w w6) := below_on HB2.out HB26.out
  have HT6 : Hid (TwAt w1.heap.size w6 gl tg tw) := HT2.out.later HB26.out
  clear hg6 HO4 HA4 HC4 HB24 HB23 HR4 HR3 HR3l HRA
  go_wp2_with fail
  refine (sameYes _ _ X w6 HO6.out.bytes HA6.out.bytes).mono ?_
  rintro e w7 ⟨rfl, n7, rfl⟩
  go_wp2_with fail
  have hun := unharmedAny w1.heap.size gl (.slice a tg.length cap) tg tw (w6.drewN n7) (HTR.out.later (below_drewN HB6.out n7)) HNU.out (by omega) (HT6.out.later (below_drewN (Below.refl _ _) _))
  rw [HN.out] at hun
  refine hun.mono ?_
  rintro e w8 ⟨rfl, n8, rfl⟩
  clear hun
  go_wp2_with fail
  refine (expandPlacedAny _ tg (w6.drewN (n7 + n8)) (HTR.out.later (below_drewN HB6.out (n7 + n8))) HNU.out hlen).mono ?_
  rintro e w9 ⟨rfl, hb9⟩
  have HB9 : Hid (Below w.heap.size w w9) := below_on (below_drewN HB6.out (n7 + n8)) hb9
  clear hb9
  go_wp2
  go_ret
  exact ⟨rfl, HB9.out⟩
end Go.Proofs.Ytklfmgkfcacfkaa
