import Derived.Test.YtelhjdplghpnbaaSyM
import Derived.Test.YtelhjdplghpnbaaSyL
import Derived.Test.YtelhjdplghpnbaaSdZ
/-! The program's Next. -/
namespace Go.Proofs.Ytelhjdplghpnbaa
open Go.RowKit Plain
set_option linter.unusedVariables false
set_option linter.unusedSimpArgs false

/-- What is served is turns of the call's own. -/
theorem SvM.tur {W w : World} {base B g : Nat} {u t : Tu} {vs : List Qv} {rs : List (Option Nat)} {n : Nat} {id c : Int} (h : SvM W w base B g u vs rs) (hk : OkT u) (ht : OkT t) (hi : ∀ j, j < t.qs.length → I64 (t.q j).id) (hr : run n t = some (u, id, c)) : TurN base w (.slice (some ⟨g, 0, none⟩) u.qs.length u.qs.length) u.r vs (some g) rs := by
  obtain ⟨h1, h2⟩ := run_ids n ht hr
  have hlt := hk.lt
  have hfew := hk.few
  refine ⟨h.mem, h.len, h.same, fun j hj => ?_, by show u.qs.length ≤ _; omega, ?_⟩
  · have q1 := hk.quantum j hj
    have q2 := hk.def_ j hj
    have q3 := hk.cost j hj
    have q4 : (u.q j).deficit ≤ 1114111 := by have := q2.2; split at this <;> omega
    refine ⟨?_, ?_, ?_, h.few j hj, fun z hz => ?_⟩
    · show I64 (u.q j).id
      rw [h2 j]
      exact hi j (by rw [← h1]; exact hj)
    · show I64 (u.q j).quantum
      constructor <;> omega
    · show I64 (u.q j).deficit
      constructor <;> omega
    · have := q3 z hz
      constructor <;> omega
  · show I64 (u.at' : Int)
    constructor <;> omega
theorem waits_some {t : Tr} (h : waitsT t = true) : ∃ x, x < t.qs.length ∧ (t.qs.getD x Qu.zero).costs ≠ [] := by
  unfold waitsT at h
  rw [List.any_eq_true] at h
  obtain ⟨q, hq, hc⟩ := h
  obtain ⟨j, hj, rfl⟩ := List.mem_iff_getElem.mp hq
  refine ⟨j, hj, ?_⟩
  simp [List.getD_eq_getElem?_getD, hj]
  simpa using hc
set_option maxHeartbeats 8000000 in
set_option maxRecDepth 100000 in
theorem nextOk : NextOk := by
  intro t v w h
  have HT := Hid.mkT h
  obtain ⟨l, z, f⟩ := t
  obtain ⟨hrow, hz1, hz2⟩ := h
  simp only at hrow hz1 hz2
  obtain ⟨a, cap, rfl, hl⟩ := hrow.shape
  have HROW := Hid.mkT hrow
  clear hrow
  unfold turV
  simp only
  obtain ⟨w1, hw1⟩ : ∃ w1, w.alloc (.cells #[.slice a l.length cap, .int .i64 z, .bool f] 34) = w1 := ⟨_, rfl⟩
  obtain ⟨w2, hw2⟩ : ∃ w2, w1.alloc (.cells #[.slice none 0 0, .int .i64 0, .bool false] 34) = w2 := ⟨_, rfl⟩
  obtain ⟨hb2, hs1, hs2, ht2, hr2⟩ := boxes w (.slice a l.length cap) z f w1 w2 hw1 hw2
  obtain ⟨B, hB⟩ : ∃ B, w.heap.size = B := ⟨_, rfl⟩
  rw [hB] at hs1 hs2 ht2 hr2
  have HB2 := Hid.mkT hb2
  have HTB := Hid.mkT ht2
  have HRB := Hid.mkT hr2
  obtain ⟨m0, m1, m2, -⟩ := ht2
  clear hr2 hb2
  have HCK := Hid.mkT (checkOk ⟨l, z, f⟩ (.slice a l.length cap) w2 (HT.out.later HB2.out))
  unfold turV at HCK
  simp only at HCK
  go_enter Try.func12, Try.ntmps12
  go_wp2_with fail
  refine HCK.out.mono ?_
  rintro e w3 ⟨rfl, hb3⟩
  have HB3 := Hid.mkT (below_of HB2.out hb3)
  have HT3 := Hid.mkT (HTB.out.later hb3)
  have HR3 := Hid.mkT (HRB.out.later hb3)
  have hs3 := hb3.size
  rw [hs2] at hs3
  clear m0 m1 m2 hb3 HCK HTB HRB
  obtain ⟨m0, m1, m2, mf⟩ := HT3.out
  obtain ⟨r0, r1, r2, rf⟩ := HR3.out
  have rf0 := rf 0 (by omega)
  have rf1 := rf 1 (by omega)
  have rf2 := rf 2 (by omega)
  have mf0 := mf 0 (by omega)
  clear mf rf
  by_cases hck : chkT ⟨l, z, f⟩ = 0
  · have HC0 := Hid.mkT hck
    rw [hck]
    have hok := chk_ok.mp hck
    have hfew : l.length ≤ 32 := hok.few
    have HOK := Hid.mkT hok
    clear hck hok
    have HCP := Hid.mkT (qcopyOfOf l _ w3 (HROW.out.later HB3.out) hfew)
    go_wp2_with fail
    refine HCP.out.mono ?_
    rintro e w4 ⟨g, vs, rs, rfl, hm4, hl4, hsm4, hb4⟩
    have hg4 : w3.heap.size ≤ g := hm4.new g rfl
    have HT4 := Hid.mkT (HT3.out.later hb4)
    have HR4 := Hid.mkT (HR3.out.later hb4)
    have HB4 := Hid.mkT (below_of HB3.out hb4)
    clear m0 m1 m2 mf0 r0 r1 r2 rf0 rf1 rf2 HCP HT3 HR3
    obtain ⟨m0, m1, m2, mf⟩ := HT4.out
    have mf0 := mf 0 (by omega)
    clear mf
    obtain ⟨w5, hw5⟩ : ∃ w5, w4.setCell ⟨B, 0, none⟩ (.slice (some ⟨g, 0, none⟩) l.length l.length) = w5 := ⟨_, rfl⟩
    have k5 : w4.grownBy w5 (some B) := by rw [← hw5]; exact grow_setT w4 B 0 _
    have ht5 := HT4.out.setV (.slice (some ⟨g, 0, none⟩) l.length l.length)
    rw [hw5] at ht5
    have hr5 : TuB w5 (B + 1) (.slice none 0 0) 0 false := HR4.out.kept k5 (by simp)
    have hm5 : QMem w3.heap.size w5 (.slice (some ⟨g, 0, none⟩) l.length l.length) vs (some g) (l.map (·.costs)) rs := hm4.kept k5 (fun g' e e2 => by have := hm4.new g' e; simp at e2; omega) (fun j hj g' e e2 => by have := hm4.newc j hj g' e; simp at e2; omega)
    have hb5 : Below w.heap.size w w5 := HB4.out.grown k5 HB4.out.size (fun g' e => by simp at e; omega)
    have HTN := Hid.mkT (fun z f hz => CopQ.tur (w := w) (w0 := w) HROW.out hm5 hl4 hsm4 z f hz)
    have HM5 := Hid.mkT hm5
    have HL4 := Hid.mkT hl4
    have HS4 := Hid.mkT hsm4
    have HB5 := Hid.mkT hb5
    have HT5 := Hid.mkT ht5
    have HR5 := Hid.mkT hr5
    have HCF := Hid.mkT (sContainsFuncOf l (.slice (some ⟨g, 0, none⟩) l.length l.length) w5 (HTN.out z f ⟨hz1, hz2⟩).reads.row)
    have HBX : Hid (∀ u, Below w5.heap.size w5 u → TuB u B (.slice (some ⟨g, 0, none⟩) l.length l.length) z f ∧ TuB u (B + 1) (.slice none 0 0) 0 false) := fun u hu => ⟨HT5.out.later hu, HR5.out.later hu⟩
    obtain ⟨n0, n1, n2, -⟩ := ht5
    have h45 := k5.size
    have h46 : w3.heap.size ≤ w4.heap.size := hb4.size
    clear hm4 hm5 hl4 hsm4 hb4 hb5 hr5 k5
    go_wp2_with fail
    refine HCF.out.mono ?_
    rintro e w6 ⟨rfl, hb6⟩
    obtain ⟨ht6, hr6⟩ := HBX.out w6 hb6
    have HB6 := Hid.mkT (below_of HB5.out hb6)
    have HBL6 := Hid.mkT hb6
    have HT6 := Hid.mkT ht6
    have HR6 := Hid.mkT hr6
    clear n0 n1 n2 hb6 HCF m0 m1 m2 mf0
    obtain ⟨m0, m1, m2, -⟩ := ht6
    obtain ⟨r0, r1, r2, rf⟩ := hr6
    have rf0 := rf 0 (by omega)
    have rf1 := rf 1 (by omega)
    have rf2 := rf 2 (by omega)
    clear rf
    cases hwt : waitsT ⟨l, 0, false⟩ with
    | false =>
      have HW0 : Hid (waitsT ⟨l, z, f⟩ = false) := hwt
      obtain ⟨U, hU⟩ : ∃ U, ((w6.setCell ⟨B + 1, 0, none⟩ (.slice (some ⟨g, 0, none⟩) l.length l.length)).setCell ⟨B + 1, 1, none⟩ (.int .i64 z)).setCell ⟨B + 1, 2, none⟩ (.bool f) = U := ⟨_, rfl⟩
      obtain ⟨ha, hg⟩ := HR6.out.ans (.slice (some ⟨g, 0, none⟩) l.length l.length) z f
      rw [hU] at ha hg
      obtain ⟨q0, q1, q2, -⟩ := ha
      have HF : Hid (NxtA ⟨l, z, f⟩ w (.returned (.tuple #[.agg #[.slice (some ⟨g, 0, none⟩) l.length l.length, .int .i64 z, .bool f], .int .i64 0, .int .i64 0, .bool false])) U) := by
        refine ⟨some ⟨g, 0, none⟩, l.length, ⟨l, z, f⟩, 0, 0, false, rfl, ⟨vs, some g, rs, ?_⟩, ⟨fun h => absurd HC0.out h, fun _ _ => ⟨rfl, rfl, rfl, rfl⟩, fun _ h => by rw [HW0.out] at h; cases h⟩, HB6.out.grown hg HB6.out.size (fun g' e => by simp at e; omega)⟩
        exact (((HTN.out z f ⟨hz1, hz2⟩).later HBL6.out).kept hg (by omega)).lower (by omega)
      clear hg hwt
      go_wp2
      refine bodyPost_ret (v := .tuple #[.agg #[.slice (some ⟨g, 0, none⟩) l.length l.length, .int .i64 z, .bool f], .int .i64 0, .int .i64 0, .bool false]) ?hres rfl ?_
      case hres =>
        rw [results_cell4 rfl]
        go_simp
      exact HF.out
    | true =>
      have HW1 : Hid (waitsT ⟨l, z, f⟩ = true) := hwt
      obtain ⟨x, hx, hxw⟩ := waits_some HW1.out
      simp only at hx hxw
      have hne : l ≠ [] := fun e => by rw [e] at hx; simp at hx
      have hot := HOK.out.u hne
      have hzz : ((z.toNat : Nat) : Int) = z := by have := HOK.out.lo; simp only at this; omega
      have HSV : Hid (SvM w6 w6 w3.heap.size B g (⟨l, z, f⟩ : Tr).u vs rs) := by
        refine ⟨?_, HM5.out.later HBL6.out, HL4.out, HS4.out, fun j hj => ((HTN.out z f ⟨hz1, hz2⟩).ok j hj).2.2.2.1, by omega, SvF.refl _ _ _ ?_⟩
        · show TuB w6 B _ ((z.toNat : Nat) : Int) f
          rw [hzz]
          exact HT6.out
        · have h1 := HBL6.out.size
          omega
      have HSE := Hid.mkT (qserveOf HSV.out hot (x := x) hx hxw)
      have HIDS : Hid (∀ j, j < l.length → I64 (l.getD j Qu.zero).id) := fun j hj => ((HTN.out z f ⟨hz1, hz2⟩).ok j hj).1
      have HOT := Hid.mkT hot
      clear hot hne hx hxw hwt hzz
      go_wp2_with fail
      refine HSE.out.mono ?_
      rintro e w7 ⟨id, c, rfl, u, vs7, hsv7, hok7, k7, hrun7⟩
      have hr7 : TuB w7 (B + 1) (.slice none 0 0) 0 false := HR6.out.block (hsv7.fr.block (B + 1) (by omega) (by omega))
      have ht7 := hsv7.box
      have hb7 : Below w.heap.size w w7 := hsv7.fr.below HB6.out (by omega) (by omega)
      have htn7 := hsv7.tur hok7 HOT.out (fun j hj => HIDS.out j hj) hrun7
      obtain ⟨n, hn⟩ : ∃ n, u.qs.length = n := ⟨_, rfl⟩
      rw [hn] at ht7
      obtain ⟨U, hU⟩ : ∃ U, ((w7.setCell ⟨B + 1, 0, none⟩ (.slice (some ⟨g, 0, none⟩) n n)).setCell ⟨B + 1, 1, none⟩ (.int .i64 (u.at' : Int))).setCell ⟨B + 1, 2, none⟩ (.bool u.fresh) = U := ⟨_, rfl⟩
      obtain ⟨ha, hg⟩ := hr7.ans (.slice (some ⟨g, 0, none⟩) n n) (u.at' : Int) u.fresh
      rw [hU] at ha hg
      have HF : Hid (NxtA ⟨l, z, f⟩ w (.returned (.tuple #[.agg #[.slice (some ⟨g, 0, none⟩) n n, .int .i64 (u.at' : Int), .bool u.fresh], .int .i64 id, .int .i64 c, .bool true])) U) := by
        refine ⟨some ⟨g, 0, none⟩, n, u.r, id, c, true, ?_, ⟨vs7, some g, rs, ?_⟩, ⟨fun h => absurd HC0.out h, fun _ h => (by rw [HW1.out] at h; cases h), fun _ _ => ⟨rfl, k7, u, hrun7, rfl⟩⟩, hb7.grown hg hb7.size (fun g' e => by simp at e; omega)⟩
        · show _ = Ending.returned (.tuple #[turV (.slice _ u.qs.length n) u.r, _, _, _])
          rw [hn]
          rfl
        · have h9 := (htn7.kept hg (by omega)).lower (base := w.heap.size) (by omega)
          show TurN w.heap.size U (.slice (some ⟨g, 0, none⟩) u.qs.length n) u.r vs7 (some g) rs
          rw [hn] at h9 ⊢
          exact h9
      obtain ⟨q0, q1, q2, -⟩ := ha
      clear m0 m1 m2 r0 r1 r2 rf0 rf1 rf2
      obtain ⟨m0, m1, m2, -⟩ := ht7
      obtain ⟨r0, r1, r2, rf⟩ := hr7
      have rf0 := rf 0 (by omega)
      have rf1 := rf 1 (by omega)
      have rf2 := rf 2 (by omega)
      generalize u.at' = z7 at *
      generalize u.fresh = f7 at *
      clear rf hg hsv7 hok7 hrun7 hb7 htn7 hn
      go_wp2
      refine bodyPost_ret (v := .tuple #[.agg #[.slice (some ⟨g, 0, none⟩) n n, .int .i64 (z7 : Int), .bool f7], .int .i64 id, .int .i64 c, .bool true]) ?hres rfl ?_
      case hres =>
        rw [results_cell4 rfl]
        go_simp
      exact HF.out
  · have HC0 := Hid.mkT hck
    obtain ⟨E, hE⟩ : ∃ E, chkT ⟨l, z, f⟩ = E := ⟨_, rfl⟩
    have hE0 : ¬ E = 0 := by rw [← hE]; exact hck
    rw [hE]
    obtain ⟨U, hU⟩ : ∃ U, ((w3.setCell ⟨B + 1, 0, none⟩ (.slice none 0 0)).setCell ⟨B + 1, 1, none⟩ (.int .i64 0)).setCell ⟨B + 1, 2, none⟩ (.bool false) = U := ⟨_, rfl⟩
    obtain ⟨ha, hg⟩ := HR3.out.ans (.slice none 0 0) 0 false
    rw [hU] at ha hg
    obtain ⟨q0, q1, q2, -⟩ := ha
    have HF : Hid (NxtA ⟨l, z, f⟩ w (.returned (.tuple #[.agg #[.slice none 0 0, .int .i64 0, .bool false], .int .i64 0, .int .i64 0, .bool false])) U) :=
      ⟨none, 0, Tr.zero, 0, 0, false, rfl, TurNew.empty _ _, ⟨fun _ => ⟨rfl, rfl, rfl, rfl⟩, fun h => absurd h HC0.out, fun h => absurd h HC0.out⟩, HB3.out.grown hg HB3.out.size (fun g' e => by simp at e; omega)⟩
    clear hg hck hE
    go_wp2
    refine bodyPost_ret (v := .tuple #[.agg #[.slice none 0 0, .int .i64 0, .bool false], .int .i64 0, .int .i64 0, .bool false]) ?hres rfl ?_
    case hres =>
      rw [results_cell4 rfl]
      go_simp
    exact HF.out
end Go.Proofs.Ytelhjdplghpnbaa
