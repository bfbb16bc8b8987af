import Derived.Test.YtmhaodcgognhiaaMgi
import Derived.Test.YtmhaodcgognhiaaMgj
import Derived.Deep.RegionWith
/-! merge: Compact of lists that are written over. -/
namespace Go.Proofs.Ytmhaodcgognhiaa
open Go.RowKit Plain Go.WideMaps Go.Maps
set_option linter.unusedVariables false
set_option linter.unusedSimpArgs false

theorem mcomp_fine {se la L : List Rc} {now hz m c : Int} (h : mcomp se la now hz = (L, m, c)) (h0 : ∀ x ∈ se, x.Ok) (h1 : ∀ x ∈ la, x.Ok) : L.length ≤ se.length ∧ ∀ x ∈ L, x.Ok := by
  have hL : L = (mcomp se la now hz).1 := by rw [h]
  unfold mcomp at hL
  split at hL
  · subst hL; simp
  · split at hL
    · subst hL; simp
    · subst hL
      refine ⟨mcmp_len _ _ _ _, fun x hx => ?_⟩
      have := mcmp_mem (se ++ la) now hz se.length (by simp) x hx
      rcases List.mem_append.mp this with h | h
      · exact h0 x h
      · exact h1 x h
theorem MPost.out {w w' : World} {se la L : List Rc} {now hz m c : Int} {e : Ending} (hR : mcomp se la now hz = (L, m, c)) (h : MPost w se la now hz e w') :
    ∃ v r, e = .returned (.tuple #[v, .int .i64 m, .int .i64 c]) ∧ OwnR w' v L r ∧ (∀ g, r = some g → w.heap.size ≤ g) ∧ Below w.heap.size w w' := by
  obtain ⟨v, r, h1, h2, h3, h4⟩ := h
  rw [hR] at h1 h2
  exact ⟨v, r, h1, h2, h3, h4⟩

/-- Two rows of records of the call's own, behind the world w. -/
structure DuoR (w u : World) (ga gb na nb : Nat) (A B : List Rc) : Prop where
  a : OwnR u (.slice (some ⟨ga, 0, none⟩) na na) A (some ga)
  b : OwnR u (.slice (some ⟨gb, 0, none⟩) nb nb) B (some gb)
  bel : Below w.heap.size w u
  ne : ga ≠ gb
  ha : w.heap.size ≤ ga
  hb : w.heap.size ≤ gb
theorem DuoR.onA {w u u' : World} {ga gb na nb : Nat} {A A' B : List Rc} (h : DuoR w u ga gb na nb A B) (hg : u.grownBy u' (some ga)) (ht : OwnR u' (.slice (some ⟨ga, 0, none⟩) na na) A' (some ga)) : DuoR w u' ga gb na nb A' B :=
  ⟨ht, h.b.kept hg (.inr (by simp; exact Ne.symm h.ne)), h.bel.trans (grow_below hg h.bel.size (fun g e => by simp at e; have := h.ha; omega)), h.ne, h.ha, h.hb⟩
theorem DuoR.onB {w u u' : World} {ga gb na nb : Nat} {A B B' : List Rc} (h : DuoR w u ga gb na nb A B) (hg : u.grownBy u' (some gb)) (ht : OwnR u' (.slice (some ⟨gb, 0, none⟩) nb nb) B' (some gb)) : DuoR w u' ga gb na nb A B' :=
  ⟨h.a.kept hg (.inr (by simp; exact h.ne)), ht, h.bel.trans (grow_below hg h.bel.size (fun g e => by simp at e; have := h.hb; omega)), h.ne, h.ha, h.hb⟩
theorem DuoR.later {w u u' : World} {ga gb na nb : Nat} {A B : List Rc} (h : DuoR w u ga gb na nb A B) (hb : Below u.heap.size u u') : DuoR w u' ga gb na nb A B :=
  ⟨h.a.later hb, h.b.later hb, below_on h.bel hb, h.ne, h.ha, h.hb⟩
theorem RecsAt.rows {w : World} {v : Value} {st : List Rc} (h : RecsAt w v st) : st.length ≤ 2199023255000 ∧ ∀ x ∈ st, x.Ok := by
  obtain ⟨_, _, _, h1, h2, _⟩ := h
  exact ⟨h1, h2⟩
theorem map_oth_ok {st : List Rc} (h : ∀ x ∈ st, x.Ok) : ∀ x ∈ st.map oth, x.Ok := by
  intro x hx
  obtain ⟨y, hy, rfl⟩ := List.mem_map.mp hx
  exact oth_ok (h y hy)
theorem OwnR.headN {w : World} {g n c k : Nat} {st : List Rc} {m : Rc} (h : OwnR w (.slice (some ⟨g, 0, none⟩) n c) (st ++ [m]) (some g)) (hk : st.length = k) (hl : st.length ≤ 2199023255000) (hok : ∀ x ∈ st, x.Ok) : RecsAt w (.slice (some ⟨g, 0, none⟩) k c) st := by
  have := h.head hl hok
  rwa [hk] at this
theorem below_dnM {B : Nat} {w u : World} (h : Below B w u) (n : Nat) : Below B w (u.drewN n) := ⟨h.os, h.tape, h.output, h.size, h.block⟩
theorem eqI (x : Int) : (x == x) = true := by simp
theorem kept_ne {g g' : Nat} {r : Option Nat} (h : ∀ q, r = some q → g < q) : r = none ∨ r ≠ some g := by
  cases r with
  | none => exact .inl rfl
  | some q => exact .inr (by have := h q rfl; simp; omega)

set_option maxHeartbeats 60000000 in
theorem compactPlacedOf (v0 v1 : Value) (se la : List Rc) (now hz : Int) (hn : I64 now) (hh : I64 hz) (w : World) (h0 : RecsAt w v0 se) (h1 : RecsAt w v1 la) :
    Calls Try.prog 16 #[v0, v1, .int .i64 now, .int .i64 hz] w fun e w' => e = .returned (.bool true) ∧ Below w.heap.size w w' := by
  have HR0 : Hid (RecsAt w v0 se) := h0
  have HR1 : Hid (RecsAt w v1 la) := h1
  have HN : Hid (I64 now) := hn
  have HH : Hid (I64 hz) := hh
  obtain ⟨a, cap, rfl, hcl, hok, hcells⟩ := h0
  obtain ⟨a', cap', rfl, hcl', hok', hcells'⟩ := h1
  have HC : Hid (se ≠ [] → ∃ b off, a = some ⟨b, off, none⟩ ∧ ∀ j, j < se.length → CellsAt w b (off + j * 7) (se.getD j Rc.none)) := hcells
  have HC' : Hid (la ≠ [] → ∃ b off, a' = some ⟨b, off, none⟩ ∧ ∀ j, j < la.length → CellsAt w b (off + j * 7) (la.getD j Rc.none)) := hcells'
  have HOK : Hid (∀ x ∈ se, x.Ok) := hok
  have HOK' : Hid (∀ x ∈ la, x.Ok) := hok'
  obtain ⟨L1, m1, e1, hR1⟩ : ∃ L m c, mcomp (se.map oth) (la.map oth) now hz = (L, m, c) := ⟨_, _, _, rfl⟩
  obtain ⟨L2, m2, e2, hR2⟩ : ∃ L m c, mcomp se la now hz = (L, m, c) := ⟨_, _, _, rfl⟩
  have HM1 : Hid (mcomp (se.map oth) (la.map oth) now hz = (L1, m1, e1)) := hR1
  have HM2 : Hid (mcomp se la now hz = (L2, m2, e2)) := hR2
  have HF1 : Hid (L1.length ≤ 2199023255000 ∧ ∀ x ∈ L1, x.Ok) := by have := mcomp_fine hR1 (map_oth_ok hok) (map_oth_ok hok'); rw [List.length_map] at this; exact ⟨by omega, this.2⟩
  have HF2 : Hid (L2.length ≤ 2199023255000 ∧ ∀ x ∈ L2, x.Ok) := by have := mcomp_fine hR2 hok hok'; exact ⟨by omega, this.2⟩
  obtain ⟨N0, hN0⟩ : ∃ N, se.length + 1 = N := ⟨_, rfl⟩
  obtain ⟨N1, hN1⟩ : ∃ N, la.length + 1 = N := ⟨_, rfl⟩
  have HN0 : Hid (se.length + 1 = N0) := hN0
  have HN1 : Hid (la.length + 1 = N1) := hN1
  have hlN0 : se.length < N0 := by omega
  have hlN1 : la.length < N1 := by omega
  have hbN0 : N0 ≤ 2199023255001 := by omega
  have hbN1 : N1 ≤ 2199023255001 := by omega
  have q1 := eqI m1
  have q2 := eqI m2
  have q3 := eqI e1
  have q4 := eqI e2
  clear hcells hcells' hok hok' hn hh hR1 hR2 hN0 hN1
  go_enter Try.func16, Try.ntmps16
  go_wp2_with fail
  refine (othersOf _ se w HR0.out).mono ?_
  rintro e w1 ⟨vs, rs, rfl, hos, hrs, hb1⟩
  obtain ⟨aS, cs, rfl, -, -⟩ := hos.shape
  have HS1 : Hid (RecsAt w1 (.slice aS (se.map oth).length cs) (se.map oth)) := hos.recs (by rw [List.length_map]; exact hcl) (map_oth_ok HOK.out)
  have HB1 : Hid (Below w.heap.size w w1) := hb1
  rw [List.length_map] at HS1 ⊢
  clear hos hrs hb1
  go_wp2_with fail
  refine (othersOf _ la w1 (HR1.out.later HB1.out)).mono ?_
  rintro e w2 ⟨vt, rt, rfl, hot, hrt, hb2⟩
  obtain ⟨aT, ct, rfl, -, -⟩ := hot.shape
  have HT2 : Hid (RecsAt w2 (.slice aT (la.map oth).length ct) (la.map oth)) := hot.recs (by rw [List.length_map]; exact hcl') (map_oth_ok HOK'.out)
  have HS2 : Hid (RecsAt w2 (.slice aS se.length cs) (se.map oth)) := HS1.out.later hb2
  have HB2 : Hid (Below w.heap.size w w2) := below_on HB1.out hb2
  rw [List.length_map] at HT2 ⊢
  clear hot hrt hb2 HS1 HB1
  go_wp2_with fail
  refine (spareOf _ (se.map oth) w2 HS2.out).mono ?_
  rintro e w3 ⟨rfl, hoa, hb3⟩
  have HT3 : Hid (RecsAt w3 (.slice aT la.length ct) (la.map oth)) := HT2.out.later hb3
  have HB3 : Hid (Below w2.heap.size w2 w3) := hb3
  rw [List.length_map, HN0.out] at hoa ⊢
  have HOA : Hid (OwnR w3 (.slice (some ⟨w2.heap.size, 0, none⟩) N0 N0) (se.map oth ++ [mkR 77 0]) (some w2.heap.size)) := hoa
  clear hoa hb3
  go_wp2_with fail
  refine (spareOf _ (la.map oth) w3 HT3.out).mono ?_
  rintro e w4 ⟨rfl, hob, hb4⟩
  rw [List.length_map, HN1.out] at hob ⊢
  obtain ⟨ga, hga⟩ : ∃ g, w2.heap.size = g := ⟨_, rfl⟩
  obtain ⟨gb, hgb⟩ : ∃ g, w3.heap.size = g := ⟨_, rfl⟩
  have HD4 : Hid (DuoR w2 w4 ga gb N0 N1 (se.map oth ++ [mkR 77 0]) (la.map oth ++ [mkR 77 0])) := by
    have h1 := HOA.out.later hb4
    have h2 := HOA.out.lt
    rw [hga] at h1
    rw [hgb] at hob
    exact ⟨h1, hob, below_on HB3.out hb4, by omega, by omega, by omega⟩
  have hgab : w2.heap.size ≤ ga ∧ w2.heap.size ≤ gb ∧ ga ≠ gb ∧ w.heap.size ≤ ga ∧ w.heap.size ≤ gb := by have := HOA.out.lt; have := HB2.out.size; omega
  have HLT : Hid (ga < w4.heap.size ∧ gb < w4.heap.size) := ⟨HD4.out.a.lt, HD4.out.b.lt⟩
  rw [hga, hgb]
  clear hob hb4 HOA HB3 HT3 hga hgb
  have HA4 : Hid (RecsAt w4 (.slice (some ⟨ga, 0, none⟩) se.length N0) (se.map oth)) := HD4.out.a.headN (by simp) (by simpa using hcl) (map_oth_ok HOK.out)
  have HB4 : Hid (RecsAt w4 (.slice (some ⟨gb, 0, none⟩) la.length N1) (la.map oth)) := HD4.out.b.headN (by simp) (by simpa using hcl') (map_oth_ok HOK'.out)
  go_wp2_with fail
  go_region_with (
    (go_at_call 13
     refine (mcompactOf _ _ (se.map oth) (la.map oth) now hz HN.out HH.out _ (HA4.out.later (Below.drew (Below.refl _ _))) (HB4.out.later (Below.drew (Below.refl _ _)))).mono ?_
     intro e w5 hp5
     obtain ⟨vo, ro, rfl, hoo, hro, hb5⟩ := hp5.out HM1.out
     obtain ⟨ao, co, rfl, -, -⟩ := hoo.shape
     have HOO : Hid (OwnR w5 (.slice ao L1.length co) L1 ro) := hoo
     have HRA : Hid (ro = none ∨ ro ≠ some ga) := kept_ne (g' := 0) fun q hq => by
       have h9 : w4.heap.size ≤ q := hro q hq
       have := HLT.out
       omega
     have HRB : Hid (ro = none ∨ ro ≠ some gb) := kept_ne (g' := 0) fun q hq => by
       have h9 : w4.heap.size ≤ q := hro q hq
       have := HLT.out
       omega
     have HD5 : Hid (DuoR w2 w5 ga gb N0 N1 (se.map oth ++ [mkR 77 0]) (la.map oth ++ [mkR 77 0])) := HD4.out.later (Below.trans (Below.drew (Below.refl _ _)) hb5)
     clear hp5 hoo hro hb5))
  all_goals
    clear HD4 HLT HA4 HB4
    go_wp2
    go_loopw [16] (fun s16 wr => ∃ k : Nat, k ≤ se.length ∧ s16 = .int .i64 k ∧ DuoR w2 wr ga gb N0 N1 (se.take k ++ (se.map oth ++ [mkR 77 0]).drop k) (la.map oth ++ [mkR 77 0]) ∧ OwnR wr (.slice ao L1.length co) L1 ro) (fun i _ => se.length - (intOf i).toNat)
    case atStart => exact ⟨0, by omega, rfl, by simpa using HD5.out, HOO.out⟩
    case round =>
      obtain ⟨k, hk, rfl, hduo, hone⟩ := hrel
      have HD6 : Hid (DuoR w2 wr ga gb N0 N1 (se.take k ++ (se.map oth ++ [mkR 77 0]).drop k) (la.map oth ++ [mkR 77 0])) := hduo
      have HO6 : Hid (OwnR wr (.slice ao L1.length co) L1 ro) := hone
      have HLN : Hid ((se.take k ++ (se.map oth ++ [mkR 77 0]).drop k).length = se.length + 1) := by unfold Hid; simp; omega
      have HBW : Hid (Below w.heap.size w wr) := HB2.out.trans (hduo.bel.mono HB2.out.size)
      clear hduo hone HD5 HOO
      by_cases hlt : k < se.length
      · have hne : se ≠ [] := by rintro rfl; simp at hlt
        obtain ⟨b, off, rfl, hc⟩ := HC.out hne
        have hck := hc k hlt
        have hbl := hck.lt
        have hx := hck.block (HBW.out.block b hck.lt)
        obtain ⟨⟨y, hy⟩, f0, f1, f2, f3, f4, f5, f6⟩ := HD6.out.a.open (j := k) (by rw [HLN.out]; omega)
        have HNN : Hid (DuoR w2 (wr.setCells ga (k * 7) (se.getD k Rc.none).cells) ga gb N0 N1 (se.take (k + 1) ++ (se.map oth ++ [mkR 77 0]).drop (k + 1)) (la.map oth ++ [mkR 77 0])) := by
          have h1 := HD6.out.a.putAll (j := k) (by rw [HLN.out]; omega) (se.getD k Rc.none)
          rw [back_step se _ k hlt (by simp)] at h1
          exact HD6.out.onA (grow_setCells _ _ _ _) h1
        have HON : Hid (OwnR (wr.setCells ga (k * 7) (se.getD k Rc.none).cells) (.slice ao L1.length co) L1 ro) := HO6.out.kept (grow_setCells _ _ _ _) HRA.out
        generalize se.getD k Rc.none = x at hx HNN HON
        obtain ⟨xk, xo, xt, xp, xq, xkey, xval⟩ := x
        obtain ⟨yk, yo, yt, yp, yq, ykey, yval⟩ := y
        obtain ⟨c0, c1, c2, c3, c4, c5, c6⟩ := hx
        obtain ⟨d0, d1, d2, d3, d4, d5, d6⟩ := hy
        simp only at c0 c1 c2 c3 c4 c5 c6 d0 d1 d2 d3 d4 d5 d6
        clear hck hc hne
        go_wp2
        go_roundw
        case rel => exact ⟨k + 1, by omega, by go_num, HNN.out, HON.out⟩
        case measure => simp [intOf]; omega
      · obtain rfl : k = se.length := by omega
        have HD7 : Hid (DuoR w2 wr ga gb N0 N1 (se ++ [mkR 77 0]) (la.map oth ++ [mkR 77 0])) := by
          have := HD6.out
          rw [List.take_length, List.drop_left' (by simp)] at this
          exact this
        clear HD6 HLN HBW HC hlt hk
        go_wp2
        go_loopw [17] (fun s17 wr => ∃ k : Nat, k ≤ la.length ∧ s17 = .int .i64 k ∧ DuoR w2 wr ga gb N0 N1 (se ++ [mkR 77 0]) (la.take k ++ (la.map oth ++ [mkR 77 0]).drop k) ∧ OwnR wr (.slice ao L1.length co) L1 ro) (fun i _ => la.length - (intOf i).toNat)
        case atStart => exact ⟨0, by omega, rfl, by simpa using HD7.out, HO6.out⟩
        case round =>
          obtain ⟨k, hk, rfl, hduo, hone⟩ := hrel
          have HD6 : Hid (DuoR w2 wr ga gb N0 N1 (se ++ [mkR 77 0]) (la.take k ++ (la.map oth ++ [mkR 77 0]).drop k)) := hduo
          have HO7 : Hid (OwnR wr (.slice ao L1.length co) L1 ro) := hone
          have HLN : Hid ((la.take k ++ (la.map oth ++ [mkR 77 0]).drop k).length = la.length + 1) := by unfold Hid; simp; omega
          have HBW : Hid (Below w.heap.size w wr) := HB2.out.trans (hduo.bel.mono HB2.out.size)
          clear hduo hone HD7 HO6
          by_cases hlt : k < la.length
          · have hne : la ≠ [] := by rintro rfl; simp at hlt
            obtain ⟨b, off, rfl, hc⟩ := HC'.out hne
            have hck := hc k hlt
            have hbl := hck.lt
            have hx := hck.block (HBW.out.block b hck.lt)
            obtain ⟨⟨y, hy⟩, f0, f1, f2, f3, f4, f5, f6⟩ := HD6.out.b.open (j := k) (by rw [HLN.out]; omega)
            have HNN : Hid (DuoR w2 (wr.setCells gb (k * 7) (la.getD k Rc.none).cells) ga gb N0 N1 (se ++ [mkR 77 0]) (la.take (k + 1) ++ (la.map oth ++ [mkR 77 0]).drop (k + 1))) := by
              have h1 := HD6.out.b.putAll (j := k) (by rw [HLN.out]; omega) (la.getD k Rc.none)
              rw [back_step la _ k hlt (by simp)] at h1
              exact HD6.out.onB (grow_setCells _ _ _ _) h1
            have HON : Hid (OwnR (wr.setCells gb (k * 7) (la.getD k Rc.none).cells) (.slice ao L1.length co) L1 ro) := HO7.out.kept (grow_setCells _ _ _ _) HRB.out
            generalize la.getD k Rc.none = x at hx HNN HON
            obtain ⟨xk, xo, xt, xp, xq, xkey, xval⟩ := x
            obtain ⟨yk, yo, yt, yp, yq, ykey, yval⟩ := y
            obtain ⟨c0, c1, c2, c3, c4, c5, c6⟩ := hx
            obtain ⟨d0, d1, d2, d3, d4, d5, d6⟩ := hy
            simp only at c0 c1 c2 c3 c4 c5 c6 d0 d1 d2 d3 d4 d5 d6
            clear hck hc hne
            go_wp2
            go_roundw
            case rel => exact ⟨k + 1, by omega, by go_num, HNN.out, HON.out⟩
            case measure => simp [intOf]; omega
          · obtain rfl : k = la.length := by omega
            have HD8 : Hid (DuoR w2 wr ga gb N0 N1 (se ++ [mkR 77 0]) (la ++ [mkR 77 0])) := by
              have := HD6.out
              rw [List.take_length, List.drop_left' (by simp)] at this
              exact this
            have HB8 : Hid (Below w2.heap.size w2 wr) := HD8.out.bel
            clear HD6 HLN HC' hlt hk
            have HA8 : Hid (RecsAt wr (.slice (some ⟨ga, 0, none⟩) se.length N0) se) := HD8.out.a.headN rfl hcl HOK.out
            have HC8 : Hid (RecsAt wr (.slice (some ⟨gb, 0, none⟩) la.length N1) la) := HD8.out.b.headN rfl hcl' HOK'.out
            go_wp2_with fail
            go_region_with (
              (go_at_call 13
               refine (mcompactOf _ _ se la now hz HN.out HH.out _ (HA8.out.later (Below.drew (Below.refl _ _))) (HC8.out.later (Below.drew (Below.refl _ _)))).mono ?_
               intro e w6 hp6
               obtain ⟨vx, rx, rfl, hox, -, hb6'⟩ := hp6.out HM2.out
               have hb6 : Below wr.heap.size wr w6 := Below.trans (Below.drew (Below.refl _ _)) hb6'
               obtain ⟨ax, cx, rfl, -, -⟩ := hox.shape
               have HX6 : Hid (RecsAt w6 (.slice ax L2.length cx) L2) := hox.recs HF2.out.1 HF2.out.2
               have HO8 : Hid (RecsAt w6 (.slice ao L1.length co) L1) := (HO7.out.later hb6).recs HF1.out.1 HF1.out.2
               have HB9 : Hid (Below w2.heap.size w2 w6) := below_on HB8.out hb6
               have HBV : Hid (Below w.heap.size w w6) := below_on HBW.out hb6
               clear hp6 hox hb6 hb6'))
            all_goals
              clear HO7 HD8 HB8 HBW HA8 HC8
              go_wp2_with fail
              refine (rmcompactOf _ _ (se.map oth) (la.map oth) now hz HN.out HH.out w6 (HS2.out.later HB9.out) (HT2.out.later HB9.out)).mono ?_
              intro e w7 hp7
              obtain ⟨vl, rl, rfl, hol, -, hb7⟩ := hp7.out HM1.out
              obtain ⟨al, cl, rfl, -, -⟩ := hol.shape
              have HL7 : Hid (RecsAt w7 (.slice al L1.length cl) L1) := hol.recs HF1.out.1 HF1.out.2
              have HX7 : Hid (RecsAt w7 (.slice ax L2.length cx) L2) := HX6.out.later hb7
              have HO9 : Hid (RecsAt w7 (.slice ao L1.length co) L1) := HO8.out.later hb7
              have HBU : Hid (Below w.heap.size w w7) := below_on HBV.out hb7
              clear hp7 hol hb7 HX6 HO8 HB9 HBV HS2 HT2
              go_wp2_with fail
              refine (rmcompactOf _ _ se la now hz HN.out HH.out w7 (HR0.out.later HBU.out) (HR1.out.later HBU.out)).mono ?_
              intro e w8 hp8
              obtain ⟨vk, rk', rfl, hokk, -, hb8⟩ := hp8.out HM2.out
              obtain ⟨ak, ck, rfl, -, -⟩ := hokk.shape
              have HK8 : Hid (RecsAt w8 (.slice ak L2.length ck) L2) := hokk.recs HF2.out.1 HF2.out.2
              have HX8 : Hid (RecsAt w8 (.slice ax L2.length cx) L2) := HX7.out.later hb8
              have HO10 : Hid (RecsAt w8 (.slice ao L1.length co) L1) := HO9.out.later hb8
              have HL8 : Hid (RecsAt w8 (.slice al L1.length cl) L1) := HL7.out.later hb8
              have HBT : Hid (Below w.heap.size w w8) := below_on HBU.out hb8
              clear hp8 hokk hb8 HX7 HO9 HL7 HBU
              go_wp2_with fail
              refine (alikeYes _ _ L1 w8 HO10.out HL8.out).mono ?_
              rintro e w9 ⟨rfl, n9, rfl⟩
              go_wp2_with fail
              refine (alikeYes _ _ L2 (w8.drewN n9) (HX8.out.later (below_dnM (Below.refl _ _) n9)) (HK8.out.later (below_dnM (Below.refl _ _) n9))).mono ?_
              rintro e w10 ⟨rfl, n10, rfl⟩
              go_wp2
              go_ret
              exact ⟨by simp, ⟨HBT.out.os, HBT.out.tape, HBT.out.output, HBT.out.size, HBT.out.block⟩⟩
end Go.Proofs.Ytmhaodcgognhiaa
